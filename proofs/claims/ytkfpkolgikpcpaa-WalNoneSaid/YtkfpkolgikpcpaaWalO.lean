/-
  chain.add. Nothing here is a statement of the document.
-/
import Derived.Test.YtkfpkolgikpcpaaWalN
namespace Go.Proofs.Ytkfpkolgikpcpaa
open Go.RowKit Go.Shelf
set_option linter.unusedVariables false

theorem add_end {w w4 w6 W9 : World} {g B m u NN len vc cap6 g6 : Nat} {T : TypeId} {C : Array Value} {tv : Value} {va : Option Addr} {vs : List Value} {l : List Nat} (HX : True) (h : Blk w g T C) (htv : w.ownsRow B 22 1 tv m vs) (hT : tv.ownBlock ≠ some g)
    (d1 : w6.ownsRow B 22 1 (.slice (some ⟨g6, 0, none⟩) (m + 1) cap6) (m + 1) (vs ++ [.slice va len vc])) (d2 : (w4.alloc (.cells #[.slice va len vc] 22)).grownBy w6 tv.ownBlock) (d3 : tv.ownBlock = some g6 ∨ (w4.alloc (.cells #[.slice va len vc] 22)).heap.size ≤ g6)
    (d4 : w4.ownsRow w.heap.size 5 1 (.slice va len vc) len (l.map byc)) (hb4 : Below w.heap.size w w4) (hb5 : Below w.heap.size w (w4.alloc (.cells #[.slice va len vc] 22))) (b9 : Blk W9 g T (C.setIfInBounds 2 (.slice (some ⟨g6, 0, none⟩) (m + 1) cap6)))
    (hW9 : w6.setCell ⟨g, 2, none⟩ (.slice (some ⟨g6, 0, none⟩) (m + 1) cap6) = W9) :
    ∃ v tv', (W9.setCell ⟨g, 3, none⟩ (.int .i64 ((u : Int) + (NN : Int)))).drew.ownsRow w.heap.size 5 1 v len (l.map byc) ∧ (W9.setCell ⟨g, 3, none⟩ (.int .i64 ((u : Int) + (NN : Int)))).drew.ownsRow B 22 1 tv' (m + 1) (vs ++ [v]) ∧
      Blk (W9.setCell ⟨g, 3, none⟩ (.int .i64 ((u : Int) + (NN : Int)))).drew g T ((C.setIfInBounds 2 tv').setIfInBounds 3 (.int .i64 ((u + NN : Nat) : Int))) ∧ Kept (g :: tv.ownBlock.toList) w (W9.setCell ⟨g, 3, none⟩ (.int .i64 ((u : Int) + (NN : Int)))).drew ∧ (tv'.ownBlock = tv.ownBlock ∨ ∃ k, tv'.ownBlock = some k ∧ w.heap.size ≤ k) := by
  have hgw : g < w.heap.size := h.lt
  have htvlt : ∀ k, tv.ownBlock = some k → k < w.heap.size := fun k hk => by
    rcases htv.2 with ⟨rfl, _⟩ | ⟨gq, cap, cur, rfl, _, hq, _⟩
    · simp [Value.ownBlock] at hk
    · obtain rfl : gq = k := by simpa [Value.ownBlock] using hk
      exact (Array.getElem?_eq_some_iff.1 hq).1
  have hs5 : w.heap.size ≤ (w4.alloc (.cells #[.slice va len vc] 22)).heap.size := hb5.size
  have hg6 : g6 ≠ g := by
    rcases d3 with h9 | h9
    · intro e; rw [e] at h9; exact hT h9
    · omega
  have hk : Kept [g] w6 (W9.setCell ⟨g, 3, none⟩ (.int .i64 ((u : Int) + (NN : Int)))).drew := by
    rw [← hW9]
    exact (((Kept.refl [g] w6).setCell (.inl (by simp)) _).setCell (.inl (by simp)) _).drew
  refine ⟨.slice va len vc, .slice (some ⟨g6, 0, none⟩) (m + 1) cap6, ⟨d4.1, ?_⟩, ⟨d1.1, ?_⟩, ?_, ?_, ?_⟩
  · rcases d4.2 with h9 | ⟨gv, cap, cur, e1, e2, e3, e4⟩
    · exact .inl h9
    · have e5 : w6.heap[gv]? = _ := (d2.block gv (by have := (Array.getElem?_eq_some_iff.1 e3).1; rw [World.size_alloc]; omega) (fun e => by have := htvlt gv e.symm; omega)).trans ((Below.heap_alloc _ _ _ (Array.getElem?_eq_some_iff.1 e3).1).trans e3)
      exact .inr ⟨gv, cap, cur, e1, e2, hk.blk e5 (by simp; omega), e4⟩
  · rcases d1.2 with h9 | ⟨gv, cap, cur, e1, e2, e3, e4⟩
    · exact .inl h9
    · have e5 : g6 = gv := by injection e1 with e6; injection e6 with e7; injection e7
      exact .inr ⟨gv, cap, cur, e1, e2, hk.blk e3 (by rw [← e5]; simpa using hg6), e4⟩
  · have h9 := b9.set 3 (.int .i64 ((u : Int) + (NN : Int)))
    rw [show ((u + NN : Nat) : Int) = (u : Int) + (NN : Int) from by omega]
    exact h9
  · have h1 : Kept (g :: tv.ownBlock.toList) w w6 := (Kept.of_below _ hb5).grown d2 (fun k hk => .inl (by simp [hk]))
    exact h1.trans (hk.more (by simp))
  · rcases d3 with h9 | h9
    · exact .inl h9.symm
    · exact .inr ⟨g6, rfl, by omega⟩

attribute [local go_sem ↓] tx_rule

set_option maxRecDepth 100000 in
set_option maxHeartbeats 2000000 in
/-- To the chain at the head of block g a transaction of these bytes is added. -/
theorem add_any {w : World} {g B m u : Nat} {T : TypeId} {C : Array Value} {tv : Value} {vs : List Value} (h : Blk w g T C) (hC : 4 ≤ C.size) (h2 : C[2]? = some tv) (h3 : C[3]? = some (.int .i64 (u : Int))) (htv : w.ownsRow B 22 1 tv m vs) (hT : tv.ownBlock ≠ some g) (hm : m ≤ 1000) (hu : u ≤ 1000) (hB : B ≤ w.heap.size)
    (a : Option Addr) (len c : Nat) (l : List Nat) (hL : Lies w a l) (hl : l.length = len) (hn : len ≤ 40000) (h0 : a = none → len = 0) :
    Calls Try.prog 47 #[.pointer (some ⟨g, 0, none⟩), .slice a len c] w fun e w' => e = .returned (.tuple #[]) ∧ ∃ v tv', w'.ownsRow w.heap.size 5 1 v len (l.map byc) ∧ w'.ownsRow B 22 1 tv' (m + 1) (vs ++ [v]) ∧
      Blk w' g T ((C.setIfInBounds 2 tv').setIfInBounds 3 (.int .i64 ((u + secN len : Nat) : Int))) ∧ Kept (g :: tv.ownBlock.toList) w w' ∧ (tv'.ownBlock = tv.ownBlock ∨ ∃ k, tv'.ownBlock = some k ∧ w.heap.size ≤ k) := by
  have c2 : w.drew.cell? ⟨g, 2, none⟩ = some tv := (h.cell 2).trans h2
  have hcl := cloneb_any a len c l w.drew hL hl hn h0
  obtain ⟨HC, hHC⟩ : ∃ HC : World → Option Addr → Nat → Prop, HC = fun w4 va vc => w4.ownsRow w.heap.size 5 1 (.slice va len vc) len (l.map byc) ∧ Below w.drew.heap.size w.drew w4 := ⟨_, rfl⟩
  obtain ⟨HA, hHA⟩ : ∃ HA : World → Option Addr → Nat → Nat → Nat → World → Prop, HA = fun w4 va vc g6 cap6 w6 => w6.ownsRow B 22 1 (.slice (some ⟨g6, 0, none⟩) (m + 1) cap6) (m + 1) (vs ++ [.slice va len vc]) ∧ (w4.alloc (.cells #[.slice va len vc] 22)).grownBy w6 tv.ownBlock ∧ (tv.ownBlock = some g6 ∨ (w4.alloc (.cells #[.slice va len vc] 22)).heap.size ≤ g6) ∧ HC w4 va vc ∧ w6.cell? ⟨g, 2, none⟩ = some tv ∧ w6.frozen? ⟨g, 2, none⟩ = false := ⟨_, rfl⟩
  have f1 : ∀ w4 va vc, HC w4 va vc → w4.cell? ⟨g, 2, none⟩ = some tv ∧ (w4.alloc (.cells #[.slice va len vc] 22)).cell? ⟨g, 2, none⟩ = some tv := fun w4 va vc hc => by
    rw [hHC] at hc
    obtain ⟨g6, cap6, w6, -, -, -, -, r1, r2, -⟩ := add_built h htv h2 hT hm hB hc.2 (.slice va len vc) rfl
    exact ⟨r2, r1⟩
  have f2 : Calls Try.prog 48 #[.slice a len c] w.drew fun e w4 => ∃ va vc, e = .returned (.slice va len vc) ∧ HC w4 va vc := hcl.mono fun e w4 ⟨v, he, hown, hb⟩ => by
    obtain ⟨va, vc, rfl⟩ := wown_slice hown
    exact ⟨va, vc, he, by rw [hHC]; exact ⟨hown, hb⟩⟩
  have f3 : ∀ w4 va vc, HC w4 va vc → ∃ g6 cap6 w6, (txSem 29 #[tv, .slice (some ⟨w4.heap.size, 0, none⟩) 1 1]).run Try.prog (w4.alloc (.cells #[.slice va len vc] 22)) = .ok (.slice (some ⟨g6, 0, none⟩) (m + 1) cap6) w6 ∧ HA w4 va vc g6 cap6 w6 := fun w4 va vc hc => by
    have hc9 := hc
    rw [hHC] at hc
    obtain ⟨g6, cap6, w6, r0, r3, r4, r5, -, -, r6, r7⟩ := add_built h htv h2 hT hm hB hc.2 (.slice va len vc) rfl
    exact ⟨g6, cap6, w6, r0, by rw [hHA]; exact ⟨r3, r4, r5, hc9, r6, r7⟩⟩
  have f4 : ∀ w4 va vc g6 cap6 w6, HA w4 va vc g6 cap6 w6 → w6.cell? ⟨g, 2, none⟩ = some tv ∧ w6.frozen? ⟨g, 2, none⟩ = false := fun w4 va vc g6 cap6 w6 ha => by
    rw [hHA] at ha
    exact ha.2.2.2.2
  have HF := Lib.hid (And.intro c2 (And.intro f1 (And.intro f2 (And.intro f3 f4))))
  have HX := Lib.hid (And.intro hHC hHA)
  have HH0 := Lib.hid (And.intro h (And.intro htv (And.intro h3 h2)))
  clear h htv h3 h2 hL hcl c2 f1 f2 f3 f4 hHC hHA
  go_enter Try.func47, Try.ntmps47
  go_wp2_with fail
  refine wp_region_any (by kernel_rfl) ?_
  refine any_inv2 (fun ls a9 w9 => ∃ b0 b1 b2 b3 b4 b5 b6 b7 b8 b9 b10 b11 : Bool, ∃ x4 x5 x6 x7 x8 x9 x10 x11 x12 x13 x14 : Value, ls = #[b0, b1, b2, b3, b4, b5, b6, b7, b8, b9, b10, b11] ∧ a9 = { tmps := #[.pointer (some ⟨g, 0, none⟩), .slice a len c, undef, undef, x4, x5, x6, x7, x8, x9, x10, x11, x12, x13, x14, undef, undef, undef, undef, undef, undef, undef, undef, undef, undef], defers := [] } ∧
    (b0 = true → x4 = .pointer (some ⟨g, 0, none⟩)) ∧ (b1 = true → x5 = .pointer (some ⟨g, 0, none⟩)) ∧ (b2 = true → b1 = true ∧ x6 = .pointer (some ⟨g, 0, none⟩)) ∧ (b3 = true → b2 = true ∧ x7 = .pointer (some ⟨g, 2, none⟩)) ∧ (b4 = true → b3 = true ∧ x8 = tv) ∧ (b5 = true → x9 = .slice a len c) ∧ (b9 = true → b0 = true ∧ x13 = .pointer (some ⟨g, 0, none⟩)) ∧ (b10 = true → b9 = true ∧ x14 = .pointer (some ⟨g, 2, none⟩)) ∧ (b6 = true → b5 = true ∧ ∃ va vc w4, HC w4 va vc ∧ x10 = .slice va len vc ∧ (b7 = false → w9 = w4) ∧ (b7 = true → x11 = .slice (some ⟨w4.heap.size, 0, none⟩) 1 1) ∧ (b7 = true → b8 = false → w9 = w4.alloc (.cells #[.slice va len vc] 22)) ∧ (b8 = true → ∃ g6 cap6 w6, HA w4 va vc g6 cap6 w6 ∧ x12 = .slice (some ⟨g6, 0, none⟩) (m + 1) cap6 ∧ (b11 = false → w9 = w6) ∧ (b11 = true → w9 = w6.setCell ⟨g, 2, none⟩ (.slice (some ⟨g6, 0, none⟩) (m + 1) cap6)))) ∧ (b6 = false → w9 = w.drew) ∧ (b7 = true → b6 = true) ∧ (b8 = true → b7 = true ∧ b4 = true) ∧ (b11 = true → b8 = true ∧ b10 = true)) ?_ ?_ _ _ _ _ (by decide +kernel) ?_
  · rintro ls a9 w9 i o ⟨b0, b1, b2, b3, b4, b5, b6, b7, b8, b9, b10, b11, x4, x5, x6, x7, x8, x9, x10, x11, x12, x13, x14, rfl, rfl, h0, h1, h2, h3, h4, h5, h6, h7, h8, h9, h10, h11, h12⟩ ho hl hd
    have HH := Lib.hid (And.intro h0 (And.intro h1 (And.intro h2 (And.intro h3 (And.intro h4 (And.intro h5 (And.intro h6 (And.intro h7 (And.intro h8 (And.intro h9 (And.intro h10 (And.intro h11 h12))))))))))))
    obtain ⟨g0', g1', g2', g3', g4', g5', g6', g7', g8', g9', g10', g11', g12'⟩ := HH.out
    clear h0 h1 h2 h3 h4 h5 h6 h7 h8 h9 h10 h11 h12
    rcases i with _ | _ | _ | _ | _ | _ | _ | _ | _ | _ | _ | _ | i
    · obtain rfl : _ = o := Option.some.inj ho
      have e0 : (0 : Nat) = 0 → (b0 = false) := fun _ => by simpa using hl
      clear ho hd hl
      clear e0 g0' g1' g2' g3' g4' g5' g6' g7' g8' g9' g10' g11' g12'
      refine wpOp_step rfl (fun K' hK' => ?_)
      go_simp
      refine hK' _ _ ⟨true, b1, b2, b3, b4, b5, b6, b7, b8, b9, b10, b11, _, x5, x6, x7, x8, x9, x10, x11, x12, x13, x14, rfl, rfl, fun _ => rfl, HH.out.2.1, HH.out.2.2.1, HH.out.2.2.2.1, HH.out.2.2.2.2.1, HH.out.2.2.2.2.2.1, fun h => ⟨rfl, (HH.out.2.2.2.2.2.2.1 h).2⟩, HH.out.2.2.2.2.2.2.2.1, HH.out.2.2.2.2.2.2.2.2.1, HH.out.2.2.2.2.2.2.2.2.2.1, HH.out.2.2.2.2.2.2.2.2.2.2.1, HH.out.2.2.2.2.2.2.2.2.2.2.2.1, HH.out.2.2.2.2.2.2.2.2.2.2.2.2⟩
    · obtain rfl : _ = o := Option.some.inj ho
      have e1 : (1 : Nat) = 1 → (b1 = false) := fun _ => by simpa using hl
      clear ho hd hl
      clear e1 g0' g1' g2' g3' g4' g5' g6' g7' g8' g9' g10' g11' g12'
      refine wpOp_step rfl (fun K' hK' => ?_)
      go_simp
      refine hK' _ _ ⟨b0, true, b2, b3, b4, b5, b6, b7, b8, b9, b10, b11, x4, _, x6, x7, x8, x9, x10, x11, x12, x13, x14, rfl, rfl, HH.out.1, fun _ => rfl, fun h => ⟨rfl, (HH.out.2.2.1 h).2⟩, HH.out.2.2.2.1, HH.out.2.2.2.2.1, HH.out.2.2.2.2.2.1, HH.out.2.2.2.2.2.2.1, HH.out.2.2.2.2.2.2.2.1, HH.out.2.2.2.2.2.2.2.2.1, HH.out.2.2.2.2.2.2.2.2.2.1, HH.out.2.2.2.2.2.2.2.2.2.2.1, HH.out.2.2.2.2.2.2.2.2.2.2.2.1, HH.out.2.2.2.2.2.2.2.2.2.2.2.2⟩
    · obtain rfl : _ = o := Option.some.inj ho
      have e2 : (2 : Nat) = 2 → (b1 = true ∧ b2 = false) := fun _ => ⟨hd ⟨1, .data⟩ (by simp) rfl, by simpa using hl⟩
      clear ho hd hl
      obtain ⟨u1, u2⟩ := e2 rfl
      obtain rfl := g1' u1
      clear e2 g0' g1' g2' g3' g4' g5' g6' g7' g8' g9' g10' g11' g12'
      refine wpOp_step rfl (fun K' hK' => ?_)
      go_simp
      refine hK' _ _ ⟨b0, b1, true, b3, b4, b5, b6, b7, b8, b9, b10, b11, x4, _, _, x7, x8, x9, x10, x11, x12, x13, x14, rfl, rfl, HH.out.1, HH.out.2.1, fun _ => ⟨u1, rfl⟩, fun h => ⟨rfl, (HH.out.2.2.2.1 h).2⟩, HH.out.2.2.2.2.1, HH.out.2.2.2.2.2.1, HH.out.2.2.2.2.2.2.1, HH.out.2.2.2.2.2.2.2.1, HH.out.2.2.2.2.2.2.2.2.1, HH.out.2.2.2.2.2.2.2.2.2.1, HH.out.2.2.2.2.2.2.2.2.2.2.1, HH.out.2.2.2.2.2.2.2.2.2.2.2.1, HH.out.2.2.2.2.2.2.2.2.2.2.2.2⟩
    · obtain rfl : _ = o := Option.some.inj ho
      have e3 : (3 : Nat) = 3 → (b2 = true ∧ b3 = false) := fun _ => ⟨hd ⟨2, .data⟩ (by simp) rfl, by simpa using hl⟩
      clear ho hd hl
      obtain ⟨u1, u2⟩ := e3 rfl
      obtain ⟨-, rfl⟩ := g2' u1
      clear e3 g0' g1' g2' g3' g4' g5' g6' g7' g8' g9' g10' g11' g12'
      refine wpOp_step rfl (fun K' hK' => ?_)
      go_simp
      refine hK' _ _ ⟨b0, b1, b2, true, b4, b5, b6, b7, b8, b9, b10, b11, x4, x5, _, _, x8, x9, x10, x11, x12, x13, x14, rfl, rfl, HH.out.1, HH.out.2.1, HH.out.2.2.1, fun _ => ⟨u1, rfl⟩, fun h => ⟨rfl, (HH.out.2.2.2.2.1 h).2⟩, HH.out.2.2.2.2.2.1, HH.out.2.2.2.2.2.2.1, HH.out.2.2.2.2.2.2.2.1, HH.out.2.2.2.2.2.2.2.2.1, HH.out.2.2.2.2.2.2.2.2.2.1, HH.out.2.2.2.2.2.2.2.2.2.2.1, HH.out.2.2.2.2.2.2.2.2.2.2.2.1, HH.out.2.2.2.2.2.2.2.2.2.2.2.2⟩
    · obtain rfl : _ = o := Option.some.inj ho
      have e4 : (4 : Nat) = 4 → (b3 = true ∧ b4 = false) := fun _ => ⟨hd ⟨3, .data⟩ (by simp) rfl, by simpa using hl⟩
      clear ho hd hl
      obtain ⟨u1, u2⟩ := e4 rfl
      obtain ⟨-, rfl⟩ := g3' u1
      have hb8 : b8 = false := by cases hb : b8 with | false => rfl | true => exact absurd (g11' hb).2 (by rw [u2]; decide)
      have c9 : w9.cell? ⟨g, 2, none⟩ = some tv := by
        cases hb : b6 with
        | false => rw [g9' hb]; exact HF.out.1
        | true =>
          obtain ⟨-, va, vc, w4, hc, -, q1, -, q2, -⟩ := g8' hb
          cases hb7 : b7 with
          | false => rw [q1 hb7]; exact (HF.out.2.1 w4 va vc hc).1
          | true => rw [q2 hb7 hb8]; exact (HF.out.2.1 w4 va vc hc).2
      clear e4 g0' g1' g2' g3' g4' g5' g6' g7' g8' g9' g10' g11' g12'
      refine wpOp_step rfl (fun K' hK' => ?_)
      go_simp
      refine hK' _ _ ⟨b0, b1, b2, b3, true, b5, b6, b7, b8, b9, b10, b11, x4, x5, x6, _, _, x9, x10, x11, x12, x13, x14, rfl, rfl, HH.out.1, HH.out.2.1, HH.out.2.2.1, HH.out.2.2.2.1, fun _ => ⟨u1, rfl⟩, HH.out.2.2.2.2.2.1, HH.out.2.2.2.2.2.2.1, HH.out.2.2.2.2.2.2.2.1, HH.out.2.2.2.2.2.2.2.2.1, HH.out.2.2.2.2.2.2.2.2.2.1, HH.out.2.2.2.2.2.2.2.2.2.2.1, fun h => ⟨(HH.out.2.2.2.2.2.2.2.2.2.2.2.1 h).1, rfl⟩, HH.out.2.2.2.2.2.2.2.2.2.2.2.2⟩
    · obtain rfl : _ = o := Option.some.inj ho
      have e5 : (5 : Nat) = 5 → (b5 = false) := fun _ => by simpa using hl
      clear ho hd hl
      clear e5 g0' g1' g2' g3' g4' g5' g6' g7' g8' g9' g10' g11' g12'
      refine wpOp_step rfl (fun K' hK' => ?_)
      go_simp
      refine hK' _ _ ⟨b0, b1, b2, b3, b4, true, b6, b7, b8, b9, b10, b11, x4, x5, x6, x7, x8, _, x10, x11, x12, x13, x14, rfl, rfl, HH.out.1, HH.out.2.1, HH.out.2.2.1, HH.out.2.2.2.1, HH.out.2.2.2.2.1, fun _ => rfl, HH.out.2.2.2.2.2.2.1, HH.out.2.2.2.2.2.2.2.1, fun h => ⟨rfl, (HH.out.2.2.2.2.2.2.2.2.1 h).2⟩, HH.out.2.2.2.2.2.2.2.2.2.1, HH.out.2.2.2.2.2.2.2.2.2.2.1, HH.out.2.2.2.2.2.2.2.2.2.2.2.1, HH.out.2.2.2.2.2.2.2.2.2.2.2.2⟩
    · obtain rfl : _ = o := Option.some.inj ho
      have e6 : (6 : Nat) = 6 → (b5 = true ∧ b6 = false) := fun _ => ⟨hd ⟨5, .data⟩ (by simp) rfl, by simpa using hl⟩
      clear ho hd hl
      obtain ⟨u5, u6⟩ := e6 rfl
      obtain rfl := g5' u5
      obtain rfl := g9' u6
      have hb7 : b7 = false := by cases hb : b7 with | false => rfl | true => exact absurd (g10' hb) (by rw [u6]; decide)
      have hb8 : b8 = false := by cases hb : b8 with | false => rfl | true => exact absurd (g11' hb).1 (by rw [hb7]; decide)
      have c9 := HF.out.2.2.1
      clear e6 g0' g1' g2' g3' g4' g5' g6' g7' g8' g9' g10' g11' g12'
      refine wpOp_step rfl (fun K' hK' => ?_)
      go_simp
      refine c9.mono ?_
      rintro e w4 ⟨va, vc, rfl, hc⟩
      refine hK' _ _ ⟨b0, b1, b2, b3, b4, b5, true, b7, b8, b9, b10, b11, x4, x5, x6, x7, x8, _, _, x11, x12, x13, x14, rfl, rfl, HH.out.1, HH.out.2.1, HH.out.2.2.1, HH.out.2.2.2.1, HH.out.2.2.2.2.1, HH.out.2.2.2.2.2.1, HH.out.2.2.2.2.2.2.1, HH.out.2.2.2.2.2.2.2.1, fun _ => ⟨u5, va, vc, w4, hc, rfl, fun _ => rfl, (fun h => by rw [hb7] at h; cases h), (fun h => by rw [hb7] at h; cases h), (fun h => by rw [hb8] at h; cases h)⟩, (fun h => by cases h), fun _ => rfl, HH.out.2.2.2.2.2.2.2.2.2.2.2.1, HH.out.2.2.2.2.2.2.2.2.2.2.2.2⟩
    · obtain rfl : _ = o := Option.some.inj ho
      have e7 : (7 : Nat) = 7 → (b6 = true ∧ b7 = false) := fun _ => ⟨hd ⟨6, .data⟩ (by simp) rfl, by simpa using hl⟩
      clear ho hd hl
      obtain ⟨u6, u7⟩ := e7 rfl
      obtain ⟨u5, va, vc, w4, hc, rfl, q1, -, -, -⟩ := g8' u6
      obtain rfl := q1 u7
      have hb8 : b8 = false := by cases hb : b8 with | false => rfl | true => exact absurd (g11' hb).1 (by rw [u7]; decide)
      clear e7 g0' g1' g2' g3' g4' g5' g6' g7' g8' g9' g10' g11' g12' q1
      refine wpOp_step rfl (fun K' hK' => ?_)
      go_simp
      refine hK' _ _ ⟨b0, b1, b2, b3, b4, b5, b6, true, b8, b9, b10, b11, x4, x5, x6, x7, x8, x9, _, _, x12, x13, x14, rfl, rfl, HH.out.1, HH.out.2.1, HH.out.2.2.1, HH.out.2.2.2.1, HH.out.2.2.2.2.1, HH.out.2.2.2.2.2.1, HH.out.2.2.2.2.2.2.1, HH.out.2.2.2.2.2.2.2.1, fun _ => ⟨u5, va, vc, w9, hc, rfl, (fun h => by cases h), fun _ => rfl, fun _ _ => rfl, (fun h => by rw [hb8] at h; cases h)⟩, (fun h => by rw [u6] at h; cases h), fun _ => u6, fun h => ⟨rfl, (HH.out.2.2.2.2.2.2.2.2.2.2.2.1 h).2⟩, HH.out.2.2.2.2.2.2.2.2.2.2.2.2⟩
    · obtain rfl : _ = o := Option.some.inj ho
      have e8 : (8 : Nat) = 8 → (b4 = true ∧ b7 = true ∧ b8 = false) := fun _ => ⟨hd ⟨4, .data⟩ (by simp) rfl, hd ⟨7, .data⟩ (by simp) rfl, by simpa using hl⟩
      clear ho hd hl
      obtain ⟨u4, u7, u8⟩ := e8 rfl
      obtain ⟨-, rfl⟩ := g4' u4
      have u6 := g10' u7
      obtain ⟨u5, va, vc, w4, hc, rfl, -, q0, q2, -⟩ := g8' u6
      obtain rfl := q0 u7
      obtain rfl := q2 u7 u8
      have hb11 : b11 = false := by cases hb : b11 with | false => rfl | true => exact absurd (g12' hb).1 (by rw [u8]; decide)
      obtain ⟨g6, cap6, w6, run6, ha⟩ := HF.out.2.2.2.1 w4 va vc hc
      clear e8 g0' g1' g2' g3' g4' g5' g6' g7' g8' g9' g10' g11' g12' q0 q2
      refine wpOp_step rfl (fun K' hK' => ?_)
      have run7 : (Builtin.append_ #[29, 29] 29 #[x8, .slice (some ⟨w4.heap.size, 0, none⟩) 1 1]).run Try.prog (w4.alloc (.cells #[.slice va len vc] 22)) = .ok (.slice (some ⟨g6, 0, none⟩) (m + 1) cap6) w6 := run6
      rw [if_pos (by rfl)]
      unfold Oper.wp
      simp [execOp, resolve, invoke, builtin, Act.eval, run7, Result.andThen, Oper.upon, Act.put]
      refine hK' _ _ ⟨b0, b1, b2, b3, b4, b5, b6, b7, true, b9, b10, b11, x4, x5, x6, x7, _, x9, _, _, _, x13, x14, rfl, rfl, HH.out.1, HH.out.2.1, HH.out.2.2.1, HH.out.2.2.2.1, HH.out.2.2.2.2.1, HH.out.2.2.2.2.2.1, HH.out.2.2.2.2.2.2.1, HH.out.2.2.2.2.2.2.2.1, fun _ => ⟨u5, va, vc, w4, hc, rfl, (fun h => by rw [u7] at h; cases h), fun _ => rfl, (fun _ h => by cases h), fun _ => ⟨g6, cap6, w6, ha, rfl, fun _ => rfl, (fun h => by rw [hb11] at h; cases h)⟩⟩, (fun h => by rw [u6] at h; cases h), HH.out.2.2.2.2.2.2.2.2.2.2.1, fun _ => ⟨u7, u4⟩, fun h => ⟨rfl, (HH.out.2.2.2.2.2.2.2.2.2.2.2.2 h).2⟩⟩
    · obtain rfl : _ = o := Option.some.inj ho
      have e9 : (9 : Nat) = 9 → (b0 = true ∧ b9 = false) := fun _ => ⟨hd ⟨0, .data⟩ (by simp) rfl, by simpa using hl⟩
      clear ho hd hl
      obtain ⟨u0, u9⟩ := e9 rfl
      obtain rfl := g0' u0
      clear e9 g0' g1' g2' g3' g4' g5' g6' g7' g8' g9' g10' g11' g12'
      refine wpOp_step rfl (fun K' hK' => ?_)
      go_simp
      refine hK' _ _ ⟨b0, b1, b2, b3, b4, b5, b6, b7, b8, true, b10, b11, _, x5, x6, x7, x8, x9, x10, x11, x12, _, x14, rfl, rfl, HH.out.1, HH.out.2.1, HH.out.2.2.1, HH.out.2.2.2.1, HH.out.2.2.2.2.1, HH.out.2.2.2.2.2.1, fun _ => ⟨u0, rfl⟩, fun h => ⟨rfl, (HH.out.2.2.2.2.2.2.2.1 h).2⟩, HH.out.2.2.2.2.2.2.2.2.1, HH.out.2.2.2.2.2.2.2.2.2.1, HH.out.2.2.2.2.2.2.2.2.2.2.1, HH.out.2.2.2.2.2.2.2.2.2.2.2.1, HH.out.2.2.2.2.2.2.2.2.2.2.2.2⟩
    · obtain rfl : _ = o := Option.some.inj ho
      have e10 : (10 : Nat) = 10 → (b9 = true ∧ b10 = false) := fun _ => ⟨hd ⟨9, .data⟩ (by simp) rfl, by simpa using hl⟩
      clear ho hd hl
      obtain ⟨u9, u10⟩ := e10 rfl
      obtain ⟨-, rfl⟩ := g6' u9
      clear e10 g0' g1' g2' g3' g4' g5' g6' g7' g8' g9' g10' g11' g12'
      refine wpOp_step rfl (fun K' hK' => ?_)
      go_simp
      refine hK' _ _ ⟨b0, b1, b2, b3, b4, b5, b6, b7, b8, b9, true, b11, x4, x5, x6, x7, x8, x9, x10, x11, x12, _, _, rfl, rfl, HH.out.1, HH.out.2.1, HH.out.2.2.1, HH.out.2.2.2.1, HH.out.2.2.2.2.1, HH.out.2.2.2.2.2.1, HH.out.2.2.2.2.2.2.1, fun _ => ⟨u9, rfl⟩, HH.out.2.2.2.2.2.2.2.2.1, HH.out.2.2.2.2.2.2.2.2.2.1, HH.out.2.2.2.2.2.2.2.2.2.2.1, HH.out.2.2.2.2.2.2.2.2.2.2.2.1, fun h => ⟨(HH.out.2.2.2.2.2.2.2.2.2.2.2.2 h).1, rfl⟩⟩
    · obtain rfl : _ = o := Option.some.inj ho
      have e11 : (11 : Nat) = 11 → (b8 = true ∧ b10 = true ∧ b11 = false) := fun _ => ⟨hd ⟨8, .data⟩ (by simp) rfl, hd ⟨10, .data⟩ (by simp) rfl, by simpa using hl⟩
      clear ho hd hl
      obtain ⟨u8, u10, u11⟩ := e11 rfl
      obtain ⟨-, rfl⟩ := g7' u10
      have u7 := (g11' u8).1
      have u6 := g10' u7
      obtain ⟨u5, va, vc, w4, hc, rfl, -, q0, -, q3⟩ := g8' u6
      obtain ⟨g6, cap6, w6, ha, rfl, q4, -⟩ := q3 u8
      obtain rfl := q4 u11
      obtain ⟨c9, f9⟩ := HF.out.2.2.2.2 w4 va vc g6 cap6 w9 ha
      have HQ0 := Lib.hid q0
      clear e11 g0' g1' g2' g3' g4' g5' g6' g7' g8' g9' g10' g11' g12' q0 q3 q4
      refine wpOp_step rfl (fun K' hK' => ?_)
      go_simp
      refine hK' _ _ ⟨b0, b1, b2, b3, b4, b5, b6, b7, b8, b9, b10, true, x4, x5, x6, x7, x8, x9, _, x11, _, x13, _, rfl, rfl, HH.out.1, HH.out.2.1, HH.out.2.2.1, HH.out.2.2.2.1, HH.out.2.2.2.2.1, HH.out.2.2.2.2.2.1, HH.out.2.2.2.2.2.2.1, HH.out.2.2.2.2.2.2.2.1, fun _ => ⟨u5, va, vc, w4, hc, rfl, (fun h => by rw [u7] at h; cases h), HQ0.out, (fun _ h => by rw [u8] at h; cases h), fun _ => ⟨g6, cap6, w9, ha, rfl, (fun h => by cases h), fun _ => rfl⟩⟩, (fun h => by rw [u6] at h; cases h), HH.out.2.2.2.2.2.2.2.2.2.2.1, HH.out.2.2.2.2.2.2.2.2.2.2.2.1, fun _ => ⟨u8, u10⟩⟩
    · simp at ho
  · rintro ls a9 w9 ⟨b0, b1, b2, b3, b4, b5, b6, b7, b8, b9, b10, b11, x4, x5, x6, x7, x8, x9, x10, x11, x12, x13, x14, rfl, rfl, h0, h1, h2, h3, h4, h5, h6, h7, h8, h9, h10, h11, h12⟩ hall
    have v0 : b0 = true := by simpa using hall 0 _ rfl (by simp)
    have v1 : b1 = true := by simpa using hall 1 _ rfl (by simp [v0])
    have v2 : b2 = true := by simpa using hall 2 _ rfl (by simp [v0, v1])
    have v3 : b3 = true := by simpa using hall 3 _ rfl (by simp [v0, v1, v2])
    have v4 : b4 = true := by simpa using hall 4 _ rfl (by simp [v0, v1, v2, v3])
    have v5 : b5 = true := by simpa using hall 5 _ rfl (by simp [v0, v1, v2, v3, v4])
    have v6 : b6 = true := by simpa using hall 6 _ rfl (by simp [v0, v1, v2, v3, v4, v5])
    have v7 : b7 = true := by simpa using hall 7 _ rfl (by simp [v0, v1, v2, v3, v4, v5, v6])
    have v8 : b8 = true := by simpa using hall 8 _ rfl (by simp [v0, v1, v2, v3, v4, v5, v6, v7])
    have v9 : b9 = true := by simpa using hall 9 _ rfl (by simp [v0, v1, v2, v3, v4, v5, v6, v7, v8])
    have v10 : b10 = true := by simpa using hall 10 _ rfl (by simp [v0, v1, v2, v3, v4, v5, v6, v7, v8, v9])
    have v11 : b11 = true := by simpa using hall 11 _ rfl (by simp [v0, v1, v2, v3, v4, v5, v6, v7, v8, v9, v10])
    clear hall
    obtain ⟨u5, va, vc, w4, hc, rfl, -, q0, -, q3⟩ := h8 v6
    obtain ⟨g6, cap6, w6, ha, rfl, -, q4⟩ := q3 v8
    obtain rfl := q4 v11
    clear q0 q3 q4 h0 h1 h2 h3 h4 h5 h6 h7 h8 h9 h10 h11 h12
    have HD := Lib.hid ha
    clear ha hc
    rw [HX.out.2] at HD
    obtain ⟨d1, d2, d3, d4, d5, d6⟩ := HD.out
    rw [HX.out.1] at d4
    have hgw : g < w.heap.size := HH0.out.1.lt
    have hb4 : Below w.heap.size w w4 := ⟨d4.2.os, d4.2.tape, d4.2.output, d4.2.size, d4.2.block⟩
    have hb5 : Below w.heap.size w (w4.alloc (.cells #[.slice va len vc] 22)) := hb4.alloc hb4.size _
    have hs5 : w.heap.size < (w4.alloc (.cells #[.slice va len vc] 22)).heap.size := by rw [World.size_alloc]; have := hb4.size; omega
    have b6 : Blk w6 g T C := (d2.block g (Nat.lt_trans hgw hs5) (fun e => hT e.symm)).trans ((HH0.out.1.kept (Kept.of_below [] hb5) (by simp)))
    obtain ⟨W9, hW9⟩ : ∃ W9, w6.setCell ⟨g, 2, none⟩ (.slice (some ⟨g6, 0, none⟩) (m + 1) cap6) = W9 := ⟨_, rfl⟩
    have b9 : Blk W9 g T (C.setIfInBounds 2 (.slice (some ⟨g6, 0, none⟩) (m + 1) cap6)) := by rw [← hW9]; exact b6.set 2 _
    have c39 : W9.drew.cell? ⟨g, 3, none⟩ = some (.int .i64 (u : Int)) := by
      have h9 := b9.cell 3
      rw [Array.getElem?_setIfInBounds_ne (by omega), HH0.out.2.2.1] at h9
      exact h9
    have f39 : W9.drew.frozen? ⟨g, 3, none⟩ = false := b9.free 3
    have hse := sectors_any (len : Int)
    rw [secI_nat] at hse
    have hN8 := secN_le len
    have HE := Lib.hid (And.intro d1 (And.intro d2 (And.intro d3 (And.intro d4 (And.intro hb4 (And.intro hb5 (And.intro b9 hW9)))))))
    clear d1 d2 d3 d4 d5 d6 hb4 hb5 b6 b9 HD
    rw [hW9]
    clear hW9
    generalize hNN : secN len = NN at *
    have hwr : IntKind.i64.wrap ((u : Int) + (NN : Int)) = (u : Int) + (NN : Int) := by rw [IntKind.wrap_i64]; omega
    go_wp2_with fail
    go_region_with (first | (go_at_call 19; refine (hse _).mono ?_; rintro e w7 ⟨rfl, rfl⟩))
    all_goals
      go_end0
      refine ⟨rfl, ?_⟩
      rw [hNN]
      exact add_end (u := u) (NN := NN) (HX := trivial) HH0.out.1 HH0.out.2.1 hT HE.out.1 HE.out.2.1 HE.out.2.2.1 HE.out.2.2.2.1.1 HE.out.2.2.2.2.1 HE.out.2.2.2.2.2.1 HE.out.2.2.2.2.2.2.1 HE.out.2.2.2.2.2.2.2
  · exact ⟨false, false, false, false, false, false, false, false, false, false, false, false, _, _, _, _, _, _, _, _, _, _, _, rfl, rfl, (fun h => by cases h), (fun h => by cases h), (fun h => by cases h), (fun h => by cases h), (fun h => by cases h), (fun h => by cases h), (fun h => by cases h), (fun h => by cases h), (fun h => by cases h), fun _ => rfl, (fun h => by cases h), (fun h => by cases h), (fun h => by cases h)⟩
end Go.Proofs.Ytkfpkolgikpcpaa
