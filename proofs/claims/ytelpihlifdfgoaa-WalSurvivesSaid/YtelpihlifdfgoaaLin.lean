/-
  A region that draws its order, walked once in the order of the text: where each operation gives its value in every world that meets S and leaves a world that meets S. Nothing here is a statement of the document.
-/
import Derived.Test.YtelpihlifdfgoaaWalN
import Derived.Test.YtelpihlifdfgoaaRows
import Derived.WalkKit
import Derived.Shelf.Abstract
namespace Go.Proofs.Ytelpihlifdfgoaa
open Go.RowKit Go.Shelf
set_option linter.unusedVariables false

theorem add_end {w w4 w6 W9 : World} {g B m u NN len vc cap6 g6 : Nat} {T : TypeId} {C : Array Value} {tv : Value} {va : Option Addr} {vs : List Value} {l : List Nat} (HX : True) (h : Blk w g T C) (htv : w.ownsRow B 29 1 tv m vs) (hT : tv.ownBlock ≠ some g)
    (d1 : w6.ownsRow B 29 1 (.slice (some ⟨g6, 0, none⟩) (m + 1) cap6) (m + 1) (vs ++ [.slice va len vc])) (d2 : (w4.alloc (.cells #[.slice va len vc] 29)).grownBy w6 tv.ownBlock) (d3 : tv.ownBlock = some g6 ∨ (w4.alloc (.cells #[.slice va len vc] 29)).heap.size ≤ g6)
    (d4 : w4.ownsRow w.heap.size 5 1 (.slice va len vc) len (l.map byc)) (hb4 : Below w.heap.size w w4) (hb5 : Below w.heap.size w (w4.alloc (.cells #[.slice va len vc] 29))) (b9 : Blk W9 g T (C.setIfInBounds 2 (.slice (some ⟨g6, 0, none⟩) (m + 1) cap6)))
    (hW9 : w6.setCell ⟨g, 2, none⟩ (.slice (some ⟨g6, 0, none⟩) (m + 1) cap6) = W9) :
    ∃ v tv', (W9.setCell ⟨g, 3, none⟩ (.int .i64 ((u : Int) + (NN : Int)))).drew.ownsRow w.heap.size 5 1 v len (l.map byc) ∧ (W9.setCell ⟨g, 3, none⟩ (.int .i64 ((u : Int) + (NN : Int)))).drew.ownsRow B 29 1 tv' (m + 1) (vs ++ [v]) ∧
      Blk (W9.setCell ⟨g, 3, none⟩ (.int .i64 ((u : Int) + (NN : Int)))).drew g T ((C.setIfInBounds 2 tv').setIfInBounds 3 (.int .i64 ((u + NN : Nat) : Int))) ∧ Kept (g :: tv.ownBlock.toList) w (W9.setCell ⟨g, 3, none⟩ (.int .i64 ((u : Int) + (NN : Int)))).drew ∧ (tv'.ownBlock = tv.ownBlock ∨ ∃ k, tv'.ownBlock = some k ∧ w.heap.size ≤ k) := by
  have hgw : g < w.heap.size := h.lt
  have htvlt : ∀ k, tv.ownBlock = some k → k < w.heap.size := fun k hk => by
    rcases htv.2 with ⟨rfl, _⟩ | ⟨gq, cap, cur, rfl, _, hq, _⟩
    · simp [Value.ownBlock] at hk
    · obtain rfl : gq = k := by simpa [Value.ownBlock] using hk
      exact (Array.getElem?_eq_some_iff.1 hq).1
  have hs5 : w.heap.size ≤ (w4.alloc (.cells #[.slice va len vc] 29)).heap.size := hb5.size
  have hg6 : g6 ≠ g := by
    rcases d3 with h9 | h9
    · intro e; rw [e] at h9; exact hT h9
    · omega
  have hk : Kept [g] w6 (W9.setCell ⟨g, 3, none⟩ (.int .i64 ((u : Int) + (NN : Int)))).drew := by
    rw [← hW9]
    exact (((Kept.refl [g] w6).setCell (.inl (by simp)) _).setCell (.inl (by simp)) _).drew
  refine ⟨.slice va len vc, .slice (some ⟨g6, 0, none⟩) (m + 1) cap6, ⟨d4.1, ?_⟩, ⟨d1.1, ?_⟩, ?_, ?_, ?_⟩
  · rcases d4.2 with h9 | ⟨gv, cap, cur, e1, e2, e3, e4⟩
    · exact .inl h9
    · have e5 : w6.heap[gv]? = _ := (d2.block gv (by have := (Array.getElem?_eq_some_iff.1 e3).1; rw [World.size_alloc]; omega) (fun e => by have := htvlt gv e.symm; omega)).trans ((Below.heap_alloc _ _ _ (Array.getElem?_eq_some_iff.1 e3).1).trans e3)
      exact .inr ⟨gv, cap, cur, e1, e2, hk.blk e5 (by simp; omega), e4⟩
  · rcases d1.2 with h9 | ⟨gv, cap, cur, e1, e2, e3, e4⟩
    · exact .inl h9
    · have e5 : g6 = gv := by injection e1 with e6; injection e6 with e7; injection e7
      exact .inr ⟨gv, cap, cur, e1, e2, hk.blk e3 (by rw [← e5]; simpa using hg6), e4⟩
  · have h9 := b9.set 3 (.int .i64 ((u : Int) + (NN : Int)))
    rw [show ((u + NN : Nat) : Int) = (u : Int) + (NN : Int) from by omega]
    exact h9
  · have h1 : Kept (g :: tv.ownBlock.toList) w w6 := (Kept.of_below _ hb5).grown d2 (fun k hk => .inl (by simp [hk]))
    exact h1.trans (hk.more (by simp))
  · rcases d3 with h9 | h9
    · exact .inl h9.symm
    · exact .inr ⟨g6, rfl, by omega⟩

attribute [local go_sem ↓] tx_rule

set_option maxRecDepth 100000 in
set_option maxHeartbeats 2000000 in
/-- To the chain at the head of block g a transaction of these bytes is added. -/
theorem add_any {w : World} {g B m u : Nat} {T : TypeId} {C : Array Value} {tv : Value} {vs : List Value} (h : Blk w g T C) (hC : 4 ≤ C.size) (h2 : C[2]? = some tv) (h3 : C[3]? = some (.int .i64 (u : Int))) (htv : w.ownsRow B 29 1 tv m vs) (hT : tv.ownBlock ≠ some g) (hm : m ≤ 1000) (hu : u ≤ 1000) (hB : B ≤ w.heap.size)
    (a : Option Addr) (len c : Nat) (l : List Nat) (hL : Lies w a l) (hl : l.length = len) (hn : len ≤ 40000) (h0 : a = none → len = 0) :
    Calls Try.prog 52 #[.pointer (some ⟨g, 0, none⟩), .slice a len c] w fun e w' => e = .returned (.tuple #[]) ∧ ∃ v tv', w'.ownsRow w.heap.size 5 1 v len (l.map byc) ∧ w'.ownsRow B 29 1 tv' (m + 1) (vs ++ [v]) ∧
      Blk w' g T ((C.setIfInBounds 2 tv').setIfInBounds 3 (.int .i64 ((u + secN len : Nat) : Int))) ∧ Kept (g :: tv.ownBlock.toList) w w' ∧ (tv'.ownBlock = tv.ownBlock ∨ ∃ k, tv'.ownBlock = some k ∧ w.heap.size ≤ k) := by
  have c2 : w.drew.cell? ⟨g, 2, none⟩ = some tv := (h.cell 2).trans h2
  have hcl := cloneb_any a len c l w.drew hL hl hn h0
  obtain ⟨HC, hHC⟩ : ∃ HC : World → Option Addr → Nat → Prop, HC = fun w4 va vc => w4.ownsRow w.heap.size 5 1 (.slice va len vc) len (l.map byc) ∧ Below w.drew.heap.size w.drew w4 := ⟨_, rfl⟩
  obtain ⟨HA, hHA⟩ : ∃ HA : World → Option Addr → Nat → Nat → Nat → World → Prop, HA = fun w4 va vc g6 cap6 w6 => w6.ownsRow B 29 1 (.slice (some ⟨g6, 0, none⟩) (m + 1) cap6) (m + 1) (vs ++ [.slice va len vc]) ∧ (w4.alloc (.cells #[.slice va len vc] 29)).grownBy w6 tv.ownBlock ∧ (tv.ownBlock = some g6 ∨ (w4.alloc (.cells #[.slice va len vc] 29)).heap.size ≤ g6) ∧ HC w4 va vc ∧ w6.cell? ⟨g, 2, none⟩ = some tv ∧ w6.frozen? ⟨g, 2, none⟩ = false := ⟨_, rfl⟩
  have f1 : ∀ w4 va vc, HC w4 va vc → w4.cell? ⟨g, 2, none⟩ = some tv ∧ (w4.alloc (.cells #[.slice va len vc] 29)).cell? ⟨g, 2, none⟩ = some tv := fun w4 va vc hc => by
    rw [hHC] at hc
    obtain ⟨g6, cap6, w6, -, -, -, -, r1, r2, -⟩ := add_built h htv h2 hT hm hB hc.2 (.slice va len vc) rfl
    exact ⟨r2, r1⟩
  have f2 : Calls Try.prog 44 #[.slice a len c] w.drew fun e w4 => ∃ va vc, e = .returned (.slice va len vc) ∧ HC w4 va vc := hcl.mono fun e w4 ⟨v, he, hown, hb⟩ => by
    obtain ⟨va, vc, rfl⟩ := wown_slice hown
    exact ⟨va, vc, he, by rw [hHC]; exact ⟨hown, hb⟩⟩
  have f3 : ∀ w4 va vc, HC w4 va vc → ∃ g6 cap6 w6, (txSem 30 #[tv, .slice (some ⟨w4.heap.size, 0, none⟩) 1 1]).run Try.prog (w4.alloc (.cells #[.slice va len vc] 29)) = .ok (.slice (some ⟨g6, 0, none⟩) (m + 1) cap6) w6 ∧ HA w4 va vc g6 cap6 w6 := fun w4 va vc hc => by
    have hc9 := hc
    rw [hHC] at hc
    obtain ⟨g6, cap6, w6, r0, r3, r4, r5, -, -, r6, r7⟩ := add_built h htv h2 hT hm hB hc.2 (.slice va len vc) rfl
    exact ⟨g6, cap6, w6, r0, by rw [hHA]; exact ⟨r3, r4, r5, hc9, r6, r7⟩⟩
  have f4 : ∀ w4 va vc g6 cap6 w6, HA w4 va vc g6 cap6 w6 → w6.cell? ⟨g, 2, none⟩ = some tv ∧ w6.frozen? ⟨g, 2, none⟩ = false := fun w4 va vc g6 cap6 w6 ha => by
    rw [hHA] at ha
    exact ha.2.2.2.2
  have HF := Lib.hid (And.intro c2 (And.intro f1 (And.intro f2 (And.intro f3 f4))))
  have HX := Lib.hid (And.intro hHC hHA)
  have HH0 := Lib.hid (And.intro h (And.intro htv (And.intro h3 h2)))
  clear h htv h3 h2 hL hcl c2 f1 f2 f3 f4 hHC hHA
  go_enter Try.func52, Try.ntmps52
  go_wp2_with fail
  refine wp_region_any (by kernel_rfl) ?_
  refine any_inv2 (fun ls a9 w9 => ∃ b0 b1 b2 b3 b4 b5 b6 b7 b8 b9 b10 b11 : Bool, ∃ x4 x5 x6 x7 x8 x9 x10 x11 x12 x13 x14 : Value, ls = #[b0, b1, b2, b3, b4, b5, b6, b7, b8, b9, b10, b11] ∧ a9 = { tmps := #[.pointer (some ⟨g, 0, none⟩), .slice a len c, undef, undef, x4, x5, x6, x7, x8, x9, x10, x11, x12, x13, x14, undef, undef, undef, undef, undef, undef, undef, undef, undef, undef], defers := [] } ∧
    (b0 = true → x4 = .pointer (some ⟨g, 0, none⟩)) ∧ (b1 = true → x5 = .pointer (some ⟨g, 0, none⟩)) ∧ (b2 = true → b1 = true ∧ x6 = .pointer (some ⟨g, 0, none⟩)) ∧ (b3 = true → b2 = true ∧ x7 = .pointer (some ⟨g, 2, none⟩)) ∧ (b4 = true → b3 = true ∧ x8 = tv) ∧ (b5 = true → x9 = .slice a len c) ∧ (b9 = true → b0 = true ∧ x13 = .pointer (some ⟨g, 0, none⟩)) ∧ (b10 = true → b9 = true ∧ x14 = .pointer (some ⟨g, 2, none⟩)) ∧ (b6 = true → b5 = true ∧ ∃ va vc w4, HC w4 va vc ∧ x10 = .slice va len vc ∧ (b7 = false → w9 = w4) ∧ (b7 = true → x11 = .slice (some ⟨w4.heap.size, 0, none⟩) 1 1) ∧ (b7 = true → b8 = false → w9 = w4.alloc (.cells #[.slice va len vc] 29)) ∧ (b8 = true → ∃ g6 cap6 w6, HA w4 va vc g6 cap6 w6 ∧ x12 = .slice (some ⟨g6, 0, none⟩) (m + 1) cap6 ∧ (b11 = false → w9 = w6) ∧ (b11 = true → w9 = w6.setCell ⟨g, 2, none⟩ (.slice (some ⟨g6, 0, none⟩) (m + 1) cap6)))) ∧ (b6 = false → w9 = w.drew) ∧ (b7 = true → b6 = true) ∧ (b8 = true → b7 = true ∧ b4 = true) ∧ (b11 = true → b8 = true ∧ b10 = true)) ?_ ?_ _ _ _ _ (by decide +kernel) ?_
  · rintro ls a9 w9 i o ⟨b0, b1, b2, b3, b4, b5, b6, b7, b8, b9, b10, b11, x4, x5, x6, x7, x8, x9, x10, x11, x12, x13, x14, rfl, rfl, h0, h1, h2, h3, h4, h5, h6, h7, h8, h9, h10, h11, h12⟩ ho hl hd
    have HH := Lib.hid (And.intro h0 (And.intro h1 (And.intro h2 (And.intro h3 (And.intro h4 (And.intro h5 (And.intro h6 (And.intro h7 (And.intro h8 (And.intro h9 (And.intro h10 (And.intro h11 h12))))))))))))
    obtain ⟨g0', g1', g2', g3', g4', g5', g6', g7', g8', g9', g10', g11', g12'⟩ := HH.out
    clear h0 h1 h2 h3 h4 h5 h6 h7 h8 h9 h10 h11 h12
    rcases i with _ | _ | _ | _ | _ | _ | _ | _ | _ | _ | _ | _ | i
    · obtain rfl : _ = o := Option.some.inj ho
      have e0 : (0 : Nat) = 0 → (b0 = false) := fun _ => by simpa using hl
      clear ho hd hl
      clear e0 g0' g1' g2' g3' g4' g5' g6' g7' g8' g9' g10' g11' g12'
      refine wpOp_step rfl (fun K' hK' => ?_)
      go_simp
      refine hK' _ _ ⟨true, b1, b2, b3, b4, b5, b6, b7, b8, b9, b10, b11, _, x5, x6, x7, x8, x9, x10, x11, x12, x13, x14, rfl, rfl, fun _ => rfl, HH.out.2.1, HH.out.2.2.1, HH.out.2.2.2.1, HH.out.2.2.2.2.1, HH.out.2.2.2.2.2.1, fun h => ⟨rfl, (HH.out.2.2.2.2.2.2.1 h).2⟩, HH.out.2.2.2.2.2.2.2.1, HH.out.2.2.2.2.2.2.2.2.1, HH.out.2.2.2.2.2.2.2.2.2.1, HH.out.2.2.2.2.2.2.2.2.2.2.1, HH.out.2.2.2.2.2.2.2.2.2.2.2.1, HH.out.2.2.2.2.2.2.2.2.2.2.2.2⟩
    · obtain rfl : _ = o := Option.some.inj ho
      have e1 : (1 : Nat) = 1 → (b1 = false) := fun _ => by simpa using hl
      clear ho hd hl
      clear e1 g0' g1' g2' g3' g4' g5' g6' g7' g8' g9' g10' g11' g12'
      refine wpOp_step rfl (fun K' hK' => ?_)
      go_simp
      refine hK' _ _ ⟨b0, true, b2, b3, b4, b5, b6, b7, b8, b9, b10, b11, x4, _, x6, x7, x8, x9, x10, x11, x12, x13, x14, rfl, rfl, HH.out.1, fun _ => rfl, fun h => ⟨rfl, (HH.out.2.2.1 h).2⟩, HH.out.2.2.2.1, HH.out.2.2.2.2.1, HH.out.2.2.2.2.2.1, HH.out.2.2.2.2.2.2.1, HH.out.2.2.2.2.2.2.2.1, HH.out.2.2.2.2.2.2.2.2.1, HH.out.2.2.2.2.2.2.2.2.2.1, HH.out.2.2.2.2.2.2.2.2.2.2.1, HH.out.2.2.2.2.2.2.2.2.2.2.2.1, HH.out.2.2.2.2.2.2.2.2.2.2.2.2⟩
    · obtain rfl : _ = o := Option.some.inj ho
      have e2 : (2 : Nat) = 2 → (b1 = true ∧ b2 = false) := fun _ => ⟨hd ⟨1, .data⟩ (by simp) rfl, by simpa using hl⟩
      clear ho hd hl
      obtain ⟨u1, u2⟩ := e2 rfl
      obtain rfl := g1' u1
      clear e2 g0' g1' g2' g3' g4' g5' g6' g7' g8' g9' g10' g11' g12'
      refine wpOp_step rfl (fun K' hK' => ?_)
      go_simp
      refine hK' _ _ ⟨b0, b1, true, b3, b4, b5, b6, b7, b8, b9, b10, b11, x4, _, _, x7, x8, x9, x10, x11, x12, x13, x14, rfl, rfl, HH.out.1, HH.out.2.1, fun _ => ⟨u1, rfl⟩, fun h => ⟨rfl, (HH.out.2.2.2.1 h).2⟩, HH.out.2.2.2.2.1, HH.out.2.2.2.2.2.1, HH.out.2.2.2.2.2.2.1, HH.out.2.2.2.2.2.2.2.1, HH.out.2.2.2.2.2.2.2.2.1, HH.out.2.2.2.2.2.2.2.2.2.1, HH.out.2.2.2.2.2.2.2.2.2.2.1, HH.out.2.2.2.2.2.2.2.2.2.2.2.1, HH.out.2.2.2.2.2.2.2.2.2.2.2.2⟩
    · obtain rfl : _ = o := Option.some.inj ho
      have e3 : (3 : Nat) = 3 → (b2 = true ∧ b3 = false) := fun _ => ⟨hd ⟨2, .data⟩ (by simp) rfl, by simpa using hl⟩
      clear ho hd hl
      obtain ⟨u1, u2⟩ := e3 rfl
      obtain ⟨-, rfl⟩ := g2' u1
      clear e3 g0' g1' g2' g3' g4' g5' g6' g7' g8' g9' g10' g11' g12'
      refine wpOp_step rfl (fun K' hK' => ?_)
      go_simp
      refine hK' _ _ ⟨b0, b1, b2, true, b4, b5, b6, b7, b8, b9, b10, b11, x4, x5, _, _, x8, x9, x10, x11, x12, x13, x14, rfl, rfl, HH.out.1, HH.out.2.1, HH.out.2.2.1, fun _ => ⟨u1, rfl⟩, fun h => ⟨rfl, (HH.out.2.2.2.2.1 h).2⟩, HH.out.2.2.2.2.2.1, HH.out.2.2.2.2.2.2.1, HH.out.2.2.2.2.2.2.2.1, HH.out.2.2.2.2.2.2.2.2.1, HH.out.2.2.2.2.2.2.2.2.2.1, HH.out.2.2.2.2.2.2.2.2.2.2.1, HH.out.2.2.2.2.2.2.2.2.2.2.2.1, HH.out.2.2.2.2.2.2.2.2.2.2.2.2⟩
    · obtain rfl : _ = o := Option.some.inj ho
      have e4 : (4 : Nat) = 4 → (b3 = true ∧ b4 = false) := fun _ => ⟨hd ⟨3, .data⟩ (by simp) rfl, by simpa using hl⟩
      clear ho hd hl
      obtain ⟨u1, u2⟩ := e4 rfl
      obtain ⟨-, rfl⟩ := g3' u1
      have hb8 : b8 = false := by cases hb : b8 with | false => rfl | true => exact absurd (g11' hb).2 (by rw [u2]; decide)
      have c9 : w9.cell? ⟨g, 2, none⟩ = some tv := by
        cases hb : b6 with
        | false => rw [g9' hb]; exact HF.out.1
        | true =>
          obtain ⟨-, va, vc, w4, hc, -, q1, -, q2, -⟩ := g8' hb
          cases hb7 : b7 with
          | false => rw [q1 hb7]; exact (HF.out.2.1 w4 va vc hc).1
          | true => rw [q2 hb7 hb8]; exact (HF.out.2.1 w4 va vc hc).2
      clear e4 g0' g1' g2' g3' g4' g5' g6' g7' g8' g9' g10' g11' g12'
      refine wpOp_step rfl (fun K' hK' => ?_)
      go_simp
      refine hK' _ _ ⟨b0, b1, b2, b3, true, b5, b6, b7, b8, b9, b10, b11, x4, x5, x6, _, _, x9, x10, x11, x12, x13, x14, rfl, rfl, HH.out.1, HH.out.2.1, HH.out.2.2.1, HH.out.2.2.2.1, fun _ => ⟨u1, rfl⟩, HH.out.2.2.2.2.2.1, HH.out.2.2.2.2.2.2.1, HH.out.2.2.2.2.2.2.2.1, HH.out.2.2.2.2.2.2.2.2.1, HH.out.2.2.2.2.2.2.2.2.2.1, HH.out.2.2.2.2.2.2.2.2.2.2.1, fun h => ⟨(HH.out.2.2.2.2.2.2.2.2.2.2.2.1 h).1, rfl⟩, HH.out.2.2.2.2.2.2.2.2.2.2.2.2⟩
    · obtain rfl : _ = o := Option.some.inj ho
      have e5 : (5 : Nat) = 5 → (b5 = false) := fun _ => by simpa using hl
      clear ho hd hl
      clear e5 g0' g1' g2' g3' g4' g5' g6' g7' g8' g9' g10' g11' g12'
      refine wpOp_step rfl (fun K' hK' => ?_)
      go_simp
      refine hK' _ _ ⟨b0, b1, b2, b3, b4, true, b6, b7, b8, b9, b10, b11, x4, x5, x6, x7, x8, _, x10, x11, x12, x13, x14, rfl, rfl, HH.out.1, HH.out.2.1, HH.out.2.2.1, HH.out.2.2.2.1, HH.out.2.2.2.2.1, fun _ => rfl, HH.out.2.2.2.2.2.2.1, HH.out.2.2.2.2.2.2.2.1, fun h => ⟨rfl, (HH.out.2.2.2.2.2.2.2.2.1 h).2⟩, HH.out.2.2.2.2.2.2.2.2.2.1, HH.out.2.2.2.2.2.2.2.2.2.2.1, HH.out.2.2.2.2.2.2.2.2.2.2.2.1, HH.out.2.2.2.2.2.2.2.2.2.2.2.2⟩
    · obtain rfl : _ = o := Option.some.inj ho
      have e6 : (6 : Nat) = 6 → (b5 = true ∧ b6 = false) := fun _ => ⟨hd ⟨5, .data⟩ (by simp) rfl, by simpa using hl⟩
      clear ho hd hl
      obtain ⟨u5, u6⟩ := e6 rfl
      obtain rfl := g5' u5
      obtain rfl := g9' u6
      have hb7 : b7 = false := by cases hb : b7 with | false => rfl | true => exact absurd (g10' hb) (by rw [u6]; decide)
      have hb8 : b8 = false := by cases hb : b8 with | false => rfl | true => exact absurd (g11' hb).1 (by rw [hb7]; decide)
      have c9 := HF.out.2.2.1
      clear e6 g0' g1' g2' g3' g4' g5' g6' g7' g8' g9' g10' g11' g12'
      refine wpOp_step rfl (fun K' hK' => ?_)
      go_simp
      refine c9.mono ?_
      rintro e w4 ⟨va, vc, rfl, hc⟩
      refine hK' _ _ ⟨b0, b1, b2, b3, b4, b5, true, b7, b8, b9, b10, b11, x4, x5, x6, x7, x8, _, _, x11, x12, x13, x14, rfl, rfl, HH.out.1, HH.out.2.1, HH.out.2.2.1, HH.out.2.2.2.1, HH.out.2.2.2.2.1, HH.out.2.2.2.2.2.1, HH.out.2.2.2.2.2.2.1, HH.out.2.2.2.2.2.2.2.1, fun _ => ⟨u5, va, vc, w4, hc, rfl, fun _ => rfl, (fun h => by rw [hb7] at h; cases h), (fun h => by rw [hb7] at h; cases h), (fun h => by rw [hb8] at h; cases h)⟩, (fun h => by cases h), fun _ => rfl, HH.out.2.2.2.2.2.2.2.2.2.2.2.1, HH.out.2.2.2.2.2.2.2.2.2.2.2.2⟩
    · obtain rfl : _ = o := Option.some.inj ho
      have e7 : (7 : Nat) = 7 → (b6 = true ∧ b7 = false) := fun _ => ⟨hd ⟨6, .data⟩ (by simp) rfl, by simpa using hl⟩
      clear ho hd hl
      obtain ⟨u6, u7⟩ := e7 rfl
      obtain ⟨u5, va, vc, w4, hc, rfl, q1, -, -, -⟩ := g8' u6
      obtain rfl := q1 u7
      have hb8 : b8 = false := by cases hb : b8 with | false => rfl | true => exact absurd (g11' hb).1 (by rw [u7]; decide)
      clear e7 g0' g1' g2' g3' g4' g5' g6' g7' g8' g9' g10' g11' g12' q1
      refine wpOp_step rfl (fun K' hK' => ?_)
      go_simp
      refine hK' _ _ ⟨b0, b1, b2, b3, b4, b5, b6, true, b8, b9, b10, b11, x4, x5, x6, x7, x8, x9, _, _, x12, x13, x14, rfl, rfl, HH.out.1, HH.out.2.1, HH.out.2.2.1, HH.out.2.2.2.1, HH.out.2.2.2.2.1, HH.out.2.2.2.2.2.1, HH.out.2.2.2.2.2.2.1, HH.out.2.2.2.2.2.2.2.1, fun _ => ⟨u5, va, vc, w9, hc, rfl, (fun h => by cases h), fun _ => rfl, fun _ _ => rfl, (fun h => by rw [hb8] at h; cases h)⟩, (fun h => by rw [u6] at h; cases h), fun _ => u6, fun h => ⟨rfl, (HH.out.2.2.2.2.2.2.2.2.2.2.2.1 h).2⟩, HH.out.2.2.2.2.2.2.2.2.2.2.2.2⟩
    · obtain rfl : _ = o := Option.some.inj ho
      have e8 : (8 : Nat) = 8 → (b4 = true ∧ b7 = true ∧ b8 = false) := fun _ => ⟨hd ⟨4, .data⟩ (by simp) rfl, hd ⟨7, .data⟩ (by simp) rfl, by simpa using hl⟩
      clear ho hd hl
      obtain ⟨u4, u7, u8⟩ := e8 rfl
      obtain ⟨-, rfl⟩ := g4' u4
      have u6 := g10' u7
      obtain ⟨u5, va, vc, w4, hc, rfl, -, q0, q2, -⟩ := g8' u6
      obtain rfl := q0 u7
      obtain rfl := q2 u7 u8
      have hb11 : b11 = false := by cases hb : b11 with | false => rfl | true => exact absurd (g12' hb).1 (by rw [u8]; decide)
      obtain ⟨g6, cap6, w6, run6, ha⟩ := HF.out.2.2.2.1 w4 va vc hc
      clear e8 g0' g1' g2' g3' g4' g5' g6' g7' g8' g9' g10' g11' g12' q0 q2
      refine wpOp_step rfl (fun K' hK' => ?_)
      have run7 : (Builtin.append_ #[30, 30] 30 #[x8, .slice (some ⟨w4.heap.size, 0, none⟩) 1 1]).run Try.prog (w4.alloc (.cells #[.slice va len vc] 29)) = .ok (.slice (some ⟨g6, 0, none⟩) (m + 1) cap6) w6 := run6
      rw [if_pos (by rfl)]
      unfold Oper.wp
      simp [execOp, resolve, invoke, builtin, Act.eval, run7, Result.andThen, Oper.upon, Act.put]
      refine hK' _ _ ⟨b0, b1, b2, b3, b4, b5, b6, b7, true, b9, b10, b11, x4, x5, x6, x7, _, x9, _, _, _, x13, x14, rfl, rfl, HH.out.1, HH.out.2.1, HH.out.2.2.1, HH.out.2.2.2.1, HH.out.2.2.2.2.1, HH.out.2.2.2.2.2.1, HH.out.2.2.2.2.2.2.1, HH.out.2.2.2.2.2.2.2.1, fun _ => ⟨u5, va, vc, w4, hc, rfl, (fun h => by rw [u7] at h; cases h), fun _ => rfl, (fun _ h => by cases h), fun _ => ⟨g6, cap6, w6, ha, rfl, fun _ => rfl, (fun h => by rw [hb11] at h; cases h)⟩⟩, (fun h => by rw [u6] at h; cases h), HH.out.2.2.2.2.2.2.2.2.2.2.1, fun _ => ⟨u7, u4⟩, fun h => ⟨rfl, (HH.out.2.2.2.2.2.2.2.2.2.2.2.2 h).2⟩⟩
    · obtain rfl : _ = o := Option.some.inj ho
      have e9 : (9 : Nat) = 9 → (b0 = true ∧ b9 = false) := fun _ => ⟨hd ⟨0, .data⟩ (by simp) rfl, by simpa using hl⟩
      clear ho hd hl
      obtain ⟨u0, u9⟩ := e9 rfl
      obtain rfl := g0' u0
      clear e9 g0' g1' g2' g3' g4' g5' g6' g7' g8' g9' g10' g11' g12'
      refine wpOp_step rfl (fun K' hK' => ?_)
      go_simp
      refine hK' _ _ ⟨b0, b1, b2, b3, b4, b5, b6, b7, b8, true, b10, b11, _, x5, x6, x7, x8, x9, x10, x11, x12, _, x14, rfl, rfl, HH.out.1, HH.out.2.1, HH.out.2.2.1, HH.out.2.2.2.1, HH.out.2.2.2.2.1, HH.out.2.2.2.2.2.1, fun _ => ⟨u0, rfl⟩, fun h => ⟨rfl, (HH.out.2.2.2.2.2.2.2.1 h).2⟩, HH.out.2.2.2.2.2.2.2.2.1, HH.out.2.2.2.2.2.2.2.2.2.1, HH.out.2.2.2.2.2.2.2.2.2.2.1, HH.out.2.2.2.2.2.2.2.2.2.2.2.1, HH.out.2.2.2.2.2.2.2.2.2.2.2.2⟩
    · obtain rfl : _ = o := Option.some.inj ho
      have e10 : (10 : Nat) = 10 → (b9 = true ∧ b10 = false) := fun _ => ⟨hd ⟨9, .data⟩ (by simp) rfl, by simpa using hl⟩
      clear ho hd hl
      obtain ⟨u9, u10⟩ := e10 rfl
      obtain ⟨-, rfl⟩ := g6' u9
      clear e10 g0' g1' g2' g3' g4' g5' g6' g7' g8' g9' g10' g11' g12'
      refine wpOp_step rfl (fun K' hK' => ?_)
      go_simp
      refine hK' _ _ ⟨b0, b1, b2, b3, b4, b5, b6, b7, b8, b9, true, b11, x4, x5, x6, x7, x8, x9, x10, x11, x12, _, _, rfl, rfl, HH.out.1, HH.out.2.1, HH.out.2.2.1, HH.out.2.2.2.1, HH.out.2.2.2.2.1, HH.out.2.2.2.2.2.1, HH.out.2.2.2.2.2.2.1, fun _ => ⟨u9, rfl⟩, HH.out.2.2.2.2.2.2.2.2.1, HH.out.2.2.2.2.2.2.2.2.2.1, HH.out.2.2.2.2.2.2.2.2.2.2.1, HH.out.2.2.2.2.2.2.2.2.2.2.2.1, fun h => ⟨(HH.out.2.2.2.2.2.2.2.2.2.2.2.2 h).1, rfl⟩⟩
    · obtain rfl : _ = o := Option.some.inj ho
      have e11 : (11 : Nat) = 11 → (b8 = true ∧ b10 = true ∧ b11 = false) := fun _ => ⟨hd ⟨8, .data⟩ (by simp) rfl, hd ⟨10, .data⟩ (by simp) rfl, by simpa using hl⟩
      clear ho hd hl
      obtain ⟨u8, u10, u11⟩ := e11 rfl
      obtain ⟨-, rfl⟩ := g7' u10
      have u7 := (g11' u8).1
      have u6 := g10' u7
      obtain ⟨u5, va, vc, w4, hc, rfl, -, q0, -, q3⟩ := g8' u6
      obtain ⟨g6, cap6, w6, ha, rfl, q4, -⟩ := q3 u8
      obtain rfl := q4 u11
      obtain ⟨c9, f9⟩ := HF.out.2.2.2.2 w4 va vc g6 cap6 w9 ha
      have HQ0 := Lib.hid q0
      clear e11 g0' g1' g2' g3' g4' g5' g6' g7' g8' g9' g10' g11' g12' q0 q3 q4
      refine wpOp_step rfl (fun K' hK' => ?_)
      go_simp
      refine hK' _ _ ⟨b0, b1, b2, b3, b4, b5, b6, b7, b8, b9, b10, true, x4, x5, x6, x7, x8, x9, _, x11, _, x13, _, rfl, rfl, HH.out.1, HH.out.2.1, HH.out.2.2.1, HH.out.2.2.2.1, HH.out.2.2.2.2.1, HH.out.2.2.2.2.2.1, HH.out.2.2.2.2.2.2.1, HH.out.2.2.2.2.2.2.2.1, fun _ => ⟨u5, va, vc, w4, hc, rfl, (fun h => by rw [u7] at h; cases h), HQ0.out, (fun _ h => by rw [u8] at h; cases h), fun _ => ⟨g6, cap6, w9, ha, rfl, (fun h => by cases h), fun _ => rfl⟩⟩, (fun h => by rw [u6] at h; cases h), HH.out.2.2.2.2.2.2.2.2.2.2.1, HH.out.2.2.2.2.2.2.2.2.2.2.2.1, fun _ => ⟨u8, u10⟩⟩
    · simp at ho
  · rintro ls a9 w9 ⟨b0, b1, b2, b3, b4, b5, b6, b7, b8, b9, b10, b11, x4, x5, x6, x7, x8, x9, x10, x11, x12, x13, x14, rfl, rfl, h0, h1, h2, h3, h4, h5, h6, h7, h8, h9, h10, h11, h12⟩ hall
    have v0 : b0 = true := by simpa using hall 0 _ rfl (by simp)
    have v1 : b1 = true := by simpa using hall 1 _ rfl (by simp [v0])
    have v2 : b2 = true := by simpa using hall 2 _ rfl (by simp [v0, v1])
    have v3 : b3 = true := by simpa using hall 3 _ rfl (by simp [v0, v1, v2])
    have v4 : b4 = true := by simpa using hall 4 _ rfl (by simp [v0, v1, v2, v3])
    have v5 : b5 = true := by simpa using hall 5 _ rfl (by simp [v0, v1, v2, v3, v4])
    have v6 : b6 = true := by simpa using hall 6 _ rfl (by simp [v0, v1, v2, v3, v4, v5])
    have v7 : b7 = true := by simpa using hall 7 _ rfl (by simp [v0, v1, v2, v3, v4, v5, v6])
    have v8 : b8 = true := by simpa using hall 8 _ rfl (by simp [v0, v1, v2, v3, v4, v5, v6, v7])
    have v9 : b9 = true := by simpa using hall 9 _ rfl (by simp [v0, v1, v2, v3, v4, v5, v6, v7, v8])
    have v10 : b10 = true := by simpa using hall 10 _ rfl (by simp [v0, v1, v2, v3, v4, v5, v6, v7, v8, v9])
    have v11 : b11 = true := by simpa using hall 11 _ rfl (by simp [v0, v1, v2, v3, v4, v5, v6, v7, v8, v9, v10])
    clear hall
    obtain ⟨u5, va, vc, w4, hc, rfl, -, q0, -, q3⟩ := h8 v6
    obtain ⟨g6, cap6, w6, ha, rfl, -, q4⟩ := q3 v8
    obtain rfl := q4 v11
    clear q0 q3 q4 h0 h1 h2 h3 h4 h5 h6 h7 h8 h9 h10 h11 h12
    have HD := Lib.hid ha
    clear ha hc
    rw [HX.out.2] at HD
    obtain ⟨d1, d2, d3, d4, d5, d6⟩ := HD.out
    rw [HX.out.1] at d4
    have hgw : g < w.heap.size := HH0.out.1.lt
    have hb4 : Below w.heap.size w w4 := ⟨d4.2.os, d4.2.tape, d4.2.output, d4.2.size, d4.2.block⟩
    have hb5 : Below w.heap.size w (w4.alloc (.cells #[.slice va len vc] 29)) := hb4.alloc hb4.size _
    have hs5 : w.heap.size < (w4.alloc (.cells #[.slice va len vc] 29)).heap.size := by rw [World.size_alloc]; have := hb4.size; omega
    have b6 : Blk w6 g T C := (d2.block g (Nat.lt_trans hgw hs5) (fun e => hT e.symm)).trans ((HH0.out.1.kept (Kept.of_below [] hb5) (by simp)))
    obtain ⟨W9, hW9⟩ : ∃ W9, w6.setCell ⟨g, 2, none⟩ (.slice (some ⟨g6, 0, none⟩) (m + 1) cap6) = W9 := ⟨_, rfl⟩
    have b9 : Blk W9 g T (C.setIfInBounds 2 (.slice (some ⟨g6, 0, none⟩) (m + 1) cap6)) := by rw [← hW9]; exact b6.set 2 _
    have c39 : W9.drew.cell? ⟨g, 3, none⟩ = some (.int .i64 (u : Int)) := by
      have h9 := b9.cell 3
      rw [Array.getElem?_setIfInBounds_ne (by omega), HH0.out.2.2.1] at h9
      exact h9
    have f39 : W9.drew.frozen? ⟨g, 3, none⟩ = false := b9.free 3
    have hse := sectors_any (len : Int)
    rw [secI_nat] at hse
    have hN8 := secN_le len
    have HE := Lib.hid (And.intro d1 (And.intro d2 (And.intro d3 (And.intro d4 (And.intro hb4 (And.intro hb5 (And.intro b9 hW9)))))))
    clear d1 d2 d3 d4 d5 d6 hb4 hb5 b6 b9 HD
    rw [hW9]
    clear hW9
    generalize hNN : secN len = NN at *
    have hwr : IntKind.i64.wrap ((u : Int) + (NN : Int)) = (u : Int) + (NN : Int) := by rw [IntKind.wrap_i64]; omega
    go_wp2_with fail
    go_region_with (first | (go_at_call 23; refine (hse _).mono ?_; rintro e w7 ⟨rfl, rfl⟩))
    all_goals
      go_end0
      refine ⟨rfl, ?_⟩
      rw [hNN]
      exact add_end (u := u) (NN := NN) (HX := trivial) HH0.out.1 HH0.out.2.1 hT HE.out.1 HE.out.2.1 HE.out.2.2.1 HE.out.2.2.2.1.1 HE.out.2.2.2.2.1 HE.out.2.2.2.2.2.1 HE.out.2.2.2.2.2.2.1 HE.out.2.2.2.2.2.2.2
  · exact ⟨false, false, false, false, false, false, false, false, false, false, false, false, _, _, _, _, _, _, _, _, _, _, _, rfl, rfl, (fun h => by cases h), (fun h => by cases h), (fun h => by cases h), (fun h => by cases h), (fun h => by cases h), (fun h => by cases h), (fun h => by cases h), (fun h => by cases h), (fun h => by cases h), fun _ => rfl, (fun h => by cases h), (fun h => by cases h), (fun h => by cases h)⟩
end Go.Proofs.Ytelpihlifdfgoaa
namespace Go.Proofs.Ytelpihlifdfgoaa
open Go.RowKit Go.Shelf
set_option linter.unusedVariables false

set_option maxRecDepth 100000 in
set_option maxHeartbeats 2000000 in
theorem wcheck_refused {w : World} {g t u p n s : Nat} {sv tv : Value} {b : Bool} (h : Blk w g 67 (lgcs t sv tv u p n s b)) (a : Option Addr) (len c : Nat) (hr : b = true ∨ 40000 < len) :
    Calls Try.prog 30 #[.pointer (some ⟨g, 0, none⟩), .slice a len c] w fun e w' => e = .returned (.int .i64 (if b then 8 else 3)) ∧ w = w' := by
  have hre := refuses_any (w := w) (g := g) (b := b) (h.cell 10) a len c
  have hz : (if b = true then (8 : Int) else if 40000 < len then 3 else 0) = if b then 8 else 3 := by
    rcases hr with rfl | hr
    · rfl
    · cases b <;> simp [hr]
  rw [hz] at hre
  obtain ⟨er, her⟩ : ∃ er : Int, (if b then (8 : Int) else 3) = er := ⟨_, rfl⟩
  rw [her] at hre ⊢
  have he0 : (er != 0) = true := by rw [← her]; cases b <;> rfl
  clear h her hz hr
  go_enter Try.func30, Try.ntmps30
  go_wp2_with fail
  refine hre.mono ?_
  rintro e w1 ⟨rfl, rfl⟩
  go_wp2
  go_ret
  exact ⟨rfl, rfl⟩

set_option maxRecDepth 100000 in
set_option maxHeartbeats 2000000 in
theorem wcheck_full {w : World} {g t u p n s : Nat} {sv tv : Value} (h : Blk w g 67 (lgcs t sv tv u p n s false)) (hs : s < 2) (a : Option Addr) (len c : Nat) (hl : len ≤ 40000) (hf : n < secN len ∨ t = 4294967295) :
    Calls Try.prog 30 #[.pointer (some ⟨g, 0, none⟩), .slice a len c] w fun e w' => e = .returned (.int .i64 6) ∧ Below w.heap.size w w' := by
  have hre := refuses_any (w := w) (g := g) (b := false) (h.cell 10) a len c
  rw [if_neg (by simp), if_neg (by omega)] at hre
  have hse := sectors_any (len : Int)
  rw [secI_nat] at hse
  have c9 : w.cell? ⟨g, 9, none⟩ = some (.int .i64 (s : Int)) := h.cell 9
  have c0 : w.drew.cell? ⟨g, 0, none⟩ = some (.int .u32 (t : Int)) := h.cell 0
  generalize secN len = N at *
  rcases (show s = 0 ∨ s = 1 by omega) with rfl | rfl
  · have c8 : w.drew.cell? ⟨g, 8, none⟩ = some (.int .i64 (n : Int)) := h.cell 8
    clear h
    by_cases hN : n < N
    · have hN2 : (n : Int) < (N : Int) := by omega
      clear hf
      go_enter Try.func30, Try.ntmps30
      go_wp2_with fail
      refine hre.mono ?_
      rintro e w1 ⟨rfl, rfl⟩
      go_wp2_with fail
      first | (go_region_with (first | (go_at_call 23; refine (hse _).mono ?_; rintro e w7 ⟨rfl, rfl⟩))) | fail
      all_goals
        go_wp2
        go_ret
        exact ⟨rfl, (Below.refl _ _).drew⟩
    · have hN2 : ¬ (n : Int) < (N : Int) := by omega
      obtain rfl : t = 4294967295 := by omega
      clear hf
      go_enter Try.func30, Try.ntmps30
      go_wp2_with fail
      refine hre.mono ?_
      rintro e w1 ⟨rfl, rfl⟩
      go_wp2_with fail
      first | (go_region_with (first | (go_at_call 23; refine (hse _).mono ?_; rintro e w7 ⟨rfl, rfl⟩))) | fail
      all_goals
        go_wp2
        go_ret
        exact ⟨rfl, (Below.refl _ _).drew⟩
  · have c8 : w.drew.cell? ⟨g, 6, none⟩ = some (.int .i64 (n : Int)) := h.cell 6
    clear h
    by_cases hN : n < N
    · have hN2 : (n : Int) < (N : Int) := by omega
      clear hf
      go_enter Try.func30, Try.ntmps30
      go_wp2_with fail
      refine hre.mono ?_
      rintro e w1 ⟨rfl, rfl⟩
      go_wp2_with fail
      first | (go_region_with (first | (go_at_call 23; refine (hse _).mono ?_; rintro e w7 ⟨rfl, rfl⟩))) | fail
      all_goals
        go_wp2
        go_ret
        exact ⟨rfl, (Below.refl _ _).drew⟩
    · have hN2 : ¬ (n : Int) < (N : Int) := by omega
      obtain rfl : t = 4294967295 := by omega
      clear hf
      go_enter Try.func30, Try.ntmps30
      go_wp2_with fail
      refine hre.mono ?_
      rintro e w1 ⟨rfl, rfl⟩
      go_wp2_with fail
      first | (go_region_with (first | (go_at_call 23; refine (hse _).mono ?_; rintro e w7 ⟨rfl, rfl⟩))) | fail
      all_goals
        go_wp2
        go_ret
        exact ⟨rfl, (Below.refl _ _).drew⟩
end Go.Proofs.Ytelpihlifdfgoaa
namespace Go.Proofs.Ytelpihlifdfgoaa
open Go.RowKit Go.Shelf
set_option linter.unusedVariables false

theorem errs_one (D : Dk) (x : RowW) : errsOf D [x] = layM D x.items := by
  unfold errsOf
  simp only [List.map_cons, List.map_nil, laysM]
  split
  · rename_i h; rw [← h]
  · rfl
/-- What is written for a frame. -/
def frmL (first t n : Nat) (l : List Nat) : List (Nat × Bk) := (List.range (secN l.length)).map fun k => (first + k, (partAt t n l k).blk)

theorem a_kept {w w' : World} {B p pb g : Nat} {bv : Value} {D : Dk} {a : Option Addr} (h : Dsk w B p pb bv D) (hs : Safe w a) (hap : ∀ x, a = some x → x.block ≠ p ∧ x.block ≠ pb ∧ x.block ≠ g) (hk : Kept (g :: fp p pb bv) w w') : ∀ x, a = some x → w'.heap[x.block]? = w.heap[x.block]? := by
  intro x hx
  obtain ⟨o, ho, hn⟩ := hs x hx
  refine hk.block _ (Array.getElem?_eq_some_iff.1 ho).1 (fun hm => ?_)
  simp only [fp, List.mem_cons, Option.mem_toList] at hm
  obtain ⟨h1, h2, h3⟩ := hap x hx
  rcases hm with h9 | h9 | h9 | h9
  · exact h3 h9
  · exact h1 h9
  · exact h2 h9
  · rcases h.buf.2 with h8 | ⟨q, cap, cur, e1, e2, e3, e4⟩
    · rw [h8.1] at h9; cases h9
    · rw [e1] at h9
      obtain rfl : q = x.block := by simpa [Value.ownBlock] using h9
      rw [e3] at ho
      cases ho
      simp [notRow] at hn
theorem g_far {w : World} {B p pb g : Nat} {bv : Value} {D : Dk} {cs : Array Value} (h : Dsk w B p pb bv D) (hg : Blk w g 67 cs) : g ∉ fp p pb bv := by
  intro hm
  simp only [fp, List.mem_cons, Option.mem_toList] at hm
  rcases hm with h9 | h9 | h9
  · exact hg.ne h.cells (by decide) h9
  · exact hg.ne h.plate (by decide) h9
  · rcases h.buf.2 with h8 | ⟨q, cap, cur, e1, e2, e3, e4⟩
    · rw [h8.1] at h9; cases h9
    · rw [e1] at h9
      obtain rfl : q = g := by simpa [Value.ownBlock] using h9
      exact absurd (Option.some.inj (hg.symm.trans e3)) (by simp)
theorem lies_same {w w' : World} {a : Option Addr} {l : List Nat} (hL : Lies w a l) (h : ∀ x, a = some x → w'.heap[x.block]? = w.heap[x.block]?) : Lies w' a l := by
  rcases hL with h9 | ⟨b, off, rfl, hb9, hc9⟩
  · exact .inl h9
  · have hs9 := h _ rfl
    refine .inr ⟨b, off, rfl, (cell_block_lt hs9 hb9), fun i hi => ?_⟩
    rw [← hc9 i hi]
    simp only [World.cell?, hs9]

attribute [local go_sem ↓] load_chain_rule store_chain_rule

set_option maxRecDepth 100000 in
set_option maxHeartbeats 4000000 in
theorem wcheck_done0 {w : World} {B p pb g t u n : Nat} {bv sv tv : Value} {D : Dk} (hD : Dsk w B p pb bv D) (hB : B ≤ w.heap.size) (h : Blk w g 67 (lgcs t sv tv u p n 0 false)) (hn : n ≤ 1000) (a : Option Addr) (len c : Nat) (l : List Nat) (hL : Lies w a l) (hl : l.length = len) (hlm : len ≤ 40000) (hc : len ≤ c) (hBy : Bys l) (hsf : Safe w a)
    (hap : ∀ x, a = some x → x.block ≠ p ∧ x.block ≠ pb ∧ x.block ≠ g) (h0 : a = none → len = 0) (hN : secN len ≤ n) (ht : t < 4294967295) :
    Calls Try.prog 30 #[.pointer (some ⟨g, 0, none⟩), .slice a len c] w fun e w' => e = .returned (.int .i64 (layM D (frmL (2 + n) (t + 1) 0 l)).2) ∧ ∃ bv', Dsk w' B p pb bv' (layM D (frmL (2 + n) (t + 1) 0 l)).1 ∧
      ((layM D (frmL (2 + n) (t + 1) 0 l)).2 = 0 → ∃ v, w'.ownsRow w.heap.size 5 1 v len (l.map byc) ∧ Blk w' g 67 (lgcs (t + 1) v (.slice none 0 0) (secN len) p n 1 false)) ∧
      ((layM D (frmL (2 + n) (t + 1) 0 l)).2 ≠ 0 → Blk w' g 67 (lgcs t sv tv u p n 0 true)) ∧ Kept (g :: fp p pb bv) w w' ∧ (∀ k, bv'.ownBlock = some k → bv.ownBlock = some k ∨ w.heap.size ≤ k) := by
  have hre := refuses_any (w := w) (g := g) (b := false) (h.cell 10) a len c
  rw [if_neg (by simp), if_neg (by omega)] at hre
  have hse := sectors_any (len : Int)
  rw [secI_nat] at hse
  have c9 : w.cell? ⟨g, 9, none⟩ = some (.int .i64 0) := h.cell 9
  have c0 : ∀ k, (w.drewN k).cell? ⟨g, 0, none⟩ = some (.int .u32 (t : Int)) := fun k => h.cell 0
  have c8 : ∀ k, (w.drewN k).cell? ⟨g, 8, none⟩ = some (.int .i64 (n : Int)) := fun k => h.cell 8
  have c7 : ∀ k, (w.drewN k).cell? ⟨g, 7, none⟩ = some (.int .i64 ((2 : Int) + (n : Int))) := fun k => h.cell 7
  have e1 : fcs (t + 1) 0 a len c = #[.int .u32 ((t : Int) + 1), .int .u32 0, .slice a len c] := by simp [fcs]
  have hro : ∀ W, Calls Try.prog 48 #[.agg #[.int .u32 ((t : Int) + 1), .int .u32 0, .slice a len c], .int .i64 ((2 : Int) + (n : Int))] W fun e w' =>
      e = .returned (.func (.func 64) #[] #[.pointer (some ⟨W.heap.size, 0, none⟩), .pointer (some ⟨W.heap.size + 1, 0, none⟩)]) ∧ Blk w' W.heap.size 105 (fcs (t + 1) 0 a len c) ∧ Blk w' (W.heap.size + 1) 3 #[.int .i64 ((2 + n : Nat) : Int)] ∧ Below W.heap.size W w' := fun W => by
    have h9 := rows_of (2 + n) (t + 1) 0 a len c l W
    rw [e1, show ((2 + n : Nat) : Int) = (2 : Int) + (n : Int) from by omega] at h9
    rw [e1, show ((2 + n : Nat) : Int) = (2 : Int) + (n : Int) from by omega]
    exact h9
  have hq1 : decide (n < secN len) = false := decide_eq_false (by omega)
  have hN2 : ¬ (n : Int) < (secN len : Int) := by omega
  have htn : ¬ ((t : Int) = 4294967295) := by omega
  have hq2 : ((t : Int) == 4294967295) = false := by simpa using htn
  have HH := Lib.hid (And.intro hD (And.intro h (And.intro hL (And.intro hsf (And.intro hap (And.intro h0 hBy))))))
  clear hD h hL hsf hap h0 hBy
  obtain ⟨LR, hLR⟩ : ∃ LR, layM D (frmL (2 + n) (t + 1) 0 l) = LR := ⟨_, rfl⟩
  rw [hLR]
  go_enter Try.func30, Try.ntmps30
  go_wp2_with fail
  refine hre.mono ?_
  rintro e w1 ⟨rfl, rfl⟩
  go_wp2_with fail
  go_quiet ((go_at_call 23; exact Calls.quiet_of_same ((hse _).mono fun _ _ h => ⟨h.1, h.2.symm⟩)))
  have hbq : Below w.heap.size w (w.drewN nq) := ⟨rfl, rfl, rfl, Nat.le_refl _, fun _ _ => rfl⟩
  have d0 := c0 nq
  have d7 := c7 nq
  have d9 : (w.drewN nq).cell? ⟨g, 9, none⟩ = some (.int .i64 0) := c9
  generalize w.drewN nq = W at *
  clear c0 c7 c8 c9 hre hse
  go_wp2_with fail
  refine (hro W).mono ?_
  rintro e W2 ⟨rfl, bf, bi, hb2⟩
  have hb2w : Below w.heap.size w W2 := hbq.trans (hb2.mono hbq.size)
  obtain ⟨W3, hW3⟩ : ∃ W3, W2.alloc (.cells #[.func (.func 64) #[] #[.pointer (some ⟨W.heap.size, 0, none⟩), .pointer (some ⟨W.heap.size + 1, 0, none⟩)]] 95) = W3 := ⟨_, rfl⟩
  have hb3 : Below w.heap.size w W3 := by rw [← hW3]; exact hb2w.alloc hb2w.size _
  have hb23 : Below W2.heap.size W2 W3 := by rw [← hW3]; exact (Below.refl _ _).alloc (Nat.le_refl _) _
  have br : Blk W3 W2.heap.size 95 (rowVals [frameR (2 + n) (t + 1) 0 l W.heap.size (W.heap.size + 1)]) := by rw [← hW3]; exact Blk.new _ _ _
  have hD3 := HH.out.1.later hb3
  have hg3 := HH.out.2.1.kept (Kept.of_below [] hb3) (by simp)
  have hpW : p < W.heap.size := Nat.lt_of_lt_of_le HH.out.1.lt hbq.size
  have hpbW : pb < W.heap.size := Nat.lt_of_lt_of_le HH.out.1.plate.lt hbq.size
  have htold := told_rows (w := W3) (first := 2 + n) (t := t + 1) (n := 0) hl hlm hc HH.out.2.2.2.2.2.2 (by omega) (by omega) (bf.kept (Kept.of_below [] hb23) (by simp)) (bi.kept (Kept.of_below [] hb23) (by simp)) (HH.out.2.2.1.kept hb3) (fun x hx => by
    obtain ⟨o, ho, h9⟩ := HH.out.2.2.2.1 x hx
    exact ⟨o, (hb3.block _ (Array.getElem?_eq_some_iff.1 ho).1).trans ho, h9⟩) (by omega)
  have hnC : ∀ q, q < W.heap.size → (∀ x, a = some x → x.block ≠ q) → q ∉ W.heap.size :: (W.heap.size + 1) :: (a.map (·.block)).toList := fun q hq hx hm => by
    simp only [List.mem_cons, Option.mem_toList] at hm
    rcases hm with h9 | h9 | h9
    · omega
    · omega
    · obtain ⟨x, hx9, h8⟩ := Option.map_eq_some_iff.1 h9
      exact hx x hx9 h8
  have hwr := wwrite_any hD3 (Nat.le_trans hB hb3.size) hg3 rfl rfl [frameR (2 + n) (t + 1) 0 l W.heap.size (W.heap.size + 1)] _ (hnC p hpW (fun x hx => (HH.out.2.2.2.2.1 x hx).1)) (hnC pb hpbW (fun x hx => (HH.out.2.2.2.2.1 x hx).2.1)) (fun x hx => by rw [List.mem_singleton.1 hx]; exact htold) br (by simp)
  rw [errs_one, show (frameR (2 + n) (t + 1) 0 l W.heap.size (W.heap.size + 1)).items = frmL (2 + n) (t + 1) 0 l from rfl, hLR] at hwr
  have HW := Lib.hid (And.intro hb3 (And.intro hg3 hb23))
  clear hD3 hg3 htold hnC br bf bi hb2 hb2w hb23 hb3 hro
  go_wp2_with fail
  refine hwr.mono ?_
  rintro e w4 ⟨rfl, bv', hD4, hg4, hk4, ho4⟩
  obtain ⟨D2, er⟩ := LR
  have hk04 : Kept (g :: fp p pb bv) w w4 := (Kept.of_below _ HW.out.1).trans hk4
  have hL4 : Lies w4 a l := lies_same HH.out.2.2.1 (a_kept HH.out.1 HH.out.2.2.2.1 HH.out.2.2.2.2.1 hk04)
  have hs4 : w.heap.size ≤ w4.heap.size := hk04.size
  have ho04 : ∀ k, bv'.ownBlock = some k → bv.ownBlock = some k ∨ w.heap.size ≤ k := fun k hk => (ho4 k hk).imp id (fun h9 => Nat.le_trans HW.out.1.size h9)
  by_cases he : er = 0
  · subst he
    rw [show decide (((D2, (0 : Int)) : Dk × Int).2 ≠ 0) = false from rfl] at hg4
    have hbe := begun_any (t + 1) (by omega) a len c l w4 hL4 hl hlm HH.out.2.2.2.2.2.1
    rw [show ((t + 1 : Nat) : Int) = (t : Int) + 1 from by omega] at hbe
    clear hwr
    go_wp2_with fail
    refine hbe.mono ?_
    rintro e w5 ⟨v, rfl, hown, hb5⟩
    obtain ⟨a2, c2, rfl⟩ := wown_slice hown
    have hg5 := hg4.kept (Kept.of_below [] hb5) (by simp)
    have hD5 := hD4.later hb5
    have hgp : ∀ i ∈ [g], i ∉ fp p pb bv' := fun i hi => (List.mem_singleton.1 hi) ▸ g_far hD5 hg5
    have hgl : g < w4.heap.size := hg4.lt
    have S := storeRes_of (P := Try.prog) (ty := 62) (o := 0) (vs := chcs (t + 1) (.slice a2 len c2) (.slice none 0 0) (secN len)) hg5 (by simp [lgcs, chcs]) (s_chain _ _ _ _) (by simp [chcs, Value.oneCell'])
    rw [show over ((lgcs t sv tv u p n 0 false).setIfInBounds 10 (.bool false)) 0 (chcs (t + 1) (.slice a2 len c2) (.slice none 0 0) (secN len)) = lgcs (t + 1) (.slice a2 len c2) (.slice none 0 0) (secN len) p n 0 false from rfl] at S
    have hg6 := hg5.row (lgcs (t + 1) (.slice a2 len c2) (.slice none 0 0) (secN len) p n 0 false)
    generalize hW6 : w5.setRow g (lgcs (t + 1) (.slice a2 len c2) (.slice none 0 0) (secN len) p n 0 false) = W6 at *
    have c9 : W6.cell? ⟨g, 9, none⟩ = some (.int .i64 0) := hg6.cell 9
    have z9 := hg6.free 9
    have H5 := Lib.hid (And.intro hg6 (And.intro hD5 (And.intro hown (And.intro hb5 hgp))))
    clear hg6 hg5 hg4 hD4 hD5 hown hb5 hgp hbe hk4 hL4
    go_wp2_with fail
    go_ret
    have hk5 : Kept [g] w5 (W6.setCell ⟨g, 9, none⟩ (.int .i64 1)) := by rw [← hW6]; exact ((Kept.refl [g] w5).setRow (.inl (by simp)) _).setCell (.inl (by simp)) _
    refine ⟨rfl, bv', H5.out.2.1.apart hk5 H5.out.2.2.2.2, ⟨_, ?_, H5.out.1.set 9 (.int .i64 1)⟩, (hk04.trans (Kept.of_below _ H5.out.2.2.2.1)).trans (hk5.more (by simp)), ho04⟩
    rcases H5.out.2.2.1.2 with h9 | ⟨q, cap, cur, h1, h2, h3, h4⟩
    · exact ⟨H5.out.2.2.1.1, .inl h9⟩
    · exact ⟨H5.out.2.2.1.1, .inr ⟨q, cap, cur, h1, by omega, (hk5.block q (Array.getElem?_eq_some_iff.1 h3).1 (by simp; omega)).trans h3, h4⟩⟩
  · have heb : (er != 0) = true := by simpa using he
    rw [show decide (((D2, er) : Dk × Int).2 ≠ 0) = true from decide_eq_true he] at hg4
    clear hwr
    go_wp2_with fail
    go_ret
    exact ⟨rfl, bv', hD4, hg4, hk04, ho04⟩
end Go.Proofs.Ytelpihlifdfgoaa
namespace Go.Proofs.Ytelpihlifdfgoaa
set_option linter.unusedVariables false

section
variable {P : Program} {ops : Array Oper} {Q : Exit → Act → World → Prop} {S : World → Prop}

/-- In every world that meets S the operation gives v, and leaves a world that meets S. -/
def GivesIf (P : Program) (ops : Array Oper) (S : World → Prop) (o : Oper) (v : Value) (a : Act) : Prop :=
  (Region.wanted o (yielded ops a.tmps) = true ∧ ∀ w, S w → ((∃ w', (execOp a.eval o).run P w = .ok (.value v) w' ∧ S w') ∨ ∃ f args, (execOp a.eval o).run P w = .ok (.enter f args) w ∧ Calls P f args w fun e w' => e = .returned v ∧ S w')) ∨
  (Region.wanted o (yielded ops a.tmps) = false ∧ v = undef)
theorem GivesIf.of_same {o : Oper} {v : Value} {a a' : Act} (hy : GivesIf P ops S o v a) (he : execOp a'.eval o = execOp a.eval o)
    (hw : Region.wanted o (yielded ops a'.tmps) = Region.wanted o (yielded ops a.tmps)) : GivesIf P ops S o v a' := by
  unfold GivesIf at *
  rw [he, hw]
  exact hy
theorem GivesIf.wpOp {i : Nat} {o : Oper} {v : Value} {a : Act} (hi : ops[i]? = some o) (hy : GivesIf P ops S o v a) {K : Act → World → Prop} {w : World} (hS : S w) (h : ∀ w', S w' → K (a.put o.dst v) w') : wpOp P ops Q i K a w := by
  unfold Go.wpOp
  simp only [hi]
  rcases hy with ⟨hw, hv⟩ | ⟨hw, rfl⟩
  · simp only [hw, if_true]
    refine .inl ?_
    unfold Oper.wp
    rcases hv w hS with ⟨w', h1, h2⟩ | ⟨f, args, h1, h2⟩
    · rw [h1]
      exact h w' h2
    · rw [h1]
      refine Calls.mono h2 ?_
      rintro e w' ⟨rfl, h3⟩
      exact h w' h3
  · simp only [hw, Bool.false_eq_true, if_false]; exact h w hS
/-- The operations, one behind the other in the order of the text. -/
def Lin (P : Program) (ops : Array Oper) (Q : Exit → Act → World → Prop) (S : World → Prop) : List Oper → Act → Prop
  | [], a => ∀ w, S w → Q .normal a w
  | o :: r, a => ∃ v, GivesIf P ops S o v a ∧ Lin P ops Q S r (a.put o.dst v)

theorem Lin.swap {x y : Oper} {r : List Oper} {a : Act} (hx : ∀ cs b, x.op ≠ .select cs b) (hy : ∀ cs b, y.op ≠ .select cs b) (hap : x.apart ops y = true) (h : Lin P ops Q S (x :: y :: r) a) : Lin P ops Q S (y :: x :: r) a := by
  obtain ⟨h1, h2, h3⟩ := Oper.apart_spec hap
  obtain ⟨vx, gx, vy, gy, h⟩ := h
  refine ⟨vy, gy.of_same ?_ ?_, vx, gx.of_same (execOp_put x hx a y.dst vy h3) (wanted_put x a y.dst vy h3), ?_⟩
  · exact (execOp_put y hy a x.dst vx h1).symm
  · exact (wanted_put y a x.dst vx h1).symm
  · rw [← Act.put_comm a vx vy h2]
    exact h
theorem Lin.front {o : Oper} {T2 : List Oper} (ho : ∀ cs b, o.op ≠ .select cs b) : ∀ (T1 : List Oper) (a : Act), (∀ x ∈ T1, (∀ cs b, x.op ≠ .select cs b) ∧ x.apart ops o = true) → Lin P ops Q S (T1 ++ o :: T2) a → Lin P ops Q S (o :: (T1 ++ T2)) a
  | [], _, _, h => h
  | x :: T1, a, hap, h => by
    obtain ⟨v, g, h⟩ := h
    have h2 := Lin.front ho T1 _ (fun y hy => hap y (by simp [hy])) h
    exact Lin.swap (hap x (by simp)).1 ho (hap x (by simp)).2 ⟨v, g, h2⟩

/-- What is not listed yet, in the order of the text. -/
def unl (ops : Array Oper) (listed : Array Bool) (is : List Nat) : List Oper := is.filterMap fun i => if listed.getD i true then none else ops[i]?
/-- Each operation waits for earlier ones alone, and each earlier one that it does not wait for is apart from it. -/
def linOk (ops : Array Oper) : Bool :=
  Region.noSelect ops && (List.range ops.size).all fun j => match ops[j]? with
    | none => true
    | some oj => oj.after.all (fun e => decide (e.on < j)) && (List.range j).all fun i => match ops[i]? with
      | none => true
      | some oi => oj.after.any (fun e => Region.binds .any e && e.on == i) || oi.apart ops oj
theorem linOk_spec (h : linOk ops = true) (j : Nat) (oj : Oper) (hj : ops[j]? = some oj) :
    (∀ e ∈ oj.after, e.on < j) ∧ ∀ i oi, i < j → ops[i]? = some oi → (∃ e ∈ oj.after, Region.binds .any e = true ∧ e.on = i) ∨ oi.apart ops oj = true := by
  simp only [linOk, Bool.and_eq_true, List.all_eq_true, List.mem_range] at h
  have h1 := h.2 j (Array.getElem?_eq_some_iff.1 hj).1
  simp only [hj, Bool.and_eq_true, List.all_eq_true, List.mem_range, Array.all_eq_true_iff_forall_mem, decide_eq_true_eq] at h1
  refine ⟨h1.1, fun i oi hi ho => ?_⟩
  have h2 := h1.2 i hi
  simp only [ho, Bool.or_eq_true] at h2
  rcases h2 with h2 | h2
  · obtain ⟨e, he, hb⟩ := Array.any_eq_true'.1 h2
    simp only [Bool.and_eq_true, beq_iff_eq] at hb
    exact .inl ⟨e, he, hb⟩
  · exact .inr h2
theorem unl_set (listed : Array Bool) (j : Nat) : ∀ (is : List Nat), j ∉ is → unl ops (listed.setIfInBounds j true) is = unl ops listed is
  | [], _ => rfl
  | i :: is, h => by
    have hne : j ≠ i := fun e => h (by simp [e])
    have ih := unl_set listed j is (fun e => h (by simp [e]))
    unfold unl at *
    simp only [List.filterMap_cons]
    rw [getD_set_ne true hne, ih]
theorem unl_app (listed : Array Bool) (is js : List Nat) : unl ops listed (is ++ js) = unl ops listed is ++ unl ops listed js := by simp [unl]
theorem unl_mem {listed : Array Bool} {is : List Nat} {x : Oper} (h : x ∈ unl ops listed is) : ∃ i ∈ is, listed.getD i true = false ∧ ops[i]? = some x := by
  obtain ⟨i, hi, h⟩ := List.mem_filterMap.1 h
  refine ⟨i, hi, ?_⟩
  cases hb : listed.getD i true with
  | true => rw [hb] at h; simp at h
  | false => rw [hb] at h; simpa using h
theorem range_split {j n : Nat} (h : j < n) : List.range n = List.range j ++ j :: List.range' (j + 1) (n - j - 1) := by
  apply List.ext_getElem?
  intro k
  rw [List.getElem?_append, List.length_range]
  by_cases h1 : k < j
  · rw [if_pos h1, List.getElem?_range h1, List.getElem?_range (by omega)]
  · rw [if_neg h1]
    by_cases h2 : k = j
    · subst h2
      rw [Nat.sub_self, List.getElem?_cons_zero, List.getElem?_range h]
    · obtain ⟨q, rfl⟩ : ∃ q, k = j + 1 + q := ⟨k - (j + 1), by omega⟩
      rw [show j + 1 + q - j = q + 1 from by omega, List.getElem?_cons_succ]
      by_cases h3 : j + 1 + q < n
      · rw [List.getElem?_range h3, List.getElem?_range' (by omega)]
        simp
      · rw [List.getElem?_eq_none (by simp; omega), List.getElem?_eq_none (by simp; omega)]

theorem lin_any (hok : linOk ops = true) : ∀ (fuel : Nat) (listed : Array Bool) (a : Act) (w : World), listed.size = ops.size → (unl ops listed (List.range ops.size)).length ≤ fuel → S w → Lin P ops Q S (unl ops listed (List.range ops.size)) a → wpAny P .any ops Q fuel listed a w := by
  have hsel : ∀ (j : Nat) (o : Oper), ops[j]? = some o → ∀ cs b, o.op ≠ .select cs b := fun j o ho cs b => Region.noSelect_spec (by simp only [linOk, Bool.and_eq_true] at hok; exact hok.1) j o cs b ho
  have hnil : ∀ listed : Array Bool, listed.size = ops.size → Region.ready .any ops listed = [] → unl ops listed (List.range ops.size) = [] := by
    intro listed hsz hr
    have key : ∀ j, j < ops.size → listed.getD j true = true := by
      intro j
      induction j using Nat.strongRecOn with
      | ind j ih =>
        intro hj
        cases hb : listed.getD j true with
        | true => rfl
        | false =>
          have hoj : ops[j]? = some ops[j] := Array.getElem?_eq_getElem hj
          have hm : j ∈ Region.ready .any ops listed := mem_ready.2 ⟨hb, _, hoj, fun e he _ => by
            have hlt := (linOk_spec hok j _ hoj).1 e he
            have h9 := ih e.on hlt (by omega)
            have h8 : e.on < listed.size := by omega
            simp [h8] at h9 ⊢
            exact h9⟩
          rw [hr] at hm
          cases hm
    unfold unl
    rw [List.filterMap_eq_nil_iff]
    intro i hi
    rw [key i (List.mem_range.1 hi)]
    simp
  have hpick : ∀ (listed : Array Bool) (j : Nat), listed.size = ops.size → j ∈ Region.ready .any ops listed → ∃ oj T1 T2, ops[j]? = some oj ∧ unl ops listed (List.range ops.size) = T1 ++ oj :: T2 ∧ unl ops (listed.setIfInBounds j true) (List.range ops.size) = T1 ++ T2 ∧ ∀ x ∈ T1, (∀ cs b, x.op ≠ .select cs b) ∧ x.apart ops oj = true := by
    intro listed j hsz hj
    obtain ⟨hun, oj, hoj, hall⟩ := mem_ready.1 hj
    have hlt : j < ops.size := (Array.getElem?_eq_some_iff.1 hoj).1
    have hn1 : j ∉ List.range j := by simp
    have hn2 : j ∉ List.range' (j + 1) (ops.size - j - 1) := fun hm => by have := List.mem_range'_1.1 hm; omega
    refine ⟨oj, unl ops listed (List.range j), unl ops listed (List.range' (j + 1) (ops.size - j - 1)), hoj, ?_, ?_, ?_⟩
    · rw [range_split hlt, unl_app]
      congr 1
      unfold unl
      rw [List.filterMap_cons, hun, hoj]
      simp
    · rw [range_split hlt, unl_app, unl_set _ _ _ hn1]
      congr 1
      have e : unl ops (listed.setIfInBounds j true) (j :: List.range' (j + 1) (ops.size - j - 1)) = unl ops (listed.setIfInBounds j true) (List.range' (j + 1) (ops.size - j - 1)) := by
        have hs : (listed.setIfInBounds j true).getD j true = true := by
          have : j < listed.size := by omega
          simp [this]
        unfold unl
        rw [List.filterMap_cons, hs]
        simp
      rw [e, unl_set _ _ _ hn2]
    · intro x hx
      obtain ⟨i, hi, hui, hxi⟩ := unl_mem hx
      have hij := List.mem_range.1 hi
      refine ⟨hsel i x hxi, ?_⟩
      rcases (linOk_spec hok j oj hoj).2 i x hij hxi with ⟨e, he, hb, rfl⟩ | h9
      · have h8 := hall e he hb
        have h7 : e.on < listed.size := by omega
        simp [h7] at h8 hui
        rw [hui] at h8
        cases h8
      · exact h9
  intro fuel
  induction fuel with
  | zero =>
    intro listed a w hsz hlen hS hL
    have h0 : unl ops listed (List.range ops.size) = [] := List.length_eq_zero_iff.1 (by omega)
    rw [h0] at hL
    refine ⟨?_, hL w hS⟩
    refine List.eq_nil_iff_forall_not_mem.2 (fun j hj => ?_)
    obtain ⟨oj, T1, T2, _, h1, _⟩ := hpick listed j hsz hj
    rw [h0] at h1
    simp at h1
  | succ fuel ih =>
    intro listed a w hsz hlen hS hL
    refine ⟨fun hr => ?_, fun j hj => ?_⟩
    · rw [hnil listed hsz hr] at hL
      exact hL w hS
    · obtain ⟨oj, T1, T2, hoj, h1, h2, h3⟩ := hpick listed j hsz hj
      rw [h1] at hL hlen
      obtain ⟨v, g, hL2⟩ := Lin.front (hsel j oj hoj) T1 a h3 hL
      refine g.wpOp hoj hS (fun w' hS' => ih (listed.setIfInBounds j true) _ w' (by simp [hsz]) ?_ hS' ?_)
      · rw [h2]
        simp at hlen ⊢
        omega
      · rw [h2]
        exact hL2

theorem fm_congr {α β : Type} {f g : α → Option β} : ∀ (l : List α), (∀ i ∈ l, f i = g i) → l.filterMap f = l.filterMap g
  | [], _ => rfl
  | x :: l, h => by rw [List.filterMap_cons, List.filterMap_cons, h x (by simp), fm_congr l (fun i hi => h i (by simp [hi]))]
theorem fm_range {α : Type} : ∀ l : List α, (List.range l.length).filterMap (fun i => l[i]?) = l
  | [] => rfl
  | x :: l => by
    rw [List.length_cons, List.range_succ_eq_map, List.filterMap_cons, List.filterMap_map]
    have := fm_range l
    simpa [Function.comp_def] using this
/-- THE BEGINNING: a region that draws its order, walked in the order of the text. -/
theorem wp_region_lin {id : Nat} {l : List Oper} {a : Act} {w : World} (S : World → Prop) (hm : P.follows .mixedOrders = true) (hok : linOk l.toArray = true) (hS : S w.drew) (h : Lin P l.toArray Q S l a) : (Code.region id l.toArray true).wp P Q a w := by
  refine wp_region_any hm ?_
  have hu : unl l.toArray (Array.replicate l.toArray.size false) (List.range l.toArray.size) = l := by
    have h1 : ∀ i ∈ List.range l.toArray.size, (if (Array.replicate l.toArray.size false).getD i true = true then none else l.toArray[i]?) = l[i]? := by
      intro i hi
      have hlt := List.mem_range.1 hi
      simp at hlt
      simp [hlt]
    unfold unl
    rw [fm_congr _ h1]
    exact fm_range l
  refine lin_any hok _ _ _ _ (by simp) ?_ hS ?_
  · rw [hu]; simp
  · rw [hu]; exact h

theorem lin_nil {a : Act} (h : ∀ w, S w → Q .normal a w) : Lin P ops Q S [] a := h
/-- An operation that gives its value in every world that meets S, and leaves the world as it is. -/
theorem lin_op {o : Oper} {r : List Oper} {a : Act} {v : Value} (hw : Region.wanted o (yielded ops a.tmps) = true) (hy : ∀ w, S w → (execOp a.eval o).run P w = .ok (.value v) w) (h : Lin P ops Q S r (a.put o.dst v)) : Lin P ops Q S (o :: r) a :=
  ⟨v, .inl ⟨hw, fun w hS => .inl ⟨w, hy w hS, hS⟩⟩, h⟩
/-- An operation whose guard is off. -/
theorem lin_off {o : Oper} {r : List Oper} {a : Act} (hw : Region.wanted o (yielded ops a.tmps) = false) (h : Lin P ops Q S r (a.put o.dst undef)) : Lin P ops Q S (o :: r) a :=
  ⟨undef, .inr ⟨hw, rfl⟩, h⟩
/-- A call that gives its value in every world that meets S, and leaves one that meets S. -/
theorem lin_call {o : Oper} {r : List Oper} {a : Act} {v : Value} {f : Nat} {args : Array Value} (hw : Region.wanted o (yielded ops a.tmps) = true) (hy : ∀ w, (execOp a.eval o).run P w = .ok (.enter f args) w) (hc : ∀ w, S w → Calls P f args w fun e w' => e = .returned v ∧ S w') (h : Lin P ops Q S r (a.put o.dst v)) : Lin P ops Q S (o :: r) a :=
  ⟨v, .inl ⟨hw, fun w hS => .inr ⟨f, args, hy w, hc w hS⟩⟩, h⟩
/-- A call of a Go function by its number. -/
theorem lin_fn {o : Oper} {r : List Oper} {a : Act} {v : Value} {f : Nat} {c : Call} {args : Array Value} (hw : Region.wanted o (yielded ops a.tmps) = true) (ho : o.op = .call c) (hc : c.callee = .value (.func f)) (he : ∀ args w, (callFunc f args).run P w = .ok (.enter f args) w)
    (hcl : ∀ w, S w → Calls P f args w fun e w' => e = .returned v ∧ S w') (ha : c.args.map a.eval = args) (h : Lin P ops Q S r (a.put o.dst v)) : Lin P ops Q S (o :: r) a := by
  refine lin_call (f := f) (args := args) hw (fun w => ?_) hcl h
  simp only [execOp, ho, resolve, hc, ha, Act.eval, Deferred.ofValue, invoke, Sem.run_bind, Sem.run_pure, Result.andThen_ok]
  have e1 := he (#[] ++ args ++ #[]) w
  simp only [Array.empty_append, Array.append_empty] at e1 ⊢
  exact e1
end
end Go.Proofs.Ytelpihlifdfgoaa
