/-
  Append of a log, done or refused for want of room. Nothing here is a statement of the document.
-/
import Derived.Test.YtkfpkolgikpcpaaWalQ
import Derived.Test.YtkfpkolgikpcpaaLinZ
namespace Go.Proofs.Ytkfpkolgikpcpaa
open Go.RowKit Go.Shelf
set_option linter.unusedVariables false
/-- Where an area begins. -/
def areaN (n c : Nat) : Nat := if c = 0 then 2 else 2 + n
theorem tv_far {w : World} {B p pb BT m : Nat} {bv tv : Value} {D : Dk} {vs : List Value} (h : Dsk w B p pb bv D) (ht : w.ownsRow BT 22 1 tv m vs) : ∀ k, tv.ownBlock = some k → k ∉ fp p pb bv := by
  intro k hk hm
  rcases ht.2 with ⟨rfl, _⟩ | ⟨q, cap, cur, rfl, e2, hg, e4⟩
  · simp [Value.ownBlock] at hk
  · obtain rfl : q = k := by simpa [Value.ownBlock] using hk
    have hg : Blk w q 22 cur := hg
    simp only [fp, List.mem_cons, Option.mem_toList] at hm
    rcases hm with h9 | h9 | h9
    · exact hg.ne h.cells (by decide) h9
    · exact hg.ne h.plate (by decide) h9
    · rcases h.buf.2 with h8 | ⟨q', cap', cur', e1', e2', e3', e4'⟩
      · rw [h8.1] at h9; cases h9
      · rw [e1'] at h9
        obtain rfl : q' = q := by simpa [Value.ownBlock] using h9
        exact absurd (Option.some.inj (hg.symm.trans e3')) (by simp)
theorem tv_ne {w : World} {BT m g : Nat} {tv : Value} {vs : List Value} {cs : Array Value} (hg : Blk w g 71 cs) (ht : w.ownsRow BT 22 1 tv m vs) : tv.ownBlock ≠ some g := by
  intro hk
  rcases ht.2 with ⟨rfl, _⟩ | ⟨q, cap, cur, rfl, e2, h9, e4⟩
  · simp [Value.ownBlock] at hk
  · obtain rfl : q = g := by simpa [Value.ownBlock] using hk
    have h9 : Blk w q 22 cur := h9
    exact h9.ne hg (by decide) rfl
set_option maxRecDepth 100000 in
set_option maxHeartbeats 1000000 in
theorem wappend_full {w : World} {g t u p n m : Nat} {sv : Value} {ta : Option Addr} {tc c : Nat} (h : Blk w g 71 (lgcs t sv (.slice ta m tc) u p n c false)) (hc2 : c < 2) (hn : n ≤ 1000) (hu : u ≤ n) (a : Option Addr) (len cp : Nat) (hlm : len ≤ 40000) (hN : n - u < secN len) :
    Calls Try.prog 11 #[.pointer (some ⟨g, 0, none⟩), .slice a len cp] w fun e w' => e = .returned (.int .i64 6) ∧ Below w.heap.size w w' := by
  have hre := refuses_any (w := w) (g := g) (b := false) (h.cell 10) a len cp
  rw [if_neg (by simp), if_neg (by omega)] at hre
  have hse := sectors_any (len : Int)
  rw [secI_nat] at hse
  have hlf := wleft_any h hc2 hu hn
  have hd : (n : Int) - (u : Int) < (secN len : Int) := by omega
  clear h
  generalize secN len = s at *
  go_enter Try.func11, Try.ntmps11
  go_wp2_with fail
  refine hre.mono ?_
  rintro e w1 ⟨rfl, rfl⟩
  go_wp2_with fail
  refine (hse _).mono ?_
  rintro e w1 ⟨rfl, rfl⟩
  go_wp2_with fail
  refine hlf.mono ?_
  rintro e w2 ⟨rfl, hb2⟩
  go_wp2_with fail
  go_ret
  exact ⟨rfl, hb2⟩
attribute [local go_sem ↓] load_chain_rule store_chain_rule
set_option maxRecDepth 100000 in
set_option maxHeartbeats 4000000 in
theorem wappend_done {w : World} {B p pb g t u n m BT : Nat} {bv sv : Value} {D : Dk} {ta : Option Addr} {tc c : Nat} {vs : List Value} (hD : Dsk w B p pb bv D) (hB : B ≤ w.heap.size) (h : Blk w g 71 (lgcs t sv (.slice ta m tc) u p n c false)) (hc2 : c < 2) (hn : n ≤ 1000) (hu : u ≤ n) (hm : m ≤ 1000) (ht : t ≤ 4294967295) (htv : w.ownsRow BT 22 1 (.slice ta m tc) m vs) (hBT : BT ≤ w.heap.size)
    (a : Option Addr) (len cp : Nat) (l : List Nat) (hL : Lies w a l) (hl : l.length = len) (hlm : len ≤ 40000) (hcp : len ≤ cp) (hBy : Bys l) (hsf : Safe w a) (hap : ∀ x, a = some x → x.block ≠ p ∧ x.block ≠ pb ∧ x.block ≠ g) (h0 : a = none → len = 0) (hN : secN len ≤ n - u) :
    Calls Try.prog 11 #[.pointer (some ⟨g, 0, none⟩), .slice a len cp] w fun e w' => e = .returned (.int .i64 (layM D (frmL (areaN n c + u) t (m + 1) l)).2) ∧ ∃ bv', Dsk w' B p pb bv' (layM D (frmL (areaN n c + u) t (m + 1) l)).1 ∧
      ((layM D (frmL (areaN n c + u) t (m + 1) l)).2 = 0 → ∃ v tv', w'.ownsRow w.heap.size 5 1 v len (l.map byc) ∧ w'.ownsRow BT 22 1 tv' (m + 1) (vs ++ [v]) ∧ Blk w' g 71 (lgcs t sv tv' (u + secN len) p n c false)) ∧
      ((layM D (frmL (areaN n c + u) t (m + 1) l)).2 ≠ 0 → Blk w' g 71 (lgcs t sv (.slice ta m tc) u p n c true)) ∧ Kept (g :: ((.slice ta m tc : Value).ownBlock.toList ++ fp p pb bv)) w w' ∧ (∀ k, bv'.ownBlock = some k → bv.ownBlock = some k ∨ w.heap.size ≤ k) := by
  have hre := refuses_any (w := w) (g := g) (b := false) (h.cell 10) a len cp
  rw [if_neg (by simp), if_neg (by omega)] at hre
  have hse := sectors_any (len : Int)
  rw [secI_nat] at hse
  have hlf := wleft_any h hc2 hu hn
  have hd : decide ((n : Int) - (u : Int) < (secN len : Int)) = false := decide_eq_false (by omega)
  have hdn : ¬ (n : Int) - (u : Int) < (secN len : Int) := by omega
  obtain ⟨F, hF⟩ : ∃ F, areaN n c = F := ⟨_, rfl⟩
  have hF2 : F ≤ 1002 := by rw [← hF]; unfold areaN; split <;> omega
  have hFc : ∀ (w' : World) (b' : Bool), Blk w' g 71 (lgcs t sv (.slice ta m tc) u p n c b') → w'.cell? ⟨g, 5 + c * 2, none⟩ = some (.int .i64 (F : Int)) := fun w' b' h9 => by
    rw [h9.cell, ← hF]
    rcases (show c = 0 ∨ c = 1 by omega) with rfl | rfl
    · rfl
    · show some (Value.int .i64 ((2 : Int) + (n : Int))) = _
      simp [areaN]
  rw [hF]
  have HH := Lib.hid (And.intro hD (And.intro h (And.intro hL (And.intro hsf (And.intro hap (And.intro h0 (And.intro hBy (And.intro htv (And.intro hFc (And.intro hc2 hu))))))))))
  obtain ⟨LR, hLR⟩ : ∃ LR, layM D (frmL (F + u) t (m + 1) l) = LR := ⟨_, rfl⟩
  rw [hLR]
  obtain ⟨s, hs⟩ : ∃ s, secN len = s := ⟨_, rfl⟩
  rw [hs] at hse hd hdn ⊢
  have HS := Lib.hid (And.intro hs hN)
  clear hs hN hD h hL hsf hap h0 hBy htv hFc hF
  go_enter Try.func11, Try.ntmps11
  go_wp2_with fail
  refine hre.mono ?_
  rintro e w1 ⟨rfl, rfl⟩
  go_wp2_with fail
  refine (hse _).mono ?_
  rintro e w1 ⟨rfl, rfl⟩
  go_wp2_with fail
  refine hlf.mono ?_
  rintro e W ⟨rfl, hbW⟩
  clear hre hse hlf
  have HbW := Lib.hid hbW
  clear hbW
  go_wp2_with fail
  have hbW := HbW.out
  have hS0 : ∃ b', Blk W.drew g 71 (lgcs t sv (.slice ta m tc) u p n c b') := ⟨false, (HH.out.2.1.kept (Kept.of_below [] hbW) (by simp)).drew⟩
  have hbq : Below w.heap.size w W.drew := hbW.drew
  obtain ⟨S, hS⟩ : ∃ S : World → Prop, S = fun w' => ∃ b', Blk w' g 71 (lgcs t sv (.slice ta m tc) u p n c b') := ⟨_, rfl⟩
  have hSi : ∀ (w' : World) (b' : Bool), Blk w' g 71 (lgcs t sv (.slice ta m tc) u p n c b') → S w' := fun w' b' h9 => by rw [hS]; exact ⟨b', h9⟩
  have L9 : ∀ w', S w' → w'.cell? ⟨g, 9, none⟩ = some (.int .i64 (c : Int)) := fun w' h9 => by rw [hS] at h9; obtain ⟨b', h9⟩ := h9; exact h9.cell 9
  have L3 : ∀ w', S w' → w'.cell? ⟨g, 3, none⟩ = some (.int .i64 (u : Int)) := fun w' h9 => by rw [hS] at h9; obtain ⟨b', h9⟩ := h9; exact h9.cell 3
  have LF : ∀ w', S w' → w'.cell? ⟨g, 5 + c * 2, none⟩ = some (.int .i64 (F : Int)) := fun w' h9 => by rw [hS] at h9; obtain ⟨b', h9⟩ := h9; exact HH.out.2.2.2.2.2.2.2.2.1 _ _ h9
  obtain ⟨CC, hCC⟩ : ∃ CC, chcs t sv (.slice ta m tc) u = CC := ⟨_, rfl⟩
  have L0 : ∀ w', S w' → (loadSem 68 (.pointer (some ⟨g, 0, none⟩))).run Try.prog w' = .ok (.agg CC) w' := fun w' h9 => by
    rw [hS] at h9; obtain ⟨b', h9⟩ := h9
    rw [← hCC]
    exact loadRes_of (o := 0) (vs := chcs t sv (.slice ta m tc) u) h9 (fun j hj => by
      have : j < 4 := hj
      rcases (show j = 0 ∨ j = 1 ∨ j = 2 ∨ j = 3 by omega) with rfl | rfl | rfl | rfl <;> rfl) _ Try.underlying68 rfl (s_chain _ _ _ _)
  have hnx := fun w' => next_of t sv ta m tc u (by omega) a len cp w'
  rw [hCC] at hnx
  obtain ⟨FC, hFC⟩ : ∃ FC, fcs t (m + 1) a len cp = FC := ⟨_, rfl⟩
  have hro := fun w' => rows_of (F + u) t (m + 1) a len cp l w'
  rw [hFC] at hnx
  simp only [hFC] at hro
  have hSW : S W.drew := by rw [hS]; exact hS0
  have HFC := Lib.hid (And.intro hFC (And.intro hbq hSi))
  clear hS0 hbq hFC hSi hbW
  have hc0 : ¬ (c : Int) < 0 := by omega
  have hc2i : (c : Int) < 2 := by omega
  obtain ⟨X, hX⟩ : ∃ X, F + u = X := ⟨_, rfl⟩
  have hadd : wrap64 ((F : Int) + (u : Int)) = (X : Int) := by unfold wrap64; omega
  rw [hX] at hLR
  have hro : ∀ W, Calls Try.prog 38 #[.agg FC, .int .i64 (X : Int)] W fun e w' =>
      e = .returned (.func (.func 59) #[] #[.pointer (some ⟨W.heap.size, 0, none⟩), .pointer (some ⟨W.heap.size + 1, 0, none⟩)]) ∧ Blk w' W.heap.size 79 FC ∧ Blk w' (W.heap.size + 1) 3 #[.int .i64 (X : Int)] ∧ Below W.heap.size W w' := fun W => by
    have := hro W
    rw [hX] at this
    exact this
  have HX := Lib.hid hX
  clear hX
  refine wp_region_linY S [6, 23, 24, 25] [0, 1, 2, 3, 4, 5, 7, 8, 9, 10, 11, 12, 13, 14, 15, 16, 17, 18, 19, 20, 21, 22, 6, 23, 24, 25, 26] (by kernel_rfl) (by kernel_rfl) hSW ?_
  (repeat (first | (refine linX_off rfl rfl (by rfl) ?_; (try simp only [Act.put, List.getElem_toArray, List.getElem_cons_zero, List.getElem_cons_succ, List.setIfInBounds_toArray, List.set_cons_zero, List.set_cons_succ])) | (refine linX_op (v := ?_) rfl rfl (by rfl) (fun w9 hS9 => ?_) ?_; rotate_left; (focus (((have k0 := L0 w9 hS9; have k1 := L9 w9 hS9; have k2 := L3 w9 hS9; have k3 := LF w9 hS9; go_simp; (try go_bits)) <;> with_reducible rfl))); (try simp only [Act.put, List.getElem_toArray, List.getElem_cons_zero, List.getElem_cons_succ, List.setIfInBounds_toArray, List.set_cons_zero, List.set_cons_succ]))))
  refine linX_call (f := 46) (args := #[.agg CC, .slice a len cp]) rfl rfl (by rfl) rfl rfl (enters_of Try.func46 (by kernel_rfl) rfl) ?_ ?_
  · simp [Act.eval]
  refine (hnx _).mono ?_
  rintro e W2 ⟨rfl, hb2⟩
  have hb2' : Below w.heap.size w W2 := HFC.out.2.1.trans (hb2.mono HFC.out.2.1.size)
  refine ⟨_, rfl, HFC.out.2.2 _ _ (HH.out.2.1.kept (Kept.of_below [] hb2') (by simp)), ?_⟩
  (try simp only [Act.put, List.getElem_toArray, List.getElem_cons_zero, List.getElem_cons_succ, List.setIfInBounds_toArray, List.set_cons_zero, List.set_cons_succ])
  (repeat (first | (refine linX_off rfl rfl (by rfl) ?_; (try simp only [Act.put, List.getElem_toArray, List.getElem_cons_zero, List.getElem_cons_succ, List.setIfInBounds_toArray, List.set_cons_zero, List.set_cons_succ])) | (refine linX_op (v := ?_) rfl rfl (by rfl) (fun w9 hS9 => ?_) ?_; rotate_left; (focus (((have k0 := L0 w9 hS9; have k1 := L9 w9 hS9; have k2 := L3 w9 hS9; have k3 := LF w9 hS9; go_simp; (try go_bits)) <;> with_reducible rfl))); (try simp only [Act.put, List.getElem_toArray, List.getElem_cons_zero, List.getElem_cons_succ, List.setIfInBounds_toArray, List.set_cons_zero, List.set_cons_succ]))))
  refine linX_call (f := 38) (args := #[.agg FC, .int .i64 (X : Int)]) rfl rfl (by rfl) rfl rfl (enters_of Try.func38 (by kernel_rfl) rfl) ?_ ?_
  · simp [Act.eval]
    have := HX.out
    omega
  refine (hro _).mono ?_
  rintro e W3 ⟨rfl, bf, bi, hb3⟩
  have hb3' : Below w.heap.size w W3 := hb2'.trans (hb3.mono hb2'.size)
  refine ⟨_, rfl, HFC.out.2.2 _ _ (HH.out.2.1.kept (Kept.of_below [] hb3') (by simp)), ?_⟩
  (try simp only [Act.put, List.getElem_toArray, List.getElem_cons_zero, List.getElem_cons_succ, List.setIfInBounds_toArray, List.set_cons_zero, List.set_cons_succ])
  have hWs : w.heap.size ≤ W2.heap.size := hb2'.size
  have hF2' : frameR X t (m + 1) l W2.heap.size (W2.heap.size + 1) = frameR X t (m + 1) l W2.heap.size (W2.heap.size + 1) := rfl
  obtain ⟨W4, hW4⟩ : ∃ W4, W3.alloc (.cells (rowVals [frameR X t (m + 1) l W2.heap.size (W2.heap.size + 1)]) 74) = W4 := ⟨_, rfl⟩
  have hb34 : Below W3.heap.size W3 W4 := by rw [← hW4]; exact (Below.refl _ _).alloc (Nat.le_refl _) _
  have hb4 : Below w.heap.size w W4 := hb3'.trans (hb34.mono hb3'.size)
  have br : Blk W4 W3.heap.size 74 (rowVals [frameR X t (m + 1) l W2.heap.size (W2.heap.size + 1)]) := by rw [← hW4]; exact Blk.new _ _ _
  have hW4' : W3.alloc (.cells #[.func (.func 59) #[] #[.pointer (some ⟨W2.heap.size, 0, none⟩), .pointer (some ⟨W2.heap.size + 1, 0, none⟩)]] 74) = W4 := hW4
  refine linX_do (v := .slice (some ⟨W3.heap.size, 0, none⟩) 1 1) (w' := W4) rfl rfl (by rfl) ?_ (HFC.out.2.2 _ _ (HH.out.2.1.kept (Kept.of_below [] hb4) (by simp))) ?_
  · (focus ((go_simp; (try go_bits)) <;> with_reducible rfl))
  (try simp only [Act.put, List.getElem_toArray, List.getElem_cons_zero, List.getElem_cons_succ, List.setIfInBounds_toArray, List.set_cons_zero, List.set_cons_succ])
  have hD4 := HH.out.1.later hb4
  have hg4 := HH.out.2.1.kept (Kept.of_below [] hb4) (by simp)
  have hpW : p < W2.heap.size := Nat.lt_of_lt_of_le HH.out.1.lt hWs
  have hpbW : pb < W2.heap.size := Nat.lt_of_lt_of_le HH.out.1.plate.lt hWs
  have htold := told_rows (w := W4) (first := X) (t := t) (n := m + 1) hl hlm hcp HH.out.2.2.2.2.2.2.1 (by omega) (by omega) (by rw [HFC.out.1]; exact bf.kept (Kept.of_below [] hb34) (by simp)) (bi.kept (Kept.of_below [] hb34) (by simp)) (HH.out.2.2.1.kept hb4) (fun x hx => by
    obtain ⟨o, ho, h9⟩ := HH.out.2.2.2.1 x hx
    exact ⟨o, (hb4.block _ (Array.getElem?_eq_some_iff.1 ho).1).trans ho, h9⟩) (by have := HX.out; omega)
  have hnC : ∀ q, q < W2.heap.size → (∀ x, a = some x → x.block ≠ q) → q ∉ W2.heap.size :: (W2.heap.size + 1) :: (a.map (·.block)).toList := fun q hq hx hm => by
    simp only [List.mem_cons, Option.mem_toList] at hm
    rcases hm with h9 | h9 | h9
    · omega
    · omega
    · obtain ⟨x, hx9, h8⟩ := Option.map_eq_some_iff.1 h9
      exact hx x hx9 h8
  have hwr := wwrite_any hD4 (Nat.le_trans hB hb4.size) hg4 rfl rfl [frameR X t (m + 1) l W2.heap.size (W2.heap.size + 1)] _ (hnC p hpW (fun x hx => (HH.out.2.2.2.2.1 x hx).1)) (hnC pb hpbW (fun x hx => (HH.out.2.2.2.2.1 x hx).2.1)) (fun x hx => by rw [List.mem_singleton.1 hx]; exact htold) br (by simp)
  rw [errs_one, show (frameR X t (m + 1) l W2.heap.size (W2.heap.size + 1)).items = frmL X t (m + 1) l from rfl, hLR] at hwr
  have HW := Lib.hid (And.intro hb4 (And.intro hg4 hWs))
  clear hD4 hg4 htold hnC br bf bi hb2 hb2' hb34 hb3 hb3' hb4 hro hnx hpW hpbW hF2'
  refine linX_call (f := 36) (args := #[.pointer (some ⟨g, 0, none⟩), .slice (some ⟨W3.heap.size, 0, none⟩) 1 1]) rfl rfl (by rfl) rfl rfl (enters_of Try.func36 (by kernel_rfl) rfl) ?_ ?_
  · simp [Act.eval]
  refine hwr.mono ?_
  rintro e w4 ⟨rfl, bv', hD5, hg5, hk5, ho5⟩
  clear hwr
  refine ⟨_, rfl, HFC.out.2.2 _ _ hg5, ?_⟩
  (try simp only [Act.put, List.getElem_toArray, List.getElem_cons_zero, List.getElem_cons_succ, List.setIfInBounds_toArray, List.set_cons_zero, List.set_cons_succ])
  (repeat (first | (refine linX_off rfl rfl (by rfl) ?_; (try simp only [Act.put, List.getElem_toArray, List.getElem_cons_zero, List.getElem_cons_succ, List.setIfInBounds_toArray, List.set_cons_zero, List.set_cons_succ])) | (refine linX_op (v := ?_) rfl rfl (by rfl) (fun w9 hS9 => ?_) ?_; rotate_left; (focus (((have k0 := L0 w9 hS9; have k1 := L9 w9 hS9; have k2 := L3 w9 hS9; have k3 := LF w9 hS9; go_simp; (try go_bits)) <;> with_reducible rfl))); (try simp only [Act.put, List.getElem_toArray, List.getElem_cons_zero, List.getElem_cons_succ, List.setIfInBounds_toArray, List.set_cons_zero, List.set_cons_succ]))))
  refine linX_nil ?_
  obtain ⟨D2, er⟩ := LR
  have hk04 : Kept (g :: fp p pb bv) w w4 := (Kept.of_below _ HW.out.1).trans hk5
  have hL5 : Lies w4 a l := lies_same HH.out.2.2.1 (a_kept HH.out.1 HH.out.2.2.2.1 HH.out.2.2.2.2.1 hk04)
  have hs4 : w.heap.size ≤ w4.heap.size := hk04.size
  have ho04 : ∀ k, bv'.ownBlock = some k → bv.ownBlock = some k ∨ w.heap.size ≤ k := fun k hk => (ho5 k hk).imp id (fun h9 => Nat.le_trans HW.out.1.size h9)
  have htv4 : w4.ownsRow BT 22 1 (.slice ta m tc) m vs := by
    rcases HH.out.2.2.2.2.2.2.2.1.2 with h9 | ⟨q, cap, cur, h1, h2, h3, h4⟩
    · exact ⟨HH.out.2.2.2.2.2.2.2.1.1, .inl h9⟩
    · have hq1 : (Value.slice ta m tc).ownBlock = some q := by rw [h1]; rfl
      have hq2 := tv_far HH.out.1 HH.out.2.2.2.2.2.2.2.1 q hq1
      have hq3 : q ≠ g := fun e => tv_ne HH.out.2.1 HH.out.2.2.2.2.2.2.2.1 (by rw [hq1, e])
      exact ⟨HH.out.2.2.2.2.2.2.2.1.1, .inr ⟨q, cap, cur, h1, h2, (hk04.block q (Array.getElem?_eq_some_iff.1 h3).1 (by simp; exact ⟨hq3, hq2⟩)).trans h3, h4⟩⟩
  by_cases he : er = 0
  · subst he
    rw [show decide (((D2, (0 : Int)) : Dk × Int).2 ≠ 0) = false from rfl] at hg5
    have hg5' : Blk w4 g 71 (lgcs t sv (.slice ta m tc) u p n c false) := hg5
    have had := add_any hg5' (by simp [lgcs]) rfl rfl htv4 (tv_ne hg5' htv4) hm (by have := HH.out.2.2.2.2.2.2.2.2.2.2; omega) (Nat.le_trans hBT hs4) a len cp l hL5 hl hlm HH.out.2.2.2.2.2.1
    have H5 := Lib.hid (And.intro hD5 (And.intro hg5' (And.intro hk04 (And.intro htv4 (And.intro ho04 hs4)))))
    clear hD5 hg5 hg5' hk5 hk04 hL5 htv4 ho5 ho04 hs4 L0 L9 L3 LF
    go_wp2_with fail
    refine had.mono ?_
    rintro e w6 ⟨rfl, v, tv', hv, htv', hg6, hk6, ho6⟩
    clear had
    go_wp2_with fail
    go_ret
    have hne : ∀ i ∈ g :: (Value.slice ta m tc).ownBlock.toList, i ∉ fp p pb bv' := fun i hi => by
      rcases List.mem_cons.1 hi with h9 | h9
      · exact h9 ▸ g_far H5.out.1 H5.out.2.1
      · exact tv_far H5.out.1 H5.out.2.2.2.1 i (by simpa using h9)
    refine ⟨rfl, bv', H5.out.1.apart hk6 hne, ⟨v, ?_, tv', htv', ?_⟩, (H5.out.2.2.1.more ?_).trans (hk6.more ?_), H5.out.2.2.2.2.1⟩
    · rcases hv.2 with h9 | ⟨q, cap, cur, h1, h2, h3⟩
      · exact ⟨hv.1, .inl h9⟩
      · exact ⟨hv.1, .inr ⟨q, cap, cur, h1, Nat.le_trans H5.out.2.2.2.2.2 h2, h3⟩⟩
    · rw [HS.out.1] at hg6
      exact hg6
    · intro i hi
      simp only [List.mem_cons, List.mem_append] at hi ⊢
      rcases hi with h9 | h9
      · exact .inl h9
      · exact .inr (.inr h9)
    · intro i hi
      simp only [List.mem_cons, List.mem_append] at hi ⊢
      rcases hi with h9 | h9
      · exact .inl h9
      · exact .inr (.inl h9)
  · have heb : (er != 0) = true := by simpa using he
    rw [show decide (((D2, er) : Dk × Int).2 ≠ 0) = true from decide_eq_true he] at hg5
    have hg5' : Blk w4 g 71 (lgcs t sv (.slice ta m tc) u p n c true) := hg5
    clear L0 L9 L3 LF
    go_wp2_with fail
    go_ret
    refine ⟨rfl, bv', hD5, hg5', hk04.more ?_, ho04⟩
    intro i hi
    simp only [List.mem_cons, List.mem_append] at hi ⊢
    rcases hi with h9 | h9
    · exact .inl h9
    · exact .inr (.inr h9)
end Go.Proofs.Ytkfpkolgikpcpaa
