/-
  Bytes appended to bytes that a call owns; the contract of table.Encode. Nothing here is a statement of the document.
-/
import Derived.Test.YtclkfmblogkakaaGreatDoorRtZb
import Derived.Test.YtclkfmblogkakaaGreatDoorTbS
import Derived.Test.YtclkfmblogkakaaGreatDoorTdA
import Derived.Test.YtclkfmblogkakaaGreatDoorLinV
namespace Go.Proofs.YtclkfmblogkakaaGreatDoor
open Go.RowKit Go.Shelf
set_option linter.unusedVariables false
set_option maxRecDepth 100000
attribute [local go_sem ↓] load_b16_rule store_b16_rule load_ad_rule store_ad_rule load_px_rule store_px_rule build_ad_rule build_px_rule build_b16_rule load_rib_rule store_rib_rule build_rib_rule build_bat_rule load_tab_rule store_tab_rule build_tab_rule build_up_rule upbuild_rule
/-- What the makers of the third region give. -/
def wkF (W : World) (i : Nat) (v : Value) (w : World) : Prop :=
  (i = 1 → v = .agg tenP.cs) ∧ (i = 3 → ∃ g, v = .slice (some ⟨g, 0, none⟩) 1 1 ∧ W.heap.size ≤ g ∧ Blk w g 46 u3.cs) ∧
  (i = 5 → ∃ a c, v = .tuple #[.agg #[.slice a 1 c], .int .i64 0] ∧ OwnRo w W.heap.size (.slice a 1 c) [x1]) ∧
  (i = 9 → ∃ g, v = .pointer (some ⟨g, 0, none⟩) ∧ W.heap.size ≤ g ∧ Blk w g 26 #[.slice none 0 0])
theorem wkF.later {W w w' : World} {i : Nat} {v : Value} (h : wkF W i v w) (k : Below w.heap.size w w') : wkF W i v w' := by
  refine ⟨h.1, fun e => ?_, fun e => ?_, fun e => ?_⟩
  · obtain ⟨g, h1, h2, h3⟩ := h.2.1 e
    exact ⟨g, h1, h2, h3.later k⟩
  · obtain ⟨a, c, h1, h2⟩ := h.2.2.1 e
    exact ⟨a, c, h1, h2.later k⟩
  · obtain ⟨g, h1, h2, h3⟩ := h.2.2.2 e
    exact ⟨g, h1, h2, h3.later k⟩
theorem wkF_1 (W w : World) : wkF W 1 (.agg tenP.cs) w := ⟨fun _ => rfl, fun e => (by cases e), fun e => (by cases e), fun e => (by cases e)⟩
theorem wkF_3 {W w : World} {g : Nat} (h : W.heap.size ≤ g) (hb : Blk w g 46 u3.cs) : wkF W 3 (.slice (some ⟨g, 0, none⟩) 1 1) w := ⟨fun e => (by cases e), fun _ => ⟨g, rfl, h, hb⟩, fun e => (by cases e), fun e => (by cases e)⟩
theorem wkF_5 {W w : World} {a : Option Addr} {c : Nat} (h : OwnRo w W.heap.size (.slice a 1 c) [x1]) : wkF W 5 (.tuple #[.agg #[.slice a 1 c], .int .i64 0]) w := ⟨fun e => (by cases e), fun e => (by cases e), fun _ => ⟨a, c, rfl, h⟩, fun e => (by cases e)⟩
theorem wkF_9 {W w : World} {g : Nat} (h : W.heap.size ≤ g) (hb : Blk w g 26 #[.slice none 0 0]) : wkF W 9 (.pointer (some ⟨g, 0, none⟩)) w := ⟨fun e => (by cases e), fun e => (by cases e), fun e => (by cases e), fun _ => ⟨g, rfl, h, hb⟩⟩
theorem wkF_ne (W : World) : ∀ i, [1, 3, 5, 9].contains i = true → ∃ v w, wkF W i v w := by
  intro i hi
  have hi2 : i = 1 ∨ i = 3 ∨ i = 5 ∨ i = 9 := by simpa using hi
  rcases hi2 with rfl | rfl | rfl | rfl
  · exact ⟨_, W, wkF_1 W W⟩
  · exact ⟨_, _, wkF_3 (Nat.le_refl _) (Blk.new W _ _)⟩
  · refine ⟨_, W.alloc (.cells x1.cs 57), wkF_5 (a := some ⟨W.heap.size, 0, none⟩) (c := 1) ⟨by simp [rocs_one, Ro.size], .inr ⟨W.heap.size, 1, x1.cs, rfl, Nat.le_refl _, Blk.new W _ _, Nat.le_refl _, by unfold maxLen; omega, by rw [Ro.size], ?_⟩⟩⟩
    rw [rocs_one, List.take_of_length_le (by simp [Ro.size])]
  · exact ⟨_, _, wkF_9 (Nat.le_refl _) (Blk.new W _ _)⟩
set_option maxHeartbeats 4000000 in
theorem wakes11_any (w : World) (hW : Wid w) : Calls Tryz.prog 4 #[] w fun e w' => e = .returned (.bool true) ∧ Below w.heap.size w w' := by
  have BZ := build_rib0
  have HE1 := eight11_any w
  go_enter Tryz.func4, Tryz.ntmps4
  go_wp2_with fail
  refine HE1.mono ?_
  rintro e w1 ⟨rfl, hb1⟩
  have BU1 := build_u1 w1
  have HE2 := eight11_any w1
  go_wp2_with fail
  refine HE2.mono ?_
  rintro e w2 ⟨rfl, hb2⟩
  have BU2 := build_u2 w2
  have BS := upbuild2_run w2
  obtain ⟨W3, hW3⟩ : ∃ W3, w2.alloc (.cells (u1.cs ++ u2.cs) 46) = W3 := ⟨_, rfl⟩
  rw [hW3] at BS
  have hb3 : Below w2.heap.size w2 W3 := by rw [← hW3]; exact (Below.refl _ _).alloc (Nat.le_refl _) _
  have bU : Blk W3 w2.heap.size 46 (u1.cs ++ u2.cs) := by rw [← hW3]; exact Blk.new _ _ _
  have BB := build_bat1 (some ⟨w2.heap.size, 0, none⟩) 2 2 W3
  have hb03 := bel_trans hb1 (bel_trans hb2 hb3)
  have HA := rapply_any none 0 0 [] (some ⟨w2.heap.size, 0, none⟩) 2 2 [u1, u2] W3 (hW.later hb03) rfl (by omega) (.inl rfl) (fun _ => rfl) rfl (by omega) (by omega) (up_at2 bU)
  have H0 := Lib.hid (And.intro hW hb03)
  clear hW3 hb3 bU HE1 HE2 hb1 hb2 hb03 hW
  go_wp2_with fail
  refine HA.mono ?_
  rintro e w4 ⟨a4, c4, M, er, rfl, hO, hA, hb4⟩
  obtain ⟨rfl, rfl⟩ := wk_1 hA
  rw [show ([x2, x1] : List Ro).length = 2 from rfl] at hO ⊢
  have ST := st_rib (a2 := a4) (n2 := 2) (c2 := c4) (Blk.new w4 26 #[.slice none 0 0])
  rw [World.setRow_alloc_new] at ST
  obtain ⟨W5, hW5⟩ : ∃ W5, w4.alloc (.cells #[.slice a4 2 c4] 26) = W5 := ⟨_, rfl⟩
  rw [hW5] at ST
  have b5 : Blk W5 w4.heap.size 26 #[.slice a4 2 c4] := by rw [← hW5]; exact Blk.new _ _ _
  have k45 : Below w4.heap.size w4 W5 := by rw [← hW5]; exact (Below.refl _ _).alloc (Nat.le_refl _) _
  have hb05 := bel_trans H0.out.2 (bel_trans hb4 k45)
  have hO5 := hO.later k45
  have LR5 := rib_t b5 W5 (Below.refl _ _)
  have HBe := rbest_any a4 2 c4 [x2, x1] W5 (H0.out.1.later hb05) rfl (by omega) hO5.at'.1 hO5.at'.2
  have H5 := Lib.hid (And.intro b5 (And.intro hO5 hb05))
  clear hA hO hW5 b5 k45 hb05 hO5 HA hb4 BU1 BU2 BS BB
  go_wp2_with (with_reducible refine wpList_alloc_z rfl 26 rfl #[.slice none 0 0] 1 z_rib ?_)
  refine HBe.mono ?_
  rintro e w6 ⟨a6, c6, T, er, rfl, hO6, hA6, hb6⟩
  obtain ⟨rfl, rfl⟩ := wk_2 hA6
  rw [show ([⟨tenP, 9⟩] : List Rt).length = 1 from rfl] at hO6 ⊢
  have ST6 := st_tab (a2 := a6) (n2 := 1) (c2 := c6) (Blk.new w6 49 #[.slice none 0 0])
  rw [World.setRow_alloc_new] at ST6
  obtain ⟨W7, hW7⟩ : ∃ W7, w6.alloc (.cells #[.slice a6 1 c6] 49) = W7 := ⟨_, rfl⟩
  rw [hW7] at ST6
  have b7 : Blk W7 w6.heap.size 49 #[.slice a6 1 c6] := by rw [← hW7]; exact Blk.new _ _ _
  have k67 : Below w6.heap.size w6 W7 := by rw [← hW7]; exact (Below.refl _ _).alloc (Nat.le_refl _) _
  have k57 := bel_trans hb6 k67
  have bR7 := H5.out.1.later k57
  have LR7 := rib_t bR7
  have H7 := Lib.hid (And.intro b7 (And.intro (hO6.later k67) (And.intro (bel_trans H5.out.2.2 k57) (And.intro bR7 (H5.out.2.1.later k57)))))
  have h07 : Below W7.heap.size W7 W7 := Below.refl _ _
  clear hA6 hO6 hW7 b7 k67 k57 bR7 HBe hb6 LR5
  go_upto_region 3 with (with_reducible refine wpList_alloc_z rfl 49 rfl #[.slice none 0 0] 1 z_tab ?_)
  refine wp_region_linW (fun w' => Below W7.heap.size W7 w') (fun _ _ => True) (wkF W7) [1, 3, 5, 9] [10] [0, 1, 2, 3, 4, 5, 6, 7, 8, 9] [10, 11] (by kernel_rfl) (by kernel_rfl) (wkF_ne W7) (bel_drew h07) (fun _ => trivial) ?_
  (refine linW_op (v := ?_) rfl rfl (by rfl) (fun w9 hS9 => ?_) ?_; rotate_left; (focus (((try dsimp only at hS9); go_simp; (try go_bits)) <;> with_reducible rfl)); (try simp only [Act.put, List.getElem_toArray, List.getElem_cons_zero, List.getElem_cons_succ, List.setIfInBounds_toArray, List.set_cons_zero, List.set_cons_succ]))
  refine linW_call (f := 12) (args := #[]) rfl rfl (by rfl) rfl rfl (enters_of Tryz.func12 (by kernel_rfl) rfl) (by simp) (fun w9 hS9 _ _ => ?_) (fun v1 hv1 => ?_)
  · refine (eight11_any w9).mono ?_
    rintro e w8 ⟨rfl, hb8⟩
    exact ⟨_, rfl, bel_trans hS9 hb8, fun _ _ _ => trivial, fun d u _ h => h.later hb8, wkF_1 _ _⟩
  obtain rfl : v1 = .agg tenP.cs := by obtain ⟨_, h⟩ := hv1; exact h.1 rfl
  (try simp only [Act.put, List.getElem_toArray, List.getElem_cons_zero, List.getElem_cons_succ, List.setIfInBounds_toArray, List.set_cons_zero, List.set_cons_succ])
  have BU3 := build_u3
  (refine linW_op (v := ?_) rfl rfl (by rfl) (fun w9 hS9 => ?_) ?_; rotate_left; (focus (((try dsimp only at hS9); go_simp; (try go_bits)) <;> with_reducible rfl)); (try simp only [Act.put, List.getElem_toArray, List.getElem_cons_zero, List.getElem_cons_succ, List.setIfInBounds_toArray, List.set_cons_zero, List.set_cons_succ]))
  refine linW_do rfl rfl (by rfl) (fun w9 hS9 _ _ => ?_) (fun v3 hv3 => ?_)
  · have k9 : Below w9.heap.size w9 (w9.alloc (.cells u3.cs 46)) := (Below.refl _ _).alloc (Nat.le_refl _) _
    have r9 := upbuild1_run w9
    exact ⟨_, _, by go_simp, bel_trans hS9 k9, fun _ _ _ => trivial, fun d u _ h => h.later k9, wkF_3 hS9.size (Blk.new w9 _ _)⟩
  obtain ⟨g3, rfl⟩ : ∃ g3, v3 = .slice (some ⟨g3, 0, none⟩) 1 1 := by
    obtain ⟨_, h⟩ := hv3
    obtain ⟨g, h1, _⟩ := h.2.1 rfl
    exact ⟨g, h1⟩
  (try simp only [Act.put, List.getElem_toArray, List.getElem_cons_zero, List.getElem_cons_succ, List.setIfInBounds_toArray, List.set_cons_zero, List.set_cons_succ])
  have BB3 := build_bat1 (some ⟨g3, 0, none⟩) 1 1
  (refine linW_op (v := ?_) rfl rfl (by rfl) (fun w9 hS9 => ?_) ?_; rotate_left; (focus (((try dsimp only at hS9); go_simp; (try go_bits)) <;> with_reducible rfl)); (try simp only [Act.put, List.getElem_toArray, List.getElem_cons_zero, List.getElem_cons_succ, List.setIfInBounds_toArray, List.set_cons_zero, List.set_cons_succ]))
  refine linW_call (f := 11) (args := #[.agg #[.slice a4 2 c4], .agg #[.slice (some ⟨g3, 0, none⟩) 1 1]]) rfl rfl (by rfl) rfl rfl (enters_of Tryz.func11 (by kernel_rfl) rfl) (by simp [Act.eval]) (fun w9 hS9 _ hF9 => ?_) (fun v5 hv5 => ?_)
  · have f3 := hF9 (3, .slice (some ⟨g3, 0, none⟩) 1 1) (by simp) (by kernel_rfl)
    obtain ⟨g, e1, e2, e3⟩ := f3.2.1 rfl
    injection e1 with e1a
    injection e1a with e1b
    injection e1b with e1c
    subst e1c
    have hO9 := H7.out.2.2.2.2.later hS9
    refine (rapply_any a4 2 c4 [x2, x1] (some ⟨g3, 0, none⟩) 1 1 [u3] w9 (H0.out.1.later (bel_trans H7.out.2.2.1 hS9)) rfl (by omega) hO9.at'.1 hO9.at'.2 rfl (by omega) (by omega) (up_at1 e3)).mono ?_
    rintro e w8 ⟨a8, c8, M, er, rfl, hO8, hA8, hb8⟩
    obtain ⟨rfl, rfl⟩ := wk_3 hA8
    exact ⟨_, rfl, bel_trans hS9 hb8, fun _ _ _ => trivial, fun d u _ h => h.later hb8, wkF_5 (hO8.less hS9.size)⟩
  obtain ⟨a5, c5, rfl⟩ : ∃ a5 c5, v5 = .tuple #[.agg #[.slice a5 1 c5], .int .i64 0] := by
    obtain ⟨_, h⟩ := hv5
    obtain ⟨a, c, h1, _⟩ := h.2.2.1 rfl
    exact ⟨a, c, h1⟩
  (try simp only [Act.put, List.getElem_toArray, List.getElem_cons_zero, List.getElem_cons_succ, List.setIfInBounds_toArray, List.set_cons_zero, List.set_cons_succ])
  (refine linW_op (v := ?_) rfl rfl (by rfl) (fun w9 hS9 => ?_) ?_; rotate_left; (focus (((try dsimp only at hS9); go_simp; (try go_bits)) <;> with_reducible rfl)); (try simp only [Act.put, List.getElem_toArray, List.getElem_cons_zero, List.getElem_cons_succ, List.setIfInBounds_toArray, List.set_cons_zero, List.set_cons_succ]))
  (refine linW_op (v := ?_) rfl rfl (by rfl) (fun w9 hS9 => ?_) ?_; rotate_left; (focus (((try dsimp only at hS9); go_simp; (try go_bits)) <;> with_reducible rfl)); (try simp only [Act.put, List.getElem_toArray, List.getElem_cons_zero, List.getElem_cons_succ, List.setIfInBounds_toArray, List.set_cons_zero, List.set_cons_succ]))
  (refine linW_op (v := ?_) rfl rfl (by rfl) (fun w9 hS9 => ?_) ?_; rotate_left; (focus (((try dsimp only at hS9); go_simp; (try go_bits)) <;> with_reducible rfl)); (try simp only [Act.put, List.getElem_toArray, List.getElem_cons_zero, List.getElem_cons_succ, List.setIfInBounds_toArray, List.set_cons_zero, List.set_cons_succ]))
  refine linW_do rfl rfl (by rfl) (fun w9 hS9 _ _ => ?_) (fun v9 hv9 => ?_)
  · have k9 : Below w9.heap.size w9 (w9.alloc (.cells #[.slice none 0 0] 26)) := (Below.refl _ _).alloc (Nat.le_refl _) _
    exact ⟨_, _, by go_simp, bel_trans hS9 k9, fun _ _ _ => trivial, fun d u _ h => h.later k9, wkF_9 hS9.size (Blk.new w9 _ _)⟩
  obtain ⟨g9, rfl⟩ : ∃ g9, v9 = .pointer (some ⟨g9, 0, none⟩) := by
    obtain ⟨_, h⟩ := hv9
    obtain ⟨g, h1, _⟩ := h.2.2.2 rfl
    exact ⟨g, h1⟩
  (try simp only [Act.put, List.getElem_toArray, List.getElem_cons_zero, List.getElem_cons_succ, List.setIfInBounds_toArray, List.set_cons_zero, List.set_cons_succ])
  refine linW_nil (fun w9 hS9 hF9 => ?_)
  have f5 := hF9 (5, .tuple #[.agg #[.slice a5 1 c5], .int .i64 0]) (by simp)
  have f9 := hF9 (9, .pointer (some ⟨g9, 0, none⟩)) (by simp)
  obtain ⟨a5', c5', e5, hO5⟩ := f5.2.2.1 rfl
  obtain ⟨g9', e9, hg9, hb9⟩ := f9.2.2.2 rfl
  injection e9 with e9a
  injection e9a with e9b
  injection e9b with e9c
  subst e9c
  have e5' : a5' = a5 ∧ c5' = c5 := by
    injection e5 with q1
    simp only [Array.mk.injEq, List.cons.injEq, Value.agg.injEq, Value.slice.injEq, and_true, true_and] at q1
    exact ⟨q1.1.symm, q1.2.symm⟩
  obtain ⟨rfl, rfl⟩ := e5'
  have hw9lt := hO5.above
  have SX := st_rib (a2 := a5') (n2 := 1) (c2 := c5') hb9
  obtain ⟨W10, hW10⟩ : ∃ W10, w9.setRow g9 #[.slice a5' 1 c5'] = W10 := ⟨_, rfl⟩
  rw [hW10] at SX
  have b10 : Blk W10 g9 26 #[.slice a5' 1 c5'] := by rw [← hW10]; exact hb9.row _
  have k7X : Below W7.heap.size W7 W10 := by rw [← hW10]; exact below_setRow hS9 hg9 _
  have hO10 : OwnRo W10 W7.heap.size (.slice a5' 1 c5') [x1] := by
    rw [← hW10]
    refine hO5.kept ((Kept.refl [g9] w9).setRow (.inl (by simp)) _) (fun g hg => ?_)
    rcases hO5.2 with ⟨h9, _⟩ | ⟨g', cap, cur, h9, _, hbk, _⟩
    · injection h9 with q1 q2; cases q2
    · rw [h9] at hg
      cases hg
      have hne : g' ≠ g9 := Blk.ne (t := 57) hbk hb9 (by decide)
      simpa using hne
  refine linX_store (w' := W10) rfl rfl (by rfl) ?_ k7X ?_; (focus (go_simp; done))
  (try simp only [Act.put, List.getElem_toArray, List.getElem_cons_zero, List.getElem_cons_succ, List.setIfInBounds_toArray, List.set_cons_zero, List.set_cons_succ])
  (refine linX_op (v := ?_) rfl rfl (by rfl) (fun w9 hS9 => ?_) ?_; rotate_left; (focus (((try dsimp only at hS9); go_simp; (try go_bits)) <;> with_reducible rfl)); (try simp only [Act.put, List.getElem_toArray, List.getElem_cons_zero, List.getElem_cons_succ, List.setIfInBounds_toArray, List.set_cons_zero, List.set_cons_succ]))
  refine linX_nil ?_
  have hb0X := bel_trans H7.out.2.2.1 k7X
  have LR10 := rib_t b10 W10 (Below.refl _ _)
  have HBe2 := rbest_any a5' 1 c5' [x1] W10 (H0.out.1.later hb0X) rfl (by omega) hO10.at'.1 hO10.at'.2
  have HX := Lib.hid (And.intro k7X hb0X)
  clear hw9lt hW10 b10 k7X hO10 hb0X SX hO5 hb9 hF9 hS9 f5 f9 hv3 hv5 hv9 hv1 LR7
  go_wp2_with (with_reducible refine wpList_alloc_z rfl 26 rfl #[.slice none 0 0] 1 z_rib ?_)
  refine HBe2.mono ?_
  rintro e w11 ⟨a11, c11, T, er, rfl, hO11, hA11, hb11⟩
  obtain ⟨rfl, rfl⟩ := wk_4 hA11
  rw [show ([⟨tenP, 7⟩] : List Rt).length = 1 from rfl] at hO11 ⊢
  have ST11 := st_tab (a2 := a11) (n2 := 1) (c2 := c11) (Blk.new w11 49 #[.slice none 0 0])
  rw [World.setRow_alloc_new] at ST11
  obtain ⟨W12, hW12⟩ : ∃ W12, w11.alloc (.cells #[.slice a11 1 c11] 49) = W12 := ⟨_, rfl⟩
  rw [hW12] at ST11
  have b12 : Blk W12 w11.heap.size 49 #[.slice a11 1 c11] := by rw [← hW12]; exact Blk.new _ _ _
  have kAB : Below w11.heap.size w11 W12 := by rw [← hW12]; exact (Below.refl _ _).alloc (Nat.le_refl _) _
  have k7C : Below W7.heap.size W7 W12 := bel_trans HX.out.1 (bel_trans hb11 kAB)
  have hO12 := hO11.later kAB
  have hO6' := H7.out.2.1.later k7C
  obtain ⟨g6, rfl, hr6⟩ : ∃ g, a6 = some ⟨g, 0, none⟩ ∧ Rws W12 g 0 [⟨tenP, 9⟩] := by
    rcases hO6'.2 with ⟨h9, _⟩ | ⟨g', cap, cur, h9, _⟩
    · injection h9 with q1 q2; cases q2
    · injection h9 with q1
      obtain ⟨a, c, e, _, _, hr, _⟩ := hO6'.lies
      injection e with e1
      rw [← e1, q1] at hr
      rcases hr with h | ⟨g, o, h1, h2⟩
      · cases h
      · cases h1; exact ⟨_, q1, h2⟩
  obtain ⟨gB, rfl, hrB⟩ : ∃ g, a11 = some ⟨g, 0, none⟩ ∧ Rws W12 g 0 [⟨tenP, 7⟩] := by
    rcases hO12.2 with ⟨h9, _⟩ | ⟨g', cap, cur, h9, _⟩
    · injection h9 with q1 q2; cases q2
    · injection h9 with q1
      obtain ⟨a, c, e, _, _, hr, _⟩ := hO12.lies
      injection e with e1
      rw [← e1, q1] at hr
      rcases hr with h | ⟨g, o, h1, h2⟩
      · cases h
      · cases h1; exact ⟨_, q1, h2⟩
  have C6 : W12.cell? ⟨g6, 18, none⟩ = some (.int .i64 9) := hr6.hop (i := 0) (by simp)
  have CB : W12.cell? ⟨gB, 18, none⟩ = some (.int .i64 7) := hrB.hop (i := 0) (by simp)
  have D6 := tab_c H7.out.1 W12 k7C
  have DB := tab_c b12 W12 (Below.refl _ _)
  have HZ := Lib.hid (bel_trans H7.out.2.2.1 k7C)
  clear hA11 hO11 hW12 b12 kAB k7C hO12 hO6' hr6 hrB hb11 HBe2 LR10
  go_wp2_with (with_reducible refine wpList_alloc_z rfl 49 rfl #[.slice none 0 0] 1 z_tab ?_)
  go_ret
  exact ⟨rfl, HZ.out⟩
end Go.Proofs.YtclkfmblogkakaaGreatDoor
namespace Go.Proofs.YtclkfmblogkakaaGreatDoor
open Go.RowKit Go.Shelf
set_option linter.unusedVariables false
set_option maxRecDepth 100000
attribute [local go_sem ↓] load_b16_rule store_b16_rule load_ad_rule store_ad_rule load_px_rule store_px_rule eq_b16_rule eq_ad_rule eq_px_rule load_rt_rule store_rt_rule build_ad_rule build_px_rule build_b16_rule build_rt_rule load_tab_rule build_tab_rule store_tab_rule tbuild_rule tapp_rule tcopy_rule eq_rt_rule

end Go.Proofs.YtclkfmblogkakaaGreatDoor
namespace Go.Proofs.YtclkfmblogkakaaGreatDoor
open Go.RowKit Go.Shelf
set_option linter.unusedVariables false
set_option maxRecDepth 100000

def pxg (L : List Px) (i : Nat) : Px := L.getD i Px.zero
theorem pxg_get {L : List Px} {i : Nat} (h : i < L.length) : pxg L i = L[i] := by simp [pxg, h]
structure Pws (w : World) (g o : Nat) (L : List Px) : Prop where
  lt : g < w.heap.size
  row : ∀ i, i < L.length → ∀ j, j < 18 → w.cell? ⟨g, o + i * 18 + j, none⟩ = (pxg L i).cs[j]?
def PxsAt (w : World) (a : Option Addr) (L : List Px) : Prop := L = [] ∨ ∃ g o, a = some ⟨g, o, none⟩ ∧ Pws w g o L
theorem Pws.later {w w' : World} {g o : Nat} {L : List Px} (h : Pws w g o L) (k : Below w.heap.size w w') : Pws w' g o L :=
  ⟨Nat.lt_of_lt_of_le h.lt k.size, fun i hi j hj => (k.cell (p := ⟨g, o + i * 18 + j, none⟩) h.lt).trans (h.row i hi j hj)⟩
theorem PxsAt.later {w w' : World} {a : Option Addr} {L : List Px} (h : PxsAt w a L) (k : Below w.heap.size w w') : PxsAt w' a L := by
  rcases h with h | ⟨g, o, h1, h2⟩
  · exact .inl h
  · exact .inr ⟨g, o, h1, h2.later k⟩
theorem Pws.load {w : World} {g o : Nat} {L : List Px} (h : Pws w g o L) {i : Nat} (hi : i < L.length) : (loadSem 43 (.pointer (some ⟨g, o + i * 18, none⟩))).run Tryz.prog w = .ok (.agg (pxg L i).cs) w :=
  run_loadAt_mid (P := Tryz.prog) w g (o + i * 18) 43 (pxg L i).cs.toList _ (fun j v hj => by
    have hl : j < 18 := by rw [← (pxg L i).size]; simpa using (List.getElem?_eq_some_iff.1 hj).1
    rw [h.row i hi j hl]; simpa using hj) Tryz.underlying43 rfl (by simpa using s_px (pxg L i))
def pxcs (L : List Px) : List Value := L.flatMap (fun r => r.cs.toList)
theorem pxcs_nil : pxcs [] = [] := rfl
theorem pxcs_append (L M : List Px) : pxcs (L ++ M) = pxcs L ++ pxcs M := by simp [pxcs]
theorem pxcs_one (r : Px) : pxcs [r] = r.cs.toList := by simp [pxcs]
theorem pxcs_cons (r : Px) (L : List Px) : pxcs (r :: L) = r.cs.toList ++ pxcs L := by simp [pxcs]
theorem pxcs_len : ∀ L : List Px, (pxcs L).length = L.length * 18
  | [] => rfl
  | r :: L => by rw [pxcs_cons, List.length_append, pxcs_len L]; simp [r.size]; omega
theorem pxcs_all (L : List Px) : ∀ u ∈ pxcs L, u.oneCell' = true := fun u hu => by
  obtain ⟨r, _, h⟩ := List.mem_flatMap.1 hu
  exact Array.all_eq_true_iff_forall_mem.1 r.one u (by simpa using h)
theorem pxcs_get : ∀ (L : List Px) {i j : Nat}, i < L.length → j < 18 → (pxcs L)[i * 18 + j]? = (pxg L i).cs[j]?
  | [], i, j, h, _ => by simp at h
  | r :: L, 0, j, _, hj => by
    rw [pxcs_cons, Nat.zero_mul, Nat.zero_add, List.getElem?_append_left (by simp [r.size]; exact hj)]
    simp [pxg]
  | r :: L, i + 1, j, h, hj => by
    rw [pxcs_cons, List.getElem?_append_right (by simp [r.size]; omega)]
    rw [show (i + 1) * 18 + j - r.cs.toList.length = i * 18 + j by simp [r.size]; omega, pxcs_get L (by simpa using h) hj]
    simp [pxg]
theorem pxcs_take : ∀ (L : List Px) (i : Nat), (pxcs L).take (i * 18) = pxcs (L.take i)
  | [], i => by simp [pxcs]
  | r :: L, 0 => by simp [pxcs]
  | r :: L, i + 1 => by
    rw [pxcs_cons, List.take_succ_cons, pxcs_cons, List.take_append, List.take_of_length_le (by simp [r.size]; omega)]
    rw [show (i + 1) * 18 - r.cs.toList.length = i * 18 by simp [r.size]; omega, pxcs_take L i]
theorem pxcs_drop : ∀ (L : List Px) (i : Nat), (pxcs L).drop (i * 18) = pxcs (L.drop i)
  | [], i => by simp [pxcs]
  | r :: L, 0 => by simp [pxcs]
  | r :: L, i + 1 => by
    rw [pxcs_cons, List.drop_succ_cons, List.drop_append, List.drop_eq_nil_of_le (by simp [r.size]; omega), List.nil_append]
    rw [show (i + 1) * 18 - r.cs.toList.length = i * 18 by simp [r.size]; omega, pxcs_drop L i]
theorem pxw_cells (w : World) (g : Nat) (L : List Px) (o : Nat) (hg : g < w.heap.size) (h : ∀ k u, (pxcs L)[k]? = some u → w.cell? ⟨g, o + k, none⟩ = some u) : Pws w g o L := by
  refine ⟨hg, fun i hi j hj => ?_⟩
  have h1 := pxcs_get L hi hj
  have h2 : j < (pxg L i).cs.size := by rw [Px.size]; exact hj
  rw [Array.getElem?_eq_getElem h2] at h1 ⊢
  rw [Nat.add_assoc]
  exact h _ _ h1
theorem Pws.cells {w : World} {g o : Nat} {L : List Px} (h : Pws w g o L) : ∀ k u, (pxcs L)[k]? = some u → w.cell? ⟨g, o + k, none⟩ = some u := by
  intro k u hk
  have hl : k < L.length * 18 := by rw [← pxcs_len]; exact (List.getElem?_eq_some_iff.1 hk).1
  have e := pxcs_get L (i := k / 18) (j := k % 18) (by omega) (by omega)
  rw [show k / 18 * 18 + k % 18 = k by omega] at e
  have h1 := h.row (k / 18) (by omega) (k % 18) (by omega)
  rw [← e, hk, Nat.add_assoc, show k / 18 * 18 + k % 18 = k by omega] at h1
  exact h1

/-- Prefixes that a call owns, from block B on. -/
abbrev OwnP (w : World) (B : Nat) (v : Value) (L : List Px) : Prop := w.ownsRow B 43 18 v L.length (pxcs L)
theorem OwnP.lies {w : World} {B : Nat} {v : Value} {L : List Px} (h : OwnP w B v L) : ∃ a c, v = .slice a L.length c ∧ L.length ≤ c ∧ c ≤ maxLen ∧ PxsAt w a L ∧ ∀ x, a = some x → B ≤ x.block := by
  rcases h.2 with ⟨rfl, h0⟩ | ⟨g, cap, cur, rfl, hb, hg, hc, hm, hs, ht⟩
  · have : L = [] := List.eq_nil_of_length_eq_zero h0
    subst this
    exact ⟨none, 0, rfl, by simp, by unfold maxLen; omega, .inl rfl, fun x hx => by cases hx⟩
  · refine ⟨_, cap, rfl, hc, hm, .inr ⟨g, 0, rfl, pxw_cells w g L 0 (Array.getElem?_eq_some_iff.1 hg).1 fun k u hk => ?_⟩, fun x hx => by cases hx; exact hb⟩
    rw [Nat.zero_add, cell_of_row w g k cur _ _ hg, ← Array.getElem?_toList]
    have hl : k < L.length * 18 := by rw [← pxcs_len]; exact (List.getElem?_eq_some_iff.1 hk).1
    rw [← ht, List.getElem?_take, if_pos hl] at hk
    exact hk
theorem info_px9 : (Tryz.prog.info? 43).map (fun i => (i.zero, i.size, i.bytes)) = some (some (.agg Px.zero.cs), 18, 32) := by kernel_rfl

/-! ### Nothing built, appended to -/
end Go.Proofs.YtclkfmblogkakaaGreatDoor
namespace Go.Proofs.YtclkfmblogkakaaGreatDoor
open Go.RowKit Go.Shelf
set_option linter.unusedVariables false
set_option maxRecDepth 100000
attribute [local go_sem ↓] load_b16_rule store_b16_rule load_ad_rule store_ad_rule load_px_rule store_px_rule eq_b16_rule eq_ad_rule eq_px_rule load_rt_rule store_rt_rule build_ad_rule build_px_rule build_b16_rule build_rt_rule load_tab_rule build_tab_rule store_tab_rule tbuild_rule tapp_rule tcopy_rule eq_rt_rule

theorem hop_get {L : List Rt} (hL : okT L) {p : Px} {i : Nat} (hi : i < L.length) (h : ixM L p = (i : Int)) : rgetV L p = (rt L i).h ∧ 1 ≤ (rt L i).h := by
  refine ⟨by unfold rgetV; rw [h, if_neg (by omega), Int.toNat_natCast], ?_⟩
  have := ((okT_iff L).1 hL).2 i hi
  exact this.1.2.1
end Go.Proofs.YtclkfmblogkakaaGreatDoor
namespace Go.Proofs.YtclkfmblogkakaaGreatDoor
open Go.RowKit Go.Shelf
set_option linter.unusedVariables false
set_option maxRecDepth 100000

theorem putK_len1 (L : List Rt) (p : Px) {h : Int} (h0 : h ≠ 0) : ∀ k, (putK L p h k).1.length ≤ k + (if (putK L p h k).2 = true then 1 else 0)
  | 0 => by simp [putK]
  | k + 1 => by
    have := putK_len1 L p h0 k
    unfold putK
    by_cases h1 : (rt L k).p = p
    · rw [if_pos h1]; omega
    · rw [if_neg h1]
      by_cases h2 : (putK L p h k).2 = false ∧ cmpP p (rt L k).p < 0
      · rw [if_pos h2]
        rw [h2.1] at this
        simp at this ⊢; omega
      · rw [if_neg h2]
        simp only [List.length_append, List.length_singleton]
        split at this <;> simp_all <;> omega
theorem putL_len1 (L : List Rt) (p : Px) {h : Int} (h0 : h ≠ 0) : (putL L p h).length ≤ L.length + 1 := by
  have := putK_len1 L p h0 L.length
  unfold putL
  by_cases h1 : (putK L p h L.length).2 = false
  · rw [if_pos h1]; rw [h1] at this; simp at this ⊢; omega
  · rw [if_neg h1]; split at this <;> omega
/-- The prefixes that of the first k rows of A the table B has not alike, put to what is there. -/
noncomputable def dfK (B A acc : List Rt) : Nat → List Rt
  | 0 => acc
  | k + 1 => if rgetV B (rt A k).p = (rt A k).h then dfK B A acc k else putL (dfK B A acc k) (rt A k).p 1
theorem dfK_len (B A acc : List Rt) : ∀ k, (dfK B A acc k).length ≤ acc.length + k
  | 0 => by simp [dfK]
  | k + 1 => by
    have := dfK_len B A acc k
    unfold dfK
    split
    · omega
    · have := putL_len1 (dfK B A acc k) (rt A k).p (h := 1) (by omega); omega
theorem dfK_rise (B A : List Rt) {acc : List Rt} (ha : acc.Pairwise ltR) : ∀ k, (dfK B A acc k).Pairwise ltR
  | 0 => ha
  | k + 1 => by
    unfold dfK
    split
    · exact dfK_rise B A ha k
    · exact (putL_spec (dfK_rise B A ha k) _ _).1
theorem dfK_yes {B A acc : List Rt} {k : Nat} (h : rgetV B (rt A k).p = (rt A k).h) : dfK B A acc (k + 1) = dfK B A acc k := by rw [dfK, if_pos h]
theorem dfK_no {B A acc : List Rt} {k : Nat} (h : ¬ rgetV B (rt A k).p = (rt A k).h) : dfK B A acc (k + 1) = putL (dfK B A acc k) (rt A k).p 1 := by rw [dfK, if_neg h]
theorem OwnP.later {w w' : World} {B : Nat} {v : Value} {L : List Px} (h : OwnP w B v L) (k : Below w.heap.size w w') : OwnP w' B v L := by
  refine ⟨h.1, ?_⟩
  rcases h.2 with h | ⟨g, cap, cur, h1, h2, h3, h4⟩
  · exact .inl h
  · exact .inr ⟨g, cap, cur, h1, h2, (k.block _ (Array.getElem?_eq_some_iff.1 h3).1).trans h3, h4⟩
theorem OwnP.less {w : World} {B C : Nat} {v : Value} {L : List Px} (h : OwnP w B v L) (hC : C ≤ B) : OwnP w C v L := by
  refine ⟨h.1, ?_⟩
  rcases h.2 with h | ⟨g, cap, cur, h1, h2, h3⟩
  · exact .inl h
  · exact .inr ⟨g, cap, cur, h1, Nat.le_trans hC h2, h3⟩
/-- A store into a box of one cell leaves rows as they were. -/
theorem Tbl.box {w : World} {g : Nat} {v0 : Value} (hb : Blk w g 49 #[v0]) {a : Option Addr} {c : Nat} {L : List Rt} (t : Tbl w a c L) (v : Value) : Tbl (w.setRow g #[v]) a c L := by
  by_cases hL : L = []
  · exact ⟨.inl hL, t.le, t.cap, t.nil⟩
  · refine t.kept ((Kept.refl [g] w).setRow (.inl (by simp)) _) fun x hx => ?_
    rcases t.at' with h1 | ⟨g', o, h1, h2⟩
    · exact absurd h1 hL
    · intro hm
      have e : g' = g := by rw [hx] at h1; cases h1; simpa using hm
      have hl : 0 < L.length := List.length_pos_iff.2 hL
      have q := h2.row 0 hl 1 (by omega)
      rw [e, hb.cell] at q
      simp at q
      have q2 := (rt L 0).size
      omega
attribute [local go_sem ↓] load_b16_rule store_b16_rule load_ad_rule store_ad_rule load_px_rule store_px_rule eq_b16_rule eq_ad_rule eq_px_rule load_rt_rule store_rt_rule build_ad_rule build_px_rule build_b16_rule build_rt_rule load_tab_rule build_tab_rule store_tab_rule tbuild_rule tapp_rule tcopy_rule eq_rt_rule

end Go.Proofs.YtclkfmblogkakaaGreatDoor
namespace Go.Proofs.YtclkfmblogkakaaGreatDoor
open Go.RowKit Go.Shelf
set_option linter.unusedVariables false
set_option maxRecDepth 100000
/-- Bytes that a call owns, from block B on. -/
abbrev OwnB (w : World) (B : Nat) (v : Value) (l : List Nat) : Prop := w.ownsRow B 5 1 v l.length (l.map byc)
theorem OwnB.later {w w' : World} {B : Nat} {v : Value} {l : List Nat} (h : OwnB w B v l) (k : Below w.heap.size w w') : OwnB w' B v l := own_later2 h k
theorem OwnB.less {w : World} {B C : Nat} {v : Value} {l : List Nat} (h : OwnB w B v l) (hC : C ≤ B) : OwnB w C v l := by
  refine ⟨h.1, ?_⟩
  rcases h.2 with h | ⟨g, cap, cur, h1, h2, h3⟩
  · exact .inl h
  · exact .inr ⟨g, cap, cur, h1, Nat.le_trans hC h2, h3⟩
theorem OwnB.same9 {w w' : World} {B : Nat} {v : Value} {l : List Nat} (h : OwnB w B v l) (hs : ∀ g, v.ownBlock = some g → w'.heap[g]? = w.heap[g]?) : OwnB w' B v l := by
  refine ⟨h.1, ?_⟩
  rcases h.2 with h | ⟨g, cap, cur, h1, h2, h3, h4⟩
  · exact .inl h
  · exact .inr ⟨g, cap, cur, h1, h2, (hs g (by rw [h1]; rfl)).trans h3, h4⟩
theorem OwnB.lies {w : World} {B : Nat} {v : Value} {l : List Nat} (h : OwnB w B v l) : ∃ a c, v = .slice a l.length c ∧ l.length ≤ c ∧ c ≤ maxLen ∧ Lies w a l ∧ ∀ x, a = some x → B ≤ x.block := by
  rcases h.2 with ⟨rfl, h0⟩ | ⟨g, cap, cur, rfl, hb, hg, hc, hm, hs, ht⟩
  · have : l = [] := List.eq_nil_of_length_eq_zero h0
    subst this
    exact ⟨none, 0, rfl, by simp, by unfold maxLen; omega, .inl rfl, fun x hx => by cases hx⟩
  · refine ⟨_, cap, rfl, hc, hm, .inr ⟨g, 0, rfl, (Array.getElem?_eq_some_iff.1 hg).1, fun i hi => ?_⟩, fun x hx => by cases hx; exact hb⟩
    rw [Nat.zero_add, cell_of_row w g i cur _ _ hg, ← Array.getElem?_toList]
    have : (cur.toList.take l.length)[i]? = (l.map byc)[i]? := by
      have ht2 := ht
      rw [Nat.mul_one] at ht2
      rw [ht2]
    rw [List.getElem?_take, if_pos hi] at this
    rw [this, List.getElem?_map, List.getElem?_eq_getElem hi]
    simp [byc, List.getD_eq_getElem?_getD, List.getElem?_eq_getElem hi]
theorem byc_one9 (l : List Nat) : ∀ u ∈ l.map byc, u.oneCell' = true := fun u hu => by
  obtain ⟨x, _, rfl⟩ := List.mem_map.1 hu
  rfl
theorem bapp_run {w : World} {B : Nat} {v : Value} {L M : List Nat} {x : Addr} {m c : Nat} (h : OwnB w B v L) (hm : M.length = m) (hM : Lies w (some x) M) (hs : L.length + m ≤ 1000000) (hB : B ≤ w.heap.size) :
    ∃ v' w', (∀ ty : TypeId, (Builtin.append_ #[22, 22] ty #[v, .slice (some x) m c]).run Tryz.prog w = .ok v' w') ∧ OwnB w' B v' (L ++ M) ∧ w.grownBy w' v.ownBlock := by
  obtain ⟨i0, hi, hz0, hz1, hz2⟩ := info_parts Tryz.info5
  have hsrc : ∀ j u, (M.map byc)[j]? = some u → w.cell? (x.add j) = some u := by
    intro j u hj
    have hjl : j < M.length := by have := (List.getElem?_eq_some_iff.1 hj).1; simpa using this
    rcases hM with rfl | ⟨g, o, e, hb, hc⟩
    · simp at hjl
    · cases e
      rw [Addr.add_lit, hc j hjl]
      rw [List.getElem?_map, List.getElem?_eq_getElem hjl] at hj
      simp at hj
      rw [← hj]
      simp [byc, List.getD_eq_getElem?_getD, List.getElem?_eq_getElem hjl]
  have key : ∀ ty : TypeId, ∃ v' w', (Builtin.append_ #[22, 22] ty #[v, .slice (some x) m c]).run Tryz.prog w = .ok v' w' ∧ OwnB w' B v' (L ++ M) ∧ w.grownBy w' v.ownBlock := fun ty => by
    obtain ⟨v', w', h1, h2, h3, _⟩ := run_append_own (P := Tryz.prog) w B 22 ty 5 i0 (.int .u8 0) 1 1 Tryz.underlying22 hi hz0 hz1 hz2 rfl (by decide) v L.length (L.map byc) h x m c (M.map byc) (by simp [hm]) hsrc (byc_one9 M) (by unfold maxLen; omega) (by omega) hB
    refine ⟨v', w', h1, ?_, h3⟩
    show w'.ownsRow B _ 1 v' (L ++ M).length ((L ++ M).map byc)
    rw [List.length_append, hm, List.map_append]
    exact h2
  obtain ⟨v', w', h1, h2, h3⟩ := key 22
  exact ⟨v', w', fun ty => h1, h2, h3⟩
theorem one_byte (w : World) (x : Nat) : Lies (w.alloc (.cells #[.int .u8 (x : Int)] 5)) (some ⟨w.heap.size, 0, none⟩) [x] := by
  have hb := Blk.new w 5 #[.int .u8 (x : Int)]
  refine .inr ⟨w.heap.size, 0, rfl, hb.lt, fun i hi => ?_⟩
  have : i = 0 := by simp at hi; omega
  subst this
  exact hb.cell 0
/-- The bytes of rows, and of a table. -/
noncomputable def rowsB (L : List Rt) : List Nat := L.flatMap (fun r => encP r.p ++ [r.h.toNat])
noncomputable def tabB (L : List Rt) : List Nat := L.length :: rowsB L
theorem rowsB_next {L : List Rt} {k : Nat} (h : k < L.length) : rowsB (L.take (k + 1)) = rowsB (L.take k) ++ (encP (rt L k).p ++ [(rt L k).h.toNat]) := by
  rw [List.take_add_one, rt_some h]
  simp [rowsB]
theorem encP_b {p : Px} (h : okP p) : 2 ≤ (encP p).length ∧ (encP p).length ≤ 18 := by
  have h1 := encP_len h
  have hf := fill8_le (n := p.n.toNat) (by have := h.2.2.1; have := wid_le p.a.v; omega)
  omega
theorem rowsB_len : ∀ L : List Rt, (∀ r ∈ L, okP r.p) → (rowsB L).length ≤ 19 * L.length
  | [], _ => by simp [rowsB]
  | r :: L, h => by
    have h1 := rowsB_len L (fun x hx => h x (by simp [hx]))
    have h2 := (encP_b (h r (by simp))).2
    have : rowsB (r :: L) = (encP r.p ++ [r.h.toNat]) ++ rowsB L := by simp [rowsB]
    rw [this]
    simp
    omega
theorem wrap_b9 {k : Nat} (h : k ≤ 255) : IntKind.u8.wrap (k : Int) = (k : Int) := by
  unfold IntKind.wrap
  simp [IntKind.bits, IntKind.signed]
  omega
theorem wrap_oneD {j : Nat} (h : j + 1 ≤ 4001) : wrap64 ((j : Int) + 1) = ((j + 1 : Nat) : Int) := by unfold wrap64; omega
theorem measD {cnt k : Nat} (h : k < cnt) (hw : wrap64 ((k : Int) + 1) = ((k + 1 : Nat) : Int)) : cnt - (intOf (.int .i64 (wrap64 ((k : Int) + 1)))).toNat < cnt - (intOf (.int .i64 (k : Int))).toNat := by
  rw [hw]
  simp only [intOf]
  omega
theorem bbuild1_run (x : Nat) (w : World) : (Instr.buildSlice 22 1 #[(0, .int .u8 (x : Int))]).run Tryz.prog w = .ok (.slice (some ⟨w.heap.size, 0, none⟩) 1 1) (w.alloc (.cells #[.int .u8 (x : Int)] 5)) := by kernel_rfl
def bbuildSem (n : Nat) (parts : Array (Nat × Value)) : Sem Value := Instr.buildSlice 22 n parts
theorem bbuild_rule (n : Nat) (parts : Array (Nat × Value)) : Instr.buildSlice 22 n parts = bbuildSem n parts := rfl
theorem bbuild1_run9 (x : Nat) (w : World) : (bbuildSem 1 #[(0, .int .u8 (x : Int))]).run Tryz.prog w = .ok (.slice (some ⟨w.heap.size, 0, none⟩) 1 1) (w.alloc (.cells #[.int .u8 (x : Int)] 5)) := bbuild1_run x w
theorem bown1 (x : Nat) (w : World) : OwnB (w.alloc (.cells #[.int .u8 (x : Int)] 5)) w.heap.size (.slice (some ⟨w.heap.size, 0, none⟩) 1 1) [x] := own_one w x
attribute [local go_sem ↓] load_b16_rule store_b16_rule load_ad_rule store_ad_rule load_px_rule store_px_rule eq_b16_rule eq_ad_rule eq_px_rule load_rt_rule store_rt_rule build_ad_rule build_px_rule build_b16_rule build_rt_rule load_tab_rule build_tab_rule store_tab_rule tbuild_rule tapp_rule tcopy_rule eq_rt_rule bbuild_rule
end Go.Proofs.YtclkfmblogkakaaGreatDoor
