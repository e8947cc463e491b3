/-
  The walk of RouteApplies. Nothing here is a statement of the document.
-/
import Derived.Test.YtikdgbmdepplgaaGreatDoorRtT
import Derived.Test.YtikdgbmdepplgaaGreatDoorLinW
import Derived.Test.YtikdgbmdepplgaaGreatDoorRvD
import Derived.Test.YtikdgbmdepplgaaGreatDoorRtS
namespace Go.Proofs.YtikdgbmdepplgaaGreatDoor
open Go.RowKit Go.Shelf
set_option linter.unusedVariables false
set_option maxRecDepth 100000
attribute [local go_sem ↓] load_b16_rule store_b16_rule load_ad_rule store_ad_rule load_px_rule store_px_rule build_ad_rule build_px_rule build_b16_rule load_rib_rule store_rib_rule build_rib_rule build_bat_rule load_tab_rule store_tab_rule build_tab_rule build_up_rule upbuild_rule
/-- What the makers of the third region give. -/
def wkF (W : World) (i : Nat) (v : Value) (w : World) : Prop :=
  (i = 1 → v = .agg tenP.cs) ∧ (i = 3 → ∃ g, v = .slice (some ⟨g, 0, none⟩) 1 1 ∧ W.heap.size ≤ g ∧ Blk w g 48 u3.cs) ∧
  (i = 5 → ∃ a c, v = .tuple #[.agg #[.slice a 1 c], .int .i64 0] ∧ OwnRo w W.heap.size (.slice a 1 c) [x1]) ∧
  (i = 9 → ∃ g, v = .pointer (some ⟨g, 0, none⟩) ∧ W.heap.size ≤ g ∧ Blk w g 24 #[.slice none 0 0])
theorem wkF.later {W w w' : World} {i : Nat} {v : Value} (h : wkF W i v w) (k : Below w.heap.size w w') : wkF W i v w' := by
  refine ⟨h.1, fun e => ?_, fun e => ?_, fun e => ?_⟩
  · obtain ⟨g, h1, h2, h3⟩ := h.2.1 e
    exact ⟨g, h1, h2, h3.later k⟩
  · obtain ⟨a, c, h1, h2⟩ := h.2.2.1 e
    exact ⟨a, c, h1, h2.later k⟩
  · obtain ⟨g, h1, h2, h3⟩ := h.2.2.2 e
    exact ⟨g, h1, h2, h3.later k⟩
theorem wkF_1 (W w : World) : wkF W 1 (.agg tenP.cs) w := ⟨fun _ => rfl, fun e => (by cases e), fun e => (by cases e), fun e => (by cases e)⟩
theorem wkF_3 {W w : World} {g : Nat} (h : W.heap.size ≤ g) (hb : Blk w g 48 u3.cs) : wkF W 3 (.slice (some ⟨g, 0, none⟩) 1 1) w := ⟨fun e => (by cases e), fun _ => ⟨g, rfl, h, hb⟩, fun e => (by cases e), fun e => (by cases e)⟩
theorem wkF_5 {W w : World} {a : Option Addr} {c : Nat} (h : OwnRo w W.heap.size (.slice a 1 c) [x1]) : wkF W 5 (.tuple #[.agg #[.slice a 1 c], .int .i64 0]) w := ⟨fun e => (by cases e), fun e => (by cases e), fun _ => ⟨a, c, rfl, h⟩, fun e => (by cases e)⟩
theorem wkF_9 {W w : World} {g : Nat} (h : W.heap.size ≤ g) (hb : Blk w g 24 #[.slice none 0 0]) : wkF W 9 (.pointer (some ⟨g, 0, none⟩)) w := ⟨fun e => (by cases e), fun e => (by cases e), fun e => (by cases e), fun _ => ⟨g, rfl, h, hb⟩⟩
theorem wkF_ne (W : World) : ∀ i, [1, 3, 5, 9].contains i = true → ∃ v w, wkF W i v w := by
  intro i hi
  have hi2 : i = 1 ∨ i = 3 ∨ i = 5 ∨ i = 9 := by simpa using hi
  rcases hi2 with rfl | rfl | rfl | rfl
  · exact ⟨_, W, wkF_1 W W⟩
  · exact ⟨_, _, wkF_3 (Nat.le_refl _) (Blk.new W _ _)⟩
  · refine ⟨_, W.alloc (.cells x1.cs 50), wkF_5 (a := some ⟨W.heap.size, 0, none⟩) (c := 1) ⟨by simp [rocs_one, Ro.size], .inr ⟨W.heap.size, 1, x1.cs, rfl, Nat.le_refl _, Blk.new W _ _, Nat.le_refl _, by unfold maxLen; omega, by rw [Ro.size], ?_⟩⟩⟩
    rw [rocs_one, List.take_of_length_le (by simp [Ro.size])]
  · exact ⟨_, _, wkF_9 (Nat.le_refl _) (Blk.new W _ _)⟩
set_option maxHeartbeats 4000000 in
theorem wakes11_any (w : World) (hW : Wid w) : Calls Tryz.prog 4 #[] w fun e w' => e = .returned (.bool true) ∧ Below w.heap.size w w' := by
  have BZ := build_rib0
  have HE1 := eight11_any w
  go_enter Tryz.func4, Tryz.ntmps4
  go_wp2_with fail
  refine HE1.mono ?_
  rintro e w1 ⟨rfl, hb1⟩
  have BU1 := build_u1 w1
  have HE2 := eight11_any w1
  go_wp2_with fail
  refine HE2.mono ?_
  rintro e w2 ⟨rfl, hb2⟩
  have BU2 := build_u2 w2
  have BS := upbuild2_run w2
  obtain ⟨W3, hW3⟩ : ∃ W3, w2.alloc (.cells (u1.cs ++ u2.cs) 48) = W3 := ⟨_, rfl⟩
  rw [hW3] at BS
  have hb3 : Below w2.heap.size w2 W3 := by rw [← hW3]; exact (Below.refl _ _).alloc (Nat.le_refl _) _
  have bU : Blk W3 w2.heap.size 48 (u1.cs ++ u2.cs) := by rw [← hW3]; exact Blk.new _ _ _
  have BB := build_bat1 (some ⟨w2.heap.size, 0, none⟩) 2 2 W3
  have hb03 := bel_trans hb1 (bel_trans hb2 hb3)
  have HA := rapply_any none 0 0 [] (some ⟨w2.heap.size, 0, none⟩) 2 2 [u1, u2] W3 (hW.later hb03) rfl (by omega) (.inl rfl) (fun _ => rfl) rfl (by omega) (by omega) (up_at2 bU)
  have H0 := Lib.hid (And.intro hW hb03)
  clear hW3 hb3 bU HE1 HE2 hb1 hb2 hb03 hW
  go_wp2_with fail
  refine HA.mono ?_
  rintro e w4 ⟨a4, c4, M, er, rfl, hO, hA, hb4⟩
  obtain ⟨rfl, rfl⟩ := wk_1 hA
  rw [show ([x2, x1] : List Ro).length = 2 from rfl] at hO ⊢
  have ST := st_rib (a2 := a4) (n2 := 2) (c2 := c4) (Blk.new w4 24 #[.slice none 0 0])
  rw [World.setRow_alloc_new] at ST
  obtain ⟨W5, hW5⟩ : ∃ W5, w4.alloc (.cells #[.slice a4 2 c4] 24) = W5 := ⟨_, rfl⟩
  rw [hW5] at ST
  have b5 : Blk W5 w4.heap.size 24 #[.slice a4 2 c4] := by rw [← hW5]; exact Blk.new _ _ _
  have k45 : Below w4.heap.size w4 W5 := by rw [← hW5]; exact (Below.refl _ _).alloc (Nat.le_refl _) _
  have hb05 := bel_trans H0.out.2 (bel_trans hb4 k45)
  have hO5 := hO.later k45
  have LR5 := rib_t b5 W5 (Below.refl _ _)
  have HBe := rbest_any a4 2 c4 [x2, x1] W5 (H0.out.1.later hb05) rfl (by omega) hO5.at'.1 hO5.at'.2
  have H5 := Lib.hid (And.intro b5 (And.intro hO5 hb05))
  clear hA hO hW5 b5 k45 hb05 hO5 HA hb4 BU1 BU2 BS BB
  go_wp2_with (with_reducible refine wpList_alloc_z rfl 24 rfl #[.slice none 0 0] 1 z_rib ?_)
  refine HBe.mono ?_
  rintro e w6 ⟨a6, c6, T, er, rfl, hO6, hA6, hb6⟩
  obtain ⟨rfl, rfl⟩ := wk_2 hA6
  rw [show ([⟨tenP, 9⟩] : List Rt).length = 1 from rfl] at hO6 ⊢
  have ST6 := st_tab (a2 := a6) (n2 := 1) (c2 := c6) (Blk.new w6 56 #[.slice none 0 0])
  rw [World.setRow_alloc_new] at ST6
  obtain ⟨W7, hW7⟩ : ∃ W7, w6.alloc (.cells #[.slice a6 1 c6] 56) = W7 := ⟨_, rfl⟩
  rw [hW7] at ST6
  have b7 : Blk W7 w6.heap.size 56 #[.slice a6 1 c6] := by rw [← hW7]; exact Blk.new _ _ _
  have k67 : Below w6.heap.size w6 W7 := by rw [← hW7]; exact (Below.refl _ _).alloc (Nat.le_refl _) _
  have k57 := bel_trans hb6 k67
  have bR7 := H5.out.1.later k57
  have LR7 := rib_t bR7
  have H7 := Lib.hid (And.intro b7 (And.intro (hO6.later k67) (And.intro (bel_trans H5.out.2.2 k57) (And.intro bR7 (H5.out.2.1.later k57)))))
  have h07 : Below W7.heap.size W7 W7 := Below.refl _ _
  clear hA6 hO6 hW7 b7 k67 k57 bR7 HBe hb6 LR5
  go_upto_region 3 with (with_reducible refine wpList_alloc_z rfl 56 rfl #[.slice none 0 0] 1 z_tab ?_)
  refine wp_region_linW (fun w' => Below W7.heap.size W7 w') (fun _ _ => True) (wkF W7) [1, 3, 5, 9] [10] [0, 1, 2, 3, 4, 5, 6, 7, 8, 9] [10, 11] (by kernel_rfl) (by kernel_rfl) (wkF_ne W7) (bel_drew h07) (fun _ => trivial) ?_
  (refine linW_op (v := ?_) rfl rfl (by rfl) (fun w9 hS9 => ?_) ?_; rotate_left; (focus (((try dsimp only at hS9); go_simp; (try go_bits)) <;> with_reducible rfl)); (try simp only [Act.put, List.getElem_toArray, List.getElem_cons_zero, List.getElem_cons_succ, List.setIfInBounds_toArray, List.set_cons_zero, List.set_cons_succ]))
  refine linW_call (f := 14) (args := #[]) rfl rfl (by rfl) rfl rfl (enters_of Tryz.func14 (by kernel_rfl) rfl) (by simp) (fun w9 hS9 _ _ => ?_) (fun v1 hv1 => ?_)
  · refine (eight11_any w9).mono ?_
    rintro e w8 ⟨rfl, hb8⟩
    exact ⟨_, rfl, bel_trans hS9 hb8, fun _ _ _ => trivial, fun d u _ h => h.later hb8, wkF_1 _ _⟩
  obtain rfl : v1 = .agg tenP.cs := by obtain ⟨_, h⟩ := hv1; exact h.1 rfl
  (try simp only [Act.put, List.getElem_toArray, List.getElem_cons_zero, List.getElem_cons_succ, List.setIfInBounds_toArray, List.set_cons_zero, List.set_cons_succ])
  have BU3 := build_u3
  (refine linW_op (v := ?_) rfl rfl (by rfl) (fun w9 hS9 => ?_) ?_; rotate_left; (focus (((try dsimp only at hS9); go_simp; (try go_bits)) <;> with_reducible rfl)); (try simp only [Act.put, List.getElem_toArray, List.getElem_cons_zero, List.getElem_cons_succ, List.setIfInBounds_toArray, List.set_cons_zero, List.set_cons_succ]))
  refine linW_do rfl rfl (by rfl) (fun w9 hS9 _ _ => ?_) (fun v3 hv3 => ?_)
  · have k9 : Below w9.heap.size w9 (w9.alloc (.cells u3.cs 48)) := (Below.refl _ _).alloc (Nat.le_refl _) _
    have r9 := upbuild1_run w9
    exact ⟨_, _, by go_simp, bel_trans hS9 k9, fun _ _ _ => trivial, fun d u _ h => h.later k9, wkF_3 hS9.size (Blk.new w9 _ _)⟩
  obtain ⟨g3, rfl⟩ : ∃ g3, v3 = .slice (some ⟨g3, 0, none⟩) 1 1 := by
    obtain ⟨_, h⟩ := hv3
    obtain ⟨g, h1, _⟩ := h.2.1 rfl
    exact ⟨g, h1⟩
  (try simp only [Act.put, List.getElem_toArray, List.getElem_cons_zero, List.getElem_cons_succ, List.setIfInBounds_toArray, List.set_cons_zero, List.set_cons_succ])
  have BB3 := build_bat1 (some ⟨g3, 0, none⟩) 1 1
  (refine linW_op (v := ?_) rfl rfl (by rfl) (fun w9 hS9 => ?_) ?_; rotate_left; (focus (((try dsimp only at hS9); go_simp; (try go_bits)) <;> with_reducible rfl)); (try simp only [Act.put, List.getElem_toArray, List.getElem_cons_zero, List.getElem_cons_succ, List.setIfInBounds_toArray, List.set_cons_zero, List.set_cons_succ]))
  refine linW_call (f := 12) (args := #[.agg #[.slice a4 2 c4], .agg #[.slice (some ⟨g3, 0, none⟩) 1 1]]) rfl rfl (by rfl) rfl rfl (enters_of Tryz.func12 (by kernel_rfl) rfl) (by simp [Act.eval]) (fun w9 hS9 _ hF9 => ?_) (fun v5 hv5 => ?_)
  · have f3 := hF9 (3, .slice (some ⟨g3, 0, none⟩) 1 1) (by simp) (by kernel_rfl)
    obtain ⟨g, e1, e2, e3⟩ := f3.2.1 rfl
    injection e1 with e1a
    injection e1a with e1b
    injection e1b with e1c
    subst e1c
    have hO9 := H7.out.2.2.2.2.later hS9
    refine (rapply_any a4 2 c4 [x2, x1] (some ⟨g3, 0, none⟩) 1 1 [u3] w9 (H0.out.1.later (bel_trans H7.out.2.2.1 hS9)) rfl (by omega) hO9.at'.1 hO9.at'.2 rfl (by omega) (by omega) (up_at1 e3)).mono ?_
    rintro e w8 ⟨a8, c8, M, er, rfl, hO8, hA8, hb8⟩
    obtain ⟨rfl, rfl⟩ := wk_3 hA8
    exact ⟨_, rfl, bel_trans hS9 hb8, fun _ _ _ => trivial, fun d u _ h => h.later hb8, wkF_5 (hO8.less hS9.size)⟩
  obtain ⟨a5, c5, rfl⟩ : ∃ a5 c5, v5 = .tuple #[.agg #[.slice a5 1 c5], .int .i64 0] := by
    obtain ⟨_, h⟩ := hv5
    obtain ⟨a, c, h1, _⟩ := h.2.2.1 rfl
    exact ⟨a, c, h1⟩
  (try simp only [Act.put, List.getElem_toArray, List.getElem_cons_zero, List.getElem_cons_succ, List.setIfInBounds_toArray, List.set_cons_zero, List.set_cons_succ])
  (refine linW_op (v := ?_) rfl rfl (by rfl) (fun w9 hS9 => ?_) ?_; rotate_left; (focus (((try dsimp only at hS9); go_simp; (try go_bits)) <;> with_reducible rfl)); (try simp only [Act.put, List.getElem_toArray, List.getElem_cons_zero, List.getElem_cons_succ, List.setIfInBounds_toArray, List.set_cons_zero, List.set_cons_succ]))
  (refine linW_op (v := ?_) rfl rfl (by rfl) (fun w9 hS9 => ?_) ?_; rotate_left; (focus (((try dsimp only at hS9); go_simp; (try go_bits)) <;> with_reducible rfl)); (try simp only [Act.put, List.getElem_toArray, List.getElem_cons_zero, List.getElem_cons_succ, List.setIfInBounds_toArray, List.set_cons_zero, List.set_cons_succ]))
  (refine linW_op (v := ?_) rfl rfl (by rfl) (fun w9 hS9 => ?_) ?_; rotate_left; (focus (((try dsimp only at hS9); go_simp; (try go_bits)) <;> with_reducible rfl)); (try simp only [Act.put, List.getElem_toArray, List.getElem_cons_zero, List.getElem_cons_succ, List.setIfInBounds_toArray, List.set_cons_zero, List.set_cons_succ]))
  refine linW_do rfl rfl (by rfl) (fun w9 hS9 _ _ => ?_) (fun v9 hv9 => ?_)
  · have k9 : Below w9.heap.size w9 (w9.alloc (.cells #[.slice none 0 0] 24)) := (Below.refl _ _).alloc (Nat.le_refl _) _
    exact ⟨_, _, by go_simp, bel_trans hS9 k9, fun _ _ _ => trivial, fun d u _ h => h.later k9, wkF_9 hS9.size (Blk.new w9 _ _)⟩
  obtain ⟨g9, rfl⟩ : ∃ g9, v9 = .pointer (some ⟨g9, 0, none⟩) := by
    obtain ⟨_, h⟩ := hv9
    obtain ⟨g, h1, _⟩ := h.2.2.2 rfl
    exact ⟨g, h1⟩
  (try simp only [Act.put, List.getElem_toArray, List.getElem_cons_zero, List.getElem_cons_succ, List.setIfInBounds_toArray, List.set_cons_zero, List.set_cons_succ])
  refine linW_nil (fun w9 hS9 hF9 => ?_)
  have f5 := hF9 (5, .tuple #[.agg #[.slice a5 1 c5], .int .i64 0]) (by simp)
  have f9 := hF9 (9, .pointer (some ⟨g9, 0, none⟩)) (by simp)
  obtain ⟨a5', c5', e5, hO5⟩ := f5.2.2.1 rfl
  obtain ⟨g9', e9, hg9, hb9⟩ := f9.2.2.2 rfl
  injection e9 with e9a
  injection e9a with e9b
  injection e9b with e9c
  subst e9c
  have e5' : a5' = a5 ∧ c5' = c5 := by
    injection e5 with q1
    simp only [Array.mk.injEq, List.cons.injEq, Value.agg.injEq, Value.slice.injEq, and_true, true_and] at q1
    exact ⟨q1.1.symm, q1.2.symm⟩
  obtain ⟨rfl, rfl⟩ := e5'
  have hw9lt := hO5.above
  have SX := st_rib (a2 := a5') (n2 := 1) (c2 := c5') hb9
  obtain ⟨W10, hW10⟩ : ∃ W10, w9.setRow g9 #[.slice a5' 1 c5'] = W10 := ⟨_, rfl⟩
  rw [hW10] at SX
  have b10 : Blk W10 g9 24 #[.slice a5' 1 c5'] := by rw [← hW10]; exact hb9.row _
  have k7X : Below W7.heap.size W7 W10 := by rw [← hW10]; exact below_setRow hS9 hg9 _
  have hO10 : OwnRo W10 W7.heap.size (.slice a5' 1 c5') [x1] := by
    rw [← hW10]
    refine hO5.kept ((Kept.refl [g9] w9).setRow (.inl (by simp)) _) (fun g hg => ?_)
    rcases hO5.2 with ⟨h9, _⟩ | ⟨g', cap, cur, h9, _, hbk, _⟩
    · injection h9 with q1 q2; cases q2
    · rw [h9] at hg
      cases hg
      have hne : g' ≠ g9 := Blk.ne (t := 50) hbk hb9 (by decide)
      simpa using hne
  refine linX_store (w' := W10) rfl rfl (by rfl) ?_ k7X ?_; (focus (go_simp; done))
  (try simp only [Act.put, List.getElem_toArray, List.getElem_cons_zero, List.getElem_cons_succ, List.setIfInBounds_toArray, List.set_cons_zero, List.set_cons_succ])
  (refine linX_op (v := ?_) rfl rfl (by rfl) (fun w9 hS9 => ?_) ?_; rotate_left; (focus (((try dsimp only at hS9); go_simp; (try go_bits)) <;> with_reducible rfl)); (try simp only [Act.put, List.getElem_toArray, List.getElem_cons_zero, List.getElem_cons_succ, List.setIfInBounds_toArray, List.set_cons_zero, List.set_cons_succ]))
  refine linX_nil ?_
  have hb0X := bel_trans H7.out.2.2.1 k7X
  have LR10 := rib_t b10 W10 (Below.refl _ _)
  have HBe2 := rbest_any a5' 1 c5' [x1] W10 (H0.out.1.later hb0X) rfl (by omega) hO10.at'.1 hO10.at'.2
  have HX := Lib.hid (And.intro k7X hb0X)
  clear hw9lt hW10 b10 k7X hO10 hb0X SX hO5 hb9 hF9 hS9 f5 f9 hv3 hv5 hv9 hv1 LR7
  go_wp2_with (with_reducible refine wpList_alloc_z rfl 24 rfl #[.slice none 0 0] 1 z_rib ?_)
  refine HBe2.mono ?_
  rintro e w11 ⟨a11, c11, T, er, rfl, hO11, hA11, hb11⟩
  obtain ⟨rfl, rfl⟩ := wk_4 hA11
  rw [show ([⟨tenP, 7⟩] : List Rt).length = 1 from rfl] at hO11 ⊢
  have ST11 := st_tab (a2 := a11) (n2 := 1) (c2 := c11) (Blk.new w11 56 #[.slice none 0 0])
  rw [World.setRow_alloc_new] at ST11
  obtain ⟨W12, hW12⟩ : ∃ W12, w11.alloc (.cells #[.slice a11 1 c11] 56) = W12 := ⟨_, rfl⟩
  rw [hW12] at ST11
  have b12 : Blk W12 w11.heap.size 56 #[.slice a11 1 c11] := by rw [← hW12]; exact Blk.new _ _ _
  have kAB : Below w11.heap.size w11 W12 := by rw [← hW12]; exact (Below.refl _ _).alloc (Nat.le_refl _) _
  have k7C : Below W7.heap.size W7 W12 := bel_trans HX.out.1 (bel_trans hb11 kAB)
  have hO12 := hO11.later kAB
  have hO6' := H7.out.2.1.later k7C
  obtain ⟨g6, rfl, hr6⟩ : ∃ g, a6 = some ⟨g, 0, none⟩ ∧ Rws W12 g 0 [⟨tenP, 9⟩] := by
    rcases hO6'.2 with ⟨h9, _⟩ | ⟨g', cap, cur, h9, _⟩
    · injection h9 with q1 q2; cases q2
    · injection h9 with q1
      obtain ⟨a, c, e, _, _, hr, _⟩ := hO6'.lies
      injection e with e1
      rw [← e1, q1] at hr
      rcases hr with h | ⟨g, o, h1, h2⟩
      · cases h
      · cases h1; exact ⟨_, q1, h2⟩
  obtain ⟨gB, rfl, hrB⟩ : ∃ g, a11 = some ⟨g, 0, none⟩ ∧ Rws W12 g 0 [⟨tenP, 7⟩] := by
    rcases hO12.2 with ⟨h9, _⟩ | ⟨g', cap, cur, h9, _⟩
    · injection h9 with q1 q2; cases q2
    · injection h9 with q1
      obtain ⟨a, c, e, _, _, hr, _⟩ := hO12.lies
      injection e with e1
      rw [← e1, q1] at hr
      rcases hr with h | ⟨g, o, h1, h2⟩
      · cases h
      · cases h1; exact ⟨_, q1, h2⟩
  have C6 : W12.cell? ⟨g6, 18, none⟩ = some (.int .i64 9) := hr6.hop (i := 0) (by simp)
  have CB : W12.cell? ⟨gB, 18, none⟩ = some (.int .i64 7) := hrB.hop (i := 0) (by simp)
  have D6 := tab_c H7.out.1 W12 k7C
  have DB := tab_c b12 W12 (Below.refl _ _)
  have HZ := Lib.hid (bel_trans H7.out.2.2.1 k7C)
  clear hA11 hO11 hW12 b12 kAB k7C hO12 hO6' hr6 hrB hb11 HBe2 LR10
  go_wp2_with (with_reducible refine wpList_alloc_z rfl 56 rfl #[.slice none 0 0] 1 z_tab ?_)
  go_ret
  exact ⟨rfl, HZ.out⟩
end Go.Proofs.YtikdgbmdepplgaaGreatDoor
namespace Go.Proofs.YtikdgbmdepplgaaGreatDoor
open Go.RowKit Go.Shelf
set_option linter.unusedVariables false
set_option maxRecDepth 100000
set_option maxHeartbeats 1600000 in
theorem over11_any (a : Option Addr) (n c : Nat) (a2 : Option Addr) (n2 c2 : Nat) (w : World) (b : Bool) (hb : decide (300 < n ∨ 100 < n2) = b) :
    Calls Tryz.prog 5 #[.agg #[.slice a n c], .agg #[.slice a2 n2 c2]] w fun e w' => e = .returned (.bool b) ∧ Below w.heap.size w w' := by
  obtain ⟨W1, hW1⟩ : ∃ W1, (w.alloc (.cells #[.slice a n c] 24)).alloc (.cells #[.slice a2 n2 c2] 27) = W1 := ⟨_, rfl⟩
  have hb1 : Below w.heap.size w W1 := by rw [← hW1]; exact ((Below.refl _ _).alloc (Nat.le_refl _) _).alloc (by simp) _
  have b1 : Blk W1 w.heap.size 24 #[.slice a n c] := by rw [← hW1]; exact (Blk.new _ _ _).alloc _
  have b2 : Blk W1 (w.heap.size + 1) 27 #[.slice a2 n2 c2] := by rw [← hW1]; exact blk_new2 _ _ _ _
  have C1 : W1.cell? ⟨w.heap.size, 0, none⟩ = some (.slice a n c) := b1.cell 0
  have C2 : W1.cell? ⟨w.heap.size + 1, 0, none⟩ = some (.slice a2 n2 c2) := b2.cell 0
  have HB := Lib.hid hb1
  clear hb1 b1 b2
  by_cases h1 : 300 < n
  · have d1 : (300 : Int) < (n : Int) := by omega
    obtain rfl : true = b := (decide_eq_true (show 300 < n ∨ 100 < n2 from .inl h1)).symm.trans hb
    clear hb
    clear h1
    go_enter Tryz.func5, Tryz.ntmps5
    go_wp2
    go_ret
    exact ⟨by first | rfl | (simp; done), HB.out⟩
  · have d1 : ¬ ((300 : Int) < (n : Int)) := by omega
    by_cases h2 : 100 < n2
    · have d2 : (100 : Int) < (n2 : Int) := by omega
      obtain rfl : true = b := (decide_eq_true (show 300 < n ∨ 100 < n2 from .inr h2)).symm.trans hb
      clear hb
      clear h1 h2
      go_enter Tryz.func5, Tryz.ntmps5
      go_wp2
      go_ret
      exact ⟨by first | rfl | (simp; omega), HB.out⟩
    · have d2 : ¬ ((100 : Int) < (n2 : Int)) := by omega
      obtain rfl : false = b := (decide_eq_false (show ¬ (300 < n ∨ 100 < n2) from fun h => by omega)).symm.trans hb
      clear hb
      clear h1 h2
      go_enter Tryz.func5, Tryz.ntmps5
      go_wp2
      go_ret
      exact ⟨by first | rfl | (simp; omega), HB.out⟩
end Go.Proofs.YtikdgbmdepplgaaGreatDoor
namespace Go.Proofs.YtikdgbmdepplgaaGreatDoor
open Go.RowKit Go.Shelf
set_option linter.unusedVariables false
set_option maxRecDepth 100000
theorem results_blks {fn : Func} {p q : Tmp} {ty ty2 : TypeId} (h : fn.results = #[.cell p ty, .cell q ty2]) (tmps : Array Value) (w : World) (g g2 : Nat) (vs vs2 : Array Value) (d d2 : TypeDesc)
    (hp : tmps.getD p undef = .pointer (some ⟨g, 0, none⟩)) (hq : tmps.getD q undef = .pointer (some ⟨g2, 0, none⟩)) (hb : Blk w g ty vs) (hb2 : Blk w g2 ty2 vs2)
    (hu : Tryz.prog.underlying ty = some d) (hd : d.isRow = true) (hi : (Tryz.prog.info? ty).map (·.size) = some vs.size)
    (hu2 : Tryz.prog.underlying ty2 = some d2) (hd2 : d2.isRow = true) (hi2 : (Tryz.prog.info? ty2).map (·.size) = some vs2.size) :
    (results fn tmps).run Tryz.prog w = .ok (.tuple #[.agg vs, .agg vs2]) w := by
  have hl := run_loadVar_row (P := Tryz.prog) w g ty ty vs (0, 0) d hb hu (by cases d <;> simp_all) hi
  have hl2 := run_loadVar_row (P := Tryz.prog) w g2 ty2 ty2 vs2 (0, 0) d2 hb2 hu2 (by cases d2 <;> simp_all) hi2
  have hp2 : tmps[p]?.getD undef = .pointer (some ⟨g, 0, none⟩) := by rw [← hp]; simp
  have hq2 : tmps[q]?.getD undef = .pointer (some ⟨g2, 0, none⟩) := by rw [← hq]; simp
  simp only [results, h]
  simp [Sem.run_bind, Result.andThen, asAddr, hp2, hq2, hl, hl2]
theorem roapp_none {w : World} (ty : TypeId) {B : Nat} {v : Value} {L : List Ro} (h : OwnRo w B v L) : (roappSem ty #[v, .slice none 0 0]).run Tryz.prog w = .ok v w := by
  obtain ⟨i0, hi, hz0, hz1, hz2⟩ := info_parts info_ro
  exact run_append_owned_none (P := Tryz.prog) w B 22 ty 50 i0 21 Tryz.underlying22 hi v L.length (rocs L) h
theorem upapp_none {w : World} (ty : TypeId) {B : Nat} {v : Value} {L : List Up} (h : OwnUp w B v L) : (upappSem ty #[v, .slice none 0 0]).run Tryz.prog w = .ok v w := by
  obtain ⟨i0, hi, hz0, hz1, hz2⟩ := info_parts info_up
  exact run_append_owned_none (P := Tryz.prog) w B 25 ty 48 i0 22 Tryz.underlying25 hi v L.length (upcs L) h
theorem OwnUp.later {w w' : World} {B : Nat} {v : Value} {L : List Up} (h : OwnUp w B v L) (k : Below w.heap.size w w') : OwnUp w' B v L := by
  refine ⟨h.1, ?_⟩
  rcases h.2 with h | ⟨g, cap, cur, h1, h2, h3, h4⟩
  · exact .inl h
  · exact .inr ⟨g, cap, cur, h1, h2, (k.block _ (Array.getElem?_eq_some_iff.1 h3).1).trans h3, h4⟩
/-- Candidates that lie anywhere, appended to a slice of none that a call owns. -/
theorem roapp_all {w : World} {B : Nat} {v : Value} {a : Option Addr} {n c : Nat} {L : List Ro} (h : OwnRo w B v []) (hn : L.length = n) (hs : n ≤ 1000) (hR : RoAt w a L) (h0 : a = none → c = 0) (hB : B ≤ w.heap.size) (hv : ∀ g, v.ownBlock = some g → B ≤ g) :
    ∃ v' w', (∀ ty : TypeId, (roappSem ty #[v, .slice a n c]).run Tryz.prog w = .ok v' w') ∧ OwnRo w' B v' L ∧ Below B w w' := by
  cases a with
  | none =>
    obtain rfl : L = [] := by
      rcases hR with h | ⟨g, o, h, _⟩
      · exact h
      · cases h
    obtain rfl := h0 rfl
    obtain rfl : n = 0 := hn.symm
    exact ⟨_, w, fun ty => roapp_none ty h, h, Below.refl _ _⟩
  | some x =>
    obtain ⟨v', w', h1, h2, h3, h4⟩ := roapp_run (c := c) 22 h hn hR (by simp; omega) hB
    exact ⟨v', w', fun ty => h1, by simpa using h2, (Below.refl _ _).grown h3 hB hv⟩
theorem upapp_all {w : World} {B : Nat} {v : Value} {a : Option Addr} {n c : Nat} {L : List Up} (h : OwnUp w B v []) (hn : L.length = n) (hs : n ≤ 1000) (hR : UpAt w a L) (h0 : a = none → c = 0) (hB : B ≤ w.heap.size) (hv : ∀ g, v.ownBlock = some g → B ≤ g) :
    ∃ v' w', (∀ ty : TypeId, (upappSem ty #[v, .slice a n c]).run Tryz.prog w = .ok v' w') ∧ OwnUp w' B v' L ∧ Below B w w' := by
  cases a with
  | none =>
    obtain rfl : L = [] := by
      rcases hR with h | ⟨g, o, h, _⟩
      · exact h
      · cases h
    obtain rfl := h0 rfl
    obtain rfl : n = 0 := hn.symm
    exact ⟨_, w, fun ty => upapp_none ty h, h, Below.refl _ _⟩
  | some x =>
    obtain ⟨v', w', h1, h2, h3, h4⟩ := upapp_run (c := c) 25 h hn hR (by simp; omega) hB
    exact ⟨v', w', fun ty => h1, by simpa using h2, (Below.refl _ _).grown h3 hB hv⟩
/-- Behind a slice of none without room: what lay lies. -/
theorem roapp_zero {w : World} {B g0 : Nat} {a : Option Addr} {n c : Nat} {L : List Ro} (hb : Blk w g0 50 #[]) (hB : B ≤ g0) (hn : L.length = n) (hs : n ≤ 1000) (hR : RoAt w a L) (h0 : a = none → c = 0) :
    ∃ v' w', (∀ ty : TypeId, (roappSem ty #[.slice (some ⟨g0, 0, none⟩) 0 0, .slice a n c]).run Tryz.prog w = .ok v' w') ∧ OwnRo w' B v' L ∧ Below w.heap.size w w' := by
  have own : OwnRo w B (.slice (some ⟨g0, 0, none⟩) 0 0) [] := ⟨rfl, .inr ⟨g0, 0, #[], rfl, hB, hb, Nat.le_refl _, by simp, rfl, rfl⟩⟩
  obtain ⟨i0, hi, hz0, hz1, hz2⟩ := info_parts info_ro
  cases a with
  | none =>
    obtain rfl : L = [] := by
      rcases hR with h | ⟨g, o, h, _⟩
      · exact h
      · cases h
    obtain rfl := h0 rfl
    obtain rfl : n = 0 := hn.symm
    exact ⟨_, w, fun ty => roapp_none ty own, own, Below.refl _ _⟩
  | some x =>
    have hlt := hb.lt
    obtain ⟨v', w', h1, h2, h3, h4⟩ := roapp_run (c := c) 22 own hn hR (by simp; omega) (Nat.le_trans hB (Nat.le_of_lt hlt))
    refine ⟨v', w', fun ty => h1, by simpa using h2, ?_⟩
    have hsrc : ∀ j u, (rocs L)[j]? = some u → w.cell? (x.add j) = some u := by
      intro j u hj
      rcases hR with rfl | ⟨g, o, e, hr⟩
      · simp [rocs] at hj
      · cases e
        rw [Addr.add_lit]
        exact hr.cells j u hj
    by_cases hz : n = 0
    · subst hz
      obtain rfl : L = [] := List.eq_nil_of_length_eq_zero hn
      have hroom := run_append_room (P := Tryz.prog) w 22 22 50 i0 Tryz.underlying22 hi g0 0 0 #[] hb x 0 c [] (by simp) (fun j u h => by simp at h) (fun u hu => by simp at hu) (Nat.le_refl _) (by simp)
      have h9 := Eq.trans (Eq.symm h1) hroom
      injection h9 with _ hw
      rw [hw]
      simp only [List.append_nil, Array.toList_empty, List.take_nil, List.drop_nil, List.length_nil]
      have hself : w.setRow g0 #[] = w := setRow_self w g0 #[] 50 (0, 0) hb
      rw [hself]
      exact Below.refl _ _
    · have hgrow := run_append_grow (P := Tryz.prog) w 22 22 50 i0 (.agg Ro.zero.cs) Tryz.underlying22 hi hz0 ⟨g0, 0, none⟩ 0 0 [] (by simp) (fun j u h => by simp at h) x n c (rocs L) (by rw [rocs_len, hn, hz1]) hsrc (by omega) (by omega) (by rw [hz2, Nat.zero_add, nextslicecap_zero (by omega)]; omega)
      have h9 := h1.symm.trans hgrow
      injection h9 with _ hw
      rw [hw]
      exact ((Below.refl w.heap.size w).drew).alloc (by simp) _
/-- Behind a slice of none without room: what lay lies. -/
theorem upapp_zero {w : World} {B g0 : Nat} {a : Option Addr} {n c : Nat} {L : List Up} (hb : Blk w g0 48 #[]) (hB : B ≤ g0) (hn : L.length = n) (hs : n ≤ 1000) (hR : UpAt w a L) (h0 : a = none → c = 0) :
    ∃ v' w', (∀ ty : TypeId, (upappSem ty #[.slice (some ⟨g0, 0, none⟩) 0 0, .slice a n c]).run Tryz.prog w = .ok v' w') ∧ OwnUp w' B v' L ∧ Below w.heap.size w w' := by
  have own : OwnUp w B (.slice (some ⟨g0, 0, none⟩) 0 0) [] := ⟨rfl, .inr ⟨g0, 0, #[], rfl, hB, hb, Nat.le_refl _, by simp, rfl, rfl⟩⟩
  obtain ⟨i0, hi, hz0, hz1, hz2⟩ := info_parts info_up
  cases a with
  | none =>
    obtain rfl : L = [] := by
      rcases hR with h | ⟨g, o, h, _⟩
      · exact h
      · cases h
    obtain rfl := h0 rfl
    obtain rfl : n = 0 := hn.symm
    exact ⟨_, w, fun ty => upapp_none ty own, own, Below.refl _ _⟩
  | some x =>
    have hlt := hb.lt
    obtain ⟨v', w', h1, h2, h3, h4⟩ := upapp_run (c := c) 25 own hn hR (by simp; omega) (Nat.le_trans hB (Nat.le_of_lt hlt))
    refine ⟨v', w', fun ty => h1, by simpa using h2, ?_⟩
    have hsrc : ∀ j u, (upcs L)[j]? = some u → w.cell? (x.add j) = some u := by
      intro j u hj
      rcases hR with rfl | ⟨g, o, e, hr⟩
      · simp [upcs] at hj
      · cases e
        rw [Addr.add_lit]
        exact hr.cells j u hj
    by_cases hz : n = 0
    · subst hz
      obtain rfl : L = [] := List.eq_nil_of_length_eq_zero hn
      have hroom := run_append_room (P := Tryz.prog) w 25 25 48 i0 Tryz.underlying25 hi g0 0 0 #[] hb x 0 c [] (by simp) (fun j u h => by simp at h) (fun u hu => by simp at hu) (Nat.le_refl _) (by simp)
      have h9 := Eq.trans (Eq.symm h1) hroom
      injection h9 with _ hw
      rw [hw]
      simp only [List.append_nil, Array.toList_empty, List.take_nil, List.drop_nil, List.length_nil]
      have hself : w.setRow g0 #[] = w := setRow_self w g0 #[] 48 (0, 0) hb
      rw [hself]
      exact Below.refl _ _
    · have hgrow := run_append_grow (P := Tryz.prog) w 25 25 48 i0 (.agg Up.zero.cs) Tryz.underlying25 hi hz0 ⟨g0, 0, none⟩ 0 0 [] (by simp) (fun j u h => by simp at h) x n c (upcs L) (by rw [upcs_len, hn, hz1]) hsrc (by omega) (by omega) (by rw [hz2, Nat.zero_add, nextslicecap_zero (by omega)]; omega)
      have h9 := h1.symm.trans hgrow
      injection h9 with _ hw
      rw [hw]
      exact ((Below.refl w.heap.size w).drew).alloc (by simp) _
end Go.Proofs.YtikdgbmdepplgaaGreatDoor
namespace Go.Proofs.YtikdgbmdepplgaaGreatDoor
open Go.RowKit Go.Shelf
set_option linter.unusedVariables false
set_option maxRecDepth 100000
theorem z_bat : (Tryz.prog.info? 27).map (fun i => (i.zero, i.size)) = some (some (.agg #[.slice none 0 0]), 1) := by kernel_rfl
theorem s_bat1 {a : Option Addr} {n c : Nat} : (Tryz.prog.info? 27).map (·.size) = some (#[Value.slice a n c] : Array Value).size := (zero_of_info z_bat).2
theorem st_bat {w : World} {g : Nat} {a a2 : Option Addr} {n c n2 c2 : Nat} (h : Blk w g 27 #[.slice a n c]) : (storeSem 27 (.pointer (some ⟨g, 0, none⟩)) (.agg #[.slice a2 n2 c2])).run Tryz.prog w = .ok () (w.setRow g #[.slice a2 n2 c2]) := by
  have := storeRes_of (P := Tryz.prog) (ty := 27) (o := 0) (vs := #[.slice a2 n2 c2]) h (by simp) s_bat1 (by simp [Value.oneCell'])
  rwa [over_all (by simp)] at this
def owF (B n n2 : Nat) (L : List Ro) (U : List Up) (i : Nat) (v : Value) (w : World) : Prop :=
  (i = 0 → ∃ g, v = .slice (some ⟨g, 0, none⟩) 0 0 ∧ B ≤ g ∧ Blk w g 50 #[]) ∧ (i = 3 → ∃ a c, v = .slice a n c ∧ OwnRo w B (.slice a n c) L) ∧
  (i = 5 → ∃ g, v = .slice (some ⟨g, 0, none⟩) 0 0 ∧ B ≤ g ∧ Blk w g 48 #[]) ∧ (i = 8 → ∃ a c, v = .slice a n2 c ∧ OwnUp w B (.slice a n2 c) U)
theorem owF.later {B n n2 : Nat} {L : List Ro} {U : List Up} {w w' : World} {i : Nat} {v : Value} (h : owF B n n2 L U i v w) (k : Below w.heap.size w w') : owF B n n2 L U i v w' := by
  refine ⟨fun e => ?_, fun e => ?_, fun e => ?_, fun e => ?_⟩
  · obtain ⟨g, h1, h2, h3⟩ := h.1 e; exact ⟨g, h1, h2, h3.later k⟩
  · obtain ⟨a, c, h1, h2⟩ := h.2.1 e; exact ⟨a, c, h1, h2.later k⟩
  · obtain ⟨g, h1, h2, h3⟩ := h.2.2.1 e; exact ⟨g, h1, h2, h3.later k⟩
  · obtain ⟨a, c, h1, h2⟩ := h.2.2.2 e; exact ⟨a, c, h1, h2.later k⟩
theorem OwnUp.lies9 {w : World} {B : Nat} {v : Value} {U : List Up} {n : Nat} (h : OwnUp w B v U) (hn : U.length = n) : ∃ a c, v = .slice a n c := by
  obtain ⟨a, c, h1, _⟩ := h.lies
  rw [hn] at h1; exact ⟨a, c, h1⟩
theorem OwnRo.lies9 {w : World} {B : Nat} {v : Value} {U : List Ro} {n : Nat} (h : OwnRo w B v U) (hn : U.length = n) : ∃ a c, v = .slice a n c := by
  obtain ⟨a, c, h1, _⟩ := h.lies
  rw [hn] at h1; exact ⟨a, c, h1⟩
attribute [local go_sem ↓] load_rib_rule store_rib_rule build_rib_rule build_bat_rule load_bat_rule store_bat_rule upbuild_rule robuild_rule roapp_rule upapp_rule
end Go.Proofs.YtikdgbmdepplgaaGreatDoor
namespace Go.Proofs.YtikdgbmdepplgaaGreatDoor
open Go.RowKit Go.Shelf
set_option linter.unusedVariables false
set_option maxRecDepth 100000
/-- A RIB in a new box. -/
theorem rib_box (w : World) (a : Option Addr) (n c : Nat) : ∃ W, (storeSem 24 (.pointer (some ⟨w.heap.size, 0, none⟩)) (.agg #[.slice a n c])).run Tryz.prog (w.alloc (.cells #[.slice none 0 0] 24)) = .ok () W ∧ Blk W w.heap.size 24 #[.slice a n c] ∧ Below w.heap.size w W :=
  ⟨_, st_rib (Blk.new w _ _), Blk.row (Blk.new w _ _) _, below_setRow ((Below.refl _ _).alloc (Nat.le_refl _) _) (Nat.le_refl _) _⟩
/-- A RIB and a batch in two new boxes. -/
theorem rib_bat_box (w : World) (a : Option Addr) (n c : Nat) (a2 : Option Addr) (n2 c2 : Nat) : ∃ W5 W6, (storeSem 24 (.pointer (some ⟨w.heap.size, 0, none⟩)) (.agg #[.slice a n c])).run Tryz.prog ((w.alloc (.cells #[.slice none 0 0] 24)).alloc (.cells #[.slice none 0 0] 27)) = .ok () W5 ∧
    (storeSem 27 (.pointer (some ⟨w.heap.size + 1, 0, none⟩)) (.agg #[.slice a2 n2 c2])).run Tryz.prog W5 = .ok () W6 ∧ Blk W6 w.heap.size 24 #[.slice a n c] ∧ Blk W6 (w.heap.size + 1) 27 #[.slice a2 n2 c2] ∧ Below w.heap.size w W6 := by
  have b1 : Blk ((w.alloc (.cells #[.slice none 0 0] 24)).alloc (.cells #[.slice none 0 0] 27)) w.heap.size 24 #[.slice none 0 0] := (Blk.new _ _ _).alloc _
  have b2 := blk_new2 w (.cells #[.slice none 0 0] 24) 27 #[.slice none 0 0]
  have hb : Below w.heap.size w ((w.alloc (.cells #[.slice none 0 0] 24)).alloc (.cells #[.slice none 0 0] 27)) := ((Below.refl _ _).alloc (Nat.le_refl _) _).alloc (by simp) _
  have k1 : Kept [w.heap.size] _ (((w.alloc (.cells #[.slice none 0 0] 24)).alloc (.cells #[.slice none 0 0] 27)).setRow w.heap.size #[.slice a n c]) := (Kept.refl _ _).setRow (.inl (by simp)) _
  have b3 := b2.kept k1 (by simp)
  refine ⟨_, _, st_rib b1, st_bat b3, ?_, Blk.row b3 _, below_setRow (below_setRow hb (Nat.le_refl _) _) (by omega) _⟩
  exact (b1.row #[.slice a n c]).kept ((Kept.refl [w.heap.size + 1] _).setRow (.inl (by simp)) _) (by simp)
theorem OwnUp.lies2 {w : World} {B : Nat} {a : Option Addr} {n c : Nat} {U : List Up} (h : OwnUp w B (.slice a n c) U) : n = U.length ∧ n ≤ c ∧ c ≤ maxLen ∧ UpAt w a U ∧ (a = none → c = 0) := by
  obtain ⟨a', c', h1, h2, h3, h4, h5⟩ := h.lies
  injection h1 with e1 e2 e3
  subst e1 e2 e3
  refine ⟨rfl, h2, h3, h4, fun h0 => ?_⟩
  subst h0
  rcases h.2 with ⟨h9, _⟩ | ⟨g, cap, cur, h9, _⟩
  · injection h9
  · injection h9 with h8; cases h8
theorem OwnRo.lies2 {w : World} {B : Nat} {a : Option Addr} {n c : Nat} {U : List Ro} (h : OwnRo w B (.slice a n c) U) : n = U.length ∧ n ≤ c ∧ c ≤ maxLen ∧ RoAt w a U ∧ (a = none → c = 0) := by
  obtain ⟨a', c', h1, h2, h3, h4, h5⟩ := h.lies
  injection h1 with e1 e2 e3
  subst e1 e2 e3
  refine ⟨rfl, h2, h3, h4, fun h0 => ?_⟩
  subst h0
  rcases h.2 with ⟨h9, _⟩ | ⟨g, cap, cur, h9, _⟩
  · injection h9
  · injection h9 with h8; cases h8
attribute [local go_sem ↓] load_rib_rule store_rib_rule load_bat_rule store_bat_rule
end Go.Proofs.YtikdgbmdepplgaaGreatDoor
