/-
  The walk of TableDiffers. Nothing here is a statement of the document.
-/
import Derived.Test.YtdbdmnahgkkjiaaDoorTcB
import Derived.Test.YtdbdmnahgkkjiaaDoorLinZ
import Derived.Test.YtdbdmnahgkkjiaaDoorTbL
import Derived.Test.YtdbdmnahgkkjiaaDoorTbJ
namespace Go.Proofs.YtdbdmnahgkkjiaaDoor
open Go.RowKit Go.Shelf
set_option linter.unusedVariables false
set_option maxRecDepth 100000
theorem eq_px_neq (x : Px) (w : World) : (eqSem 38 (.agg x.cs) (.agg x.cs)).run Tryd.prog w = .ok true w := by rw [eqP]; simp
attribute [local go_sem ↓] load_b16_rule store_b16_rule load_ad_rule store_ad_rule load_px_rule store_px_rule eq_b16_rule eq_ad_rule eq_px_rule load_rt_rule store_rt_rule build_ad_rule build_px_rule build_b16_rule build_rt_rule load_tab_rule build_tab_rule store_tab_rule tbuild_rule tapp_rule tcopy_rule eq_rt_rule

set_option maxHeartbeats 8000000 in
theorem tdiffers_walk (a : Option Addr) (n c : Nat) (A : List Rt) (a2 : Option Addr) (n2 c2 : Nat) (B : List Rt) (w : World) (hW : Wid w) (hn : A.length = n) (hT : Tbl w a c A) (hn2 : B.length = n2) (hT2 : Tbl w a2 c2 B) :
    Calls Tryd.prog 3 #[.agg #[.slice a n c], .agg #[.slice a2 n2 c2]] w fun e w' => e = .returned (.bool true) ∧ Below w.heap.size w w' := by
  obtain ⟨W1, hW1⟩ : ∃ W1, (w.alloc (.cells #[.slice a n c] 24)).alloc (.cells #[.slice a2 n2 c2] 24) = W1 := ⟨_, rfl⟩
  have hb1 : Below w.heap.size w W1 := by rw [← hW1]; exact (((Below.refl w.heap.size w).alloc (Nat.le_refl _) _).alloc (by simp) _)
  have b1 : Blk W1 w.heap.size 24 #[.slice a n c] := by
    have h9 := (Blk.new w 24 #[.slice a n c]).alloc (.cells #[.slice a2 n2 c2] 24)
    rwa [hW1] at h9
  have b2 : Blk W1 (w.heap.size + 1) 24 #[.slice a2 n2 c2] := by
    have h9 := Blk.new (w.alloc (.cells #[.slice a n c] 24)) 24 #[.slice a2 n2 c2]
    rwa [World.size_alloc, hW1] at h9
  have hmx : ∀ (L : List Rt) (x : Option Addr) (cc : Nat), Tbl w x cc L → L.length ≤ 9223372036854775807 := fun L x cc h => by have := h.le; have := h.cap; unfold maxLen at this; omega
  have hm := hmx _ _ _ hT
  have hm2 := hmx _ _ _ hT2
  rw [hn] at hm
  rw [hn2] at hm2
  have LT := tab_t b1
  have LU := tab_t b2
  have CT := tab_c b1
  have CU := tab_c b2
  have hTW : ∀ w', Below W1.heap.size W1 w' → Tbl w' a c A := fun w' h => (hT.later hb1).later h
  have hTU : ∀ w', Below W1.heap.size W1 w' → Tbl w' a2 c2 B := fun w' h => (hT2.later hb1).later h
  have HW : ∀ w', Below W1.heap.size W1 w' → Wid w' := fun w' h => (hW.later hb1).later h
  have HWK := fun w' h => wakes9_any w' (HW w' h)
  have h0 : Below W1.heap.size W1 W1 := Below.refl _ _
  have HB := Lib.hid (And.intro hb1 (And.intro hn (And.intro hn2 (And.intro hTW (And.intro hTU (And.intro HW (And.intro hm hm2)))))))
  clear b1 b2 hb1 hT hT2 hW hmx hm hm2 hn hn2 hTW hTU HW
  by_cases h200 : 200 < n
  · have d1 : decide (200 < (n : Int)) = true := decide_eq_true (by omega)
    clear h200
    go_enter Tryd.func3, Tryd.ntmps3
    go_wp2_with (first | (go_at_call 6; refine (HWK _ (by assumption)).mono ?_; rintro e w2 ⟨rfl, hb2⟩; have hk2 : Below W1.heap.size W1 w2 := (by first | exact bel_trans (by assumption) hb2 | (subst hb2; assumption)); clear hb2))
    all_goals go_ret
    all_goals exact ⟨rfl, bel_trans HB.out.1 (by assumption)⟩
  · have d1 : decide (200 < (n : Int)) = false := decide_eq_false (by omega)
    by_cases h201 : 200 < n2
    · have d2 : decide (200 < (n2 : Int)) = true := decide_eq_true (by omega)
      clear h200 h201
      go_enter Tryd.func3, Tryd.ntmps3
      go_wp2_with (first | (go_at_call 6; refine (HWK _ (by assumption)).mono ?_; rintro e w2 ⟨rfl, hb2⟩; have hk2 : Below W1.heap.size W1 w2 := (by first | exact bel_trans (by assumption) hb2 | (subst hb2; assumption)); clear hb2))
      all_goals go_ret
      all_goals exact ⟨rfl, bel_trans HB.out.1 (by assumption)⟩
    · have d2 : decide (200 < (n2 : Int)) = false := decide_eq_false (by omega)
      have HN := Lib.hid (And.intro (show n ≤ 200 by omega) (show n2 ≤ 200 by omega))
      clear h200 h201
      go_enter Tryd.func3, Tryd.ntmps3
      go_wp2_with (first | (go_at_call 6; refine (HWK _ (by assumption)).mono ?_; rintro e w2 ⟨rfl, hb2⟩; have hk2 : Below W1.heap.size W1 w2 := (by first | exact bel_trans (by assumption) hb2 | (subst hb2; assumption)); clear hb2))
      have hk0 : Below W1.heap.size W1 w2 := by assumption
      have HSA := fun w' (h : Below W1.heap.size W1 w') => tsame_any a a2 n c n2 c2 A B w' HB.out.2.1 HB.out.2.2.2.2.2.2.1 (HB.out.2.2.2.1 w' h).at' HB.out.2.2.1 HB.out.2.2.2.2.2.2.2 (HB.out.2.2.2.2.1 w' h).at'
      have HRS := fun w' (h : Below W1.heap.size W1 w') => rsame_any a a2 n c n2 c2 A B w' HB.out.2.1 HB.out.2.2.2.2.2.2.1 (HB.out.2.2.2.1 w' h).at' HB.out.2.2.1 HB.out.2.2.2.2.2.2.2 (HB.out.2.2.2.2.1 w' h).at'
      obtain ⟨T, hT⟩ : ∃ T, decide (A = B) = T := ⟨_, rfl⟩
      rw [hT] at HSA HRS
      have dT : (T != T) = false := by simp
      have HCA := fun w' (h : Below W1.heap.size W1 w') => copied_any a n c A w' HB.out.2.1 (by have := HN.out.1; omega) (HB.out.2.2.2.1 w' h)
      have HCB := fun w' (h : Below W1.heap.size W1 w') => copied_any a2 n2 c2 B w' HB.out.2.2.1 (by have := HN.out.2; omega) (HB.out.2.2.2.2.1 w' h)
      have HSC := fun w' (h : Below W1.heap.size W1 w') a9 c9 (ht : Tbl w' a9 c9 A) => tsame_any a a9 n c n c9 A A w' HB.out.2.1 HB.out.2.2.2.2.2.2.1 (HB.out.2.2.2.1 w' h).at' HB.out.2.1 HB.out.2.2.2.2.2.2.1 ht.at'
      have dd : decide (A = A) = true := decide_eq_true rfl
      rw [dd] at HSC
      clear dd
      refine wp_region_linY (fun w' => Below W1.heap.size W1 w') [2, 5, 10, 11] [0, 1, 3, 4, 2, 5, 6, 7, 8, 9, 10, 11, 12, 13] (by kernel_rfl) (by kernel_rfl) (bel_drew hk0) ?_
      (first | (refine linX_off rfl rfl (by rfl) ?_; (try simp only [Act.put, List.getElem_toArray, List.getElem_cons_zero, List.getElem_cons_succ, List.setIfInBounds_toArray, List.set_cons_zero, List.set_cons_succ])) | (refine linX_op (v := ?_) rfl rfl (by rfl) (fun w9 hS9 => ?_) ?_; rotate_left; (focus (((try dsimp only at hS9); go_simp; (try go_bits)) <;> with_reducible rfl)); (try simp only [Act.put, List.getElem_toArray, List.getElem_cons_zero, List.getElem_cons_succ, List.setIfInBounds_toArray, List.set_cons_zero, List.set_cons_succ])))
      (first | (refine linX_off rfl rfl (by rfl) ?_; (try simp only [Act.put, List.getElem_toArray, List.getElem_cons_zero, List.getElem_cons_succ, List.setIfInBounds_toArray, List.set_cons_zero, List.set_cons_succ])) | (refine linX_op (v := ?_) rfl rfl (by rfl) (fun w9 hS9 => ?_) ?_; rotate_left; (focus (((try dsimp only at hS9); go_simp; (try go_bits)) <;> with_reducible rfl)); (try simp only [Act.put, List.getElem_toArray, List.getElem_cons_zero, List.getElem_cons_succ, List.setIfInBounds_toArray, List.set_cons_zero, List.set_cons_succ])))
      (first | (refine linX_off rfl rfl (by rfl) ?_; (try simp only [Act.put, List.getElem_toArray, List.getElem_cons_zero, List.getElem_cons_succ, List.setIfInBounds_toArray, List.set_cons_zero, List.set_cons_succ])) | (refine linX_op (v := ?_) rfl rfl (by rfl) (fun w9 hS9 => ?_) ?_; rotate_left; (focus (((try dsimp only at hS9); go_simp; (try go_bits)) <;> with_reducible rfl)); (try simp only [Act.put, List.getElem_toArray, List.getElem_cons_zero, List.getElem_cons_succ, List.setIfInBounds_toArray, List.set_cons_zero, List.set_cons_succ])))
      (first | (refine linX_off rfl rfl (by rfl) ?_; (try simp only [Act.put, List.getElem_toArray, List.getElem_cons_zero, List.getElem_cons_succ, List.setIfInBounds_toArray, List.set_cons_zero, List.set_cons_succ])) | (refine linX_op (v := ?_) rfl rfl (by rfl) (fun w9 hS9 => ?_) ?_; rotate_left; (focus (((try dsimp only at hS9); go_simp; (try go_bits)) <;> with_reducible rfl)); (try simp only [Act.put, List.getElem_toArray, List.getElem_cons_zero, List.getElem_cons_succ, List.setIfInBounds_toArray, List.set_cons_zero, List.set_cons_succ])))
      refine linX_call (f := 7) (args := #[.agg #[.slice a n c], .agg #[.slice a2 n2 c2]]) rfl rfl (by rfl) rfl rfl (enters_of Tryd.func7 (by kernel_rfl) rfl) (by simp [Act.eval]) ?_
      refine (HSA _ (bel_drew hk0)).mono ?_
      rintro e w3 ⟨rfl, hb3⟩
      have hk3 : Below W1.heap.size W1 w3 := bel_trans (bel_drew hk0) hb3
      refine ⟨_, rfl, hk3, ?_⟩
      (try simp only [Act.put, List.getElem_toArray, List.getElem_cons_zero, List.getElem_cons_succ, List.setIfInBounds_toArray, List.set_cons_zero, List.set_cons_succ])
      refine linX_call (f := 8) (args := #[.agg #[.slice a n c], .agg #[.slice a2 n2 c2]]) rfl rfl (by rfl) rfl rfl (enters_of Tryd.func8 (by kernel_rfl) rfl) (by simp [Act.eval]) ?_
      refine (HRS _ hk3).mono ?_
      rintro e w4 ⟨rfl, hb4⟩
      have hk4 : Below W1.heap.size W1 w4 := bel_trans hk3 hb4
      refine ⟨_, rfl, hk4, ?_⟩
      (try simp only [Act.put, List.getElem_toArray, List.getElem_cons_zero, List.getElem_cons_succ, List.setIfInBounds_toArray, List.set_cons_zero, List.set_cons_succ])
      (first | (refine linX_off rfl rfl (by rfl) ?_; (try simp only [Act.put, List.getElem_toArray, List.getElem_cons_zero, List.getElem_cons_succ, List.setIfInBounds_toArray, List.set_cons_zero, List.set_cons_succ])) | (refine linX_op (v := ?_) rfl rfl (by rfl) (fun w9 hS9 => ?_) ?_; rotate_left; (focus (((try dsimp only at hS9); go_simp; (try go_bits)) <;> with_reducible rfl)); (try simp only [Act.put, List.getElem_toArray, List.getElem_cons_zero, List.getElem_cons_succ, List.setIfInBounds_toArray, List.set_cons_zero, List.set_cons_succ])))
      (first | (refine linX_off rfl rfl (by rfl) ?_; (try simp only [Act.put, List.getElem_toArray, List.getElem_cons_zero, List.getElem_cons_succ, List.setIfInBounds_toArray, List.set_cons_zero, List.set_cons_succ])) | (refine linX_op (v := ?_) rfl rfl (by rfl) (fun w9 hS9 => ?_) ?_; rotate_left; (focus (((try dsimp only at hS9); go_simp; (try go_bits)) <;> with_reducible rfl)); (try simp only [Act.put, List.getElem_toArray, List.getElem_cons_zero, List.getElem_cons_succ, List.setIfInBounds_toArray, List.set_cons_zero, List.set_cons_succ])))
      (first | (refine linX_off rfl rfl (by rfl) ?_; (try simp only [Act.put, List.getElem_toArray, List.getElem_cons_zero, List.getElem_cons_succ, List.setIfInBounds_toArray, List.set_cons_zero, List.set_cons_succ])) | (refine linX_op (v := ?_) rfl rfl (by rfl) (fun w9 hS9 => ?_) ?_; rotate_left; (focus (((try dsimp only at hS9); go_simp; (try go_bits)) <;> with_reducible rfl)); (try simp only [Act.put, List.getElem_toArray, List.getElem_cons_zero, List.getElem_cons_succ, List.setIfInBounds_toArray, List.set_cons_zero, List.set_cons_succ])))
      (first | (refine linX_off rfl rfl (by rfl) ?_; (try simp only [Act.put, List.getElem_toArray, List.getElem_cons_zero, List.getElem_cons_succ, List.setIfInBounds_toArray, List.set_cons_zero, List.set_cons_succ])) | (refine linX_op (v := ?_) rfl rfl (by rfl) (fun w9 hS9 => ?_) ?_; rotate_left; (focus (((try dsimp only at hS9); go_simp; (try go_bits)) <;> with_reducible rfl)); (try simp only [Act.put, List.getElem_toArray, List.getElem_cons_zero, List.getElem_cons_succ, List.setIfInBounds_toArray, List.set_cons_zero, List.set_cons_succ])))
      refine linX_call (f := 9) (args := #[.agg #[.slice a n c]]) rfl rfl (by rfl) rfl rfl (enters_of Tryd.func9 (by kernel_rfl) rfl) (by simp [Act.eval]) ?_
      refine (HCA _ hk4).mono ?_
      rintro e w5 ⟨a5, c5, rfl, ht5, _, hb5⟩
      have hk5 : Below W1.heap.size W1 w5 := bel_trans hk4 hb5
      refine ⟨_, rfl, hk5, ?_⟩
      (try simp only [Act.put, List.getElem_toArray, List.getElem_cons_zero, List.getElem_cons_succ, List.setIfInBounds_toArray, List.set_cons_zero, List.set_cons_succ])
      refine linX_call (f := 7) (args := #[.agg #[.slice a n c], .agg #[.slice a5 n c5]]) rfl rfl (by rfl) rfl rfl (enters_of Tryd.func7 (by kernel_rfl) rfl) (by simp [Act.eval]) ?_
      refine (HSC _ hk5 _ _ ht5).mono ?_
      rintro e w6 ⟨rfl, hb6⟩
      have hk6 : Below W1.heap.size W1 w6 := bel_trans hk5 hb6
      refine ⟨_, rfl, hk6, ?_⟩
      (try simp only [Act.put, List.getElem_toArray, List.getElem_cons_zero, List.getElem_cons_succ, List.setIfInBounds_toArray, List.set_cons_zero, List.set_cons_succ])
      (first | (refine linX_off rfl rfl (by rfl) ?_; (try simp only [Act.put, List.getElem_toArray, List.getElem_cons_zero, List.getElem_cons_succ, List.setIfInBounds_toArray, List.set_cons_zero, List.set_cons_succ])) | (refine linX_op (v := ?_) rfl rfl (by rfl) (fun w9 hS9 => ?_) ?_; rotate_left; (focus (((try dsimp only at hS9); go_simp; (try go_bits)) <;> with_reducible rfl)); (try simp only [Act.put, List.getElem_toArray, List.getElem_cons_zero, List.getElem_cons_succ, List.setIfInBounds_toArray, List.set_cons_zero, List.set_cons_succ])))
      (first | (refine linX_off rfl rfl (by rfl) ?_; (try simp only [Act.put, List.getElem_toArray, List.getElem_cons_zero, List.getElem_cons_succ, List.setIfInBounds_toArray, List.set_cons_zero, List.set_cons_succ])) | (refine linX_op (v := ?_) rfl rfl (by rfl) (fun w9 hS9 => ?_) ?_; rotate_left; (focus (((try dsimp only at hS9); go_simp; (try go_bits)) <;> with_reducible rfl)); (try simp only [Act.put, List.getElem_toArray, List.getElem_cons_zero, List.getElem_cons_succ, List.setIfInBounds_toArray, List.set_cons_zero, List.set_cons_succ])))
      refine linX_nil ?_
      clear hb3 hb4 hb5 hb6 hk3 hk4 hk5 ht5 hk0 HSA HRS HSC dT hT HWK CT CU

      go_wp2_with fail
      have HDF := fun w' (h : Below W1.heap.size W1 w') x y cx cy (hx : Tbl w' x cx A) (hy : Tbl w' y cy B) => differ_any x y n cx n2 cy A B w' (HB.out.2.2.2.2.2.1 w' h) HB.out.2.1 hx HB.out.2.2.1 hy
      refine wp_region_linY (fun w' => Below W1.heap.size W1 w') [1, 3, 4] [0, 2, 1, 3, 4, 5, 6, 7, 8, 9] (by kernel_rfl) (by kernel_rfl) (bel_drew hk6) ?_
      (first | (refine linX_off rfl rfl (by rfl) ?_; (try simp only [Act.put, List.getElem_toArray, List.getElem_cons_zero, List.getElem_cons_succ, List.setIfInBounds_toArray, List.set_cons_zero, List.set_cons_succ])) | (refine linX_op (v := ?_) rfl rfl (by rfl) (fun w9 hS9 => ?_) ?_; rotate_left; (focus (((try dsimp only at hS9); go_simp; (try go_bits)) <;> with_reducible rfl)); (try simp only [Act.put, List.getElem_toArray, List.getElem_cons_zero, List.getElem_cons_succ, List.setIfInBounds_toArray, List.set_cons_zero, List.set_cons_succ])))
      (first | (refine linX_off rfl rfl (by rfl) ?_; (try simp only [Act.put, List.getElem_toArray, List.getElem_cons_zero, List.getElem_cons_succ, List.setIfInBounds_toArray, List.set_cons_zero, List.set_cons_succ])) | (refine linX_op (v := ?_) rfl rfl (by rfl) (fun w9 hS9 => ?_) ?_; rotate_left; (focus (((try dsimp only at hS9); go_simp; (try go_bits)) <;> with_reducible rfl)); (try simp only [Act.put, List.getElem_toArray, List.getElem_cons_zero, List.getElem_cons_succ, List.setIfInBounds_toArray, List.set_cons_zero, List.set_cons_succ])))
      refine linX_call (f := 9) (args := #[.agg #[.slice a n c]]) rfl rfl (by rfl) rfl rfl (enters_of Tryd.func9 (by kernel_rfl) rfl) (by simp [Act.eval]) ?_
      refine (HCA _ (bel_drew hk6)).mono ?_
      rintro e w7 ⟨a7, c7, rfl, ht7, _, hb7⟩
      have hk7 : Below W1.heap.size W1 w7 := bel_trans (bel_drew hk6) hb7
      refine ⟨_, rfl, hk7, ?_⟩
      (try simp only [Act.put, List.getElem_toArray, List.getElem_cons_zero, List.getElem_cons_succ, List.setIfInBounds_toArray, List.set_cons_zero, List.set_cons_succ])
      refine linX_call (f := 9) (args := #[.agg #[.slice a2 n2 c2]]) rfl rfl (by rfl) rfl rfl (enters_of Tryd.func9 (by kernel_rfl) rfl) (by simp [Act.eval]) ?_
      refine (HCB _ hk7).mono ?_
      rintro e w8 ⟨a8, c8, rfl, ht8, _, hb8⟩
      have hk8 : Below W1.heap.size W1 w8 := bel_trans hk7 hb8
      refine ⟨_, rfl, hk8, ?_⟩
      (try simp only [Act.put, List.getElem_toArray, List.getElem_cons_zero, List.getElem_cons_succ, List.setIfInBounds_toArray, List.set_cons_zero, List.set_cons_succ])
      refine linX_call (f := 10) (args := #[.agg #[.slice a7 n c7], .agg #[.slice a8 n2 c8]]) rfl rfl (by rfl) rfl rfl (enters_of Tryd.func10 (by kernel_rfl) rfl) (by simp [Act.eval]) ?_
      refine (HDF _ hk8 _ _ _ _ (ht7.later hb8) ht8).mono ?_
      rintro e w9 ⟨v9, rfl, ho9, hb9⟩
      have hk9 : Below W1.heap.size W1 w9 := bel_trans hk8 hb9
      obtain ⟨la, lc, rfl, _, _, hat9, _⟩ := ho9.lies
      obtain ⟨Ln, hLn⟩ : ∃ Ln, (dfP A B).length = Ln := ⟨_, rfl⟩
      rw [hLn]
      refine ⟨_, rfl, hk9, ?_⟩
      (try simp only [Act.put, List.getElem_toArray, List.getElem_cons_zero, List.getElem_cons_succ, List.setIfInBounds_toArray, List.set_cons_zero, List.set_cons_succ])
      (first | (refine linX_off rfl rfl (by rfl) ?_; (try simp only [Act.put, List.getElem_toArray, List.getElem_cons_zero, List.getElem_cons_succ, List.setIfInBounds_toArray, List.set_cons_zero, List.set_cons_succ])) | (refine linX_op (v := ?_) rfl rfl (by rfl) (fun w9 hS9 => ?_) ?_; rotate_left; (focus (((try dsimp only at hS9); go_simp; (try go_bits)) <;> with_reducible rfl)); (try simp only [Act.put, List.getElem_toArray, List.getElem_cons_zero, List.getElem_cons_succ, List.setIfInBounds_toArray, List.set_cons_zero, List.set_cons_succ])))
      (first | (refine linX_off rfl rfl (by rfl) ?_; (try simp only [Act.put, List.getElem_toArray, List.getElem_cons_zero, List.getElem_cons_succ, List.setIfInBounds_toArray, List.set_cons_zero, List.set_cons_succ])) | (refine linX_op (v := ?_) rfl rfl (by rfl) (fun w9 hS9 => ?_) ?_; rotate_left; (focus (((try dsimp only at hS9); go_simp; (try go_bits)) <;> with_reducible rfl)); (try simp only [Act.put, List.getElem_toArray, List.getElem_cons_zero, List.getElem_cons_succ, List.setIfInBounds_toArray, List.set_cons_zero, List.set_cons_succ])))
      (first | (refine linX_off rfl rfl (by rfl) ?_; (try simp only [Act.put, List.getElem_toArray, List.getElem_cons_zero, List.getElem_cons_succ, List.setIfInBounds_toArray, List.set_cons_zero, List.set_cons_succ])) | (refine linX_op (v := ?_) rfl rfl (by rfl) (fun w9 hS9 => ?_) ?_; rotate_left; (focus (((try dsimp only at hS9); go_simp; (try go_bits)) <;> with_reducible rfl)); (try simp only [Act.put, List.getElem_toArray, List.getElem_cons_zero, List.getElem_cons_succ, List.setIfInBounds_toArray, List.set_cons_zero, List.set_cons_succ])))
      (first | (refine linX_off rfl rfl (by rfl) ?_; (try simp only [Act.put, List.getElem_toArray, List.getElem_cons_zero, List.getElem_cons_succ, List.setIfInBounds_toArray, List.set_cons_zero, List.set_cons_succ])) | (refine linX_op (v := ?_) rfl rfl (by rfl) (fun w9 hS9 => ?_) ?_; rotate_left; (focus (((try dsimp only at hS9); go_simp; (try go_bits)) <;> with_reducible rfl)); (try simp only [Act.put, List.getElem_toArray, List.getElem_cons_zero, List.getElem_cons_succ, List.setIfInBounds_toArray, List.set_cons_zero, List.set_cons_succ])))
      (first | (refine linX_off rfl rfl (by rfl) ?_; (try simp only [Act.put, List.getElem_toArray, List.getElem_cons_zero, List.getElem_cons_succ, List.setIfInBounds_toArray, List.set_cons_zero, List.set_cons_succ])) | (refine linX_op (v := ?_) rfl rfl (by rfl) (fun w9 hS9 => ?_) ?_; rotate_left; (focus (((try dsimp only at hS9); go_simp; (try go_bits)) <;> with_reducible rfl)); (try simp only [Act.put, List.getElem_toArray, List.getElem_cons_zero, List.getElem_cons_succ, List.setIfInBounds_toArray, List.set_cons_zero, List.set_cons_succ])))
      refine linX_nil ?_
      have HRA := fun w' (h : Below W1.heap.size W1 w') => rright_any a n c A w' HB.out.2.1 HB.out.2.2.2.2.2.2.1 (HB.out.2.2.2.1 w' h).at'
      have HRB := fun w' (h : Below W1.heap.size W1 w') => rright_any a2 n2 c2 B w' HB.out.2.2.1 HB.out.2.2.2.2.2.2.2 (HB.out.2.2.2.2.1 w' h).at'
      have h9 : Below W1.heap.size W1 w9 := hk9
      clear hb7 hb8 hb9 hk6 hk7 hk8 hk9 ht7 ht8 HDF HCA HCB ho9
      by_cases hA : okT A
      · rw [decide_eq_true hA] at HRA
        by_cases hB : okT B
        · rw [decide_eq_true hB] at HRB
          have e1 : dfE A B = 0 := if_pos ⟨hA, hB⟩
          have e2 : dfP A B = mgP A B := if_pos ⟨hA, hB⟩
          have e3 := mgP_df hA hB
          rw [e2] at hLn hat9
          rw [e1]
          have HE := Lib.hid (And.intro hLn (And.intro hat9 (And.intro e3 (And.intro hA hB))))
          clear e1 e2 e3 hLn hat9 hA hB
          have HRD := fun w' (h : Below W1.heap.size W1 w') => rdiffer_any a a2 n c n2 c2 A B w' (HB.out.2.2.2.2.2.1 w' h) HB.out.2.1 (HB.out.2.2.2.1 w' h) HB.out.2.2.1 (HB.out.2.2.2.2.1 w' h) HE.out.2.2.2.1 HE.out.2.2.2.2
          go_wp2_with fail
          refine (HRA _ (by assumption)).mono ?_
          rintro e w3 ⟨rfl, hb3⟩
          have hk3 : Below W1.heap.size W1 w3 := bel_trans h9 hb3
          go_wp2_with fail
          refine (HRB _ (by assumption)).mono ?_
          rintro e w4 ⟨rfl, hb4⟩
          have hk4 : Below W1.heap.size W1 w4 := bel_trans hk3 hb4
          go_wp2_with fail
          refine (HRD _ (by assumption)).mono ?_
          rintro e w5 ⟨v5, rfl, ho5, hb5⟩
          have hk5 : Below W1.heap.size W1 w5 := bel_trans hk4 hb5
          have e9 : (dfK A B (dfK B A [] n) n2).map (·.p) = mgP A B := by rw [HE.out.2.2.1, HB.out.2.1, HB.out.2.2.1]
          rw [e9] at ho5
          obtain ⟨lb, lc2, rfl, _, _, hat5, _⟩ := ho5.lies
          rw [HE.out.1]
          have dl : ((Ln : Int) != (Ln : Int)) = false := by simp
          have hlm : Ln ≤ 9223372036854775807 := by
            have := mg_len A B
            have h2 : (mgP A B).length ≤ (mg A B).length := List.length_filterMap_le _ _
            have := HE.out.1; have := HB.out.2.1; have := HB.out.2.2.1; have := HN.out.1; have := HN.out.2; omega
          have HL := Lib.hid (And.intro (HE.out.2.1.later (bel_trans (bel_trans hb3 hb4) hb5)) hat5)
          clear hb3 hb4 hb5 hk3 hk4 ho5 hat5 HRA HRB HRD e9
          go_wp2_with fail
          go_loopw [72] (fun i wr => ∃ k : Nat, k ≤ Ln ∧ i = .int .i64 k ∧ Below w5.heap.size w5 wr) (fun i _ => Ln - (intOf i).toNat)
          case atStart => exact ⟨0, Nat.zero_le _, rfl, Below.refl _ _⟩
          case round =>
            obtain ⟨k, hk, rfl, hkb⟩ := hrel
            by_cases hlt : k < Ln
            · have hkl : k < (mgP A B).length := by have := HE.out.1; omega
              have hcl : ∀ (x : Option Addr), PxsAt wr x (mgP A B) → ∃ g o, x = some ⟨g, o, none⟩ ∧ Pws wr g o (mgP A B) := fun x h => by
                rcases h with h | h
                · rw [h] at hkl; simp at hkl
                · exact h
              obtain ⟨g, o, rfl, hrow⟩ := hcl _ (HL.out.1.later hkb)
              obtain ⟨g2, o2, rfl, hrow2⟩ := hcl _ (HL.out.2.later hkb)
              have h02 : Below wr.heap.size wr wr := Below.refl _ _
              have LR2 : ∀ w', Below wr.heap.size wr w' → (loadSem 38 (.pointer (some ⟨g, o + k * 18, none⟩))).run Tryd.prog w' = .ok (.agg (pxg (mgP A B) k).cs) w' := fun w' h => (hrow.later h).load hkl
              have LS2 : ∀ w', Below wr.heap.size wr w' → (loadSem 38 (.pointer (some ⟨g2, o2 + k * 18, none⟩))).run Tryd.prog w' = .ok (.agg (pxg (mgP A B) k).cs) w' := fun w' h => (hrow2.later h).load hkl
              have EQ := eq_px_neq (pxg (mgP A B) k)
              have HK := Lib.hid hkb
              clear hkb hrow hrow2 hcl hkl h0 h9 hk5 LT LU
              go_wp2_with (first  | (refine wp_region_lin (fun w' => Below wr.heap.size wr w') (by kernel_rfl) (by kernel_rfl) (bel_drew (by assumption)) ?_; (repeat (first | (refine lin_off (by rfl) ?_; (try simp only [Act.put, List.setIfInBounds_toArray, List.set_cons_zero, List.set_cons_succ])) | (refine lin_op (v := ?_) (by rfl) (fun w9 hS9 => ?_) ?_; rotate_left; (focus (((try dsimp only at hS9); go_simp; (try go_bits)) <;> with_reducible rfl)); (try simp only [Act.put, List.setIfInBounds_toArray, List.set_cons_zero, List.set_cons_succ])) )); refine lin_nil (fun w8 hS8 => ?_)))
              go_roundw
              case rel => exact ⟨k + 1, by omega, by go_num, bel_trans HK.out (by assumption)⟩
              case measure => simp [intOf]; omega
            · obtain rfl : Ln = k := by omega
              have HK := Lib.hid hkb
              clear hkb
              go_wp2
              go_ret
              exact ⟨rfl, bel_trans HB.out.1 (bel_trans hk5 HK.out)⟩
        · rw [decide_eq_false hB] at HRB
          have e1 : dfE A B = 190 := if_neg (fun h => hB h.2)
          have e2 : dfP A B = [] := if_neg (fun h => hB h.2)
          rw [e2] at hLn
          obtain rfl : Ln = 0 := hLn.symm
          rw [e1]
          clear e1 e2 hLn hat9 hA hB
          go_wp2_with fail
          refine (HRA _ (by assumption)).mono ?_
          rintro e w3 ⟨rfl, hb3⟩
          have hk3 : Below W1.heap.size W1 w3 := bel_trans h9 hb3
          go_wp2_with fail
          refine (HRB _ (by assumption)).mono ?_
          rintro e w4 ⟨rfl, hb4⟩
          have hk4 : Below W1.heap.size W1 w4 := bel_trans hk3 hb4
          clear hb3 hb4 HRA HRB
          go_wp2
          go_ret
          exact ⟨rfl, bel_trans HB.out.1 hk4⟩
      · rw [decide_eq_false hA] at HRA
        have e1 : dfE A B = 190 := if_neg (fun h => hA h.1)
        have e2 : dfP A B = [] := if_neg (fun h => hA h.1)
        rw [e2] at hLn
        obtain rfl : Ln = 0 := hLn.symm
        rw [e1]
        clear e1 e2 hLn hat9 hA HRB
        go_wp2_with fail
        refine (HRA _ (by assumption)).mono ?_
        rintro e w3 ⟨rfl, hb3⟩
        have hk3 : Below W1.heap.size W1 w3 := bel_trans h9 hb3
        clear hb3 HRA
        go_wp2
        go_ret
        exact ⟨rfl, bel_trans HB.out.1 hk3⟩

end Go.Proofs.YtdbdmnahgkkjiaaDoor
