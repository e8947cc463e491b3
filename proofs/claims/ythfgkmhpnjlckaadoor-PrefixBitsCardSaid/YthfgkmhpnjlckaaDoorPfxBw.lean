/-
  The walk of PrefixBits. Nothing here is a statement of the document.
-/
import Derived.Test.YthfgkmhpnjlckaaDoorPfxP
namespace Go.Proofs.YthfgkmhpnjlckaaDoor
open Go.RowKit Go.Shelf
set_option linter.unusedVariables false
attribute [local go_sem ↓] load_b16_rule store_b16_rule load_ad_rule store_ad_rule load_px_rule store_px_rule eq_b16_rule eq_ad_rule eq_px_rule build_ad_rule build_px_rule build_b16_rule

set_option maxRecDepth 100000 in
set_option maxHeartbeats 1600000 in
theorem bits_walk (a : Ad) (_fa : (Lit.int .i64 a.v).wf = true) (n : Int) (_fi : (Lit.int .i64 n).wf = true) (w : World) (hW : Wid w) :
    Calls Tryd.prog 4 #[.agg a.cs, .int .i64 n] w fun e w' => e = .returned (.bool true) ∧ Below w.heap.size w w' := by
  clear _fa _fi
  obtain ⟨W1, hW1⟩ : ∃ W1, w.alloc (.cells a.cs 24) = W1 := ⟨_, rfl⟩
  have hb1 : Below w.heap.size w W1 := by rw [← hW1]; exact ((Below.refl w.heap.size w).alloc (Nat.le_refl _) _)
  have b1 : Blk W1 (w.heap.size) 24 a.cs := by
    have h9 := Blk.new w 24 a.cs
    rw [← hW1]; exact h9
  have LAa := ad_a b1
  have LBa := ad_b b1
  have LVa := ad_v b1
  have HW : ∀ w', Below W1.heap.size W1 w' → Wid w' := fun w' h => (hW.later hb1).later h
  have HWK := fun w' h => wakes_any w' (HW w' h)
  have h0 : Below W1.heap.size W1 W1 := Below.refl _ _
  have HB := Lib.hid hb1
  clear hb1 b1
  have HCA := fun w' h => of_any a n w' (HW w' h)
  have HCP := refof_any a n
  go_enter Tryd.func4, Tryd.ntmps4
  go_wp2_with (first | (go_at_call 10; refine (HWK _ (by assumption)).mono ?_; rintro e w2 ⟨rfl, hb2⟩; have hk2 : Below W1.heap.size W1 w2 := bel_trans (by assumption) hb2; clear hb2))
  refine (HCA _ (by assumption)).mono ?_
  rintro e w3 ⟨rfl, hb3⟩
  have h3 : Below W1.heap.size W1 w3 := bel_trans (by assumption) hb3
  have Sw4 := st_px (q := ofP a n) (Blk.new w3 26 Px.zero.cs)
  rw [World.setRow_alloc_new] at Sw4
  obtain ⟨w4, hww4⟩ : ∃ x, w3.alloc (.cells (ofP a n).cs 26) = x := ⟨_, rfl⟩
  rw [hww4] at Sw4
  have bw4 : Blk w4 w3.heap.size 26 (ofP a n).cs := by rw [← hww4]; exact Blk.new _ _ _
  have hbw4 : Below w3.heap.size w3 w4 := by rw [← hww4]; exact (Below.refl _ _).alloc (Nat.le_refl _) _
  have h4 : Below W1.heap.size W1 w4 := bel_trans h3 hbw4
  clear hb3
  go_wp2_with (first | (with_reducible refine wpList_alloc_z rfl 26 rfl Px.zero.cs 18 z_px ?_))
  refine (HCP _).mono ?_
  rintro e w5 ⟨rfl, hb5⟩
  have h5 : Below W1.heap.size W1 w5 := bel_trans h4 hb5
  have Sw6 := st_px (q := ofP a n) (Blk.new w5 26 Px.zero.cs)
  rw [World.setRow_alloc_new] at Sw6
  obtain ⟨w6, hww6⟩ : ∃ x, w5.alloc (.cells (ofP a n).cs 26) = x := ⟨_, rfl⟩
  rw [hww6] at Sw6
  have bw6 : Blk w6 w5.heap.size 26 (ofP a n).cs := by rw [← hww6]; exact Blk.new _ _ _
  have hbw6 : Below w5.heap.size w5 w6 := by rw [← hww6]; exact (Below.refl _ _).alloc (Nat.le_refl _) _
  have h6 : Below W1.heap.size W1 w6 := bel_trans h5 hbw6
  have b46 := (bw4.later hb5).later hbw6
  have LP := px_p b46
  have LQ := px_p bw6
  have LA6 := fun w' h => LAa w' (bel_trans h6 h)
  have HB6 := Lib.hid (bel_trans HB.out h6)
  have EQ := eqP (ofP a n) (ofP a n)
  rw [decide_eq_true rfl] at EQ
  have HW6 := fun w' h => HW w' (bel_trans h6 h)
  have HB5 := fun w' h => bit5_any a n w' (HW6 w' h)
  have HN5 := fun w' h => nib5_any a n w' (HW6 w' h)
  have RB5 := refbit5_any a n
  have RN5 := refnib5_any a n
  have h06 : Below w6.heap.size w6 w6 := Below.refl _ _
  have e1 : (ofE a n == ofE a n) = true := by simp
  have e2 : (bitV a n == bitV a n) = true := by simp
  have e3 : (nibW a n == nibW a n) = true := by simp
  clear LAa LBa LVa HW HWK HCA HCP h3 h4 h5 h6 hb5 hbw6 hbw4 bw4 bw6 b46 hww6 hww4 HB hW1
  clear h0 hk2 HW6
  go_wp2_with (first | (go_at_call 19; refine (HB5 _ (by assumption)).mono ?_; rintro e w2 ⟨rfl, hb2⟩; have hk2 : Below w6.heap.size w6 w2 := bel_trans (by assumption) hb2; clear hb2) | (go_at_call 21; refine (HN5 _ (by assumption)).mono ?_; rintro e w2 ⟨rfl, hb2⟩; have hk2 : Below w6.heap.size w6 w2 := bel_trans (by assumption) hb2; clear hb2) | (go_at_call 20; refine (RB5 _).mono ?_; rintro e w2 ⟨rfl, hb2⟩; have hk2 : Below w6.heap.size w6 w2 := bel_trans (by assumption) hb2; clear hb2) | (go_at_call 22; refine (RN5 _).mono ?_; rintro e w2 ⟨rfl, hb2⟩; have hk2 : Below w6.heap.size w6 w2 := bel_trans (by assumption) hb2; clear hb2) | (with_reducible refine wpList_alloc_z rfl 26 rfl Px.zero.cs 18 z_px ?_) | (refine wp_region_lin (fun w' => Below w6.heap.size w6 w') (by kernel_rfl) (by kernel_rfl) (bel_drew (by assumption)) ?_; (repeat (first | (refine lin_off (by rfl) ?_; (try simp only [Act.put, List.setIfInBounds_toArray, List.set_cons_zero, List.set_cons_succ])) | (refine lin_op (v := ?_) (by rfl) (fun w9 hS9 => ?_) ?_; rotate_left; (focus (((try dsimp only at hS9); go_simp; (try go_bits)) <;> with_reducible rfl)); (try simp only [Act.put, List.setIfInBounds_toArray, List.set_cons_zero, List.set_cons_succ])) | (refine lin_fn (f := 19) (by rfl) rfl rfl (enters_of Tryd.func19 (by kernel_rfl) rfl) (fun w9 hS9 => (HB5 w9 hS9).mono (fun e w' h => ⟨h.1, bel_trans hS9 h.2⟩)) ?_ ?_; (focus (simp [Act.eval]; done)); (try simp only [Act.put, List.setIfInBounds_toArray, List.set_cons_zero, List.set_cons_succ])) | (refine lin_fn (f := 21) (by rfl) rfl rfl (enters_of Tryd.func21 (by kernel_rfl) rfl) (fun w9 hS9 => (HN5 w9 hS9).mono (fun e w' h => ⟨h.1, bel_trans hS9 h.2⟩)) ?_ ?_; (focus (simp [Act.eval]; done)); (try simp only [Act.put, List.setIfInBounds_toArray, List.set_cons_zero, List.set_cons_succ])) | (refine lin_fn (f := 20) (by rfl) rfl rfl (enters_of Tryd.func20 (by kernel_rfl) rfl) (fun w9 hS9 => (RB5 w9).mono (fun e w' h => ⟨h.1, bel_trans hS9 h.2⟩)) ?_ ?_; (focus (simp [Act.eval]; done)); (try simp only [Act.put, List.setIfInBounds_toArray, List.set_cons_zero, List.set_cons_succ])) | (refine lin_fn (f := 22) (by rfl) rfl rfl (enters_of Tryd.func22 (by kernel_rfl) rfl) (fun w9 hS9 => (RN5 w9).mono (fun e w' h => ⟨h.1, bel_trans hS9 h.2⟩)) ?_ ?_; (focus (simp [Act.eval]; done)); (try simp only [Act.put, List.setIfInBounds_toArray, List.set_cons_zero, List.set_cons_succ])))); refine lin_nil (fun w8 hS8 => ?_)))
  all_goals go_ret
  all_goals exact ⟨rfl, bel_trans HB6.out (by assumption)⟩
end Go.Proofs.YthfgkmhpnjlckaaDoor
