/-
  The walk of PrefixHolds. Nothing here is a statement of the document.
-/
import Derived.Test.YthfgkmhpnjlckaaDoorPfxS
namespace Go.Proofs.YthfgkmhpnjlckaaDoor
open Go.RowKit Go.Shelf
set_option linter.unusedVariables false
attribute [local go_sem ↓] load_b16_rule store_b16_rule load_ad_rule store_ad_rule load_px_rule store_px_rule eq_b16_rule eq_ad_rule eq_px_rule build_ad_rule build_px_rule build_b16_rule

set_option maxRecDepth 100000 in
set_option maxHeartbeats 1600000 in
theorem holds_walk (p : Px) (_fp : (Lit.int .i64 p.n).wf = true) (_gp : (Lit.int .i64 p.a.v).wf = true) (q : Px) (_fq : (Lit.int .i64 q.n).wf = true) (_gq : (Lit.int .i64 q.a.v).wf = true) (a : Ad) (_fa : (Lit.int .i64 a.v).wf = true) (w : World) (hW : Wid w) :
    Calls Tryd.prog 5 #[.agg p.cs, .agg q.cs, .agg a.cs] w fun e w' => e = .returned (.bool true) ∧ Below w.heap.size w w' := by
  clear _fp _gp _fq _gq _fa
  obtain ⟨W1, hW1⟩ : ∃ W1, ((w.alloc (.cells p.cs 26)).alloc (.cells q.cs 26)).alloc (.cells a.cs 24) = W1 := ⟨_, rfl⟩
  have hb1 : Below w.heap.size w W1 := by rw [← hW1]; exact ((((Below.refl w.heap.size w).alloc (Nat.le_refl _) _).alloc (by simp) _).alloc (by simp; omega) _)
  have b1 : Blk W1 (w.heap.size) 26 p.cs := by
    have h9 := Blk.new w 26 p.cs
    rw [← hW1]; exact ((h9.alloc _).alloc _)
  have b2 : Blk W1 (w.heap.size + 1) 26 q.cs := by
    have h9 := Blk.new (w.alloc (.cells p.cs 26)) 26 q.cs
    rw [World.size_alloc] at h9
    rw [← hW1]; exact (h9.alloc _)
  have b3 : Blk W1 (w.heap.size + 1 + 1) 24 a.cs := by
    have h9 := Blk.new ((w.alloc (.cells p.cs 26)).alloc (.cells q.cs 26)) 24 a.cs
    rw [World.size_alloc, World.size_alloc] at h9
    rw [← hW1]; exact h9
  have LPp := px_p b1
  have LAp := px_a b1
  have LBp := px_b b1
  have LVp := px_v b1
  have LNp := px_n b1
  have LPq := px_p b2
  have LAq := px_a b2
  have LBq := px_b b2
  have LVq := px_v b2
  have LNq := px_n b2
  have LAa := ad_a b3
  have LBa := ad_b b3
  have LVa := ad_v b3
  have HW : ∀ w', Below W1.heap.size W1 w' → Wid w' := fun w' h => (hW.later hb1).later h
  have HWK := fun w' h => wakes_any w' (HW w' h)
  have h0 : Below W1.heap.size W1 W1 := Below.refl _ _
  have HB := Lib.hid hb1
  clear hb1 b1 b2 b3
  have HH := fun w' h => has_any p a w' (HW w' h)
  have RH := refhas_any p a
  have HO := fun w' h => holds_any p q w' (HW w' h)
  have RO := refholds_any p q
  have HC := compare_any p q
  have RC := refcompare_any p q
  clear HW
  generalize decide (hasM p a) = x1 at *
  generalize decide (holdsM p q) = x2 at *
  generalize cmpP p q = x3 at *
  have e1 : (x1 == x1) = true := by simp
  have e2 : (x2 == x2) = true := by simp
  have e3 : (x3 == x3) = true := by simp
  go_enter Tryd.func5, Tryd.ntmps5
  go_wp2_with (first | (go_at_call 10; refine (HWK _ (by assumption)).mono ?_; rintro e w2 ⟨rfl, hb2⟩; have hk2 : Below W1.heap.size W1 w2 := bel_trans (by assumption) hb2; clear hb2) | (go_at_call 23; refine (HH _ (by assumption)).mono ?_; rintro e w2 ⟨rfl, hb2⟩; have hk2 : Below W1.heap.size W1 w2 := bel_trans (by assumption) hb2; clear hb2) | (go_at_call 24; refine (RH _).mono ?_; rintro e w2 ⟨rfl, hb2⟩; have hk2 : Below W1.heap.size W1 w2 := bel_trans (by assumption) hb2; clear hb2) | (go_at_call 25; refine (HO _ (by assumption)).mono ?_; rintro e w2 ⟨rfl, hb2⟩; have hk2 : Below W1.heap.size W1 w2 := bel_trans (by assumption) hb2; clear hb2) | (go_at_call 26; refine (RO _).mono ?_; rintro e w2 ⟨rfl, hb2⟩; have hk2 : Below W1.heap.size W1 w2 := bel_trans (by assumption) hb2; clear hb2) | (go_at_call 27; refine (HC _).mono ?_; rintro e w2 ⟨rfl, hb2⟩; have hk2 : Below W1.heap.size W1 w2 := bel_trans (by assumption) hb2; clear hb2) | (go_at_call 28; refine (RC _).mono ?_; rintro e w2 ⟨rfl, hb2⟩; have hk2 : Below W1.heap.size W1 w2 := bel_trans (by assumption) hb2; clear hb2)  | (refine wp_region_lin (fun w' => Below W1.heap.size W1 w') (by kernel_rfl) (by kernel_rfl) (bel_drew (by assumption)) ?_; (repeat (first | (refine lin_off (by rfl) ?_; (try simp only [Act.put, List.setIfInBounds_toArray, List.set_cons_zero, List.set_cons_succ])) | (refine lin_op (v := ?_) (by rfl) (fun w9 hS9 => ?_) ?_; rotate_left; (focus (((try dsimp only at hS9); go_simp; (try go_bits)) <;> with_reducible rfl)); (try simp only [Act.put, List.setIfInBounds_toArray, List.set_cons_zero, List.set_cons_succ])) | (refine lin_fn (f := 10) (by rfl) rfl rfl (enters_of Tryd.func10 (by kernel_rfl) rfl) (fun w9 hS9 => (HWK w9 hS9).mono (fun e w' h => ⟨h.1, bel_trans hS9 h.2⟩)) ?_ ?_; (focus (simp [Act.eval]; done)); (try simp only [Act.put, List.setIfInBounds_toArray, List.set_cons_zero, List.set_cons_succ])) | (refine lin_fn (f := 23) (by rfl) rfl rfl (enters_of Tryd.func23 (by kernel_rfl) rfl) (fun w9 hS9 => (HH w9 hS9).mono (fun e w' h => ⟨h.1, bel_trans hS9 h.2⟩)) ?_ ?_; (focus (simp [Act.eval]; done)); (try simp only [Act.put, List.setIfInBounds_toArray, List.set_cons_zero, List.set_cons_succ])) | (refine lin_fn (f := 24) (by rfl) rfl rfl (enters_of Tryd.func24 (by kernel_rfl) rfl) (fun w9 hS9 => (RH w9).mono (fun e w' h => ⟨h.1, bel_trans hS9 h.2⟩)) ?_ ?_; (focus (simp [Act.eval]; done)); (try simp only [Act.put, List.setIfInBounds_toArray, List.set_cons_zero, List.set_cons_succ])) | (refine lin_fn (f := 25) (by rfl) rfl rfl (enters_of Tryd.func25 (by kernel_rfl) rfl) (fun w9 hS9 => (HO w9 hS9).mono (fun e w' h => ⟨h.1, bel_trans hS9 h.2⟩)) ?_ ?_; (focus (simp [Act.eval]; done)); (try simp only [Act.put, List.setIfInBounds_toArray, List.set_cons_zero, List.set_cons_succ])) | (refine lin_fn (f := 26) (by rfl) rfl rfl (enters_of Tryd.func26 (by kernel_rfl) rfl) (fun w9 hS9 => (RO w9).mono (fun e w' h => ⟨h.1, bel_trans hS9 h.2⟩)) ?_ ?_; (focus (simp [Act.eval]; done)); (try simp only [Act.put, List.setIfInBounds_toArray, List.set_cons_zero, List.set_cons_succ])) | (refine lin_fn (f := 27) (by rfl) rfl rfl (enters_of Tryd.func27 (by kernel_rfl) rfl) (fun w9 hS9 => (HC w9).mono (fun e w' h => ⟨h.1, bel_trans hS9 h.2⟩)) ?_ ?_; (focus (simp [Act.eval]; done)); (try simp only [Act.put, List.setIfInBounds_toArray, List.set_cons_zero, List.set_cons_succ])) | (refine lin_fn (f := 28) (by rfl) rfl rfl (enters_of Tryd.func28 (by kernel_rfl) rfl) (fun w9 hS9 => (RC w9).mono (fun e w' h => ⟨h.1, bel_trans hS9 h.2⟩)) ?_ ?_; (focus (simp [Act.eval]; done)); (try simp only [Act.put, List.setIfInBounds_toArray, List.set_cons_zero, List.set_cons_succ])))); refine lin_nil (fun w8 hS8 => ?_)))
  all_goals go_ret
  all_goals exact ⟨rfl, bel_trans HB.out (by assumption)⟩
end Go.Proofs.YthfgkmhpnjlckaaDoor
