/-
  The walk of PrefixChecks. Nothing here is a statement of the document.
-/
import Derived.Test.YthfgkmhpnjlckaaDoorPfxP
namespace Go.Proofs.YthfgkmhpnjlckaaDoor
open Go.RowKit Go.Shelf
set_option linter.unusedVariables false
attribute [local go_sem ↓] load_b16_rule store_b16_rule load_ad_rule store_ad_rule load_px_rule store_px_rule eq_b16_rule eq_ad_rule eq_px_rule build_ad_rule build_px_rule build_b16_rule

set_option maxRecDepth 100000 in
set_option maxHeartbeats 1600000 in
theorem checks_walk (a : Ad) (_fa : (Lit.int .i64 a.v).wf = true) (p : Px) (_fn : (Lit.int .i64 p.n).wf = true) (_fv : (Lit.int .i64 p.a.v).wf = true) (n : Int) (_fi : (Lit.int .i64 n).wf = true) (w : World) (hW : Wid w) :
    Calls Tryd.prog 3 #[.agg a.cs, .agg p.cs, .int .i64 n] w fun e w' => e = .returned (.bool true) ∧ Below w.heap.size w w' := by
  clear _fa _fn _fv _fi
  obtain ⟨W1, hW1⟩ : ∃ W1, (w.alloc (.cells a.cs 24)).alloc (.cells p.cs 26) = W1 := ⟨_, rfl⟩
  have hb1 : Below w.heap.size w W1 := by rw [← hW1]; exact (((Below.refl w.heap.size w).alloc (Nat.le_refl _) _).alloc (by simp) _)
  have b1 : Blk W1 (w.heap.size) 24 a.cs := by
    have h9 := Blk.new w 24 a.cs
    rw [← hW1]; exact (h9.alloc _)
  have b2 : Blk W1 (w.heap.size + 1) 26 p.cs := by
    have h9 := Blk.new (w.alloc (.cells a.cs 24)) 26 p.cs
    rw [World.size_alloc] at h9
    rw [← hW1]; exact h9
  have LAa := ad_a b1
  have LBa := ad_b b1
  have LVa := ad_v b1
  have LPp := px_p b2
  have LAp := px_a b2
  have LBp := px_b b2
  have LVp := px_v b2
  have LNp := px_n b2
  have HW : ∀ w', Below W1.heap.size W1 w' → Wid w' := fun w' h => (hW.later hb1).later h
  have HWK := fun w' h => wakes_any w' (HW w' h)
  have h0 : Below W1.heap.size W1 W1 := Below.refl _ _
  have HB := Lib.hid hb1
  clear hb1 b1 b2
  have HCA := fun w' h => checkaddr_any a w' (HW w' h)
  have HCP := fun w' h => check_any p w' (HW w' h)
  have HRA := refrightaddr_any a
  have HRP := refright_any p
  have HWD := fun w' h => width_b n w' (HW w' h)
  have HRW := refwidth_b n
  have hne : (((wid n : Nat) : Int) == ((wid n : Nat) : Int)) = true := by simp
  generalize wid n = z at *
  have hA : (eA a = 0 ∧ decide (okA a) = true) ∨ (eA a = 150 ∧ decide (okA a) = false) := by
    by_cases h : okA a
    · exact .inl ⟨eA_ok h, decide_eq_true h⟩
    · exact .inr ⟨eA_no h, decide_eq_false h⟩
  have hP : (eP p = 0 ∧ decide (okP p) = true) ∨ (eP p = 151 ∧ decide (okP p) = false) := by
    by_cases h : okP p
    · exact .inl ⟨eP_ok h, decide_eq_true h⟩
    · exact .inr ⟨eP_no h, decide_eq_false h⟩
  generalize eA a = xa at *
  generalize eP p = xp at *
  generalize decide (okA a) = ya at *
  generalize decide (okP p) = yp at *
  rcases hA with ⟨rfl, rfl⟩ | ⟨rfl, rfl⟩ <;> rcases hP with ⟨rfl, rfl⟩ | ⟨rfl, rfl⟩
  all_goals
    go_enter Tryd.func3, Tryd.ntmps3
    go_wp2_with (first | (go_at_call 10; refine (HWK _ (by assumption)).mono ?_; rintro e w2 ⟨rfl, hb2⟩; have hk2 : Below W1.heap.size W1 w2 := bel_trans (by assumption) hb2; clear hb2) | (go_at_call 11; refine (HCA _ (by assumption)).mono ?_; rintro e w2 ⟨rfl, hb2⟩; have hk2 : Below W1.heap.size W1 w2 := bel_trans (by assumption) hb2; clear hb2) | (go_at_call 12; refine (HCP _ (by assumption)).mono ?_; rintro e w2 ⟨rfl, hb2⟩; have hk2 : Below W1.heap.size W1 w2 := bel_trans (by assumption) hb2; clear hb2) | (go_at_call 13; refine (HRA _).mono ?_; rintro e w2 ⟨rfl, hb2⟩; have hk2 : Below W1.heap.size W1 w2 := bel_trans (by assumption) hb2; clear hb2) | (go_at_call 14; refine (HRP _).mono ?_; rintro e w2 ⟨rfl, hb2⟩; have hk2 : Below W1.heap.size W1 w2 := bel_trans (by assumption) hb2; clear hb2) | (go_at_call 15; refine (HWD _ (by assumption)).mono ?_; rintro e w2 ⟨rfl, hb2⟩; have hk2 : Below W1.heap.size W1 w2 := bel_trans (by assumption) hb2; clear hb2) | (go_at_call 16; refine (HRW _).mono ?_; rintro e w2 ⟨rfl, hb2⟩; have hk2 : Below W1.heap.size W1 w2 := bel_trans (by assumption) hb2; clear hb2)  | (refine wp_region_lin (fun w' => Below W1.heap.size W1 w') (by kernel_rfl) (by kernel_rfl) (bel_drew (by assumption)) ?_; (repeat (first | (refine lin_off (by rfl) ?_; (try simp only [Act.put, List.setIfInBounds_toArray, List.set_cons_zero, List.set_cons_succ])) | (refine lin_op (v := ?_) (by rfl) (fun w9 hS9 => ?_) ?_; rotate_left; (focus (((try dsimp only at hS9); go_simp; (try go_bits)) <;> with_reducible rfl)); (try simp only [Act.put, List.setIfInBounds_toArray, List.set_cons_zero, List.set_cons_succ])) | (refine lin_fn (f := 10) (by rfl) rfl rfl (enters_of Tryd.func10 (by kernel_rfl) rfl) (fun w9 hS9 => (HWK w9 hS9).mono (fun e w' h => ⟨h.1, bel_trans hS9 h.2⟩)) ?_ ?_; (focus (simp [Act.eval]; done)); (try simp only [Act.put, List.setIfInBounds_toArray, List.set_cons_zero, List.set_cons_succ])) | (refine lin_fn (f := 11) (by rfl) rfl rfl (enters_of Tryd.func11 (by kernel_rfl) rfl) (fun w9 hS9 => (HCA w9 hS9).mono (fun e w' h => ⟨h.1, bel_trans hS9 h.2⟩)) ?_ ?_; (focus (simp [Act.eval]; done)); (try simp only [Act.put, List.setIfInBounds_toArray, List.set_cons_zero, List.set_cons_succ])) | (refine lin_fn (f := 12) (by rfl) rfl rfl (enters_of Tryd.func12 (by kernel_rfl) rfl) (fun w9 hS9 => (HCP w9 hS9).mono (fun e w' h => ⟨h.1, bel_trans hS9 h.2⟩)) ?_ ?_; (focus (simp [Act.eval]; done)); (try simp only [Act.put, List.setIfInBounds_toArray, List.set_cons_zero, List.set_cons_succ])) | (refine lin_fn (f := 13) (by rfl) rfl rfl (enters_of Tryd.func13 (by kernel_rfl) rfl) (fun w9 hS9 => (HRA w9).mono (fun e w' h => ⟨h.1, bel_trans hS9 h.2⟩)) ?_ ?_; (focus (simp [Act.eval]; done)); (try simp only [Act.put, List.setIfInBounds_toArray, List.set_cons_zero, List.set_cons_succ])) | (refine lin_fn (f := 14) (by rfl) rfl rfl (enters_of Tryd.func14 (by kernel_rfl) rfl) (fun w9 hS9 => (HRP w9).mono (fun e w' h => ⟨h.1, bel_trans hS9 h.2⟩)) ?_ ?_; (focus (simp [Act.eval]; done)); (try simp only [Act.put, List.setIfInBounds_toArray, List.set_cons_zero, List.set_cons_succ])) | (refine lin_fn (f := 15) (by rfl) rfl rfl (enters_of Tryd.func15 (by kernel_rfl) rfl) (fun w9 hS9 => (HWD w9 hS9).mono (fun e w' h => ⟨h.1, bel_trans hS9 h.2⟩)) ?_ ?_; (focus (simp [Act.eval]; done)); (try simp only [Act.put, List.setIfInBounds_toArray, List.set_cons_zero, List.set_cons_succ])) | (refine lin_fn (f := 16) (by rfl) rfl rfl (enters_of Tryd.func16 (by kernel_rfl) rfl) (fun w9 hS9 => (HRW w9).mono (fun e w' h => ⟨h.1, bel_trans hS9 h.2⟩)) ?_ ?_; (focus (simp [Act.eval]; done)); (try simp only [Act.put, List.setIfInBounds_toArray, List.set_cons_zero, List.set_cons_succ])))); refine lin_nil (fun w8 hS8 => ?_)))
    all_goals go_ret
    all_goals exact ⟨rfl, bel_trans HB.out (by assumption)⟩
end Go.Proofs.YthfgkmhpnjlckaaDoor
