/-
  The contracts of prefix.Has, Holds, Of and of the reference's. Nothing here is a statement of the document.
-/
import Derived.Test.YtdbdmnahgkkjiaaDoorPfxE
namespace Go.Proofs.YtdbdmnahgkkjiaaDoor
open Go.RowKit Go.Shelf
set_option linter.unusedVariables false
attribute [local go_sem ↓] load_b16_rule store_b16_rule load_ad_rule store_ad_rule load_px_rule store_px_rule eq_b16_rule eq_ad_rule eq_px_rule

/-- Does a prefix contain an address, a prefix? -/
def hasM (p : Px) (a : Ad) : Prop := okP p ∧ okA a ∧ p.a.v = a.v ∧ p.a.b = keptB a.b p.n.toNat
noncomputable instance (p : Px) (a : Ad) : Decidable (hasM p a) := Classical.propDecidable _
def holdsM (p q : Px) : Prop := okP q ∧ p.n ≤ q.n ∧ hasM p q.a
noncomputable instance (p q : Px) : Decidable (holdsM p q) := Classical.propDecidable _
theorem okP_le {p : Px} (h : okP p) : 0 ≤ p.n ∧ p.n ≤ 128 := by
  have := wid_le p.a.v
  have h1 := h.2.1
  have h2 := h.2.2.1
  omega
theorem kept_bits {b c : B16} {n : Nat} (hc : clear b n) : b = keptB c n ↔ ∀ i, i < n → i < 128 → bt b i = bt c i := by
  constructor
  · intro h i hi h2
    rw [h, bt_kept _ _ _ h2]
    simp [hi]
  · intro h
    apply bt_ext
    intro i hi
    rw [bt_kept _ _ _ hi]
    by_cases hn : i < n
    · simp [hn, h i hn hi]
    · rw [hc i (by omega) hi]; simp [hn]

set_option maxRecDepth 100000 in
set_option maxHeartbeats 1600000 in
theorem has_any (p : Px) (a : Ad) (w : World) (hW : Wid w) : Calls Tryd.prog 64 #[.agg p.cs, .agg a.cs] w fun e w' => e = .returned (.bool (decide (hasM p a))) ∧ Below w.heap.size w w' := by
  obtain ⟨W1, hW1⟩ : ∃ W1, (w.alloc (.cells p.cs 38)).alloc (.cells a.cs 36) = W1 := ⟨_, rfl⟩
  have hb1 : Below w.heap.size w W1 := by rw [← hW1]; exact (((Below.refl w.heap.size w).alloc (Nat.le_refl _) _).alloc (by simp) _)
  have b1 : Blk W1 (w.heap.size) 38 p.cs := by
    have h9 := Blk.new w 38 p.cs
    rw [← hW1]; exact (h9.alloc _)
  have b2 : Blk W1 (w.heap.size + 1) 36 a.cs := by
    have h9 := Blk.new (w.alloc (.cells p.cs 38)) 36 a.cs
    rw [World.size_alloc] at h9
    rw [← hW1]; exact h9
  have LPp := px_p b1
  have LAp := px_a b1
  have LBp := px_b b1
  have LVp := px_v b1
  have LNp := px_n b1
  have LAa := ad_a b2
  have LBa := ad_b b2
  have LVa := ad_v b2
  have HW : ∀ w', Below W1.heap.size W1 w' → Wid w' := fun w' h => (hW.later hb1).later h
  have h0 : Below W1.heap.size W1 W1 := Below.refl _ _
  have HB := Lib.hid hb1
  clear hb1 b1 b2
  have HCP := fun w' h => check_any p w' (HW w' h)
  have HCA := fun w' h => checkaddr_any a w' (HW w' h)
  by_cases h1 : okP p
  · rw [eP_ok h1] at HCP
    by_cases h2 : okA a
    · rw [eA_ok h2] at HCA
      by_cases h3 : p.a.v = a.v
      · have d3 : (p.a.v == a.v) = true := by simpa using h3
        have hkp := keptp_any a.b p.n (okP_le h1).1 (by have := okP_le h1; omega)
        have EQ := eqB p.a.b (keptB a.b p.n.toNat)
        obtain ⟨q, hq⟩ : ∃ q, decide (p.a.b = keptB a.b p.n.toNat) = q := ⟨_, rfl⟩
        have HF := Lib.hid (show decide (hasM p a) = q by
          rw [← hq]
          by_cases h4 : p.a.b = keptB a.b p.n.toNat
          · rw [decide_eq_true h4, decide_eq_true (show hasM p a from ⟨h1, h2, h3, h4⟩)]
          · rw [decide_eq_false h4, decide_eq_false (fun h => h4 h.2.2.2)])
        rw [hq] at EQ
        generalize keptB a.b p.n.toNat = kb at *
        clear hq h1 h2 h3
        go_enter Tryd.func64, Tryd.ntmps64
        go_wp2_with (first | (go_at_call 37; refine (HCP _ (by assumption)).mono ?_; rintro e w2 ⟨rfl, hb2⟩; have hk2 : Below W1.heap.size W1 w2 := bel_trans (by assumption) hb2; clear hb2) | (go_at_call 46; refine (HCA _ (by assumption)).mono ?_; rintro e w2 ⟨rfl, hb2⟩; have hk2 : Below W1.heap.size W1 w2 := bel_trans (by assumption) hb2; clear hb2) | (go_at_call 60; refine (hkp _).mono ?_; rintro e w2 ⟨rfl, hb2⟩; have hk2 : Below W1.heap.size W1 w2 := bel_trans (by assumption) hb2; clear hb2) | (refine wp_region_lin (fun w' => Below W1.heap.size W1 w') (by kernel_rfl) (by kernel_rfl) (bel_drew (by assumption)) ?_; (repeat (first | (refine lin_off (by rfl) ?_; (try simp only [Act.put, List.setIfInBounds_toArray, List.set_cons_zero, List.set_cons_succ])) | (refine lin_op (v := ?_) (by rfl) (fun w9 hS9 => ?_) ?_; rotate_left; (focus (((try dsimp only at hS9); go_simp; (try go_bits)) <;> with_reducible rfl)); (try simp only [Act.put, List.setIfInBounds_toArray, List.set_cons_zero, List.set_cons_succ])) | (refine lin_fn (f := 37) (by rfl) rfl rfl (enters_of Tryd.func37 (by kernel_rfl) rfl) (fun w9 hS9 => (HCP w9 hS9).mono (fun e w' h => ⟨h.1, bel_trans hS9 h.2⟩)) ?_ ?_; (focus (simp [Act.eval]; done)); (try simp only [Act.put, List.setIfInBounds_toArray, List.set_cons_zero, List.set_cons_succ])) | (refine lin_fn (f := 46) (by rfl) rfl rfl (enters_of Tryd.func46 (by kernel_rfl) rfl) (fun w9 hS9 => (HCA w9 hS9).mono (fun e w' h => ⟨h.1, bel_trans hS9 h.2⟩)) ?_ ?_; (focus (simp [Act.eval]; done)); (try simp only [Act.put, List.setIfInBounds_toArray, List.set_cons_zero, List.set_cons_succ])) | (refine lin_fn (f := 60) (by rfl) rfl rfl (enters_of Tryd.func60 (by kernel_rfl) rfl) (fun w9 hS9 => (hkp w9).mono (fun e w' h => ⟨h.1, bel_trans hS9 h.2⟩)) ?_ ?_; (focus (simp [Act.eval]; done)); (try simp only [Act.put, List.setIfInBounds_toArray, List.set_cons_zero, List.set_cons_succ])))); refine lin_nil (fun w8 hS8 => ?_)))
        all_goals go_ret
        all_goals exact ⟨by rw [HF.out]; rfl, bel_trans HB.out (by assumption)⟩
      · have d3 : (p.a.v == a.v) = false := by simpa using h3
        have HF := Lib.hid (show ¬ hasM p a from fun h => h3 h.2.2.1)
        clear h1 h2 h3
        go_enter Tryd.func64, Tryd.ntmps64
        go_wp2_with (first | (go_at_call 37; refine (HCP _ (by assumption)).mono ?_; rintro e w2 ⟨rfl, hb2⟩; have hk2 : Below W1.heap.size W1 w2 := bel_trans (by assumption) hb2; clear hb2) | (go_at_call 46; refine (HCA _ (by assumption)).mono ?_; rintro e w2 ⟨rfl, hb2⟩; have hk2 : Below W1.heap.size W1 w2 := bel_trans (by assumption) hb2; clear hb2) | (refine wp_region_lin (fun w' => Below W1.heap.size W1 w') (by kernel_rfl) (by kernel_rfl) (bel_drew (by assumption)) ?_; (repeat (first | (refine lin_off (by rfl) ?_; (try simp only [Act.put, List.setIfInBounds_toArray, List.set_cons_zero, List.set_cons_succ])) | (refine lin_op (v := ?_) (by rfl) (fun w9 hS9 => ?_) ?_; rotate_left; (focus (((try dsimp only at hS9); go_simp; (try go_bits)) <;> with_reducible rfl)); (try simp only [Act.put, List.setIfInBounds_toArray, List.set_cons_zero, List.set_cons_succ])) | (refine lin_fn (f := 37) (by rfl) rfl rfl (enters_of Tryd.func37 (by kernel_rfl) rfl) (fun w9 hS9 => (HCP w9 hS9).mono (fun e w' h => ⟨h.1, bel_trans hS9 h.2⟩)) ?_ ?_; (focus (simp [Act.eval]; done)); (try simp only [Act.put, List.setIfInBounds_toArray, List.set_cons_zero, List.set_cons_succ])) | (refine lin_fn (f := 46) (by rfl) rfl rfl (enters_of Tryd.func46 (by kernel_rfl) rfl) (fun w9 hS9 => (HCA w9 hS9).mono (fun e w' h => ⟨h.1, bel_trans hS9 h.2⟩)) ?_ ?_; (focus (simp [Act.eval]; done)); (try simp only [Act.put, List.setIfInBounds_toArray, List.set_cons_zero, List.set_cons_succ])))); refine lin_nil (fun w8 hS8 => ?_)))
        all_goals go_ret
        all_goals exact ⟨by rw [decide_eq_false HF.out]; rfl, bel_trans HB.out (by assumption)⟩
    · rw [eA_no h2] at HCA
      have HF := Lib.hid (show ¬ hasM p a from fun h => h2 h.2.1)
      clear h1 h2
      go_enter Tryd.func64, Tryd.ntmps64
      go_wp2_with (first | (go_at_call 37; refine (HCP _ (by assumption)).mono ?_; rintro e w2 ⟨rfl, hb2⟩; have hk2 : Below W1.heap.size W1 w2 := bel_trans (by assumption) hb2; clear hb2) | (go_at_call 46; refine (HCA _ (by assumption)).mono ?_; rintro e w2 ⟨rfl, hb2⟩; have hk2 : Below W1.heap.size W1 w2 := bel_trans (by assumption) hb2; clear hb2) | (refine wp_region_lin (fun w' => Below W1.heap.size W1 w') (by kernel_rfl) (by kernel_rfl) (bel_drew (by assumption)) ?_; (repeat (first | (refine lin_off (by rfl) ?_; (try simp only [Act.put, List.setIfInBounds_toArray, List.set_cons_zero, List.set_cons_succ])) | (refine lin_op (v := ?_) (by rfl) (fun w9 hS9 => ?_) ?_; rotate_left; (focus (((try dsimp only at hS9); go_simp; (try go_bits)) <;> with_reducible rfl)); (try simp only [Act.put, List.setIfInBounds_toArray, List.set_cons_zero, List.set_cons_succ])) | (refine lin_fn (f := 37) (by rfl) rfl rfl (enters_of Tryd.func37 (by kernel_rfl) rfl) (fun w9 hS9 => (HCP w9 hS9).mono (fun e w' h => ⟨h.1, bel_trans hS9 h.2⟩)) ?_ ?_; (focus (simp [Act.eval]; done)); (try simp only [Act.put, List.setIfInBounds_toArray, List.set_cons_zero, List.set_cons_succ])) | (refine lin_fn (f := 46) (by rfl) rfl rfl (enters_of Tryd.func46 (by kernel_rfl) rfl) (fun w9 hS9 => (HCA w9 hS9).mono (fun e w' h => ⟨h.1, bel_trans hS9 h.2⟩)) ?_ ?_; (focus (simp [Act.eval]; done)); (try simp only [Act.put, List.setIfInBounds_toArray, List.set_cons_zero, List.set_cons_succ])))); refine lin_nil (fun w8 hS8 => ?_)))
      all_goals go_ret
      all_goals exact ⟨by rw [decide_eq_false HF.out]; rfl, bel_trans HB.out (by assumption)⟩
  · rw [eP_no h1] at HCP
    have HF := Lib.hid (show ¬ hasM p a from fun h => h1 h.1)
    clear h1
    go_enter Tryd.func64, Tryd.ntmps64
    go_wp2_with (first | (go_at_call 37; refine (HCP _ (by assumption)).mono ?_; rintro e w2 ⟨rfl, hb2⟩; have hk2 : Below W1.heap.size W1 w2 := bel_trans (by assumption) hb2; clear hb2) | (refine wp_region_lin (fun w' => Below W1.heap.size W1 w') (by kernel_rfl) (by kernel_rfl) (bel_drew (by assumption)) ?_; (repeat (first | (refine lin_off (by rfl) ?_; (try simp only [Act.put, List.setIfInBounds_toArray, List.set_cons_zero, List.set_cons_succ])) | (refine lin_op (v := ?_) (by rfl) (fun w9 hS9 => ?_) ?_; rotate_left; (focus (((try dsimp only at hS9); go_simp; (try go_bits)) <;> with_reducible rfl)); (try simp only [Act.put, List.setIfInBounds_toArray, List.set_cons_zero, List.set_cons_succ])) | (refine lin_fn (f := 37) (by rfl) rfl rfl (enters_of Tryd.func37 (by kernel_rfl) rfl) (fun w9 hS9 => (HCP w9 hS9).mono (fun e w' h => ⟨h.1, bel_trans hS9 h.2⟩)) ?_ ?_; (focus (simp [Act.eval]; done)); (try simp only [Act.put, List.setIfInBounds_toArray, List.set_cons_zero, List.set_cons_succ])))); refine lin_nil (fun w8 hS8 => ?_)))
    all_goals go_ret
    all_goals exact ⟨by rw [decide_eq_false HF.out]; rfl, bel_trans HB.out (by assumption)⟩

end Go.Proofs.YtdbdmnahgkkjiaaDoor
