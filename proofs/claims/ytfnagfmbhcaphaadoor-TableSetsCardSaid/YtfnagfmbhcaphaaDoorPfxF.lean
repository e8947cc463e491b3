/-
  The contracts of prefix.Has, Holds, Of and of the reference's. Nothing here is a statement of the document.
-/
import Derived.Test.YtfnagfmbhcaphaaDoorPfxE
namespace Go.Proofs.YtfnagfmbhcaphaaDoor
open Go.RowKit Go.Shelf
set_option linter.unusedVariables false
attribute [local go_sem ↓] load_b16_rule store_b16_rule load_ad_rule store_ad_rule load_px_rule store_px_rule eq_b16_rule eq_ad_rule eq_px_rule

/-- Does a prefix contain an address, a prefix? -/
def hasM (p : Px) (a : Ad) : Prop := okP p ∧ okA a ∧ p.a.v = a.v ∧ p.a.b = keptB a.b p.n.toNat
noncomputable instance (p : Px) (a : Ad) : Decidable (hasM p a) := Classical.propDecidable _
def holdsM (p q : Px) : Prop := okP q ∧ p.n ≤ q.n ∧ hasM p q.a
noncomputable instance (p q : Px) : Decidable (holdsM p q) := Classical.propDecidable _
theorem okP_le {p : Px} (h : okP p) : 0 ≤ p.n ∧ p.n ≤ 128 := by
  have := wid_le p.a.v
  have h1 := h.2.1
  have h2 := h.2.2.1
  omega
theorem kept_bits {b c : B16} {n : Nat} (hc : clear b n) : b = keptB c n ↔ ∀ i, i < n → i < 128 → bt b i = bt c i := by
  constructor
  · intro h i hi h2
    rw [h, bt_kept _ _ _ h2]
    simp [hi]
  · intro h
    apply bt_ext
    intro i hi
    rw [bt_kept _ _ _ hi]
    by_cases hn : i < n
    · simp [hn, h i hn hi]
    · rw [hc i (by omega) hi]; simp [hn]

set_option maxRecDepth 100000 in
set_option maxHeartbeats 1600000 in
theorem has_any (p : Px) (a : Ad) (w : World) (hW : Wid w) : Calls Tryd.prog 31 #[.agg p.cs, .agg a.cs] w fun e w' => e = .returned (.bool (decide (hasM p a))) ∧ Below w.heap.size w w' := by
  obtain ⟨W1, hW1⟩ : ∃ W1, (w.alloc (.cells p.cs 29)).alloc (.cells a.cs 27) = W1 := ⟨_, rfl⟩
  have hb1 : Below w.heap.size w W1 := by rw [← hW1]; exact (((Below.refl w.heap.size w).alloc (Nat.le_refl _) _).alloc (by simp) _)
  have b1 : Blk W1 (w.heap.size) 29 p.cs := by
    have h9 := Blk.new w 29 p.cs
    rw [← hW1]; exact (h9.alloc _)
  have b2 : Blk W1 (w.heap.size + 1) 27 a.cs := by
    have h9 := Blk.new (w.alloc (.cells p.cs 29)) 27 a.cs
    rw [World.size_alloc] at h9
    rw [← hW1]; exact h9
  have LPp := px_p b1
  have LAp := px_a b1
  have LBp := px_b b1
  have LVp := px_v b1
  have LNp := px_n b1
  have LAa := ad_a b2
  have LBa := ad_b b2
  have LVa := ad_v b2
  have HW : ∀ w', Below W1.heap.size W1 w' → Wid w' := fun w' h => (hW.later hb1).later h
  have h0 : Below W1.heap.size W1 W1 := Below.refl _ _
  have HB := Lib.hid hb1
  clear hb1 b1 b2
  have HCP := fun w' h => check_any p w' (HW w' h)
  have HCA := fun w' h => checkaddr_any a w' (HW w' h)
  by_cases h1 : okP p
  · rw [eP_ok h1] at HCP
    by_cases h2 : okA a
    · rw [eA_ok h2] at HCA
      by_cases h3 : p.a.v = a.v
      · have d3 : (p.a.v == a.v) = true := by simpa using h3
        have hkp := keptp_any a.b p.n (okP_le h1).1 (by have := okP_le h1; omega)
        have EQ := eqB p.a.b (keptB a.b p.n.toNat)
        obtain ⟨q, hq⟩ : ∃ q, decide (p.a.b = keptB a.b p.n.toNat) = q := ⟨_, rfl⟩
        have HF := Lib.hid (show decide (hasM p a) = q by
          rw [← hq]
          by_cases h4 : p.a.b = keptB a.b p.n.toNat
          · rw [decide_eq_true h4, decide_eq_true (show hasM p a from ⟨h1, h2, h3, h4⟩)]
          · rw [decide_eq_false h4, decide_eq_false (fun h => h4 h.2.2.2)])
        rw [hq] at EQ
        generalize keptB a.b p.n.toNat = kb at *
        clear hq h1 h2 h3
        go_enter Tryd.func31, Tryd.ntmps31
        go_wp2_with (first | (go_at_call 34; refine (HCP _ (by assumption)).mono ?_; rintro e w2 ⟨rfl, hb2⟩; have hk2 : Below W1.heap.size W1 w2 := bel_trans (by assumption) hb2; clear hb2) | (go_at_call 45; refine (HCA _ (by assumption)).mono ?_; rintro e w2 ⟨rfl, hb2⟩; have hk2 : Below W1.heap.size W1 w2 := bel_trans (by assumption) hb2; clear hb2) | (go_at_call 60; refine (hkp _).mono ?_; rintro e w2 ⟨rfl, hb2⟩; have hk2 : Below W1.heap.size W1 w2 := bel_trans (by assumption) hb2; clear hb2) | (refine wp_region_lin (fun w' => Below W1.heap.size W1 w') (by kernel_rfl) (by kernel_rfl) (bel_drew (by assumption)) ?_; (repeat (first | (refine lin_off (by rfl) ?_; (try simp only [Act.put, List.setIfInBounds_toArray, List.set_cons_zero, List.set_cons_succ])) | (refine lin_op (v := ?_) (by rfl) (fun w9 hS9 => ?_) ?_; rotate_left; (focus (((try dsimp only at hS9); go_simp; (try go_bits)) <;> with_reducible rfl)); (try simp only [Act.put, List.setIfInBounds_toArray, List.set_cons_zero, List.set_cons_succ])) | (refine lin_fn (f := 34) (by rfl) rfl rfl (enters_of Tryd.func34 (by kernel_rfl) rfl) (fun w9 hS9 => (HCP w9 hS9).mono (fun e w' h => ⟨h.1, bel_trans hS9 h.2⟩)) ?_ ?_; (focus (simp [Act.eval]; done)); (try simp only [Act.put, List.setIfInBounds_toArray, List.set_cons_zero, List.set_cons_succ])) | (refine lin_fn (f := 45) (by rfl) rfl rfl (enters_of Tryd.func45 (by kernel_rfl) rfl) (fun w9 hS9 => (HCA w9 hS9).mono (fun e w' h => ⟨h.1, bel_trans hS9 h.2⟩)) ?_ ?_; (focus (simp [Act.eval]; done)); (try simp only [Act.put, List.setIfInBounds_toArray, List.set_cons_zero, List.set_cons_succ])) | (refine lin_fn (f := 60) (by rfl) rfl rfl (enters_of Tryd.func60 (by kernel_rfl) rfl) (fun w9 hS9 => (hkp w9).mono (fun e w' h => ⟨h.1, bel_trans hS9 h.2⟩)) ?_ ?_; (focus (simp [Act.eval]; done)); (try simp only [Act.put, List.setIfInBounds_toArray, List.set_cons_zero, List.set_cons_succ])))); refine lin_nil (fun w8 hS8 => ?_)))
        all_goals go_ret
        all_goals exact ⟨by rw [HF.out]; rfl, bel_trans HB.out (by assumption)⟩
      · have d3 : (p.a.v == a.v) = false := by simpa using h3
        have HF := Lib.hid (show ¬ hasM p a from fun h => h3 h.2.2.1)
        clear h1 h2 h3
        go_enter Tryd.func31, Tryd.ntmps31
        go_wp2_with (first | (go_at_call 34; refine (HCP _ (by assumption)).mono ?_; rintro e w2 ⟨rfl, hb2⟩; have hk2 : Below W1.heap.size W1 w2 := bel_trans (by assumption) hb2; clear hb2) | (go_at_call 45; refine (HCA _ (by assumption)).mono ?_; rintro e w2 ⟨rfl, hb2⟩; have hk2 : Below W1.heap.size W1 w2 := bel_trans (by assumption) hb2; clear hb2) | (refine wp_region_lin (fun w' => Below W1.heap.size W1 w') (by kernel_rfl) (by kernel_rfl) (bel_drew (by assumption)) ?_; (repeat (first | (refine lin_off (by rfl) ?_; (try simp only [Act.put, List.setIfInBounds_toArray, List.set_cons_zero, List.set_cons_succ])) | (refine lin_op (v := ?_) (by rfl) (fun w9 hS9 => ?_) ?_; rotate_left; (focus (((try dsimp only at hS9); go_simp; (try go_bits)) <;> with_reducible rfl)); (try simp only [Act.put, List.setIfInBounds_toArray, List.set_cons_zero, List.set_cons_succ])) | (refine lin_fn (f := 34) (by rfl) rfl rfl (enters_of Tryd.func34 (by kernel_rfl) rfl) (fun w9 hS9 => (HCP w9 hS9).mono (fun e w' h => ⟨h.1, bel_trans hS9 h.2⟩)) ?_ ?_; (focus (simp [Act.eval]; done)); (try simp only [Act.put, List.setIfInBounds_toArray, List.set_cons_zero, List.set_cons_succ])) | (refine lin_fn (f := 45) (by rfl) rfl rfl (enters_of Tryd.func45 (by kernel_rfl) rfl) (fun w9 hS9 => (HCA w9 hS9).mono (fun e w' h => ⟨h.1, bel_trans hS9 h.2⟩)) ?_ ?_; (focus (simp [Act.eval]; done)); (try simp only [Act.put, List.setIfInBounds_toArray, List.set_cons_zero, List.set_cons_succ])))); refine lin_nil (fun w8 hS8 => ?_)))
        all_goals go_ret
        all_goals exact ⟨by rw [decide_eq_false HF.out]; rfl, bel_trans HB.out (by assumption)⟩
    · rw [eA_no h2] at HCA
      have HF := Lib.hid (show ¬ hasM p a from fun h => h2 h.2.1)
      clear h1 h2
      go_enter Tryd.func31, Tryd.ntmps31
      go_wp2_with (first | (go_at_call 34; refine (HCP _ (by assumption)).mono ?_; rintro e w2 ⟨rfl, hb2⟩; have hk2 : Below W1.heap.size W1 w2 := bel_trans (by assumption) hb2; clear hb2) | (go_at_call 45; refine (HCA _ (by assumption)).mono ?_; rintro e w2 ⟨rfl, hb2⟩; have hk2 : Below W1.heap.size W1 w2 := bel_trans (by assumption) hb2; clear hb2) | (refine wp_region_lin (fun w' => Below W1.heap.size W1 w') (by kernel_rfl) (by kernel_rfl) (bel_drew (by assumption)) ?_; (repeat (first | (refine lin_off (by rfl) ?_; (try simp only [Act.put, List.setIfInBounds_toArray, List.set_cons_zero, List.set_cons_succ])) | (refine lin_op (v := ?_) (by rfl) (fun w9 hS9 => ?_) ?_; rotate_left; (focus (((try dsimp only at hS9); go_simp; (try go_bits)) <;> with_reducible rfl)); (try simp only [Act.put, List.setIfInBounds_toArray, List.set_cons_zero, List.set_cons_succ])) | (refine lin_fn (f := 34) (by rfl) rfl rfl (enters_of Tryd.func34 (by kernel_rfl) rfl) (fun w9 hS9 => (HCP w9 hS9).mono (fun e w' h => ⟨h.1, bel_trans hS9 h.2⟩)) ?_ ?_; (focus (simp [Act.eval]; done)); (try simp only [Act.put, List.setIfInBounds_toArray, List.set_cons_zero, List.set_cons_succ])) | (refine lin_fn (f := 45) (by rfl) rfl rfl (enters_of Tryd.func45 (by kernel_rfl) rfl) (fun w9 hS9 => (HCA w9 hS9).mono (fun e w' h => ⟨h.1, bel_trans hS9 h.2⟩)) ?_ ?_; (focus (simp [Act.eval]; done)); (try simp only [Act.put, List.setIfInBounds_toArray, List.set_cons_zero, List.set_cons_succ])))); refine lin_nil (fun w8 hS8 => ?_)))
      all_goals go_ret
      all_goals exact ⟨by rw [decide_eq_false HF.out]; rfl, bel_trans HB.out (by assumption)⟩
  · rw [eP_no h1] at HCP
    have HF := Lib.hid (show ¬ hasM p a from fun h => h1 h.1)
    clear h1
    go_enter Tryd.func31, Tryd.ntmps31
    go_wp2_with (first | (go_at_call 34; refine (HCP _ (by assumption)).mono ?_; rintro e w2 ⟨rfl, hb2⟩; have hk2 : Below W1.heap.size W1 w2 := bel_trans (by assumption) hb2; clear hb2) | (refine wp_region_lin (fun w' => Below W1.heap.size W1 w') (by kernel_rfl) (by kernel_rfl) (bel_drew (by assumption)) ?_; (repeat (first | (refine lin_off (by rfl) ?_; (try simp only [Act.put, List.setIfInBounds_toArray, List.set_cons_zero, List.set_cons_succ])) | (refine lin_op (v := ?_) (by rfl) (fun w9 hS9 => ?_) ?_; rotate_left; (focus (((try dsimp only at hS9); go_simp; (try go_bits)) <;> with_reducible rfl)); (try simp only [Act.put, List.setIfInBounds_toArray, List.set_cons_zero, List.set_cons_succ])) | (refine lin_fn (f := 34) (by rfl) rfl rfl (enters_of Tryd.func34 (by kernel_rfl) rfl) (fun w9 hS9 => (HCP w9 hS9).mono (fun e w' h => ⟨h.1, bel_trans hS9 h.2⟩)) ?_ ?_; (focus (simp [Act.eval]; done)); (try simp only [Act.put, List.setIfInBounds_toArray, List.set_cons_zero, List.set_cons_succ])))); refine lin_nil (fun w8 hS8 => ?_)))
    all_goals go_ret
    all_goals exact ⟨by rw [decide_eq_false HF.out]; rfl, bel_trans HB.out (by assumption)⟩

set_option maxRecDepth 100000 in
set_option maxHeartbeats 1600000 in
theorem refhas_any (p : Px) (a : Ad) (w : World) : Calls Tryd.prog 51 #[.agg p.cs, .agg a.cs] w fun e w' => e = .returned (.bool (decide (hasM p a))) ∧ Below w.heap.size w w' := by
  obtain ⟨W1, hW1⟩ : ∃ W1, (w.alloc (.cells p.cs 29)).alloc (.cells a.cs 27) = W1 := ⟨_, rfl⟩
  have hb1 : Below w.heap.size w W1 := by rw [← hW1]; exact (((Below.refl w.heap.size w).alloc (Nat.le_refl _) _).alloc (by simp) _)
  have b1 : Blk W1 (w.heap.size) 29 p.cs := by
    have h9 := Blk.new w 29 p.cs
    rw [← hW1]; exact (h9.alloc _)
  have b2 : Blk W1 (w.heap.size + 1) 27 a.cs := by
    have h9 := Blk.new (w.alloc (.cells p.cs 29)) 27 a.cs
    rw [World.size_alloc] at h9
    rw [← hW1]; exact h9
  have LPp := px_p b1
  have LAp := px_a b1
  have LBp := px_b b1
  have LVp := px_v b1
  have LNp := px_n b1
  have LAa := ad_a b2
  have LBa := ad_b b2
  have LVa := ad_v b2
  have h0 : Below W1.heap.size W1 W1 := Below.refl _ _
  have HB := Lib.hid hb1
  clear hb1 b1 b2
  have HCP := refright_any p
  have HCA := refrightaddr_any a
  by_cases h1 : okP p
  · rw [decide_eq_true h1] at HCP
    by_cases h2 : okA a
    · rw [decide_eq_true h2] at HCA
      by_cases h3 : p.a.v = a.v
      · have d3 : (p.a.v != a.v) = false := by simpa using h3
        have hle := okP_le h1
        obtain ⟨n, hn⟩ := Int.eq_ofNat_of_zero_le hle.1
        have HOK := Lib.hid (show hasM p a ↔ ∀ i, i < n → i < 128 → bt p.a.b i = bt a.b i by
          have hc : clear p.a.b n := by have := h1.2.2.2; rw [hn] at this; simpa using this
          rw [← kept_bits hc]
          constructor
          · intro h; have := h.2.2.2; rw [hn] at this; simpa using this
          · intro h; exact ⟨h1, h2, h3, by rw [hn]; simpa using h⟩)
        rw [hn] at LNp
        have hn128 : n ≤ 128 := by omega
        clear h1 h2 h3 hle hn
        go_enter Tryd.func51, Tryd.ntmps51
        go_wp2_with (first | (go_at_call 41; refine (HCP _).mono ?_; rintro e w2 ⟨rfl, hb2⟩; have hk2 : Below W1.heap.size W1 w2 := bel_trans (by assumption) hb2; clear hb2) | (go_at_call 21; refine (HCA _).mono ?_; rintro e w2 ⟨rfl, hb2⟩; have hk2 : Below W1.heap.size W1 w2 := bel_trans (by assumption) hb2; clear hb2) | (refine wp_region_lin (fun w' => Below W1.heap.size W1 w') (by kernel_rfl) (by kernel_rfl) (bel_drew (by assumption)) ?_; (repeat (first | (refine lin_off (by rfl) ?_; (try simp only [Act.put, List.setIfInBounds_toArray, List.set_cons_zero, List.set_cons_succ])) | (refine lin_op (v := ?_) (by rfl) (fun w9 hS9 => ?_) ?_; rotate_left; (focus (((try dsimp only at hS9); go_simp; (try go_bits)) <;> with_reducible rfl)); (try simp only [Act.put, List.setIfInBounds_toArray, List.set_cons_zero, List.set_cons_succ])) | (refine lin_fn (f := 41) (by rfl) rfl rfl (enters_of Tryd.func41 (by kernel_rfl) rfl) (fun w9 hS9 => (HCP w9).mono (fun e w' h => ⟨h.1, bel_trans hS9 h.2⟩)) ?_ ?_; (focus (simp [Act.eval]; done)); (try simp only [Act.put, List.setIfInBounds_toArray, List.set_cons_zero, List.set_cons_succ])) | (refine lin_fn (f := 21) (by rfl) rfl rfl (enters_of Tryd.func21 (by kernel_rfl) rfl) (fun w9 hS9 => (HCA w9).mono (fun e w' h => ⟨h.1, bel_trans hS9 h.2⟩)) ?_ ?_; (focus (simp [Act.eval]; done)); (try simp only [Act.put, List.setIfInBounds_toArray, List.set_cons_zero, List.set_cons_succ])))); refine lin_nil (fun w8 hS8 => ?_)))
        go_loopw [5] (fun i wr => ∃ m : Nat, m ≤ n ∧ i = .int .i64 m ∧ (∀ j, j < m → bt p.a.b j = bt a.b j) ∧ Below W1.heap.size W1 wr) (fun i _ => n - (intOf i).toNat)
        case atStart => exact ⟨0, Nat.zero_le _, rfl, fun j h1 => by omega, by assumption⟩
        case round =>
          obtain ⟨m, hm, rfl, hcl, hk⟩ := hrel
          by_cases hlt : m < n
          · have hat1 := at_any p.a.b m (by omega)
            have hat2 := at_any a.b m (by omega)
            have d4 : decide (m < n) = true := by simpa using hlt
            by_cases he : bt p.a.b m = bt a.b m
            · have hbe : btI p.a.b m = btI a.b m := by unfold btI; rw [he]
              rw [hbe] at hat1
              have HC := Lib.hid (show ∀ j, j < m + 1 → bt p.a.b j = bt a.b j from fun j h1 => by
                by_cases h3 : j = m
                · rw [h3]; exact he
                · exact hcl j (by omega))
              have hne : (btI a.b m != btI a.b m) = false := by simp
              generalize btI a.b m = y at *
              clear hcl he hbe
              go_wp2_with (first | (go_at_call 50; refine (hat1 _).mono ?_; rintro e w2 ⟨rfl, hb2⟩; have hk2 : Below W1.heap.size W1 w2 := bel_trans (by assumption) hb2; clear hb2) | (go_at_call 50; refine (hat2 _).mono ?_; rintro e w2 ⟨rfl, hb2⟩; have hk2 : Below W1.heap.size W1 w2 := bel_trans (by assumption) hb2; clear hb2) | (refine wp_region_lin (fun w' => Below W1.heap.size W1 w') (by kernel_rfl) (by kernel_rfl) (bel_drew (by assumption)) ?_; (repeat (first | (refine lin_off (by rfl) ?_; (try simp only [Act.put, List.setIfInBounds_toArray, List.set_cons_zero, List.set_cons_succ])) | (refine lin_op (v := ?_) (by rfl) (fun w9 hS9 => ?_) ?_; rotate_left; (focus (((try dsimp only at hS9); go_simp; (try go_bits)) <;> with_reducible rfl)); (try simp only [Act.put, List.setIfInBounds_toArray, List.set_cons_zero, List.set_cons_succ])) | (refine lin_fn (f := 50) (by rfl) rfl rfl (enters_of Tryd.func50 (by kernel_rfl) rfl) (fun w9 hS9 => (hat1 w9).mono (fun e w' h => ⟨h.1, bel_trans hS9 h.2⟩)) ?_ ?_; (focus (simp [Act.eval]; done)); (try simp only [Act.put, List.setIfInBounds_toArray, List.set_cons_zero, List.set_cons_succ])) | (refine lin_fn (f := 50) (by rfl) rfl rfl (enters_of Tryd.func50 (by kernel_rfl) rfl) (fun w9 hS9 => (hat2 w9).mono (fun e w' h => ⟨h.1, bel_trans hS9 h.2⟩)) ?_ ?_; (focus (simp [Act.eval]; done)); (try simp only [Act.put, List.setIfInBounds_toArray, List.set_cons_zero, List.set_cons_succ])))); refine lin_nil (fun w8 hS8 => ?_)))
              all_goals go_roundw
              case rel => exact ⟨m + 1, by omega, by go_num, HC.out, by assumption⟩
              case measure => simp [intOf]; omega
            · have hne : (btI p.a.b m != btI a.b m) = true := by
                rw [bne_iff_ne]
                intro h
                unfold btI at h
                apply he
                cases h1 : bt p.a.b m <;> cases h2 : bt a.b m <;> rw [h1, h2] at h <;> simp_all
              have HF := Lib.hid (show ¬ hasM p a from fun h => he (HOK.out.1 h m hlt (by omega)))
              generalize btI a.b m = y at *
              generalize btI p.a.b m = x at *
              clear hcl he
              go_wp2_with (first | (go_at_call 50; refine (hat1 _).mono ?_; rintro e w2 ⟨rfl, hb2⟩; have hk2 : Below W1.heap.size W1 w2 := bel_trans (by assumption) hb2; clear hb2) | (go_at_call 50; refine (hat2 _).mono ?_; rintro e w2 ⟨rfl, hb2⟩; have hk2 : Below W1.heap.size W1 w2 := bel_trans (by assumption) hb2; clear hb2) | (refine wp_region_lin (fun w' => Below W1.heap.size W1 w') (by kernel_rfl) (by kernel_rfl) (bel_drew (by assumption)) ?_; (repeat (first | (refine lin_off (by rfl) ?_; (try simp only [Act.put, List.setIfInBounds_toArray, List.set_cons_zero, List.set_cons_succ])) | (refine lin_op (v := ?_) (by rfl) (fun w9 hS9 => ?_) ?_; rotate_left; (focus (((try dsimp only at hS9); go_simp; (try go_bits)) <;> with_reducible rfl)); (try simp only [Act.put, List.setIfInBounds_toArray, List.set_cons_zero, List.set_cons_succ])) | (refine lin_fn (f := 50) (by rfl) rfl rfl (enters_of Tryd.func50 (by kernel_rfl) rfl) (fun w9 hS9 => (hat1 w9).mono (fun e w' h => ⟨h.1, bel_trans hS9 h.2⟩)) ?_ ?_; (focus (simp [Act.eval]; done)); (try simp only [Act.put, List.setIfInBounds_toArray, List.set_cons_zero, List.set_cons_succ])) | (refine lin_fn (f := 50) (by rfl) rfl rfl (enters_of Tryd.func50 (by kernel_rfl) rfl) (fun w9 hS9 => (hat2 w9).mono (fun e w' h => ⟨h.1, bel_trans hS9 h.2⟩)) ?_ ?_; (focus (simp [Act.eval]; done)); (try simp only [Act.put, List.setIfInBounds_toArray, List.set_cons_zero, List.set_cons_succ])))); refine lin_nil (fun w8 hS8 => ?_)))
              all_goals go_ret
              all_goals exact ⟨by rw [decide_eq_false HF.out]; rfl, bel_trans HB.out (by assumption)⟩
          · obtain rfl : m = n := by omega
            have HF := Lib.hid (show hasM p a from HOK.out.2 (fun i hi _ => hcl i hi))
            have d4 : decide (m < m) = false := by simp
            clear hcl
            go_wp2
            go_ret
            exact ⟨by rw [decide_eq_true HF.out]; rfl, bel_trans HB.out (by assumption)⟩
      · have d3 : (p.a.v != a.v) = true := by simpa using h3
        have HF := Lib.hid (show ¬ hasM p a from fun h => h3 h.2.2.1)
        clear h1 h2 h3
        go_enter Tryd.func51, Tryd.ntmps51
        go_wp2_with (first | (go_at_call 41; refine (HCP _).mono ?_; rintro e w2 ⟨rfl, hb2⟩; have hk2 : Below W1.heap.size W1 w2 := bel_trans (by assumption) hb2; clear hb2) | (go_at_call 21; refine (HCA _).mono ?_; rintro e w2 ⟨rfl, hb2⟩; have hk2 : Below W1.heap.size W1 w2 := bel_trans (by assumption) hb2; clear hb2) | (refine wp_region_lin (fun w' => Below W1.heap.size W1 w') (by kernel_rfl) (by kernel_rfl) (bel_drew (by assumption)) ?_; (repeat (first | (refine lin_off (by rfl) ?_; (try simp only [Act.put, List.setIfInBounds_toArray, List.set_cons_zero, List.set_cons_succ])) | (refine lin_op (v := ?_) (by rfl) (fun w9 hS9 => ?_) ?_; rotate_left; (focus (((try dsimp only at hS9); go_simp; (try go_bits)) <;> with_reducible rfl)); (try simp only [Act.put, List.setIfInBounds_toArray, List.set_cons_zero, List.set_cons_succ])) | (refine lin_fn (f := 41) (by rfl) rfl rfl (enters_of Tryd.func41 (by kernel_rfl) rfl) (fun w9 hS9 => (HCP w9).mono (fun e w' h => ⟨h.1, bel_trans hS9 h.2⟩)) ?_ ?_; (focus (simp [Act.eval]; done)); (try simp only [Act.put, List.setIfInBounds_toArray, List.set_cons_zero, List.set_cons_succ])) | (refine lin_fn (f := 21) (by rfl) rfl rfl (enters_of Tryd.func21 (by kernel_rfl) rfl) (fun w9 hS9 => (HCA w9).mono (fun e w' h => ⟨h.1, bel_trans hS9 h.2⟩)) ?_ ?_; (focus (simp [Act.eval]; done)); (try simp only [Act.put, List.setIfInBounds_toArray, List.set_cons_zero, List.set_cons_succ])))); refine lin_nil (fun w8 hS8 => ?_)))
        all_goals go_ret
        all_goals exact ⟨by rw [decide_eq_false HF.out]; rfl, bel_trans HB.out (by assumption)⟩
    · rw [decide_eq_false h2] at HCA
      have HF := Lib.hid (show ¬ hasM p a from fun h => h2 h.2.1)
      clear h1 h2
      go_enter Tryd.func51, Tryd.ntmps51
      go_wp2_with (first | (go_at_call 41; refine (HCP _).mono ?_; rintro e w2 ⟨rfl, hb2⟩; have hk2 : Below W1.heap.size W1 w2 := bel_trans (by assumption) hb2; clear hb2) | (go_at_call 21; refine (HCA _).mono ?_; rintro e w2 ⟨rfl, hb2⟩; have hk2 : Below W1.heap.size W1 w2 := bel_trans (by assumption) hb2; clear hb2) | (refine wp_region_lin (fun w' => Below W1.heap.size W1 w') (by kernel_rfl) (by kernel_rfl) (bel_drew (by assumption)) ?_; (repeat (first | (refine lin_off (by rfl) ?_; (try simp only [Act.put, List.setIfInBounds_toArray, List.set_cons_zero, List.set_cons_succ])) | (refine lin_op (v := ?_) (by rfl) (fun w9 hS9 => ?_) ?_; rotate_left; (focus (((try dsimp only at hS9); go_simp; (try go_bits)) <;> with_reducible rfl)); (try simp only [Act.put, List.setIfInBounds_toArray, List.set_cons_zero, List.set_cons_succ])) | (refine lin_fn (f := 41) (by rfl) rfl rfl (enters_of Tryd.func41 (by kernel_rfl) rfl) (fun w9 hS9 => (HCP w9).mono (fun e w' h => ⟨h.1, bel_trans hS9 h.2⟩)) ?_ ?_; (focus (simp [Act.eval]; done)); (try simp only [Act.put, List.setIfInBounds_toArray, List.set_cons_zero, List.set_cons_succ])) | (refine lin_fn (f := 21) (by rfl) rfl rfl (enters_of Tryd.func21 (by kernel_rfl) rfl) (fun w9 hS9 => (HCA w9).mono (fun e w' h => ⟨h.1, bel_trans hS9 h.2⟩)) ?_ ?_; (focus (simp [Act.eval]; done)); (try simp only [Act.put, List.setIfInBounds_toArray, List.set_cons_zero, List.set_cons_succ])))); refine lin_nil (fun w8 hS8 => ?_)))
      all_goals go_ret
      all_goals exact ⟨by rw [decide_eq_false HF.out]; rfl, bel_trans HB.out (by assumption)⟩
  · rw [decide_eq_false h1] at HCP
    have HF := Lib.hid (show ¬ hasM p a from fun h => h1 h.1)
    clear h1
    go_enter Tryd.func51, Tryd.ntmps51
    go_wp2_with (first | (go_at_call 41; refine (HCP _).mono ?_; rintro e w2 ⟨rfl, hb2⟩; have hk2 : Below W1.heap.size W1 w2 := bel_trans (by assumption) hb2; clear hb2) | (refine wp_region_lin (fun w' => Below W1.heap.size W1 w') (by kernel_rfl) (by kernel_rfl) (bel_drew (by assumption)) ?_; (repeat (first | (refine lin_off (by rfl) ?_; (try simp only [Act.put, List.setIfInBounds_toArray, List.set_cons_zero, List.set_cons_succ])) | (refine lin_op (v := ?_) (by rfl) (fun w9 hS9 => ?_) ?_; rotate_left; (focus (((try dsimp only at hS9); go_simp; (try go_bits)) <;> with_reducible rfl)); (try simp only [Act.put, List.setIfInBounds_toArray, List.set_cons_zero, List.set_cons_succ])) | (refine lin_fn (f := 41) (by rfl) rfl rfl (enters_of Tryd.func41 (by kernel_rfl) rfl) (fun w9 hS9 => (HCP w9).mono (fun e w' h => ⟨h.1, bel_trans hS9 h.2⟩)) ?_ ?_; (focus (simp [Act.eval]; done)); (try simp only [Act.put, List.setIfInBounds_toArray, List.set_cons_zero, List.set_cons_succ])))); refine lin_nil (fun w8 hS8 => ?_)))
    all_goals go_ret
    all_goals exact ⟨by rw [decide_eq_false HF.out]; rfl, bel_trans HB.out (by assumption)⟩

end Go.Proofs.YtfnagfmbhcaphaaDoor
