/-
  The contracts of prefix.hasPlace, Bit, Nibble and of the reference's Bit, Nibble. Nothing here is a statement of the document.
-/
import Derived.Test.YtdbdmnahgkkjiaaDoorPfxC
namespace Go.Proofs.YtdbdmnahgkkjiaaDoor
open Go.RowKit Go.Shelf
set_option linter.unusedVariables false
attribute [local go_sem ↓] load_b16_rule store_b16_rule load_ad_rule store_ad_rule load_px_rule store_px_rule eq_b16_rule eq_ad_rule eq_px_rule

theorem btI_on {b : B16} {i : Nat} (h : bt b i = true) : btI b i = 1 := by unfold btI; rw [h]; rfl
theorem btI_off {b : B16} {i : Nat} (h : bt b i = false) : btI b i = 0 := by unfold btI; rw [h]; rfl
theorem clear_not {b : B16} {n m : Nat} (h1 : n ≤ m) (h2 : m < 128) (h : bt b m = true) : ¬ clear b n := fun hc => by
  have := hc m h1 h2
  rw [h] at this
  cases this

set_option maxRecDepth 100000 in
set_option maxHeartbeats 1600000 in
theorem refrightaddr_any (a : Ad) (w : World) : Calls Tryd.prog 52 #[.agg a.cs] w fun e w' => e = .returned (.bool (decide (okA a))) ∧ Below w.heap.size w w' := by
  obtain ⟨W1, hW1⟩ : ∃ W1, w.alloc (.cells a.cs 36) = W1 := ⟨_, rfl⟩
  have hb1 : Below w.heap.size w W1 := by rw [← hW1]; exact ((Below.refl w.heap.size w).alloc (Nat.le_refl _) _)
  have b1 : Blk W1 (w.heap.size) 36 a.cs := by
    have h9 := Blk.new w 36 a.cs
    rw [← hW1]; exact h9
  have LA := ad_a b1
  have LB := ad_b b1
  have LV := ad_v b1
  have h0 : Below W1.heap.size W1 W1 := Below.refl _ _
  have HB := Lib.hid hb1
  clear hb1 b1
  have hw := wid_le a.v
  have HWD := refwidth_b a.v
  have HOK := Lib.hid (show okA a ↔ wid a.v ≠ 0 ∧ clear a.b (wid a.v) from Iff.rfl)
  generalize wid a.v = n at *
  go_enter Tryd.func52, Tryd.ntmps52
  go_wp2_with (first | (go_at_call 53; refine (HWD _).mono ?_; rintro e w2 ⟨rfl, hb2⟩; have hk2 : Below W1.heap.size W1 w2 := bel_trans (by assumption) hb2; clear hb2) | (refine wp_region_lin (fun w' => Below W1.heap.size W1 w') (by kernel_rfl) (by kernel_rfl) (bel_drew (by assumption)) ?_; (repeat (first | (refine lin_off (by rfl) ?_; (try simp only [Act.put, List.setIfInBounds_toArray, List.set_cons_zero, List.set_cons_succ])) | (refine lin_op (v := ?_) (by rfl) (fun w9 hS9 => ?_) ?_; rotate_left; (focus (((try dsimp only at hS9); go_simp; (try go_bits)) <;> with_reducible rfl)); (try simp only [Act.put, List.setIfInBounds_toArray, List.set_cons_zero, List.set_cons_succ])) | (refine lin_fn (f := 53) (by rfl) rfl rfl (enters_of Tryd.func53 (by kernel_rfl) rfl) (fun w9 hS9 => (HWD w9).mono (fun e w' h => ⟨h.1, bel_trans hS9 h.2⟩)) ?_ ?_; (focus (simp [Act.eval]; done)); (try simp only [Act.put, List.setIfInBounds_toArray, List.set_cons_zero, List.set_cons_succ])))); refine lin_nil (fun w8 hS8 => ?_)))
  go_loopw [4] (fun i wr => ∃ m : Nat, n ≤ m ∧ m ≤ 128 ∧ i = .int .i64 m ∧ (∀ j, n ≤ j → j < m → bt a.b j = false) ∧ Below W1.heap.size W1 wr) (fun i _ => 128 - (intOf i).toNat)
  case atStart => exact ⟨n, Nat.le_refl _, hw, rfl, fun j h1 h2 => by omega, by assumption⟩
  case round =>
    obtain ⟨m, hnm, hm, rfl, hcl, hk⟩ := hrel
    by_cases hlt : m < 128
    · have hat := at_any a.b m hlt
      cases hbm : bt a.b m with
      | true =>
        rw [btI_on hbm] at hat
        have HF := Lib.hid (show okA a → False from fun h => clear_not hnm hlt hbm (HOK.out.1 h).2)
        clear hcl
        go_wp2_with (first | (go_at_call 54; refine (hat _).mono ?_; rintro e w2 ⟨rfl, hb2⟩; have hk2 : Below W1.heap.size W1 w2 := bel_trans (by assumption) hb2; clear hb2) | (refine wp_region_lin (fun w' => Below W1.heap.size W1 w') (by kernel_rfl) (by kernel_rfl) (bel_drew (by assumption)) ?_; (repeat (first | (refine lin_off (by rfl) ?_; (try simp only [Act.put, List.setIfInBounds_toArray, List.set_cons_zero, List.set_cons_succ])) | (refine lin_op (v := ?_) (by rfl) (fun w9 hS9 => ?_) ?_; rotate_left; (focus (((try dsimp only at hS9); go_simp; (try go_bits)) <;> with_reducible rfl)); (try simp only [Act.put, List.setIfInBounds_toArray, List.set_cons_zero, List.set_cons_succ])) | (refine lin_fn (f := 54) (by rfl) rfl rfl (enters_of Tryd.func54 (by kernel_rfl) rfl) (fun w9 hS9 => (hat w9).mono (fun e w' h => ⟨h.1, bel_trans hS9 h.2⟩)) ?_ ?_; (focus (simp [Act.eval]; done)); (try simp only [Act.put, List.setIfInBounds_toArray, List.set_cons_zero, List.set_cons_succ])))); refine lin_nil (fun w8 hS8 => ?_)))
        go_ret
        exact ⟨by rw [decide_eq_false HF.out]; rfl, bel_trans HB.out (by assumption)⟩
      | false =>
        rw [btI_off hbm] at hat
        have HC := Lib.hid (show ∀ j, n ≤ j → j < m + 1 → bt a.b j = false from fun j h1 h2 => by
          by_cases h3 : j = m
          · rw [h3]; exact hbm
          · exact hcl j h1 (by omega))
        clear hcl
        go_wp2_with (first | (go_at_call 54; refine (hat _).mono ?_; rintro e w2 ⟨rfl, hb2⟩; have hk2 : Below W1.heap.size W1 w2 := bel_trans (by assumption) hb2; clear hb2) | (refine wp_region_lin (fun w' => Below W1.heap.size W1 w') (by kernel_rfl) (by kernel_rfl) (bel_drew (by assumption)) ?_; (repeat (first | (refine lin_off (by rfl) ?_; (try simp only [Act.put, List.setIfInBounds_toArray, List.set_cons_zero, List.set_cons_succ])) | (refine lin_op (v := ?_) (by rfl) (fun w9 hS9 => ?_) ?_; rotate_left; (focus (((try dsimp only at hS9); go_simp; (try go_bits)) <;> with_reducible rfl)); (try simp only [Act.put, List.setIfInBounds_toArray, List.set_cons_zero, List.set_cons_succ])) | (refine lin_fn (f := 54) (by rfl) rfl rfl (enters_of Tryd.func54 (by kernel_rfl) rfl) (fun w9 hS9 => (hat w9).mono (fun e w' h => ⟨h.1, bel_trans hS9 h.2⟩)) ?_ ?_; (focus (simp [Act.eval]; done)); (try simp only [Act.put, List.setIfInBounds_toArray, List.set_cons_zero, List.set_cons_succ])))); refine lin_nil (fun w8 hS8 => ?_)))
        go_roundw
        case rel => exact ⟨m + 1, by omega, by omega, by go_num, HC.out, by assumption⟩
        case measure => simp [intOf]; omega
    · obtain rfl : m = 128 := by omega
      have HC := Lib.hid (show clear a.b n from hcl)
      clear hcl
      by_cases h0n : n = 0
      · have d1 : decide (0 < n) = false := by simp; omega
        have HF := Lib.hid (show ¬ okA a from fun h => (HOK.out.1 h).1 h0n)
        clear h0n
        go_wp2
        go_ret
        exact ⟨by rw [decide_eq_false HF.out]; rfl, bel_trans HB.out (by assumption)⟩
      · have d1 : decide (0 < n) = true := by simp; omega
        have HF := Lib.hid (show okA a from HOK.out.2 ⟨h0n, HC.out⟩)
        clear h0n
        go_wp2
        go_ret
        exact ⟨by rw [decide_eq_true HF.out]; rfl, bel_trans HB.out (by assumption)⟩

set_option maxRecDepth 100000 in
set_option maxHeartbeats 1600000 in
theorem refright_any (p : Px) (w : World) : Calls Tryd.prog 28 #[.agg p.cs] w fun e w' => e = .returned (.bool (decide (okP p))) ∧ Below w.heap.size w w' := by
  obtain ⟨W1, hW1⟩ : ∃ W1, w.alloc (.cells p.cs 38) = W1 := ⟨_, rfl⟩
  have hb1 : Below w.heap.size w W1 := by rw [← hW1]; exact ((Below.refl w.heap.size w).alloc (Nat.le_refl _) _)
  have b1 : Blk W1 (w.heap.size) 38 p.cs := by
    have h9 := Blk.new w 38 p.cs
    rw [← hW1]; exact h9
  have LP := px_p b1
  have LA := px_a b1
  have LB := px_b b1
  have LV := px_v b1
  have LN := px_n b1
  have h0 : Below W1.heap.size W1 W1 := Below.refl _ _
  have HB := Lib.hid hb1
  clear hb1 b1
  have hw := wid_le p.a.v
  have HWD := refwidth_b p.a.v
  have HRA := refrightaddr_any p.a
  have HOK := Lib.hid (show okP p ↔ okA p.a ∧ 0 ≤ p.n ∧ p.n ≤ (wid p.a.v : Int) ∧ clear p.a.b p.n.toNat from Iff.rfl)
  by_cases h1 : okA p.a
  · rw [decide_eq_true h1] at HRA
    by_cases h2 : p.n < 0
    · have d1 : decide (p.n < 0) = true := by simpa using h2
      have HF := Lib.hid (show ¬ okP p from fun h => by have := (HOK.out.1 h).2.1; omega)
      clear h1 h2
      go_enter Tryd.func28, Tryd.ntmps28
      go_wp2_with (first | (go_at_call 52; refine (HRA _).mono ?_; rintro e w2 ⟨rfl, hb2⟩; have hk2 : Below W1.heap.size W1 w2 := bel_trans (by assumption) hb2; clear hb2) | (refine wp_region_lin (fun w' => Below W1.heap.size W1 w') (by kernel_rfl) (by kernel_rfl) (bel_drew (by assumption)) ?_; (repeat (first | (refine lin_off (by rfl) ?_; (try simp only [Act.put, List.setIfInBounds_toArray, List.set_cons_zero, List.set_cons_succ])) | (refine lin_op (v := ?_) (by rfl) (fun w9 hS9 => ?_) ?_; rotate_left; (focus (((try dsimp only at hS9); go_simp; (try go_bits)) <;> with_reducible rfl)); (try simp only [Act.put, List.setIfInBounds_toArray, List.set_cons_zero, List.set_cons_succ])) | (refine lin_fn (f := 52) (by rfl) rfl rfl (enters_of Tryd.func52 (by kernel_rfl) rfl) (fun w9 hS9 => (HRA w9).mono (fun e w' h => ⟨h.1, bel_trans hS9 h.2⟩)) ?_ ?_; (focus (simp [Act.eval]; done)); (try simp only [Act.put, List.setIfInBounds_toArray, List.set_cons_zero, List.set_cons_succ])))); refine lin_nil (fun w8 hS8 => ?_)))
      all_goals go_ret
      all_goals exact ⟨by rw [decide_eq_false HF.out]; rfl, bel_trans HB.out (by assumption)⟩
    · have d1 : decide (p.n < 0) = false := by simpa using h2
      obtain ⟨n, hn⟩ := Int.eq_ofNat_of_zero_le (by omega : 0 ≤ p.n)
      rw [hn] at d1 LN HOK
      by_cases h3 : n ≤ wid p.a.v
      · have d2 : decide (wid p.a.v < n) = false := by simp; omega
        have HOK2 := Lib.hid (show okP p ↔ clear p.a.b n from ⟨fun h => by have := (HOK.out.1 h).2.2.2; simpa using this, fun h => HOK.out.2 ⟨h1, by omega, by omega, by simpa using h⟩⟩)
        generalize wid p.a.v = ww at *
        clear h1 h2 hn HOK
        go_enter Tryd.func28, Tryd.ntmps28
        go_wp2_with (first | (go_at_call 52; refine (HRA _).mono ?_; rintro e w2 ⟨rfl, hb2⟩; have hk2 : Below W1.heap.size W1 w2 := bel_trans (by assumption) hb2; clear hb2) | (go_at_call 53; refine (HWD _).mono ?_; rintro e w2 ⟨rfl, hb2⟩; have hk2 : Below W1.heap.size W1 w2 := bel_trans (by assumption) hb2; clear hb2) | (refine wp_region_lin (fun w' => Below W1.heap.size W1 w') (by kernel_rfl) (by kernel_rfl) (bel_drew (by assumption)) ?_; (repeat (first | (refine lin_off (by rfl) ?_; (try simp only [Act.put, List.setIfInBounds_toArray, List.set_cons_zero, List.set_cons_succ])) | (refine lin_op (v := ?_) (by rfl) (fun w9 hS9 => ?_) ?_; rotate_left; (focus (((try dsimp only at hS9); go_simp; (try go_bits)) <;> with_reducible rfl)); (try simp only [Act.put, List.setIfInBounds_toArray, List.set_cons_zero, List.set_cons_succ])) | (refine lin_fn (f := 52) (by rfl) rfl rfl (enters_of Tryd.func52 (by kernel_rfl) rfl) (fun w9 hS9 => (HRA w9).mono (fun e w' h => ⟨h.1, bel_trans hS9 h.2⟩)) ?_ ?_; (focus (simp [Act.eval]; done)); (try simp only [Act.put, List.setIfInBounds_toArray, List.set_cons_zero, List.set_cons_succ])) | (refine lin_fn (f := 53) (by rfl) rfl rfl (enters_of Tryd.func53 (by kernel_rfl) rfl) (fun w9 hS9 => (HWD w9).mono (fun e w' h => ⟨h.1, bel_trans hS9 h.2⟩)) ?_ ?_; (focus (simp [Act.eval]; done)); (try simp only [Act.put, List.setIfInBounds_toArray, List.set_cons_zero, List.set_cons_succ])))); refine lin_nil (fun w8 hS8 => ?_)))
        go_loopw [3] (fun i wr => ∃ m : Nat, n ≤ m ∧ m ≤ 128 ∧ i = .int .i64 m ∧ (∀ j, n ≤ j → j < m → bt p.a.b j = false) ∧ Below W1.heap.size W1 wr) (fun i _ => 128 - (intOf i).toNat)
        case atStart => exact ⟨n, Nat.le_refl _, by omega, rfl, fun j h1 h2 => by omega, by assumption⟩
        case round =>
          obtain ⟨m, hnm, hm, rfl, hcl, hk⟩ := hrel
          by_cases hlt : m < 128
          · have hat := at_any p.a.b m hlt
            cases hbm : bt p.a.b m with
            | true =>
              rw [btI_on hbm] at hat
              have HF := Lib.hid (show ¬ okP p from fun h => clear_not hnm hlt hbm (HOK2.out.1 h))
              clear hcl
              go_wp2_with (first | (go_at_call 54; refine (hat _).mono ?_; rintro e w2 ⟨rfl, hb2⟩; have hk2 : Below W1.heap.size W1 w2 := bel_trans (by assumption) hb2; clear hb2) | (refine wp_region_lin (fun w' => Below W1.heap.size W1 w') (by kernel_rfl) (by kernel_rfl) (bel_drew (by assumption)) ?_; (repeat (first | (refine lin_off (by rfl) ?_; (try simp only [Act.put, List.setIfInBounds_toArray, List.set_cons_zero, List.set_cons_succ])) | (refine lin_op (v := ?_) (by rfl) (fun w9 hS9 => ?_) ?_; rotate_left; (focus (((try dsimp only at hS9); go_simp; (try go_bits)) <;> with_reducible rfl)); (try simp only [Act.put, List.setIfInBounds_toArray, List.set_cons_zero, List.set_cons_succ])) | (refine lin_fn (f := 54) (by rfl) rfl rfl (enters_of Tryd.func54 (by kernel_rfl) rfl) (fun w9 hS9 => (hat w9).mono (fun e w' h => ⟨h.1, bel_trans hS9 h.2⟩)) ?_ ?_; (focus (simp [Act.eval]; done)); (try simp only [Act.put, List.setIfInBounds_toArray, List.set_cons_zero, List.set_cons_succ])))); refine lin_nil (fun w8 hS8 => ?_)))
              go_ret
              exact ⟨by rw [decide_eq_false HF.out]; rfl, bel_trans HB.out (by assumption)⟩
            | false =>
              rw [btI_off hbm] at hat
              have HC := Lib.hid (show ∀ j, n ≤ j → j < m + 1 → bt p.a.b j = false from fun j h1 h2 => by
                by_cases h3 : j = m
                · rw [h3]; exact hbm
                · exact hcl j h1 (by omega))
              clear hcl
              go_wp2_with (first | (go_at_call 54; refine (hat _).mono ?_; rintro e w2 ⟨rfl, hb2⟩; have hk2 : Below W1.heap.size W1 w2 := bel_trans (by assumption) hb2; clear hb2) | (refine wp_region_lin (fun w' => Below W1.heap.size W1 w') (by kernel_rfl) (by kernel_rfl) (bel_drew (by assumption)) ?_; (repeat (first | (refine lin_off (by rfl) ?_; (try simp only [Act.put, List.setIfInBounds_toArray, List.set_cons_zero, List.set_cons_succ])) | (refine lin_op (v := ?_) (by rfl) (fun w9 hS9 => ?_) ?_; rotate_left; (focus (((try dsimp only at hS9); go_simp; (try go_bits)) <;> with_reducible rfl)); (try simp only [Act.put, List.setIfInBounds_toArray, List.set_cons_zero, List.set_cons_succ])) | (refine lin_fn (f := 54) (by rfl) rfl rfl (enters_of Tryd.func54 (by kernel_rfl) rfl) (fun w9 hS9 => (hat w9).mono (fun e w' h => ⟨h.1, bel_trans hS9 h.2⟩)) ?_ ?_; (focus (simp [Act.eval]; done)); (try simp only [Act.put, List.setIfInBounds_toArray, List.set_cons_zero, List.set_cons_succ])))); refine lin_nil (fun w8 hS8 => ?_)))
              go_roundw
              case rel => exact ⟨m + 1, by omega, by omega, by go_num, HC.out, by assumption⟩
              case measure => simp [intOf]; omega
          · obtain rfl : m = 128 := by omega
            have HF := Lib.hid (show okP p from HOK2.out.2 hcl)
            clear hcl
            go_wp2
            go_ret
            exact ⟨by rw [decide_eq_true HF.out]; rfl, bel_trans HB.out (by assumption)⟩
      · have d2 : decide (wid p.a.v < n) = true := by simp; omega
        have HF := Lib.hid (show ¬ okP p from fun h => by have := (HOK.out.1 h).2.2.1; omega)
        generalize wid p.a.v = ww at *
        clear h1 h2 h3 hn HOK
        go_enter Tryd.func28, Tryd.ntmps28
        go_wp2_with (first | (go_at_call 52; refine (HRA _).mono ?_; rintro e w2 ⟨rfl, hb2⟩; have hk2 : Below W1.heap.size W1 w2 := bel_trans (by assumption) hb2; clear hb2) | (go_at_call 53; refine (HWD _).mono ?_; rintro e w2 ⟨rfl, hb2⟩; have hk2 : Below W1.heap.size W1 w2 := bel_trans (by assumption) hb2; clear hb2) | (refine wp_region_lin (fun w' => Below W1.heap.size W1 w') (by kernel_rfl) (by kernel_rfl) (bel_drew (by assumption)) ?_; (repeat (first | (refine lin_off (by rfl) ?_; (try simp only [Act.put, List.setIfInBounds_toArray, List.set_cons_zero, List.set_cons_succ])) | (refine lin_op (v := ?_) (by rfl) (fun w9 hS9 => ?_) ?_; rotate_left; (focus (((try dsimp only at hS9); go_simp; (try go_bits)) <;> with_reducible rfl)); (try simp only [Act.put, List.setIfInBounds_toArray, List.set_cons_zero, List.set_cons_succ])) | (refine lin_fn (f := 52) (by rfl) rfl rfl (enters_of Tryd.func52 (by kernel_rfl) rfl) (fun w9 hS9 => (HRA w9).mono (fun e w' h => ⟨h.1, bel_trans hS9 h.2⟩)) ?_ ?_; (focus (simp [Act.eval]; done)); (try simp only [Act.put, List.setIfInBounds_toArray, List.set_cons_zero, List.set_cons_succ])) | (refine lin_fn (f := 53) (by rfl) rfl rfl (enters_of Tryd.func53 (by kernel_rfl) rfl) (fun w9 hS9 => (HWD w9).mono (fun e w' h => ⟨h.1, bel_trans hS9 h.2⟩)) ?_ ?_; (focus (simp [Act.eval]; done)); (try simp only [Act.put, List.setIfInBounds_toArray, List.set_cons_zero, List.set_cons_succ])))); refine lin_nil (fun w8 hS8 => ?_)))
        all_goals go_ret
        all_goals exact ⟨by rw [decide_eq_false HF.out]; rfl, bel_trans HB.out (by assumption)⟩
  · rw [decide_eq_false h1] at HRA
    have HF := Lib.hid (show ¬ okP p from fun h => h1 (HOK.out.1 h).1)
    clear h1
    go_enter Tryd.func28, Tryd.ntmps28
    go_wp2_with (first | (go_at_call 52; refine (HRA _).mono ?_; rintro e w2 ⟨rfl, hb2⟩; have hk2 : Below W1.heap.size W1 w2 := bel_trans (by assumption) hb2; clear hb2) | (refine wp_region_lin (fun w' => Below W1.heap.size W1 w') (by kernel_rfl) (by kernel_rfl) (bel_drew (by assumption)) ?_; (repeat (first | (refine lin_off (by rfl) ?_; (try simp only [Act.put, List.setIfInBounds_toArray, List.set_cons_zero, List.set_cons_succ])) | (refine lin_op (v := ?_) (by rfl) (fun w9 hS9 => ?_) ?_; rotate_left; (focus (((try dsimp only at hS9); go_simp; (try go_bits)) <;> with_reducible rfl)); (try simp only [Act.put, List.setIfInBounds_toArray, List.set_cons_zero, List.set_cons_succ])) | (refine lin_fn (f := 52) (by rfl) rfl rfl (enters_of Tryd.func52 (by kernel_rfl) rfl) (fun w9 hS9 => (HRA w9).mono (fun e w' h => ⟨h.1, bel_trans hS9 h.2⟩)) ?_ ?_; (focus (simp [Act.eval]; done)); (try simp only [Act.put, List.setIfInBounds_toArray, List.set_cons_zero, List.set_cons_succ])))); refine lin_nil (fun w8 hS8 => ?_)))
    all_goals go_ret
    all_goals exact ⟨by rw [decide_eq_false HF.out]; rfl, bel_trans HB.out (by assumption)⟩
end Go.Proofs.YtdbdmnahgkkjiaaDoor
namespace Go.Proofs.YtdbdmnahgkkjiaaDoor
open Go.RowKit Go.Shelf
set_option linter.unusedVariables false
attribute [local go_sem ↓] load_b16_rule store_b16_rule load_ad_rule store_ad_rule load_px_rule store_px_rule eq_b16_rule eq_ad_rule eq_px_rule

/-- A bit of an address; its nibble. -/
noncomputable def bitV (a : Ad) (i : Int) : Int := if okA a ∧ 0 ≤ i ∧ i < (wid a.v : Int) then btI a.b i.toNat else 0
noncomputable def nibV (a : Ad) (i : Int) : Int := 8 * bitV a (4 * i) + 4 * bitV a (4 * i + 1) + 2 * bitV a (4 * i + 2) + bitV a (4 * i + 3)
noncomputable def nibW (a : Ad) (i : Int) : Int := if 0 ≤ i ∧ i ≤ 31 then nibV a i else 0
theorem bit_and (b : B16) (i : Nat) : bits .and .u8 ((b.at (i / 8) : Int) / 2 ^ (7 - i % 8)) 1 = btI b i := by
  have hd : b.at (i / 8) / 2 ^ (7 - i % 8) < 256 := Nat.lt_of_le_of_lt (Nat.div_le_self _ _) (b.lt _)
  have e := u8_and_nat (b.at (i / 8) / 2 ^ (7 - i % 8)) 1 hd (by omega)
  have e2 : ((b.at (i / 8) / 2 ^ (7 - i % 8) : Nat) : Int) = (b.at (i / 8) : Int) / 2 ^ (7 - i % 8) := by simp
  rw [e2] at e
  have e1 : ((1 : Nat) : Int) = 1 := rfl
  rw [e1] at e
  rw [e, Nat.and_one_is_mod, bit_num]
  rfl
theorem nib_num : ∀ x, x < 256 → ∀ r, r < 2 → (x / 2 ^ (4 - r * 4)) &&& 15 = 8 * (x / 2 ^ (7 - 4 * r) % 2) + 4 * (x / 2 ^ (7 - (4 * r + 1)) % 2) + 2 * (x / 2 ^ (7 - (4 * r + 2)) % 2) + (x / 2 ^ (7 - (4 * r + 3)) % 2) := by decide +kernel
theorem nib_and (b : B16) (i : Nat) : bits .and .u8 ((b.at (i / 2) : Int) / 2 ^ (4 - i % 2 * 4)) 15 = 8 * btI b (4 * i) + 4 * btI b (4 * i + 1) + 2 * btI b (4 * i + 2) + btI b (4 * i + 3) := by
  have hd : b.at (i / 2) / 2 ^ (4 - i % 2 * 4) < 256 := Nat.lt_of_le_of_lt (Nat.div_le_self _ _) (b.lt _)
  have e := u8_and_nat (b.at (i / 2) / 2 ^ (4 - i % 2 * 4)) 15 hd (by omega)
  have e2 : ((b.at (i / 2) / 2 ^ (4 - i % 2 * 4) : Nat) : Int) = (b.at (i / 2) : Int) / 2 ^ (4 - i % 2 * 4) := by simp
  rw [e2] at e
  have e1 : ((15 : Nat) : Int) = 15 := rfl
  rw [e1] at e
  rw [e, nib_num _ (b.lt _) (i % 2) (by omega)]
  unfold btI bt
  rw [← bit_num, ← bit_num, ← bit_num, ← bit_num]
  rw [show 4 * i / 8 = i / 2 from by omega, show (4 * i + 1) / 8 = i / 2 from by omega, show (4 * i + 2) / 8 = i / 2 from by omega, show (4 * i + 3) / 8 = i / 2 from by omega]
  rw [show 4 * i % 8 = 4 * (i % 2) from by omega, show (4 * i + 1) % 8 = 4 * (i % 2) + 1 from by omega, show (4 * i + 2) % 8 = 4 * (i % 2) + 2 from by omega, show (4 * i + 3) % 8 = 4 * (i % 2) + 3 from by omega]
  omega
theorem btI_01 (b : B16) (i : Nat) : 0 ≤ btI b i ∧ btI b i ≤ 1 := by
  unfold btI
  cases bt b i <;> simp
theorem bitV_01 (a : Ad) (i : Int) : 0 ≤ bitV a i ∧ bitV a i ≤ 1 := by
  unfold bitV
  split
  · exact btI_01 _ _
  · omega
theorem ad_cell {W : World} {g : Nat} {a : Ad} (h : Blk W g 36 a.cs) (j : Nat) (hj : j < 16) : ∀ w', Below W.heap.size W w' → w'.cell? ⟨g, 1 + j, none⟩ = some (.int .u8 (a.b.at j : Int)) :=
  fun w' k => ((h.later k).cell _).trans ((a.c1 j).trans (a.b.get j hj))

end Go.Proofs.YtdbdmnahgkkjiaaDoor
