/-
  The contracts of the reference's RightAddr, Right, of prefix.hasPlace, Bit, Nibble, Has, Holds and of the reference's. Nothing here is a statement of the document.
-/
import Derived.Test.YtfnagfmbhcaphaaDoorPfxC
namespace Go.Proofs.YtfnagfmbhcaphaaDoor
open Go.RowKit Go.Shelf
set_option linter.unusedVariables false
attribute [local go_sem ↓] load_b16_rule store_b16_rule load_ad_rule store_ad_rule load_px_rule store_px_rule eq_b16_rule eq_ad_rule eq_px_rule

theorem btI_on {b : B16} {i : Nat} (h : bt b i = true) : btI b i = 1 := by unfold btI; rw [h]; rfl
theorem btI_off {b : B16} {i : Nat} (h : bt b i = false) : btI b i = 0 := by unfold btI; rw [h]; rfl
theorem clear_not {b : B16} {n m : Nat} (h1 : n ≤ m) (h2 : m < 128) (h : bt b m = true) : ¬ clear b n := fun hc => by
  have := hc m h1 h2
  rw [h] at this
  cases this

set_option maxRecDepth 100000 in
set_option maxHeartbeats 1600000 in
theorem refrightaddr_any (a : Ad) (w : World) : Calls Tryd.prog 21 #[.agg a.cs] w fun e w' => e = .returned (.bool (decide (okA a))) ∧ Below w.heap.size w w' := by
  obtain ⟨W1, hW1⟩ : ∃ W1, w.alloc (.cells a.cs 27) = W1 := ⟨_, rfl⟩
  have hb1 : Below w.heap.size w W1 := by rw [← hW1]; exact ((Below.refl w.heap.size w).alloc (Nat.le_refl _) _)
  have b1 : Blk W1 (w.heap.size) 27 a.cs := by
    have h9 := Blk.new w 27 a.cs
    rw [← hW1]; exact h9
  have LA := ad_a b1
  have LB := ad_b b1
  have LV := ad_v b1
  have h0 : Below W1.heap.size W1 W1 := Below.refl _ _
  have HB := Lib.hid hb1
  clear hb1 b1
  have hw := wid_le a.v
  have HWD := refwidth_b a.v
  have HOK := Lib.hid (show okA a ↔ wid a.v ≠ 0 ∧ clear a.b (wid a.v) from Iff.rfl)
  generalize wid a.v = n at *
  go_enter Tryd.func21, Tryd.ntmps21
  go_wp2_with (first | (go_at_call 49; refine (HWD _).mono ?_; rintro e w2 ⟨rfl, hb2⟩; have hk2 : Below W1.heap.size W1 w2 := bel_trans (by assumption) hb2; clear hb2) | (refine wp_region_lin (fun w' => Below W1.heap.size W1 w') (by kernel_rfl) (by kernel_rfl) (bel_drew (by assumption)) ?_; (repeat (first | (refine lin_off (by rfl) ?_; (try simp only [Act.put, List.setIfInBounds_toArray, List.set_cons_zero, List.set_cons_succ])) | (refine lin_op (v := ?_) (by rfl) (fun w9 hS9 => ?_) ?_; rotate_left; (focus (((try dsimp only at hS9); go_simp; (try go_bits)) <;> with_reducible rfl)); (try simp only [Act.put, List.setIfInBounds_toArray, List.set_cons_zero, List.set_cons_succ])) | (refine lin_fn (f := 49) (by rfl) rfl rfl (enters_of Tryd.func49 (by kernel_rfl) rfl) (fun w9 hS9 => (HWD w9).mono (fun e w' h => ⟨h.1, bel_trans hS9 h.2⟩)) ?_ ?_; (focus (simp [Act.eval]; done)); (try simp only [Act.put, List.setIfInBounds_toArray, List.set_cons_zero, List.set_cons_succ])))); refine lin_nil (fun w8 hS8 => ?_)))
  go_loopw [4] (fun i wr => ∃ m : Nat, n ≤ m ∧ m ≤ 128 ∧ i = .int .i64 m ∧ (∀ j, n ≤ j → j < m → bt a.b j = false) ∧ Below W1.heap.size W1 wr) (fun i _ => 128 - (intOf i).toNat)
  case atStart => exact ⟨n, Nat.le_refl _, hw, rfl, fun j h1 h2 => by omega, by assumption⟩
  case round =>
    obtain ⟨m, hnm, hm, rfl, hcl, hk⟩ := hrel
    by_cases hlt : m < 128
    · have hat := at_any a.b m hlt
      cases hbm : bt a.b m with
      | true =>
        rw [btI_on hbm] at hat
        have HF := Lib.hid (show okA a → False from fun h => clear_not hnm hlt hbm (HOK.out.1 h).2)
        clear hcl
        go_wp2_with (first | (go_at_call 50; refine (hat _).mono ?_; rintro e w2 ⟨rfl, hb2⟩; have hk2 : Below W1.heap.size W1 w2 := bel_trans (by assumption) hb2; clear hb2) | (refine wp_region_lin (fun w' => Below W1.heap.size W1 w') (by kernel_rfl) (by kernel_rfl) (bel_drew (by assumption)) ?_; (repeat (first | (refine lin_off (by rfl) ?_; (try simp only [Act.put, List.setIfInBounds_toArray, List.set_cons_zero, List.set_cons_succ])) | (refine lin_op (v := ?_) (by rfl) (fun w9 hS9 => ?_) ?_; rotate_left; (focus (((try dsimp only at hS9); go_simp; (try go_bits)) <;> with_reducible rfl)); (try simp only [Act.put, List.setIfInBounds_toArray, List.set_cons_zero, List.set_cons_succ])) | (refine lin_fn (f := 50) (by rfl) rfl rfl (enters_of Tryd.func50 (by kernel_rfl) rfl) (fun w9 hS9 => (hat w9).mono (fun e w' h => ⟨h.1, bel_trans hS9 h.2⟩)) ?_ ?_; (focus (simp [Act.eval]; done)); (try simp only [Act.put, List.setIfInBounds_toArray, List.set_cons_zero, List.set_cons_succ])))); refine lin_nil (fun w8 hS8 => ?_)))
        go_ret
        exact ⟨by rw [decide_eq_false HF.out]; rfl, bel_trans HB.out (by assumption)⟩
      | false =>
        rw [btI_off hbm] at hat
        have HC := Lib.hid (show ∀ j, n ≤ j → j < m + 1 → bt a.b j = false from fun j h1 h2 => by
          by_cases h3 : j = m
          · rw [h3]; exact hbm
          · exact hcl j h1 (by omega))
        clear hcl
        go_wp2_with (first | (go_at_call 50; refine (hat _).mono ?_; rintro e w2 ⟨rfl, hb2⟩; have hk2 : Below W1.heap.size W1 w2 := bel_trans (by assumption) hb2; clear hb2) | (refine wp_region_lin (fun w' => Below W1.heap.size W1 w') (by kernel_rfl) (by kernel_rfl) (bel_drew (by assumption)) ?_; (repeat (first | (refine lin_off (by rfl) ?_; (try simp only [Act.put, List.setIfInBounds_toArray, List.set_cons_zero, List.set_cons_succ])) | (refine lin_op (v := ?_) (by rfl) (fun w9 hS9 => ?_) ?_; rotate_left; (focus (((try dsimp only at hS9); go_simp; (try go_bits)) <;> with_reducible rfl)); (try simp only [Act.put, List.setIfInBounds_toArray, List.set_cons_zero, List.set_cons_succ])) | (refine lin_fn (f := 50) (by rfl) rfl rfl (enters_of Tryd.func50 (by kernel_rfl) rfl) (fun w9 hS9 => (hat w9).mono (fun e w' h => ⟨h.1, bel_trans hS9 h.2⟩)) ?_ ?_; (focus (simp [Act.eval]; done)); (try simp only [Act.put, List.setIfInBounds_toArray, List.set_cons_zero, List.set_cons_succ])))); refine lin_nil (fun w8 hS8 => ?_)))
        go_roundw
        case rel => exact ⟨m + 1, by omega, by omega, by go_num, HC.out, by assumption⟩
        case measure => simp [intOf]; omega
    · obtain rfl : m = 128 := by omega
      have HC := Lib.hid (show clear a.b n from hcl)
      clear hcl
      by_cases h0n : n = 0
      · have d1 : decide (0 < n) = false := by simp; omega
        have HF := Lib.hid (show ¬ okA a from fun h => (HOK.out.1 h).1 h0n)
        clear h0n
        go_wp2
        go_ret
        exact ⟨by rw [decide_eq_false HF.out]; rfl, bel_trans HB.out (by assumption)⟩
      · have d1 : decide (0 < n) = true := by simp; omega
        have HF := Lib.hid (show okA a from HOK.out.2 ⟨h0n, HC.out⟩)
        clear h0n
        go_wp2
        go_ret
        exact ⟨by rw [decide_eq_true HF.out]; rfl, bel_trans HB.out (by assumption)⟩

set_option maxRecDepth 100000 in
set_option maxHeartbeats 1600000 in
theorem refright_any (p : Px) (w : World) : Calls Tryd.prog 41 #[.agg p.cs] w fun e w' => e = .returned (.bool (decide (okP p))) ∧ Below w.heap.size w w' := by
  obtain ⟨W1, hW1⟩ : ∃ W1, w.alloc (.cells p.cs 29) = W1 := ⟨_, rfl⟩
  have hb1 : Below w.heap.size w W1 := by rw [← hW1]; exact ((Below.refl w.heap.size w).alloc (Nat.le_refl _) _)
  have b1 : Blk W1 (w.heap.size) 29 p.cs := by
    have h9 := Blk.new w 29 p.cs
    rw [← hW1]; exact h9
  have LP := px_p b1
  have LA := px_a b1
  have LB := px_b b1
  have LV := px_v b1
  have LN := px_n b1
  have h0 : Below W1.heap.size W1 W1 := Below.refl _ _
  have HB := Lib.hid hb1
  clear hb1 b1
  have hw := wid_le p.a.v
  have HWD := refwidth_b p.a.v
  have HRA := refrightaddr_any p.a
  have HOK := Lib.hid (show okP p ↔ okA p.a ∧ 0 ≤ p.n ∧ p.n ≤ (wid p.a.v : Int) ∧ clear p.a.b p.n.toNat from Iff.rfl)
  by_cases h1 : okA p.a
  · rw [decide_eq_true h1] at HRA
    by_cases h2 : p.n < 0
    · have d1 : decide (p.n < 0) = true := by simpa using h2
      have HF := Lib.hid (show ¬ okP p from fun h => by have := (HOK.out.1 h).2.1; omega)
      clear h1 h2
      go_enter Tryd.func41, Tryd.ntmps41
      go_wp2_with (first | (go_at_call 21; refine (HRA _).mono ?_; rintro e w2 ⟨rfl, hb2⟩; have hk2 : Below W1.heap.size W1 w2 := bel_trans (by assumption) hb2; clear hb2) | (refine wp_region_lin (fun w' => Below W1.heap.size W1 w') (by kernel_rfl) (by kernel_rfl) (bel_drew (by assumption)) ?_; (repeat (first | (refine lin_off (by rfl) ?_; (try simp only [Act.put, List.setIfInBounds_toArray, List.set_cons_zero, List.set_cons_succ])) | (refine lin_op (v := ?_) (by rfl) (fun w9 hS9 => ?_) ?_; rotate_left; (focus (((try dsimp only at hS9); go_simp; (try go_bits)) <;> with_reducible rfl)); (try simp only [Act.put, List.setIfInBounds_toArray, List.set_cons_zero, List.set_cons_succ])) | (refine lin_fn (f := 21) (by rfl) rfl rfl (enters_of Tryd.func21 (by kernel_rfl) rfl) (fun w9 hS9 => (HRA w9).mono (fun e w' h => ⟨h.1, bel_trans hS9 h.2⟩)) ?_ ?_; (focus (simp [Act.eval]; done)); (try simp only [Act.put, List.setIfInBounds_toArray, List.set_cons_zero, List.set_cons_succ])))); refine lin_nil (fun w8 hS8 => ?_)))
      all_goals go_ret
      all_goals exact ⟨by rw [decide_eq_false HF.out]; rfl, bel_trans HB.out (by assumption)⟩
    · have d1 : decide (p.n < 0) = false := by simpa using h2
      obtain ⟨n, hn⟩ := Int.eq_ofNat_of_zero_le (by omega : 0 ≤ p.n)
      rw [hn] at d1 LN HOK
      by_cases h3 : n ≤ wid p.a.v
      · have d2 : decide (wid p.a.v < n) = false := by simp; omega
        have HOK2 := Lib.hid (show okP p ↔ clear p.a.b n from ⟨fun h => by have := (HOK.out.1 h).2.2.2; simpa using this, fun h => HOK.out.2 ⟨h1, by omega, by omega, by simpa using h⟩⟩)
        generalize wid p.a.v = ww at *
        clear h1 h2 hn HOK
        go_enter Tryd.func41, Tryd.ntmps41
        go_wp2_with (first | (go_at_call 21; refine (HRA _).mono ?_; rintro e w2 ⟨rfl, hb2⟩; have hk2 : Below W1.heap.size W1 w2 := bel_trans (by assumption) hb2; clear hb2) | (go_at_call 49; refine (HWD _).mono ?_; rintro e w2 ⟨rfl, hb2⟩; have hk2 : Below W1.heap.size W1 w2 := bel_trans (by assumption) hb2; clear hb2) | (refine wp_region_lin (fun w' => Below W1.heap.size W1 w') (by kernel_rfl) (by kernel_rfl) (bel_drew (by assumption)) ?_; (repeat (first | (refine lin_off (by rfl) ?_; (try simp only [Act.put, List.setIfInBounds_toArray, List.set_cons_zero, List.set_cons_succ])) | (refine lin_op (v := ?_) (by rfl) (fun w9 hS9 => ?_) ?_; rotate_left; (focus (((try dsimp only at hS9); go_simp; (try go_bits)) <;> with_reducible rfl)); (try simp only [Act.put, List.setIfInBounds_toArray, List.set_cons_zero, List.set_cons_succ])) | (refine lin_fn (f := 21) (by rfl) rfl rfl (enters_of Tryd.func21 (by kernel_rfl) rfl) (fun w9 hS9 => (HRA w9).mono (fun e w' h => ⟨h.1, bel_trans hS9 h.2⟩)) ?_ ?_; (focus (simp [Act.eval]; done)); (try simp only [Act.put, List.setIfInBounds_toArray, List.set_cons_zero, List.set_cons_succ])) | (refine lin_fn (f := 49) (by rfl) rfl rfl (enters_of Tryd.func49 (by kernel_rfl) rfl) (fun w9 hS9 => (HWD w9).mono (fun e w' h => ⟨h.1, bel_trans hS9 h.2⟩)) ?_ ?_; (focus (simp [Act.eval]; done)); (try simp only [Act.put, List.setIfInBounds_toArray, List.set_cons_zero, List.set_cons_succ])))); refine lin_nil (fun w8 hS8 => ?_)))
        go_loopw [3] (fun i wr => ∃ m : Nat, n ≤ m ∧ m ≤ 128 ∧ i = .int .i64 m ∧ (∀ j, n ≤ j → j < m → bt p.a.b j = false) ∧ Below W1.heap.size W1 wr) (fun i _ => 128 - (intOf i).toNat)
        case atStart => exact ⟨n, Nat.le_refl _, by omega, rfl, fun j h1 h2 => by omega, by assumption⟩
        case round =>
          obtain ⟨m, hnm, hm, rfl, hcl, hk⟩ := hrel
          by_cases hlt : m < 128
          · have hat := at_any p.a.b m hlt
            cases hbm : bt p.a.b m with
            | true =>
              rw [btI_on hbm] at hat
              have HF := Lib.hid (show ¬ okP p from fun h => clear_not hnm hlt hbm (HOK2.out.1 h))
              clear hcl
              go_wp2_with (first | (go_at_call 50; refine (hat _).mono ?_; rintro e w2 ⟨rfl, hb2⟩; have hk2 : Below W1.heap.size W1 w2 := bel_trans (by assumption) hb2; clear hb2) | (refine wp_region_lin (fun w' => Below W1.heap.size W1 w') (by kernel_rfl) (by kernel_rfl) (bel_drew (by assumption)) ?_; (repeat (first | (refine lin_off (by rfl) ?_; (try simp only [Act.put, List.setIfInBounds_toArray, List.set_cons_zero, List.set_cons_succ])) | (refine lin_op (v := ?_) (by rfl) (fun w9 hS9 => ?_) ?_; rotate_left; (focus (((try dsimp only at hS9); go_simp; (try go_bits)) <;> with_reducible rfl)); (try simp only [Act.put, List.setIfInBounds_toArray, List.set_cons_zero, List.set_cons_succ])) | (refine lin_fn (f := 50) (by rfl) rfl rfl (enters_of Tryd.func50 (by kernel_rfl) rfl) (fun w9 hS9 => (hat w9).mono (fun e w' h => ⟨h.1, bel_trans hS9 h.2⟩)) ?_ ?_; (focus (simp [Act.eval]; done)); (try simp only [Act.put, List.setIfInBounds_toArray, List.set_cons_zero, List.set_cons_succ])))); refine lin_nil (fun w8 hS8 => ?_)))
              go_ret
              exact ⟨by rw [decide_eq_false HF.out]; rfl, bel_trans HB.out (by assumption)⟩
            | false =>
              rw [btI_off hbm] at hat
              have HC := Lib.hid (show ∀ j, n ≤ j → j < m + 1 → bt p.a.b j = false from fun j h1 h2 => by
                by_cases h3 : j = m
                · rw [h3]; exact hbm
                · exact hcl j h1 (by omega))
              clear hcl
              go_wp2_with (first | (go_at_call 50; refine (hat _).mono ?_; rintro e w2 ⟨rfl, hb2⟩; have hk2 : Below W1.heap.size W1 w2 := bel_trans (by assumption) hb2; clear hb2) | (refine wp_region_lin (fun w' => Below W1.heap.size W1 w') (by kernel_rfl) (by kernel_rfl) (bel_drew (by assumption)) ?_; (repeat (first | (refine lin_off (by rfl) ?_; (try simp only [Act.put, List.setIfInBounds_toArray, List.set_cons_zero, List.set_cons_succ])) | (refine lin_op (v := ?_) (by rfl) (fun w9 hS9 => ?_) ?_; rotate_left; (focus (((try dsimp only at hS9); go_simp; (try go_bits)) <;> with_reducible rfl)); (try simp only [Act.put, List.setIfInBounds_toArray, List.set_cons_zero, List.set_cons_succ])) | (refine lin_fn (f := 50) (by rfl) rfl rfl (enters_of Tryd.func50 (by kernel_rfl) rfl) (fun w9 hS9 => (hat w9).mono (fun e w' h => ⟨h.1, bel_trans hS9 h.2⟩)) ?_ ?_; (focus (simp [Act.eval]; done)); (try simp only [Act.put, List.setIfInBounds_toArray, List.set_cons_zero, List.set_cons_succ])))); refine lin_nil (fun w8 hS8 => ?_)))
              go_roundw
              case rel => exact ⟨m + 1, by omega, by omega, by go_num, HC.out, by assumption⟩
              case measure => simp [intOf]; omega
          · obtain rfl : m = 128 := by omega
            have HF := Lib.hid (show okP p from HOK2.out.2 hcl)
            clear hcl
            go_wp2
            go_ret
            exact ⟨by rw [decide_eq_true HF.out]; rfl, bel_trans HB.out (by assumption)⟩
      · have d2 : decide (wid p.a.v < n) = true := by simp; omega
        have HF := Lib.hid (show ¬ okP p from fun h => by have := (HOK.out.1 h).2.2.1; omega)
        generalize wid p.a.v = ww at *
        clear h1 h2 h3 hn HOK
        go_enter Tryd.func41, Tryd.ntmps41
        go_wp2_with (first | (go_at_call 21; refine (HRA _).mono ?_; rintro e w2 ⟨rfl, hb2⟩; have hk2 : Below W1.heap.size W1 w2 := bel_trans (by assumption) hb2; clear hb2) | (go_at_call 49; refine (HWD _).mono ?_; rintro e w2 ⟨rfl, hb2⟩; have hk2 : Below W1.heap.size W1 w2 := bel_trans (by assumption) hb2; clear hb2) | (refine wp_region_lin (fun w' => Below W1.heap.size W1 w') (by kernel_rfl) (by kernel_rfl) (bel_drew (by assumption)) ?_; (repeat (first | (refine lin_off (by rfl) ?_; (try simp only [Act.put, List.setIfInBounds_toArray, List.set_cons_zero, List.set_cons_succ])) | (refine lin_op (v := ?_) (by rfl) (fun w9 hS9 => ?_) ?_; rotate_left; (focus (((try dsimp only at hS9); go_simp; (try go_bits)) <;> with_reducible rfl)); (try simp only [Act.put, List.setIfInBounds_toArray, List.set_cons_zero, List.set_cons_succ])) | (refine lin_fn (f := 21) (by rfl) rfl rfl (enters_of Tryd.func21 (by kernel_rfl) rfl) (fun w9 hS9 => (HRA w9).mono (fun e w' h => ⟨h.1, bel_trans hS9 h.2⟩)) ?_ ?_; (focus (simp [Act.eval]; done)); (try simp only [Act.put, List.setIfInBounds_toArray, List.set_cons_zero, List.set_cons_succ])) | (refine lin_fn (f := 49) (by rfl) rfl rfl (enters_of Tryd.func49 (by kernel_rfl) rfl) (fun w9 hS9 => (HWD w9).mono (fun e w' h => ⟨h.1, bel_trans hS9 h.2⟩)) ?_ ?_; (focus (simp [Act.eval]; done)); (try simp only [Act.put, List.setIfInBounds_toArray, List.set_cons_zero, List.set_cons_succ])))); refine lin_nil (fun w8 hS8 => ?_)))
        all_goals go_ret
        all_goals exact ⟨by rw [decide_eq_false HF.out]; rfl, bel_trans HB.out (by assumption)⟩
  · rw [decide_eq_false h1] at HRA
    have HF := Lib.hid (show ¬ okP p from fun h => h1 (HOK.out.1 h).1)
    clear h1
    go_enter Tryd.func41, Tryd.ntmps41
    go_wp2_with (first | (go_at_call 21; refine (HRA _).mono ?_; rintro e w2 ⟨rfl, hb2⟩; have hk2 : Below W1.heap.size W1 w2 := bel_trans (by assumption) hb2; clear hb2) | (refine wp_region_lin (fun w' => Below W1.heap.size W1 w') (by kernel_rfl) (by kernel_rfl) (bel_drew (by assumption)) ?_; (repeat (first | (refine lin_off (by rfl) ?_; (try simp only [Act.put, List.setIfInBounds_toArray, List.set_cons_zero, List.set_cons_succ])) | (refine lin_op (v := ?_) (by rfl) (fun w9 hS9 => ?_) ?_; rotate_left; (focus (((try dsimp only at hS9); go_simp; (try go_bits)) <;> with_reducible rfl)); (try simp only [Act.put, List.setIfInBounds_toArray, List.set_cons_zero, List.set_cons_succ])) | (refine lin_fn (f := 21) (by rfl) rfl rfl (enters_of Tryd.func21 (by kernel_rfl) rfl) (fun w9 hS9 => (HRA w9).mono (fun e w' h => ⟨h.1, bel_trans hS9 h.2⟩)) ?_ ?_; (focus (simp [Act.eval]; done)); (try simp only [Act.put, List.setIfInBounds_toArray, List.set_cons_zero, List.set_cons_succ])))); refine lin_nil (fun w8 hS8 => ?_)))
    all_goals go_ret
    all_goals exact ⟨by rw [decide_eq_false HF.out]; rfl, bel_trans HB.out (by assumption)⟩
end Go.Proofs.YtfnagfmbhcaphaaDoor
