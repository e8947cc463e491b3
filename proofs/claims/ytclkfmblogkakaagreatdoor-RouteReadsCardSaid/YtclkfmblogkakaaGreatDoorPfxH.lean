/-
  What building an address and a prefix gives; the contracts of prefix.Of and of the reference's. Nothing here is a statement of the document.
-/
import Derived.Test.YtclkfmblogkakaaGreatDoorPfxC
import Derived.Laws.ResultCell
namespace Go.Proofs.YtclkfmblogkakaaGreatDoor
open Go.RowKit Go.Shelf
set_option linter.unusedVariables false
attribute [local go_sem ↓] load_b16_rule store_b16_rule load_ad_rule store_ad_rule load_px_rule store_px_rule eq_b16_rule eq_ad_rule eq_px_rule

theorem btI_on {b : B16} {i : Nat} (h : bt b i = true) : btI b i = 1 := by unfold btI; rw [h]; rfl
theorem btI_off {b : B16} {i : Nat} (h : bt b i = false) : btI b i = 0 := by unfold btI; rw [h]; rfl
theorem clear_not {b : B16} {n m : Nat} (h1 : n ≤ m) (h2 : m < 128) (h : bt b m = true) : ¬ clear b n := fun hc => by
  have := hc m h1 h2
  rw [h] at this
  cases this

set_option maxRecDepth 100000 in
set_option maxHeartbeats 1600000 in
theorem refrightaddr_any (a : Ad) (w : World) : Calls Tryz.prog 81 #[.agg a.cs] w fun e w' => e = .returned (.bool (decide (okA a))) ∧ Below w.heap.size w w' := by
  obtain ⟨W1, hW1⟩ : ∃ W1, w.alloc (.cells a.cs 41) = W1 := ⟨_, rfl⟩
  have hb1 : Below w.heap.size w W1 := by rw [← hW1]; exact ((Below.refl w.heap.size w).alloc (Nat.le_refl _) _)
  have b1 : Blk W1 (w.heap.size) 41 a.cs := by
    have h9 := Blk.new w 41 a.cs
    rw [← hW1]; exact h9
  have LA := ad_a b1
  have LB := ad_b b1
  have LV := ad_v b1
  have h0 : Below W1.heap.size W1 W1 := Below.refl _ _
  have HB := Lib.hid hb1
  clear hb1 b1
  have hw := wid_le a.v
  have HWD := refwidth_b a.v
  have HOK := Lib.hid (show okA a ↔ wid a.v ≠ 0 ∧ clear a.b (wid a.v) from Iff.rfl)
  generalize wid a.v = n at *
  go_enter Tryz.func81, Tryz.ntmps81
  go_wp2_with (first | (go_at_call 38; refine (HWD _).mono ?_; rintro e w2 ⟨rfl, hb2⟩; have hk2 : Below W1.heap.size W1 w2 := bel_trans (by assumption) hb2; clear hb2) | (refine wp_region_lin (fun w' => Below W1.heap.size W1 w') (by kernel_rfl) (by kernel_rfl) (bel_drew (by assumption)) ?_; (repeat (first | (refine lin_off (by rfl) ?_; (try simp only [Act.put, List.setIfInBounds_toArray, List.set_cons_zero, List.set_cons_succ])) | (refine lin_op (v := ?_) (by rfl) (fun w9 hS9 => ?_) ?_; rotate_left; (focus (((try dsimp only at hS9); go_simp; (try go_bits)) <;> with_reducible rfl)); (try simp only [Act.put, List.setIfInBounds_toArray, List.set_cons_zero, List.set_cons_succ])) | (refine lin_fn (f := 38) (by rfl) rfl rfl (enters_of Tryz.func38 (by kernel_rfl) rfl) (fun w9 hS9 => (HWD w9).mono (fun e w' h => ⟨h.1, bel_trans hS9 h.2⟩)) ?_ ?_; (focus (simp [Act.eval]; done)); (try simp only [Act.put, List.setIfInBounds_toArray, List.set_cons_zero, List.set_cons_succ])))); refine lin_nil (fun w8 hS8 => ?_)))
  go_loopw [4] (fun i wr => ∃ m : Nat, n ≤ m ∧ m ≤ 128 ∧ i = .int .i64 m ∧ (∀ j, n ≤ j → j < m → bt a.b j = false) ∧ Below W1.heap.size W1 wr) (fun i _ => 128 - (intOf i).toNat)
  case atStart => exact ⟨n, Nat.le_refl _, hw, rfl, fun j h1 h2 => by omega, by assumption⟩
  case round =>
    obtain ⟨m, hnm, hm, rfl, hcl, hk⟩ := hrel
    by_cases hlt : m < 128
    · have hat := at_any a.b m hlt
      cases hbm : bt a.b m with
      | true =>
        rw [btI_on hbm] at hat
        have HF := Lib.hid (show okA a → False from fun h => clear_not hnm hlt hbm (HOK.out.1 h).2)
        clear hcl
        go_wp2_with (first | (go_at_call 57; refine (hat _).mono ?_; rintro e w2 ⟨rfl, hb2⟩; have hk2 : Below W1.heap.size W1 w2 := bel_trans (by assumption) hb2; clear hb2) | (refine wp_region_lin (fun w' => Below W1.heap.size W1 w') (by kernel_rfl) (by kernel_rfl) (bel_drew (by assumption)) ?_; (repeat (first | (refine lin_off (by rfl) ?_; (try simp only [Act.put, List.setIfInBounds_toArray, List.set_cons_zero, List.set_cons_succ])) | (refine lin_op (v := ?_) (by rfl) (fun w9 hS9 => ?_) ?_; rotate_left; (focus (((try dsimp only at hS9); go_simp; (try go_bits)) <;> with_reducible rfl)); (try simp only [Act.put, List.setIfInBounds_toArray, List.set_cons_zero, List.set_cons_succ])) | (refine lin_fn (f := 57) (by rfl) rfl rfl (enters_of Tryz.func57 (by kernel_rfl) rfl) (fun w9 hS9 => (hat w9).mono (fun e w' h => ⟨h.1, bel_trans hS9 h.2⟩)) ?_ ?_; (focus (simp [Act.eval]; done)); (try simp only [Act.put, List.setIfInBounds_toArray, List.set_cons_zero, List.set_cons_succ])))); refine lin_nil (fun w8 hS8 => ?_)))
        go_ret
        exact ⟨by rw [decide_eq_false HF.out]; rfl, bel_trans HB.out (by assumption)⟩
      | false =>
        rw [btI_off hbm] at hat
        have HC := Lib.hid (show ∀ j, n ≤ j → j < m + 1 → bt a.b j = false from fun j h1 h2 => by
          by_cases h3 : j = m
          · rw [h3]; exact hbm
          · exact hcl j h1 (by omega))
        clear hcl
        go_wp2_with (first | (go_at_call 57; refine (hat _).mono ?_; rintro e w2 ⟨rfl, hb2⟩; have hk2 : Below W1.heap.size W1 w2 := bel_trans (by assumption) hb2; clear hb2) | (refine wp_region_lin (fun w' => Below W1.heap.size W1 w') (by kernel_rfl) (by kernel_rfl) (bel_drew (by assumption)) ?_; (repeat (first | (refine lin_off (by rfl) ?_; (try simp only [Act.put, List.setIfInBounds_toArray, List.set_cons_zero, List.set_cons_succ])) | (refine lin_op (v := ?_) (by rfl) (fun w9 hS9 => ?_) ?_; rotate_left; (focus (((try dsimp only at hS9); go_simp; (try go_bits)) <;> with_reducible rfl)); (try simp only [Act.put, List.setIfInBounds_toArray, List.set_cons_zero, List.set_cons_succ])) | (refine lin_fn (f := 57) (by rfl) rfl rfl (enters_of Tryz.func57 (by kernel_rfl) rfl) (fun w9 hS9 => (hat w9).mono (fun e w' h => ⟨h.1, bel_trans hS9 h.2⟩)) ?_ ?_; (focus (simp [Act.eval]; done)); (try simp only [Act.put, List.setIfInBounds_toArray, List.set_cons_zero, List.set_cons_succ])))); refine lin_nil (fun w8 hS8 => ?_)))
        go_roundw
        case rel => exact ⟨m + 1, by omega, by omega, by go_num, HC.out, by assumption⟩
        case measure => simp [intOf]; omega
    · obtain rfl : m = 128 := by omega
      have HC := Lib.hid (show clear a.b n from hcl)
      clear hcl
      by_cases h0n : n = 0
      · have d1 : decide (0 < n) = false := by simp; omega
        have HF := Lib.hid (show ¬ okA a from fun h => (HOK.out.1 h).1 h0n)
        clear h0n
        go_wp2
        go_ret
        exact ⟨by rw [decide_eq_false HF.out]; rfl, bel_trans HB.out (by assumption)⟩
      · have d1 : decide (0 < n) = true := by simp; omega
        have HF := Lib.hid (show okA a from HOK.out.2 ⟨h0n, HC.out⟩)
        clear h0n
        go_wp2
        go_ret
        exact ⟨by rw [decide_eq_true HF.out]; rfl, bel_trans HB.out (by assumption)⟩

set_option maxRecDepth 100000 in
set_option maxHeartbeats 1600000 in
theorem refright_any (p : Px) (w : World) : Calls Tryz.prog 58 #[.agg p.cs] w fun e w' => e = .returned (.bool (decide (okP p))) ∧ Below w.heap.size w w' := by
  obtain ⟨W1, hW1⟩ : ∃ W1, w.alloc (.cells p.cs 43) = W1 := ⟨_, rfl⟩
  have hb1 : Below w.heap.size w W1 := by rw [← hW1]; exact ((Below.refl w.heap.size w).alloc (Nat.le_refl _) _)
  have b1 : Blk W1 (w.heap.size) 43 p.cs := by
    have h9 := Blk.new w 43 p.cs
    rw [← hW1]; exact h9
  have LP := px_p b1
  have LA := px_a b1
  have LB := px_b b1
  have LV := px_v b1
  have LN := px_n b1
  have h0 : Below W1.heap.size W1 W1 := Below.refl _ _
  have HB := Lib.hid hb1
  clear hb1 b1
  have hw := wid_le p.a.v
  have HWD := refwidth_b p.a.v
  have HRA := refrightaddr_any p.a
  have HOK := Lib.hid (show okP p ↔ okA p.a ∧ 0 ≤ p.n ∧ p.n ≤ (wid p.a.v : Int) ∧ clear p.a.b p.n.toNat from Iff.rfl)
  by_cases h1 : okA p.a
  · rw [decide_eq_true h1] at HRA
    by_cases h2 : p.n < 0
    · have d1 : decide (p.n < 0) = true := by simpa using h2
      have HF := Lib.hid (show ¬ okP p from fun h => by have := (HOK.out.1 h).2.1; omega)
      clear h1 h2
      go_enter Tryz.func58, Tryz.ntmps58
      go_wp2_with (first | (go_at_call 81; refine (HRA _).mono ?_; rintro e w2 ⟨rfl, hb2⟩; have hk2 : Below W1.heap.size W1 w2 := bel_trans (by assumption) hb2; clear hb2) | (refine wp_region_lin (fun w' => Below W1.heap.size W1 w') (by kernel_rfl) (by kernel_rfl) (bel_drew (by assumption)) ?_; (repeat (first | (refine lin_off (by rfl) ?_; (try simp only [Act.put, List.setIfInBounds_toArray, List.set_cons_zero, List.set_cons_succ])) | (refine lin_op (v := ?_) (by rfl) (fun w9 hS9 => ?_) ?_; rotate_left; (focus (((try dsimp only at hS9); go_simp; (try go_bits)) <;> with_reducible rfl)); (try simp only [Act.put, List.setIfInBounds_toArray, List.set_cons_zero, List.set_cons_succ])) | (refine lin_fn (f := 81) (by rfl) rfl rfl (enters_of Tryz.func81 (by kernel_rfl) rfl) (fun w9 hS9 => (HRA w9).mono (fun e w' h => ⟨h.1, bel_trans hS9 h.2⟩)) ?_ ?_; (focus (simp [Act.eval]; done)); (try simp only [Act.put, List.setIfInBounds_toArray, List.set_cons_zero, List.set_cons_succ])))); refine lin_nil (fun w8 hS8 => ?_)))
      all_goals go_ret
      all_goals exact ⟨by rw [decide_eq_false HF.out]; rfl, bel_trans HB.out (by assumption)⟩
    · have d1 : decide (p.n < 0) = false := by simpa using h2
      obtain ⟨n, hn⟩ := Int.eq_ofNat_of_zero_le (by omega : 0 ≤ p.n)
      rw [hn] at d1 LN HOK
      by_cases h3 : n ≤ wid p.a.v
      · have d2 : decide (wid p.a.v < n) = false := by simp; omega
        have HOK2 := Lib.hid (show okP p ↔ clear p.a.b n from ⟨fun h => by have := (HOK.out.1 h).2.2.2; simpa using this, fun h => HOK.out.2 ⟨h1, by omega, by omega, by simpa using h⟩⟩)
        generalize wid p.a.v = ww at *
        clear h1 h2 hn HOK
        go_enter Tryz.func58, Tryz.ntmps58
        go_wp2_with (first | (go_at_call 81; refine (HRA _).mono ?_; rintro e w2 ⟨rfl, hb2⟩; have hk2 : Below W1.heap.size W1 w2 := bel_trans (by assumption) hb2; clear hb2) | (go_at_call 38; refine (HWD _).mono ?_; rintro e w2 ⟨rfl, hb2⟩; have hk2 : Below W1.heap.size W1 w2 := bel_trans (by assumption) hb2; clear hb2) | (refine wp_region_lin (fun w' => Below W1.heap.size W1 w') (by kernel_rfl) (by kernel_rfl) (bel_drew (by assumption)) ?_; (repeat (first | (refine lin_off (by rfl) ?_; (try simp only [Act.put, List.setIfInBounds_toArray, List.set_cons_zero, List.set_cons_succ])) | (refine lin_op (v := ?_) (by rfl) (fun w9 hS9 => ?_) ?_; rotate_left; (focus (((try dsimp only at hS9); go_simp; (try go_bits)) <;> with_reducible rfl)); (try simp only [Act.put, List.setIfInBounds_toArray, List.set_cons_zero, List.set_cons_succ])) | (refine lin_fn (f := 81) (by rfl) rfl rfl (enters_of Tryz.func81 (by kernel_rfl) rfl) (fun w9 hS9 => (HRA w9).mono (fun e w' h => ⟨h.1, bel_trans hS9 h.2⟩)) ?_ ?_; (focus (simp [Act.eval]; done)); (try simp only [Act.put, List.setIfInBounds_toArray, List.set_cons_zero, List.set_cons_succ])) | (refine lin_fn (f := 38) (by rfl) rfl rfl (enters_of Tryz.func38 (by kernel_rfl) rfl) (fun w9 hS9 => (HWD w9).mono (fun e w' h => ⟨h.1, bel_trans hS9 h.2⟩)) ?_ ?_; (focus (simp [Act.eval]; done)); (try simp only [Act.put, List.setIfInBounds_toArray, List.set_cons_zero, List.set_cons_succ])))); refine lin_nil (fun w8 hS8 => ?_)))
        go_loopw [3] (fun i wr => ∃ m : Nat, n ≤ m ∧ m ≤ 128 ∧ i = .int .i64 m ∧ (∀ j, n ≤ j → j < m → bt p.a.b j = false) ∧ Below W1.heap.size W1 wr) (fun i _ => 128 - (intOf i).toNat)
        case atStart => exact ⟨n, Nat.le_refl _, by omega, rfl, fun j h1 h2 => by omega, by assumption⟩
        case round =>
          obtain ⟨m, hnm, hm, rfl, hcl, hk⟩ := hrel
          by_cases hlt : m < 128
          · have hat := at_any p.a.b m hlt
            cases hbm : bt p.a.b m with
            | true =>
              rw [btI_on hbm] at hat
              have HF := Lib.hid (show ¬ okP p from fun h => clear_not hnm hlt hbm (HOK2.out.1 h))
              clear hcl
              go_wp2_with (first | (go_at_call 57; refine (hat _).mono ?_; rintro e w2 ⟨rfl, hb2⟩; have hk2 : Below W1.heap.size W1 w2 := bel_trans (by assumption) hb2; clear hb2) | (refine wp_region_lin (fun w' => Below W1.heap.size W1 w') (by kernel_rfl) (by kernel_rfl) (bel_drew (by assumption)) ?_; (repeat (first | (refine lin_off (by rfl) ?_; (try simp only [Act.put, List.setIfInBounds_toArray, List.set_cons_zero, List.set_cons_succ])) | (refine lin_op (v := ?_) (by rfl) (fun w9 hS9 => ?_) ?_; rotate_left; (focus (((try dsimp only at hS9); go_simp; (try go_bits)) <;> with_reducible rfl)); (try simp only [Act.put, List.setIfInBounds_toArray, List.set_cons_zero, List.set_cons_succ])) | (refine lin_fn (f := 57) (by rfl) rfl rfl (enters_of Tryz.func57 (by kernel_rfl) rfl) (fun w9 hS9 => (hat w9).mono (fun e w' h => ⟨h.1, bel_trans hS9 h.2⟩)) ?_ ?_; (focus (simp [Act.eval]; done)); (try simp only [Act.put, List.setIfInBounds_toArray, List.set_cons_zero, List.set_cons_succ])))); refine lin_nil (fun w8 hS8 => ?_)))
              go_ret
              exact ⟨by rw [decide_eq_false HF.out]; rfl, bel_trans HB.out (by assumption)⟩
            | false =>
              rw [btI_off hbm] at hat
              have HC := Lib.hid (show ∀ j, n ≤ j → j < m + 1 → bt p.a.b j = false from fun j h1 h2 => by
                by_cases h3 : j = m
                · rw [h3]; exact hbm
                · exact hcl j h1 (by omega))
              clear hcl
              go_wp2_with (first | (go_at_call 57; refine (hat _).mono ?_; rintro e w2 ⟨rfl, hb2⟩; have hk2 : Below W1.heap.size W1 w2 := bel_trans (by assumption) hb2; clear hb2) | (refine wp_region_lin (fun w' => Below W1.heap.size W1 w') (by kernel_rfl) (by kernel_rfl) (bel_drew (by assumption)) ?_; (repeat (first | (refine lin_off (by rfl) ?_; (try simp only [Act.put, List.setIfInBounds_toArray, List.set_cons_zero, List.set_cons_succ])) | (refine lin_op (v := ?_) (by rfl) (fun w9 hS9 => ?_) ?_; rotate_left; (focus (((try dsimp only at hS9); go_simp; (try go_bits)) <;> with_reducible rfl)); (try simp only [Act.put, List.setIfInBounds_toArray, List.set_cons_zero, List.set_cons_succ])) | (refine lin_fn (f := 57) (by rfl) rfl rfl (enters_of Tryz.func57 (by kernel_rfl) rfl) (fun w9 hS9 => (hat w9).mono (fun e w' h => ⟨h.1, bel_trans hS9 h.2⟩)) ?_ ?_; (focus (simp [Act.eval]; done)); (try simp only [Act.put, List.setIfInBounds_toArray, List.set_cons_zero, List.set_cons_succ])))); refine lin_nil (fun w8 hS8 => ?_)))
              go_roundw
              case rel => exact ⟨m + 1, by omega, by omega, by go_num, HC.out, by assumption⟩
              case measure => simp [intOf]; omega
          · obtain rfl : m = 128 := by omega
            have HF := Lib.hid (show okP p from HOK2.out.2 hcl)
            clear hcl
            go_wp2
            go_ret
            exact ⟨by rw [decide_eq_true HF.out]; rfl, bel_trans HB.out (by assumption)⟩
      · have d2 : decide (wid p.a.v < n) = true := by simp; omega
        have HF := Lib.hid (show ¬ okP p from fun h => by have := (HOK.out.1 h).2.2.1; omega)
        generalize wid p.a.v = ww at *
        clear h1 h2 h3 hn HOK
        go_enter Tryz.func58, Tryz.ntmps58
        go_wp2_with (first | (go_at_call 81; refine (HRA _).mono ?_; rintro e w2 ⟨rfl, hb2⟩; have hk2 : Below W1.heap.size W1 w2 := bel_trans (by assumption) hb2; clear hb2) | (go_at_call 38; refine (HWD _).mono ?_; rintro e w2 ⟨rfl, hb2⟩; have hk2 : Below W1.heap.size W1 w2 := bel_trans (by assumption) hb2; clear hb2) | (refine wp_region_lin (fun w' => Below W1.heap.size W1 w') (by kernel_rfl) (by kernel_rfl) (bel_drew (by assumption)) ?_; (repeat (first | (refine lin_off (by rfl) ?_; (try simp only [Act.put, List.setIfInBounds_toArray, List.set_cons_zero, List.set_cons_succ])) | (refine lin_op (v := ?_) (by rfl) (fun w9 hS9 => ?_) ?_; rotate_left; (focus (((try dsimp only at hS9); go_simp; (try go_bits)) <;> with_reducible rfl)); (try simp only [Act.put, List.setIfInBounds_toArray, List.set_cons_zero, List.set_cons_succ])) | (refine lin_fn (f := 81) (by rfl) rfl rfl (enters_of Tryz.func81 (by kernel_rfl) rfl) (fun w9 hS9 => (HRA w9).mono (fun e w' h => ⟨h.1, bel_trans hS9 h.2⟩)) ?_ ?_; (focus (simp [Act.eval]; done)); (try simp only [Act.put, List.setIfInBounds_toArray, List.set_cons_zero, List.set_cons_succ])) | (refine lin_fn (f := 38) (by rfl) rfl rfl (enters_of Tryz.func38 (by kernel_rfl) rfl) (fun w9 hS9 => (HWD w9).mono (fun e w' h => ⟨h.1, bel_trans hS9 h.2⟩)) ?_ ?_; (focus (simp [Act.eval]; done)); (try simp only [Act.put, List.setIfInBounds_toArray, List.set_cons_zero, List.set_cons_succ])))); refine lin_nil (fun w8 hS8 => ?_)))
        all_goals go_ret
        all_goals exact ⟨by rw [decide_eq_false HF.out]; rfl, bel_trans HB.out (by assumption)⟩
  · rw [decide_eq_false h1] at HRA
    have HF := Lib.hid (show ¬ okP p from fun h => h1 (HOK.out.1 h).1)
    clear h1
    go_enter Tryz.func58, Tryz.ntmps58
    go_wp2_with (first | (go_at_call 81; refine (HRA _).mono ?_; rintro e w2 ⟨rfl, hb2⟩; have hk2 : Below W1.heap.size W1 w2 := bel_trans (by assumption) hb2; clear hb2) | (refine wp_region_lin (fun w' => Below W1.heap.size W1 w') (by kernel_rfl) (by kernel_rfl) (bel_drew (by assumption)) ?_; (repeat (first | (refine lin_off (by rfl) ?_; (try simp only [Act.put, List.setIfInBounds_toArray, List.set_cons_zero, List.set_cons_succ])) | (refine lin_op (v := ?_) (by rfl) (fun w9 hS9 => ?_) ?_; rotate_left; (focus (((try dsimp only at hS9); go_simp; (try go_bits)) <;> with_reducible rfl)); (try simp only [Act.put, List.setIfInBounds_toArray, List.set_cons_zero, List.set_cons_succ])) | (refine lin_fn (f := 81) (by rfl) rfl rfl (enters_of Tryz.func81 (by kernel_rfl) rfl) (fun w9 hS9 => (HRA w9).mono (fun e w' h => ⟨h.1, bel_trans hS9 h.2⟩)) ?_ ?_; (focus (simp [Act.eval]; done)); (try simp only [Act.put, List.setIfInBounds_toArray, List.set_cons_zero, List.set_cons_succ])))); refine lin_nil (fun w8 hS8 => ?_)))
    all_goals go_ret
    all_goals exact ⟨by rw [decide_eq_false HF.out]; rfl, bel_trans HB.out (by assumption)⟩
end Go.Proofs.YtclkfmblogkakaaGreatDoor
namespace Go.Proofs.YtclkfmblogkakaaGreatDoor
open Go.RowKit Go.Shelf
set_option linter.unusedVariables false
attribute [local go_sem ↓] load_b16_rule store_b16_rule load_ad_rule store_ad_rule load_px_rule store_px_rule eq_b16_rule eq_ad_rule eq_px_rule

/-- A bit of an address; its nibble. -/
noncomputable def bitV (a : Ad) (i : Int) : Int := if okA a ∧ 0 ≤ i ∧ i < (wid a.v : Int) then btI a.b i.toNat else 0
noncomputable def nibV (a : Ad) (i : Int) : Int := 8 * bitV a (4 * i) + 4 * bitV a (4 * i + 1) + 2 * bitV a (4 * i + 2) + bitV a (4 * i + 3)
noncomputable def nibW (a : Ad) (i : Int) : Int := if 0 ≤ i ∧ i ≤ 31 then nibV a i else 0
theorem bit_and (b : B16) (i : Nat) : bits .and .u8 ((b.at (i / 8) : Int) / 2 ^ (7 - i % 8)) 1 = btI b i := by
  have hd : b.at (i / 8) / 2 ^ (7 - i % 8) < 256 := Nat.lt_of_le_of_lt (Nat.div_le_self _ _) (b.lt _)
  have e := u8_and_nat (b.at (i / 8) / 2 ^ (7 - i % 8)) 1 hd (by omega)
  have e2 : ((b.at (i / 8) / 2 ^ (7 - i % 8) : Nat) : Int) = (b.at (i / 8) : Int) / 2 ^ (7 - i % 8) := by simp
  rw [e2] at e
  have e1 : ((1 : Nat) : Int) = 1 := rfl
  rw [e1] at e
  rw [e, Nat.and_one_is_mod, bit_num]
  rfl
theorem nib_num : ∀ x, x < 256 → ∀ r, r < 2 → (x / 2 ^ (4 - r * 4)) &&& 15 = 8 * (x / 2 ^ (7 - 4 * r) % 2) + 4 * (x / 2 ^ (7 - (4 * r + 1)) % 2) + 2 * (x / 2 ^ (7 - (4 * r + 2)) % 2) + (x / 2 ^ (7 - (4 * r + 3)) % 2) := by decide +kernel
theorem nib_and (b : B16) (i : Nat) : bits .and .u8 ((b.at (i / 2) : Int) / 2 ^ (4 - i % 2 * 4)) 15 = 8 * btI b (4 * i) + 4 * btI b (4 * i + 1) + 2 * btI b (4 * i + 2) + btI b (4 * i + 3) := by
  have hd : b.at (i / 2) / 2 ^ (4 - i % 2 * 4) < 256 := Nat.lt_of_le_of_lt (Nat.div_le_self _ _) (b.lt _)
  have e := u8_and_nat (b.at (i / 2) / 2 ^ (4 - i % 2 * 4)) 15 hd (by omega)
  have e2 : ((b.at (i / 2) / 2 ^ (4 - i % 2 * 4) : Nat) : Int) = (b.at (i / 2) : Int) / 2 ^ (4 - i % 2 * 4) := by simp
  rw [e2] at e
  have e1 : ((15 : Nat) : Int) = 15 := rfl
  rw [e1] at e
  rw [e, nib_num _ (b.lt _) (i % 2) (by omega)]
  unfold btI bt
  rw [← bit_num, ← bit_num, ← bit_num, ← bit_num]
  rw [show 4 * i / 8 = i / 2 from by omega, show (4 * i + 1) / 8 = i / 2 from by omega, show (4 * i + 2) / 8 = i / 2 from by omega, show (4 * i + 3) / 8 = i / 2 from by omega]
  rw [show 4 * i % 8 = 4 * (i % 2) from by omega, show (4 * i + 1) % 8 = 4 * (i % 2) + 1 from by omega, show (4 * i + 2) % 8 = 4 * (i % 2) + 2 from by omega, show (4 * i + 3) % 8 = 4 * (i % 2) + 3 from by omega]
  omega
theorem btI_01 (b : B16) (i : Nat) : 0 ≤ btI b i ∧ btI b i ≤ 1 := by
  unfold btI
  cases bt b i <;> simp
theorem bitV_01 (a : Ad) (i : Int) : 0 ≤ bitV a i ∧ bitV a i ≤ 1 := by
  unfold bitV
  split
  · exact btI_01 _ _
  · omega
theorem ad_cell {W : World} {g : Nat} {a : Ad} (h : Blk W g 41 a.cs) (j : Nat) (hj : j < 16) : ∀ w', Below W.heap.size W w' → w'.cell? ⟨g, 1 + j, none⟩ = some (.int .u8 (a.b.at j : Int)) :=
  fun w' k => ((h.later k).cell _).trans ((a.c1 j).trans (a.b.get j hj))

end Go.Proofs.YtclkfmblogkakaaGreatDoor
namespace Go.Proofs.YtclkfmblogkakaaGreatDoor
open Go.RowKit Go.Shelf
set_option linter.unusedVariables false
attribute [local go_sem ↓] load_b16_rule store_b16_rule load_ad_rule store_ad_rule load_px_rule store_px_rule eq_b16_rule eq_ad_rule eq_px_rule

/-- Does a prefix contain an address, a prefix? -/
def hasM (p : Px) (a : Ad) : Prop := okP p ∧ okA a ∧ p.a.v = a.v ∧ p.a.b = keptB a.b p.n.toNat
noncomputable instance (p : Px) (a : Ad) : Decidable (hasM p a) := Classical.propDecidable _
def holdsM (p q : Px) : Prop := okP q ∧ p.n ≤ q.n ∧ hasM p q.a
noncomputable instance (p q : Px) : Decidable (holdsM p q) := Classical.propDecidable _
theorem okP_le {p : Px} (h : okP p) : 0 ≤ p.n ∧ p.n ≤ 128 := by
  have := wid_le p.a.v
  have h1 := h.2.1
  have h2 := h.2.2.1
  omega
theorem kept_bits {b c : B16} {n : Nat} (hc : clear b n) : b = keptB c n ↔ ∀ i, i < n → i < 128 → bt b i = bt c i := by
  constructor
  · intro h i hi h2
    rw [h, bt_kept _ _ _ h2]
    simp [hi]
  · intro h
    apply bt_ext
    intro i hi
    rw [bt_kept _ _ _ hi]
    by_cases hn : i < n
    · simp [hn, h i hn hi]
    · rw [hc i (by omega) hi]; simp [hn]

end Go.Proofs.YtclkfmblogkakaaGreatDoor
namespace Go.Proofs.YtclkfmblogkakaaGreatDoor
open Go.RowKit Go.Shelf
set_option linter.unusedVariables false

theorem results_blk {fn : Func} {p u : Tmp} {ty : TypeId} (h : fn.results = #[.cell p ty, .tmp u]) (tmps : Array Value) (w : World) (g : Nat) (vs : Array Value) (d : TypeDesc)
    (hp : tmps.getD p undef = .pointer (some ⟨g, 0, none⟩)) (hb : Blk w g ty vs) (hu : Tryz.prog.underlying ty = some d) (hd : d.isRow = true) (hi : (Tryz.prog.info? ty).map (·.size) = some vs.size) :
    (results fn tmps).run Tryz.prog w = .ok (.tuple #[.agg vs, tmps.getD u undef]) w := by
  have hl := run_loadVar_row (P := Tryz.prog) w g ty ty vs (0, 0) d hb hu (by cases d <;> simp_all) hi
  rw [results_cell_tmp h, hp]
  simp [asAddr, hl, Result.andThen]
def buildSem (ty : TypeId) (ps : Array (Nat × Value)) : Sem Value := Instr.build ty ps
theorem build_ad_rule (ps : Array (Nat × Value)) : Instr.build 41 ps = buildSem 41 ps := rfl
theorem build_px_rule (ps : Array (Nat × Value)) : Instr.build 43 ps = buildSem 43 ps := rfl
theorem list16 {l : List Nat} (h : l.length = 16) : ∃ a0 a1 a2 a3 a4 a5 a6 a7 a8 a9 a10 a11 a12 a13 a14 a15, l = [a0, a1, a2, a3, a4, a5, a6, a7, a8, a9, a10, a11, a12, a13, a14, a15] := by
  rcases l with _ | ⟨a0, _ | ⟨a1, _ | ⟨a2, _ | ⟨a3, _ | ⟨a4, _ | ⟨a5, _ | ⟨a6, _ | ⟨a7, _ | ⟨a8, _ | ⟨a9, _ | ⟨a10, _ | ⟨a11, _ | ⟨a12, _ | ⟨a13, _ | ⟨a14, _ | ⟨a15, _ | ⟨a16, l⟩⟩⟩⟩⟩⟩⟩⟩⟩⟩⟩⟩⟩⟩⟩⟩⟩ <;> first | exact ⟨_, _, _, _, _, _, _, _, _, _, _, _, _, _, _, _, rfl⟩ | (exfalso; simp at h; done) | (exfalso; simp at h; omega)
theorem B16.out (b : B16) : ∃ a0 a1 a2 a3 a4 a5 a6 a7 a8 a9 a10 a11 a12 a13 a14 a15, b.cs = #[byc a0, byc a1, byc a2, byc a3, byc a4, byc a5, byc a6, byc a7, byc a8, byc a9, byc a10, byc a11, byc a12, byc a13, byc a14, byc a15] := by
  obtain ⟨a0, a1, a2, a3, a4, a5, a6, a7, a8, a9, a10, a11, a12, a13, a14, a15, h⟩ := list16 b.len
  refine ⟨a0, a1, a2, a3, a4, a5, a6, a7, a8, a9, a10, a11, a12, a13, a14, a15, ?_⟩
  unfold B16.cs
  rw [h]
  rfl
theorem build_ad0 (w : World) : (buildSem 41 #[]).run Tryz.prog w = .ok (.agg Ad.zero.cs) w := by kernel_rfl
theorem build_px0 (w : World) : (buildSem 43 #[]).run Tryz.prog w = .ok (.agg Px.zero.cs) w := by kernel_rfl
theorem build_adv (v : Int) (w : World) : (buildSem 41 #[(0, .int .i64 v)]).run Tryz.prog w = .ok (.agg (Ad.mk v B16.zero).cs) w := by kernel_rfl
theorem build_ad (v : Int) (b : B16) (w : World) : (buildSem 41 #[(0, .int .i64 v), (1, .agg b.cs)]).run Tryz.prog w = .ok (.agg (Ad.mk v b).cs) w := by
  unfold Ad.cs
  show (buildSem 41 #[(0, .int .i64 v), (1, .agg b.cs)]).run Tryz.prog w = .ok (.agg (#[.int .i64 v] ++ b.cs)) w
  obtain ⟨a0, a1, a2, a3, a4, a5, a6, a7, a8, a9, a10, a11, a12, a13, a14, a15, h⟩ := b.out
  rw [h]
  kernel_rfl
theorem build_px (a : Ad) (n : Int) (w : World) : (buildSem 43 #[(0, .agg a.cs), (1, .int .i64 n)]).run Tryz.prog w = .ok (.agg (Px.mk a n).cs) w := by
  unfold Px.cs
  show (buildSem 43 #[(0, .agg a.cs), (1, .int .i64 n)]).run Tryz.prog w = .ok (.agg (a.cs ++ #[.int .i64 n])) w
  unfold Ad.cs
  obtain ⟨a0, a1, a2, a3, a4, a5, a6, a7, a8, a9, a10, a11, a12, a13, a14, a15, h⟩ := a.b.out
  rw [h]
  kernel_rfl
theorem over_b (a : Ad) (b : B16) : over a.cs 1 b.cs = (Ad.mk a.v b).cs := by
  apply Array.ext_getElem?
  intro i
  have hs : 1 + b.cs.size ≤ a.cs.size := by rw [B16.size, Ad.size]; omega
  rw [over_get hs, B16.size]
  rcases i with _ | i
  · rw [if_pos (by omega), a.c0, Ad.c0]
  · rw [if_neg (by omega), show i + 1 = 1 + i from by omega]
    by_cases h : i < 16
    · rw [if_pos (by omega), show 1 + i - 1 = i from by omega]
      exact (Ad.c1 ⟨a.v, b⟩ i).symm
    · rw [if_neg (by omega), Array.getElem?_eq_none (by rw [Ad.size]; omega), Array.getElem?_eq_none (by rw [Ad.size]; omega)]
theorem st_px {w : World} {g : Nat} {p q : Px} (h : Blk w g 43 p.cs) : (storeSem 43 (.pointer (some ⟨g, 0, none⟩)) (.agg q.cs)).run Tryz.prog w = .ok () (w.setRow g q.cs) := by
  have := storeRes_of (P := Tryz.prog) (ty := 43) (o := 0) (vs := q.cs) h (by rw [Px.size, Px.size]; omega) (s_px q) q.one
  rwa [over_all (by rw [Px.size, Px.size])] at this
theorem st_ad {w : World} {g : Nat} {p q : Ad} (h : Blk w g 41 p.cs) : (storeSem 41 (.pointer (some ⟨g, 0, none⟩)) (.agg q.cs)).run Tryz.prog w = .ok () (w.setRow g q.cs) := by
  have := storeRes_of (P := Tryz.prog) (ty := 41) (o := 0) (vs := q.cs) h (by rw [Ad.size, Ad.size]; omega) (s_ad q) q.one
  rwa [over_all (by rw [Ad.size, Ad.size])] at this
theorem st_b {w : World} {g : Nat} {p : Ad} {b : B16} (h : Blk w g 41 p.cs) : (storeSem 39 (.pointer (some ⟨g, 1, none⟩)) (.agg b.cs)).run Tryz.prog w = .ok () (w.setRow g (Ad.mk p.v b).cs) := by
  have := storeRes_of (P := Tryz.prog) (ty := 39) (o := 1) (vs := b.cs) h (by rw [B16.size, Ad.size]; omega) (s_b16 b) b.one
  rwa [over_b] at this
theorem below_setRow {B : Nat} {w w' : World} {g : Nat} (h : Below B w w') (hg : B ≤ g) (cs : Array Value) : Below B w (w'.setRow g cs) :=
  ⟨h.os, h.tape, h.output, by have := h.size; simpa using this, fun k hk => (setRow_other w' g k cs (by omega)).trans (h.block k hk)⟩

/-- What Of answers. -/
noncomputable def ofE (a : Ad) (n : Int) : Int := if okA a then (if 0 ≤ n ∧ n ≤ (wid a.v : Int) then 0 else 2) else 150
noncomputable def ofP (a : Ad) (n : Int) : Px := if okA a ∧ 0 ≤ n ∧ n ≤ (wid a.v : Int) then ⟨⟨a.v, keptB a.b n.toNat⟩, n⟩ else Px.zero
attribute [local go_sem ↓] load_b16_rule store_b16_rule load_ad_rule store_ad_rule load_px_rule store_px_rule eq_b16_rule eq_ad_rule eq_px_rule build_ad_rule build_px_rule

theorem keep_next : ∀ x, x < 256 → ∀ s, s < 8 → keepN x (s + 1) = keepN x s + (x / 2 ^ (7 - s) % 2) * 2 ^ (7 - s) := by decide +kernel
theorem keep_room : ∀ x, x < 256 → ∀ s, s < 8 → keepN x s + 2 ^ (7 - s) < 256 := by
  intro x hx s hs
  have h : ∀ x, x < 256 → ∀ s, s < 8 → keepN x s + 2 ^ (7 - s) < 256 := by decide +kernel
  exact h x hx s hs
theorem kept_next (b : B16) (m : Nat) (hm : m < 128) (i : Nat) (hi : i < 16) : (keptB b (m + 1)).at i = if i = m / 8 then (keptB b m).at i + (bt b m).toNat * 2 ^ (7 - m % 8) else (keptB b m).at i := by
  rw [keptB_at _ _ _ hi, keptB_at _ _ _ hi]
  by_cases h : i = m / 8
  · rw [if_pos h]
    have h1 : stayN m i = m % 8 := by unfold stayN; omega
    have h2 : stayN (m + 1) i = m % 8 + 1 := by unfold stayN; omega
    rw [h1, h2, keep_next _ (b.lt _) _ (by omega)]
    unfold bt
    rw [← bit_num, h]
  · rw [if_neg h]
    have h1 : stayN (m + 1) i = stayN m i := by unfold stayN; omega
    rw [h1]
theorem kept_same (b : B16) (m : Nat) (hm : m < 128) (h : bt b m = false) : keptB b (m + 1) = keptB b m := B16.ext_at fun i hi => by
  rw [kept_next b m hm i hi, h]
  simp
theorem px_set {p : Px} {b : B16} {k x : Nat} (hk : k < 16) (h : ∀ i, i < 16 → b.at i = if i = k then x else p.a.b.at i) : p.cs.setIfInBounds (1 + k) (.int .u8 (x : Int)) = (Px.mk ⟨p.a.v, b⟩ p.n).cs := by
  apply Array.ext_getElem?
  intro i
  rw [Array.getElem?_setIfInBounds]
  by_cases h1 : i < 17
  · rw [Px.ca _ i h1, Px.ca _ i h1]
    rcases i with _ | i
    · rw [if_neg (by omega), Ad.c0, Ad.c0]
    · rw [show i + 1 = 1 + i from by omega, Ad.c1]
      have hi : i < 16 := by omega
      by_cases h2 : k = i
      · subst h2
        rw [if_pos rfl, if_pos (by rw [Px.size]; omega)]
        have e := b.get k hk
        rw [h k hk, if_pos rfl] at e
        exact ((Ad.c1 ⟨p.a.v, b⟩ k).trans e).symm
      · rw [if_neg (by omega), p.a.b.get i hi]
        have e := b.get i hi
        rw [h i hi, if_neg (fun e => h2 e.symm)] at e
        exact ((Ad.c1 ⟨p.a.v, b⟩ i).trans e).symm
  · rw [if_neg (by omega)]
    by_cases h2 : i = 17
    · subst h2; rw [Px.cn, Px.cn]
    · rw [Array.getElem?_eq_none (by rw [Px.size]; omega), Array.getElem?_eq_none (by rw [Px.size]; omega)]

end Go.Proofs.YtclkfmblogkakaaGreatDoor
