/-
  The contracts of prefix.hasPlace, Bit, Nibble and of the reference's Bit, Nibble. Nothing here is a statement of the document.
-/
import Derived.Test.YtobnjpdanpjhjaaDoorPfxD
namespace Go.Proofs.YtobnjpdanpjhjaaDoor
open Go.RowKit Go.Shelf
set_option linter.unusedVariables false
attribute [local go_sem ↓] load_b16_rule store_b16_rule load_ad_rule store_ad_rule load_px_rule store_px_rule eq_b16_rule eq_ad_rule eq_px_rule

set_option maxRecDepth 100000 in
set_option maxHeartbeats 1600000 in
theorem place1_any (a : Ad) (i : Int) (w : World) (hW : Wid w) : Calls Tryd.prog 24 #[.agg a.cs, .int .i64 i, .int .i64 1] w fun e w' => e = .returned (.bool (decide (okA a ∧ 0 ≤ i ∧ i < ((wid a.v / 1 : Nat) : Int)))) ∧ Below w.heap.size w w' := by
  obtain ⟨W1, hW1⟩ : ∃ W1, w.alloc (.cells a.cs 24) = W1 := ⟨_, rfl⟩
  have hb1 : Below w.heap.size w W1 := by rw [← hW1]; exact ((Below.refl w.heap.size w).alloc (Nat.le_refl _) _)
  have b1 : Blk W1 (w.heap.size) 24 a.cs := by
    have h9 := Blk.new w 24 a.cs
    rw [← hW1]; exact h9
  have LA := ad_a b1
  have LB := ad_b b1
  have LV := ad_v b1
  have HW : ∀ w', Below W1.heap.size W1 w' → Wid w' := fun w' h => (hW.later hb1).later h
  have h0 : Below W1.heap.size W1 W1 := Below.refl _ _
  have HB := Lib.hid hb1
  clear hb1 b1
  have HWD := fun w' h => width_b a.v w' (HW w' h)
  have HCA := fun w' h => checkaddr_any a w' (HW w' h)
  by_cases h1 : okA a
  · rw [eA_ok h1] at HCA
    have hd : (((wid a.v : Nat) : Int)) / 1 = ((wid a.v / 1 : Nat) : Int) := by omega
    have hwz : wrap64 ((wid a.v / 1 : Nat) : Int) = ((wid a.v / 1 : Nat) : Int) := by
      have := wid_le a.v
      have h128 : wid a.v / 1 ≤ 128 := by omega
      unfold wrap64; omega
    generalize wid a.v / 1 = z at *
    generalize wid a.v = ww at *
    by_cases h2 : 0 ≤ i
    · have d2 : decide (0 ≤ i) = true := by simpa using h2
      have HF := Lib.hid (show (decide (okA a ∧ 0 ≤ i ∧ i < (z : Int))) = decide (i < (z : Int)) by simp [h1, h2])
      clear h1 h2
      go_enter Tryd.func24, Tryd.ntmps24
      go_wp2_with (first | (go_at_call 21; refine (HCA _ (by assumption)).mono ?_; rintro e w2 ⟨rfl, hb2⟩; have hk2 : Below W1.heap.size W1 w2 := bel_trans (by assumption) hb2; clear hb2) | (go_at_call 15; refine (HWD _ (by assumption)).mono ?_; rintro e w2 ⟨rfl, hb2⟩; have hk2 : Below W1.heap.size W1 w2 := bel_trans (by assumption) hb2; clear hb2) | (refine wp_region_lin (fun w' => Below W1.heap.size W1 w') (by kernel_rfl) (by kernel_rfl) (bel_drew (by assumption)) ?_; (repeat (first | (refine lin_off (by rfl) ?_; (try simp only [Act.put, List.setIfInBounds_toArray, List.set_cons_zero, List.set_cons_succ])) | (refine lin_op (v := ?_) (by rfl) (fun w9 hS9 => ?_) ?_; rotate_left; (focus (((try dsimp only at hS9); go_simp; (try go_bits)) <;> with_reducible rfl)); (try simp only [Act.put, List.setIfInBounds_toArray, List.set_cons_zero, List.set_cons_succ])) | (refine lin_fn (f := 21) (by rfl) rfl rfl (enters_of Tryd.func21 (by kernel_rfl) rfl) (fun w9 hS9 => (HCA w9 hS9).mono (fun e w' h => ⟨h.1, bel_trans hS9 h.2⟩)) ?_ ?_; (focus (simp [Act.eval]; done)); (try simp only [Act.put, List.setIfInBounds_toArray, List.set_cons_zero, List.set_cons_succ])) | (refine lin_fn (f := 15) (by rfl) rfl rfl (enters_of Tryd.func15 (by kernel_rfl) rfl) (fun w9 hS9 => (HWD w9 hS9).mono (fun e w' h => ⟨h.1, bel_trans hS9 h.2⟩)) ?_ ?_; (focus (simp [Act.eval]; done)); (try simp only [Act.put, List.setIfInBounds_toArray, List.set_cons_zero, List.set_cons_succ])))); refine lin_nil (fun w8 hS8 => ?_)))
      all_goals go_ret
      all_goals exact ⟨by rw [HF.out]; first | rfl | simp_all, bel_trans HB.out (by assumption)⟩
    · have d2 : decide (0 ≤ i) = false := by simpa using h2
      have HF := Lib.hid (show (decide (okA a ∧ 0 ≤ i ∧ i < (z : Int))) = false by simp [h2])
      clear h1 h2
      go_enter Tryd.func24, Tryd.ntmps24
      go_wp2_with (first | (go_at_call 21; refine (HCA _ (by assumption)).mono ?_; rintro e w2 ⟨rfl, hb2⟩; have hk2 : Below W1.heap.size W1 w2 := bel_trans (by assumption) hb2; clear hb2) | (go_at_call 15; refine (HWD _ (by assumption)).mono ?_; rintro e w2 ⟨rfl, hb2⟩; have hk2 : Below W1.heap.size W1 w2 := bel_trans (by assumption) hb2; clear hb2) | (refine wp_region_lin (fun w' => Below W1.heap.size W1 w') (by kernel_rfl) (by kernel_rfl) (bel_drew (by assumption)) ?_; (repeat (first | (refine lin_off (by rfl) ?_; (try simp only [Act.put, List.setIfInBounds_toArray, List.set_cons_zero, List.set_cons_succ])) | (refine lin_op (v := ?_) (by rfl) (fun w9 hS9 => ?_) ?_; rotate_left; (focus (((try dsimp only at hS9); go_simp; (try go_bits)) <;> with_reducible rfl)); (try simp only [Act.put, List.setIfInBounds_toArray, List.set_cons_zero, List.set_cons_succ])) | (refine lin_fn (f := 21) (by rfl) rfl rfl (enters_of Tryd.func21 (by kernel_rfl) rfl) (fun w9 hS9 => (HCA w9 hS9).mono (fun e w' h => ⟨h.1, bel_trans hS9 h.2⟩)) ?_ ?_; (focus (simp [Act.eval]; done)); (try simp only [Act.put, List.setIfInBounds_toArray, List.set_cons_zero, List.set_cons_succ])) | (refine lin_fn (f := 15) (by rfl) rfl rfl (enters_of Tryd.func15 (by kernel_rfl) rfl) (fun w9 hS9 => (HWD w9 hS9).mono (fun e w' h => ⟨h.1, bel_trans hS9 h.2⟩)) ?_ ?_; (focus (simp [Act.eval]; done)); (try simp only [Act.put, List.setIfInBounds_toArray, List.set_cons_zero, List.set_cons_succ])))); refine lin_nil (fun w8 hS8 => ?_)))
      all_goals go_ret
      all_goals exact ⟨by rw [HF.out]; rfl, bel_trans HB.out (by assumption)⟩
  · rw [eA_no h1] at HCA
    have HF := Lib.hid (show (decide (okA a ∧ 0 ≤ i ∧ i < ((wid a.v / 1 : Nat) : Int))) = false by simp [h1])
    clear h1
    go_enter Tryd.func24, Tryd.ntmps24
    go_wp2_with (first | (go_at_call 21; refine (HCA _ (by assumption)).mono ?_; rintro e w2 ⟨rfl, hb2⟩; have hk2 : Below W1.heap.size W1 w2 := bel_trans (by assumption) hb2; clear hb2) | (refine wp_region_lin (fun w' => Below W1.heap.size W1 w') (by kernel_rfl) (by kernel_rfl) (bel_drew (by assumption)) ?_; (repeat (first | (refine lin_off (by rfl) ?_; (try simp only [Act.put, List.setIfInBounds_toArray, List.set_cons_zero, List.set_cons_succ])) | (refine lin_op (v := ?_) (by rfl) (fun w9 hS9 => ?_) ?_; rotate_left; (focus (((try dsimp only at hS9); go_simp; (try go_bits)) <;> with_reducible rfl)); (try simp only [Act.put, List.setIfInBounds_toArray, List.set_cons_zero, List.set_cons_succ])) | (refine lin_fn (f := 21) (by rfl) rfl rfl (enters_of Tryd.func21 (by kernel_rfl) rfl) (fun w9 hS9 => (HCA w9 hS9).mono (fun e w' h => ⟨h.1, bel_trans hS9 h.2⟩)) ?_ ?_; (focus (simp [Act.eval]; done)); (try simp only [Act.put, List.setIfInBounds_toArray, List.set_cons_zero, List.set_cons_succ])))); refine lin_nil (fun w8 hS8 => ?_)))
    all_goals go_ret
    all_goals exact ⟨by rw [HF.out]; rfl, bel_trans HB.out (by assumption)⟩

set_option maxRecDepth 100000 in
set_option maxHeartbeats 1600000 in
theorem place4_any (a : Ad) (i : Int) (w : World) (hW : Wid w) : Calls Tryd.prog 24 #[.agg a.cs, .int .i64 i, .int .i64 4] w fun e w' => e = .returned (.bool (decide (okA a ∧ 0 ≤ i ∧ i < ((wid a.v / 4 : Nat) : Int)))) ∧ Below w.heap.size w w' := by
  obtain ⟨W1, hW1⟩ : ∃ W1, w.alloc (.cells a.cs 24) = W1 := ⟨_, rfl⟩
  have hb1 : Below w.heap.size w W1 := by rw [← hW1]; exact ((Below.refl w.heap.size w).alloc (Nat.le_refl _) _)
  have b1 : Blk W1 (w.heap.size) 24 a.cs := by
    have h9 := Blk.new w 24 a.cs
    rw [← hW1]; exact h9
  have LA := ad_a b1
  have LB := ad_b b1
  have LV := ad_v b1
  have HW : ∀ w', Below W1.heap.size W1 w' → Wid w' := fun w' h => (hW.later hb1).later h
  have h0 : Below W1.heap.size W1 W1 := Below.refl _ _
  have HB := Lib.hid hb1
  clear hb1 b1
  have HWD := fun w' h => width_b a.v w' (HW w' h)
  have HCA := fun w' h => checkaddr_any a w' (HW w' h)
  by_cases h1 : okA a
  · rw [eA_ok h1] at HCA
    have hd : (((wid a.v : Nat) : Int)) / 4 = ((wid a.v / 4 : Nat) : Int) := by omega
    have hwz : wrap64 ((wid a.v / 4 : Nat) : Int) = ((wid a.v / 4 : Nat) : Int) := by
      have := wid_le a.v
      have h128 : wid a.v / 4 ≤ 128 := by omega
      unfold wrap64; omega
    generalize wid a.v / 4 = z at *
    generalize wid a.v = ww at *
    by_cases h2 : 0 ≤ i
    · have d2 : decide (0 ≤ i) = true := by simpa using h2
      have HF := Lib.hid (show (decide (okA a ∧ 0 ≤ i ∧ i < (z : Int))) = decide (i < (z : Int)) by simp [h1, h2])
      clear h1 h2
      go_enter Tryd.func24, Tryd.ntmps24
      go_wp2_with (first | (go_at_call 21; refine (HCA _ (by assumption)).mono ?_; rintro e w2 ⟨rfl, hb2⟩; have hk2 : Below W1.heap.size W1 w2 := bel_trans (by assumption) hb2; clear hb2) | (go_at_call 15; refine (HWD _ (by assumption)).mono ?_; rintro e w2 ⟨rfl, hb2⟩; have hk2 : Below W1.heap.size W1 w2 := bel_trans (by assumption) hb2; clear hb2) | (refine wp_region_lin (fun w' => Below W1.heap.size W1 w') (by kernel_rfl) (by kernel_rfl) (bel_drew (by assumption)) ?_; (repeat (first | (refine lin_off (by rfl) ?_; (try simp only [Act.put, List.setIfInBounds_toArray, List.set_cons_zero, List.set_cons_succ])) | (refine lin_op (v := ?_) (by rfl) (fun w9 hS9 => ?_) ?_; rotate_left; (focus (((try dsimp only at hS9); go_simp; (try go_bits)) <;> with_reducible rfl)); (try simp only [Act.put, List.setIfInBounds_toArray, List.set_cons_zero, List.set_cons_succ])) | (refine lin_fn (f := 21) (by rfl) rfl rfl (enters_of Tryd.func21 (by kernel_rfl) rfl) (fun w9 hS9 => (HCA w9 hS9).mono (fun e w' h => ⟨h.1, bel_trans hS9 h.2⟩)) ?_ ?_; (focus (simp [Act.eval]; done)); (try simp only [Act.put, List.setIfInBounds_toArray, List.set_cons_zero, List.set_cons_succ])) | (refine lin_fn (f := 15) (by rfl) rfl rfl (enters_of Tryd.func15 (by kernel_rfl) rfl) (fun w9 hS9 => (HWD w9 hS9).mono (fun e w' h => ⟨h.1, bel_trans hS9 h.2⟩)) ?_ ?_; (focus (simp [Act.eval]; done)); (try simp only [Act.put, List.setIfInBounds_toArray, List.set_cons_zero, List.set_cons_succ])))); refine lin_nil (fun w8 hS8 => ?_)))
      all_goals go_ret
      all_goals exact ⟨by rw [HF.out]; first | rfl | simp_all, bel_trans HB.out (by assumption)⟩
    · have d2 : decide (0 ≤ i) = false := by simpa using h2
      have HF := Lib.hid (show (decide (okA a ∧ 0 ≤ i ∧ i < (z : Int))) = false by simp [h2])
      clear h1 h2
      go_enter Tryd.func24, Tryd.ntmps24
      go_wp2_with (first | (go_at_call 21; refine (HCA _ (by assumption)).mono ?_; rintro e w2 ⟨rfl, hb2⟩; have hk2 : Below W1.heap.size W1 w2 := bel_trans (by assumption) hb2; clear hb2) | (go_at_call 15; refine (HWD _ (by assumption)).mono ?_; rintro e w2 ⟨rfl, hb2⟩; have hk2 : Below W1.heap.size W1 w2 := bel_trans (by assumption) hb2; clear hb2) | (refine wp_region_lin (fun w' => Below W1.heap.size W1 w') (by kernel_rfl) (by kernel_rfl) (bel_drew (by assumption)) ?_; (repeat (first | (refine lin_off (by rfl) ?_; (try simp only [Act.put, List.setIfInBounds_toArray, List.set_cons_zero, List.set_cons_succ])) | (refine lin_op (v := ?_) (by rfl) (fun w9 hS9 => ?_) ?_; rotate_left; (focus (((try dsimp only at hS9); go_simp; (try go_bits)) <;> with_reducible rfl)); (try simp only [Act.put, List.setIfInBounds_toArray, List.set_cons_zero, List.set_cons_succ])) | (refine lin_fn (f := 21) (by rfl) rfl rfl (enters_of Tryd.func21 (by kernel_rfl) rfl) (fun w9 hS9 => (HCA w9 hS9).mono (fun e w' h => ⟨h.1, bel_trans hS9 h.2⟩)) ?_ ?_; (focus (simp [Act.eval]; done)); (try simp only [Act.put, List.setIfInBounds_toArray, List.set_cons_zero, List.set_cons_succ])) | (refine lin_fn (f := 15) (by rfl) rfl rfl (enters_of Tryd.func15 (by kernel_rfl) rfl) (fun w9 hS9 => (HWD w9 hS9).mono (fun e w' h => ⟨h.1, bel_trans hS9 h.2⟩)) ?_ ?_; (focus (simp [Act.eval]; done)); (try simp only [Act.put, List.setIfInBounds_toArray, List.set_cons_zero, List.set_cons_succ])))); refine lin_nil (fun w8 hS8 => ?_)))
      all_goals go_ret
      all_goals exact ⟨by rw [HF.out]; rfl, bel_trans HB.out (by assumption)⟩
  · rw [eA_no h1] at HCA
    have HF := Lib.hid (show (decide (okA a ∧ 0 ≤ i ∧ i < ((wid a.v / 4 : Nat) : Int))) = false by simp [h1])
    clear h1
    go_enter Tryd.func24, Tryd.ntmps24
    go_wp2_with (first | (go_at_call 21; refine (HCA _ (by assumption)).mono ?_; rintro e w2 ⟨rfl, hb2⟩; have hk2 : Below W1.heap.size W1 w2 := bel_trans (by assumption) hb2; clear hb2) | (refine wp_region_lin (fun w' => Below W1.heap.size W1 w') (by kernel_rfl) (by kernel_rfl) (bel_drew (by assumption)) ?_; (repeat (first | (refine lin_off (by rfl) ?_; (try simp only [Act.put, List.setIfInBounds_toArray, List.set_cons_zero, List.set_cons_succ])) | (refine lin_op (v := ?_) (by rfl) (fun w9 hS9 => ?_) ?_; rotate_left; (focus (((try dsimp only at hS9); go_simp; (try go_bits)) <;> with_reducible rfl)); (try simp only [Act.put, List.setIfInBounds_toArray, List.set_cons_zero, List.set_cons_succ])) | (refine lin_fn (f := 21) (by rfl) rfl rfl (enters_of Tryd.func21 (by kernel_rfl) rfl) (fun w9 hS9 => (HCA w9 hS9).mono (fun e w' h => ⟨h.1, bel_trans hS9 h.2⟩)) ?_ ?_; (focus (simp [Act.eval]; done)); (try simp only [Act.put, List.setIfInBounds_toArray, List.set_cons_zero, List.set_cons_succ])))); refine lin_nil (fun w8 hS8 => ?_)))
    all_goals go_ret
    all_goals exact ⟨by rw [HF.out]; rfl, bel_trans HB.out (by assumption)⟩

/-- A bit of an address; its nibble. -/
noncomputable def bitV (a : Ad) (i : Int) : Int := if okA a ∧ 0 ≤ i ∧ i < (wid a.v : Int) then btI a.b i.toNat else 0
noncomputable def nibV (a : Ad) (i : Int) : Int := 8 * bitV a (4 * i) + 4 * bitV a (4 * i + 1) + 2 * bitV a (4 * i + 2) + bitV a (4 * i + 3)
noncomputable def nibW (a : Ad) (i : Int) : Int := if 0 ≤ i ∧ i ≤ 31 then nibV a i else 0
theorem bit_and (b : B16) (i : Nat) : bits .and .u8 ((b.at (i / 8) : Int) / 2 ^ (7 - i % 8)) 1 = btI b i := by
  have hd : b.at (i / 8) / 2 ^ (7 - i % 8) < 256 := Nat.lt_of_le_of_lt (Nat.div_le_self _ _) (b.lt _)
  have e := u8_and_nat (b.at (i / 8) / 2 ^ (7 - i % 8)) 1 hd (by omega)
  have e2 : ((b.at (i / 8) / 2 ^ (7 - i % 8) : Nat) : Int) = (b.at (i / 8) : Int) / 2 ^ (7 - i % 8) := by simp
  rw [e2] at e
  have e1 : ((1 : Nat) : Int) = 1 := rfl
  rw [e1] at e
  rw [e, Nat.and_one_is_mod, bit_num]
  rfl
theorem nib_num : ∀ x, x < 256 → ∀ r, r < 2 → (x / 2 ^ (4 - r * 4)) &&& 15 = 8 * (x / 2 ^ (7 - 4 * r) % 2) + 4 * (x / 2 ^ (7 - (4 * r + 1)) % 2) + 2 * (x / 2 ^ (7 - (4 * r + 2)) % 2) + (x / 2 ^ (7 - (4 * r + 3)) % 2) := by decide +kernel
theorem nib_and (b : B16) (i : Nat) : bits .and .u8 ((b.at (i / 2) : Int) / 2 ^ (4 - i % 2 * 4)) 15 = 8 * btI b (4 * i) + 4 * btI b (4 * i + 1) + 2 * btI b (4 * i + 2) + btI b (4 * i + 3) := by
  have hd : b.at (i / 2) / 2 ^ (4 - i % 2 * 4) < 256 := Nat.lt_of_le_of_lt (Nat.div_le_self _ _) (b.lt _)
  have e := u8_and_nat (b.at (i / 2) / 2 ^ (4 - i % 2 * 4)) 15 hd (by omega)
  have e2 : ((b.at (i / 2) / 2 ^ (4 - i % 2 * 4) : Nat) : Int) = (b.at (i / 2) : Int) / 2 ^ (4 - i % 2 * 4) := by simp
  rw [e2] at e
  have e1 : ((15 : Nat) : Int) = 15 := rfl
  rw [e1] at e
  rw [e, nib_num _ (b.lt _) (i % 2) (by omega)]
  unfold btI bt
  rw [← bit_num, ← bit_num, ← bit_num, ← bit_num]
  rw [show 4 * i / 8 = i / 2 from by omega, show (4 * i + 1) / 8 = i / 2 from by omega, show (4 * i + 2) / 8 = i / 2 from by omega, show (4 * i + 3) / 8 = i / 2 from by omega]
  rw [show 4 * i % 8 = 4 * (i % 2) from by omega, show (4 * i + 1) % 8 = 4 * (i % 2) + 1 from by omega, show (4 * i + 2) % 8 = 4 * (i % 2) + 2 from by omega, show (4 * i + 3) % 8 = 4 * (i % 2) + 3 from by omega]
  omega
theorem btI_01 (b : B16) (i : Nat) : 0 ≤ btI b i ∧ btI b i ≤ 1 := by
  unfold btI
  cases bt b i <;> simp
theorem bitV_01 (a : Ad) (i : Int) : 0 ≤ bitV a i ∧ bitV a i ≤ 1 := by
  unfold bitV
  split
  · exact btI_01 _ _
  · omega
theorem ad_cell {W : World} {g : Nat} {a : Ad} (h : Blk W g 24 a.cs) (j : Nat) (hj : j < 16) : ∀ w', Below W.heap.size W w' → w'.cell? ⟨g, 1 + j, none⟩ = some (.int .u8 (a.b.at j : Int)) :=
  fun w' k => ((h.later k).cell _).trans ((a.c1 j).trans (a.b.get j hj))

set_option maxRecDepth 100000 in
set_option maxHeartbeats 1600000 in
theorem nib5_any (a : Ad) (i : Int) (w : World) (hW : Wid w) : Calls Tryd.prog 11 #[.agg a.cs, .int .i64 i] w fun e w' => e = .returned (.int .i64 (nibW a i)) ∧ Below w.heap.size w w' := by
  obtain ⟨W1, hW1⟩ : ∃ W1, w.alloc (.cells a.cs 24) = W1 := ⟨_, rfl⟩
  have hb1 : Below w.heap.size w W1 := by rw [← hW1]; exact ((Below.refl w.heap.size w).alloc (Nat.le_refl _) _)
  have b1 : Blk W1 (w.heap.size) 24 a.cs := by
    have h9 := Blk.new w 24 a.cs
    rw [← hW1]; exact h9
  have LA := ad_a b1
  have LB := ad_b b1
  have LV := ad_v b1
  have HW : ∀ w', Below W1.heap.size W1 w' → Wid w' := fun w' h => (hW.later hb1).later h
  have LC := fun j hj => ad_cell b1 j hj
  have h0 : Below W1.heap.size W1 W1 := Below.refl _ _
  have HB := Lib.hid hb1
  clear hb1 b1
  have HPL := fun w' h => place4_any a i w' (HW w' h)
  have hw := wid_le a.v
  have hv : wid a.v = 0 ∨ wid a.v = 32 ∨ wid a.v = 128 := by unfold wid; split; omega; split <;> omega
  by_cases h1 : okA a ∧ 0 ≤ i ∧ i < ((wid a.v / 4 : Nat) : Int)
  · rw [decide_eq_true h1] at HPL
    have HF := Lib.hid (show nibW a i = 8 * btI a.b (4 * i).toNat + 4 * btI a.b (4 * i + 1).toNat + 2 * btI a.b (4 * i + 2).toNat + btI a.b (4 * i + 3).toNat by
      unfold nibW
      rw [if_pos ⟨h1.2.1, by omega⟩]
      unfold nibV bitV
      rw [if_pos ⟨h1.1, by omega, by omega⟩, if_pos ⟨h1.1, by omega, by omega⟩, if_pos ⟨h1.1, by omega, by omega⟩, if_pos ⟨h1.1, by omega, by omega⟩])
    obtain ⟨n, rfl⟩ := Int.eq_ofNat_of_zero_le h1.2.1
    have hn : n < 32 := by omega
    have hc := LC (n / 2) (by omega)
    have hx := a.b.lt (n / 2)
    have hbit := nib_and a.b n
    have q1 : ((n : Int)) / 2 = ((n / 2 : Nat) : Int) := by omega
    have q2 : ((n : Int)) % 2 = ((n % 2 : Nat) : Int) := by omega
    have q3 : ((n / 2 : Nat) : Int) < 16 := by omega
    have q4 : n % 2 < 2 := by omega
    rw [show (4 * (n : Int)).toNat = 4 * n from by omega, show (4 * (n : Int) + 1).toNat = 4 * n + 1 from by omega, show (4 * (n : Int) + 2).toNat = 4 * n + 2 from by omega, show (4 * (n : Int) + 3).toNat = 4 * n + 3 from by omega] at HF
    have hb0 := btI_01 a.b (4 * n)
    have hb1 := btI_01 a.b (4 * n + 1)
    have hb2 := btI_01 a.b (4 * n + 2)
    have hb3 := btI_01 a.b (4 * n + 3)
    generalize btI a.b (4 * n) = y0 at *
    generalize btI a.b (4 * n + 1) = y1 at *
    generalize btI a.b (4 * n + 2) = y2 at *
    generalize btI a.b (4 * n + 3) = y3 at *
    obtain ⟨y, hy⟩ : ∃ y, 8 * y0 + 4 * y1 + 2 * y2 + y3 = y := ⟨_, rfl⟩
    have hy15 : 0 ≤ y ∧ y ≤ 15 := by omega
    rw [hy] at hbit HF
    generalize hq : n / 2 = q at *
    generalize hr : n % 2 = r at *
    have hz : decide ((4 : Int) - (r : Int) * 4 < 0) = false := by simp; omega
    generalize a.b.at q = x at *
    clear hq hr h1 LC hw hn hv hy hb0 hb1 hb2 hb3
    go_enter Tryd.func11, Tryd.ntmps11
    go_wp2_with (first | (go_at_call 24; refine (HPL _ (by assumption)).mono ?_; rintro e w2 ⟨rfl, hb2⟩; have hk2 : Below W1.heap.size W1 w2 := bel_trans (by assumption) hb2; clear hb2) | (refine wp_region_lin (fun w' => Below W1.heap.size W1 w') (by kernel_rfl) (by kernel_rfl) (bel_drew (by assumption)) ?_; (repeat (first | (refine lin_off (by rfl) ?_; (try simp only [Act.put, List.setIfInBounds_toArray, List.set_cons_zero, List.set_cons_succ])) | (refine lin_op (v := ?_) (by rfl) (fun w9 hS9 => ?_) ?_; rotate_left; (focus (((try dsimp only at hS9); go_simp; (try go_bits)) <;> with_reducible rfl)); (try simp only [Act.put, List.setIfInBounds_toArray, List.set_cons_zero, List.set_cons_succ])) | (refine lin_fn (f := 24) (by rfl) rfl rfl (enters_of Tryd.func24 (by kernel_rfl) rfl) (fun w9 hS9 => (HPL w9 hS9).mono (fun e w' h => ⟨h.1, bel_trans hS9 h.2⟩)) ?_ ?_; (focus (simp [Act.eval]; done)); (try simp only [Act.put, List.setIfInBounds_toArray, List.set_cons_zero, List.set_cons_succ])))); refine lin_nil (fun w8 hS8 => ?_)))
    all_goals go_ret
    all_goals exact ⟨by rw [HF.out]; rfl, bel_trans HB.out (by assumption)⟩
  · rw [decide_eq_false h1] at HPL
    have HF := Lib.hid (show nibW a i = 0 by
      unfold nibW
      by_cases h2 : 0 ≤ i ∧ i ≤ 31
      · rw [if_pos h2]
        have h3 : ¬ (okA a ∧ i < ((wid a.v / 4 : Nat) : Int)) := fun h => h1 ⟨h.1, h2.1, h.2⟩
        have h4 : ∀ k, 0 ≤ k → k < 4 → bitV a (4 * i + k) = 0 := fun k hk0 hk => by
          unfold bitV
          refine if_neg (fun h => h3 ⟨h.1, ?_⟩)
          have := h.2.2
          omega
        have e0 := h4 0 (by omega) (by omega)
        rw [Int.add_zero] at e0
        unfold nibV
        rw [e0, h4 1 (by omega) (by omega), h4 2 (by omega) (by omega), h4 3 (by omega) (by omega)]
        omega
      · rw [if_neg h2])
    clear h1 LC hw hv
    go_enter Tryd.func11, Tryd.ntmps11
    go_wp2_with (first | (go_at_call 24; refine (HPL _ (by assumption)).mono ?_; rintro e w2 ⟨rfl, hb2⟩; have hk2 : Below W1.heap.size W1 w2 := bel_trans (by assumption) hb2; clear hb2) | (refine wp_region_lin (fun w' => Below W1.heap.size W1 w') (by kernel_rfl) (by kernel_rfl) (bel_drew (by assumption)) ?_; (repeat (first | (refine lin_off (by rfl) ?_; (try simp only [Act.put, List.setIfInBounds_toArray, List.set_cons_zero, List.set_cons_succ])) | (refine lin_op (v := ?_) (by rfl) (fun w9 hS9 => ?_) ?_; rotate_left; (focus (((try dsimp only at hS9); go_simp; (try go_bits)) <;> with_reducible rfl)); (try simp only [Act.put, List.setIfInBounds_toArray, List.set_cons_zero, List.set_cons_succ])) | (refine lin_fn (f := 24) (by rfl) rfl rfl (enters_of Tryd.func24 (by kernel_rfl) rfl) (fun w9 hS9 => (HPL w9 hS9).mono (fun e w' h => ⟨h.1, bel_trans hS9 h.2⟩)) ?_ ?_; (focus (simp [Act.eval]; done)); (try simp only [Act.put, List.setIfInBounds_toArray, List.set_cons_zero, List.set_cons_succ])))); refine lin_nil (fun w8 hS8 => ?_)))
    all_goals go_ret
    all_goals exact ⟨by rw [HF.out]; rfl, bel_trans HB.out (by assumption)⟩

end Go.Proofs.YtobnjpdanpjhjaaDoor
