/-
  The contracts of prefix.Has, Holds, Of and of the reference's. Nothing here is a statement of the document.
-/
import Derived.Test.YtclkfmblogkakaaDoorPfxB
import Derived.Test.YtclkfmblogkakaaDoorLinX
namespace Go.Proofs.YtclkfmblogkakaaDoor
open Go.RowKit Go.Shelf
set_option linter.unusedVariables false
/-- What lies in a block is loaded from it in every later world. -/
theorem Blk.later {w w' : World} {g : Nat} {t : TypeId} {cs : Array Value} (h : Blk w g t cs) (k : Below w.heap.size w w') : Blk w' g t cs := h.kept (Kept.of_below [] k) (by simp)
theorem ad_a {W : World} {g : Nat} {a : Ad} (h : Blk W g 63 a.cs) : ∀ w', Below W.heap.size W w' → (loadSem 63 (.pointer (some ⟨g, 0, none⟩))).run Tryd.prog w' = .ok (.agg a.cs) w' :=
  fun w' k => loadRes_of (o := 0) (h.later k) (fun q _ => by rw [Nat.zero_add]) _ Tryd.underlying63 rfl (s_ad a)
theorem ad_b {W : World} {g : Nat} {a : Ad} (h : Blk W g 63 a.cs) : ∀ w', Below W.heap.size W w' → (loadSem 61 (.pointer (some ⟨g, 1, none⟩))).run Tryd.prog w' = .ok (.agg a.b.cs) w' :=
  fun w' k => loadRes_of (o := 1) (h.later k) (fun q _ => a.c1 q) _ Tryd.underlying61 rfl (s_b16 a.b)
theorem ad_v {W : World} {g : Nat} {a : Ad} (h : Blk W g 63 a.cs) : ∀ w', Below W.heap.size W w' → w'.cell? ⟨g, 0, none⟩ = some (.int .i64 a.v) :=
  fun w' k => ((h.later k).cell 0).trans a.c0
theorem px_p {W : World} {g : Nat} {p : Px} (h : Blk W g 65 p.cs) : ∀ w', Below W.heap.size W w' → (loadSem 65 (.pointer (some ⟨g, 0, none⟩))).run Tryd.prog w' = .ok (.agg p.cs) w' :=
  fun w' k => loadRes_of (o := 0) (h.later k) (fun q _ => by rw [Nat.zero_add]) _ Tryd.underlying65 rfl (s_px p)
theorem px_a {W : World} {g : Nat} {p : Px} (h : Blk W g 65 p.cs) : ∀ w', Below W.heap.size W w' → (loadSem 63 (.pointer (some ⟨g, 0, none⟩))).run Tryd.prog w' = .ok (.agg p.a.cs) w' :=
  fun w' k => loadRes_of (o := 0) (h.later k) (fun q hq => by rw [Nat.zero_add]; exact p.ca q (by rw [Ad.size] at hq; exact hq)) _ Tryd.underlying63 rfl (s_ad p.a)
theorem px_b {W : World} {g : Nat} {p : Px} (h : Blk W g 65 p.cs) : ∀ w', Below W.heap.size W w' → (loadSem 61 (.pointer (some ⟨g, 1, none⟩))).run Tryd.prog w' = .ok (.agg p.a.b.cs) w' :=
  fun w' k => loadRes_of (o := 1) (h.later k) (fun q hq => p.cb q (by rw [B16.size] at hq; exact hq)) _ Tryd.underlying61 rfl (s_b16 p.a.b)
theorem px_v {W : World} {g : Nat} {p : Px} (h : Blk W g 65 p.cs) : ∀ w', Below W.heap.size W w' → w'.cell? ⟨g, 0, none⟩ = some (.int .i64 p.a.v) :=
  fun w' k => ((h.later k).cell 0).trans ((p.ca 0 (by omega)).trans p.a.c0)
theorem px_n {W : World} {g : Nat} {p : Px} (h : Blk W g 65 p.cs) : ∀ w', Below W.heap.size W w' → w'.cell? ⟨g, 17, none⟩ = some (.int .i64 p.n) :=
  fun w' k => ((h.later k).cell 17).trans p.cn
theorem bel_drew_all (W : World) : ∀ w', Below W.heap.size W w' → Below W.heap.size W w'.drew := fun w' h => bel_drew h

attribute [local go_sem ↓] load_b16_rule store_b16_rule load_ad_rule store_ad_rule load_px_rule store_px_rule eq_b16_rule eq_ad_rule eq_px_rule

set_option maxRecDepth 100000 in
set_option maxHeartbeats 1600000 in
theorem checkaddr_any (a : Ad) (w : World) (hW : Wid w) : Calls Tryd.prog 77 #[.agg a.cs] w fun e w' => e = .returned (.int .i64 (eA a)) ∧ Below w.heap.size w w' := by
  obtain ⟨W1, hW1⟩ : ∃ W1, w.alloc (.cells a.cs 63) = W1 := ⟨_, rfl⟩
  have hb1 : Below w.heap.size w W1 := by rw [← hW1]; exact (Below.refl _ _).alloc (Nat.le_refl _) _
  have b1 : Blk W1 w.heap.size 63 a.cs := by rw [← hW1]; exact Blk.new w _ _
  have LA := ad_a b1
  have LB := ad_b b1
  have LV := ad_v b1
  have HW : ∀ w', Below W1.heap.size W1 w' → Wid w' := fun w' h => (hW.later hb1).later h
  have h0 : Below W1.heap.size W1 W1 := Below.refl _ _
  have HB := Lib.hid hb1
  clear hb1 b1
  have hw := wid_le a.v
  have HWD := fun w' h => width_b a.v w' (HW w' h)
  by_cases h1 : wid a.v = 0
  · have HE := Lib.hid (eA_no (fun h => h.1 h1) : eA a = 150)
    rw [h1] at HWD
    clear hw h1
    go_enter Tryd.func77, Tryd.ntmps77
    go_wp2_with (first | (go_at_call 79; refine (HWD _ (by assumption)).mono ?_; rintro e w2 ⟨rfl, hb2⟩; have hk2 : Below W1.heap.size W1 w2 := bel_trans (by assumption) hb2; clear hb2) | (refine wp_region_lin (fun w' => Below W1.heap.size W1 w') (by kernel_rfl) (by kernel_rfl) (bel_drew (by assumption)) ?_; (repeat (first | (refine lin_off (by rfl) ?_; (try simp only [Act.put, List.setIfInBounds_toArray, List.set_cons_zero, List.set_cons_succ])) | (refine lin_op (v := ?_) (by rfl) (fun w9 hS9 => ?_) ?_; rotate_left; (focus (((try dsimp only at hS9); go_simp; (try go_bits)) <;> with_reducible rfl)); (try simp only [Act.put, List.setIfInBounds_toArray, List.set_cons_zero, List.set_cons_succ])) | (refine lin_fn (f := 79) (by rfl) rfl rfl (enters_of Tryd.func79 (by kernel_rfl) rfl) (fun w9 hS9 => (HWD w9 hS9).mono (fun e w' h => ⟨h.1, bel_trans hS9 h.2⟩)) ?_ ?_; (focus (simp [Act.eval]; done)); (try simp only [Act.put, List.setIfInBounds_toArray, List.set_cons_zero, List.set_cons_succ])))); refine lin_nil (fun w8 hS8 => ?_)))
    go_ret
    exact ⟨by rw [HE.out]; rfl, bel_trans HB.out (by assumption)⟩
  · have d1 : (((wid a.v : Nat) : Int) == 0) = false := by simp; exact h1
    have EQ := eqB (keptB a.b (wid a.v)) a.b
    obtain ⟨q, hq⟩ : ∃ q, decide (keptB a.b (wid a.v) = a.b) = q := ⟨_, rfl⟩
    rw [hq] at EQ
    have HE := Lib.hid (show eA a = if q = true then 0 else 150 by
      rw [← hq]
      by_cases h2 : keptB a.b (wid a.v) = a.b
      · rw [eA_ok ⟨h1, (kept_iff _ _).1 h2⟩]; simp [h2]
      · rw [eA_no (fun h => h2 ((kept_iff _ _).2 h.2))]; simp [h2])
    have hkp := kept_any a.b (wid a.v) (by omega)
    generalize wid a.v = n at *
    generalize keptB a.b n = kb at *
    clear hq h1
    go_enter Tryd.func77, Tryd.ntmps77
    go_wp2_with (first | (go_at_call 79; refine (HWD _ (by assumption)).mono ?_; rintro e w2 ⟨rfl, hb2⟩; have hk2 : Below W1.heap.size W1 w2 := bel_trans (by assumption) hb2; clear hb2) | (go_at_call 80; refine (hkp _).mono ?_; rintro e w2 ⟨rfl, hb2⟩; have hk2 : Below W1.heap.size W1 w2 := bel_trans (by assumption) hb2; clear hb2) | (refine wp_region_lin (fun w' => Below W1.heap.size W1 w') (by kernel_rfl) (by kernel_rfl) (bel_drew (by assumption)) ?_; (repeat (first | (refine lin_off (by rfl) ?_; (try simp only [Act.put, List.setIfInBounds_toArray, List.set_cons_zero, List.set_cons_succ])) | (refine lin_op (v := ?_) (by rfl) (fun w9 hS9 => ?_) ?_; rotate_left; (focus (((try dsimp only at hS9); go_simp; (try go_bits)) <;> with_reducible rfl)); (try simp only [Act.put, List.setIfInBounds_toArray, List.set_cons_zero, List.set_cons_succ])) | (refine lin_fn (f := 79) (by rfl) rfl rfl (enters_of Tryd.func79 (by kernel_rfl) rfl) (fun w9 hS9 => (HWD w9 hS9).mono (fun e w' h => ⟨h.1, bel_trans hS9 h.2⟩)) ?_ ?_; (focus (simp [Act.eval]; done)); (try simp only [Act.put, List.setIfInBounds_toArray, List.set_cons_zero, List.set_cons_succ])) | (refine lin_fn (f := 80) (by rfl) rfl rfl (enters_of Tryd.func80 (by kernel_rfl) rfl) (fun w9 hS9 => (hkp w9).mono (fun e w' h => ⟨h.1, bel_trans hS9 h.2⟩)) ?_ ?_; (focus (simp [Act.eval]; done)); (try simp only [Act.put, List.setIfInBounds_toArray, List.set_cons_zero, List.set_cons_succ])))); refine lin_nil (fun w8 hS8 => ?_)))
    all_goals go_ret
    all_goals exact ⟨by rw [HE.out]; cases q <;> simp_all, bel_trans HB.out (by assumption)⟩

set_option maxRecDepth 100000 in
set_option maxHeartbeats 1600000 in
theorem check_any (p : Px) (w : World) (hW : Wid w) : Calls Tryd.prog 59 #[.agg p.cs] w fun e w' => e = .returned (.int .i64 (eP p)) ∧ Below w.heap.size w w' := by
  obtain ⟨W1, hW1⟩ : ∃ W1, w.alloc (.cells p.cs 65) = W1 := ⟨_, rfl⟩
  have hb1 : Below w.heap.size w W1 := by rw [← hW1]; exact (Below.refl _ _).alloc (Nat.le_refl _) _
  have b1 : Blk W1 w.heap.size 65 p.cs := by rw [← hW1]; exact Blk.new w _ _
  have LP := px_p b1
  have LA := px_a b1
  have LB := px_b b1
  have LV := px_v b1
  have LN := px_n b1
  have HW : ∀ w', Below W1.heap.size W1 w' → Wid w' := fun w' h => (hW.later hb1).later h
  have h0 : Below W1.heap.size W1 W1 := Below.refl _ _
  have HB := Lib.hid hb1
  clear hb1 b1
  have hw := wid_le p.a.v
  have HWD := fun w' h => width_b p.a.v w' (HW w' h)
  have HCA := fun w' h => checkaddr_any p.a w' (HW w' h)
  by_cases h1 : okA p.a
  · rw [eA_ok h1] at HCA
    by_cases h2 : 0 ≤ p.n ∧ p.n ≤ (wid p.a.v : Int)
    · have HWI := within_b p.n ((wid p.a.v : Nat) : Int)
      rw [decide_eq_true h2] at HWI
      have EQ := eqB (keptB p.a.b p.n.toNat) p.a.b
      obtain ⟨q, hq⟩ : ∃ q, decide (keptB p.a.b p.n.toNat = p.a.b) = q := ⟨_, rfl⟩
      rw [hq] at EQ
      have HE := Lib.hid (show eP p = if q = true then 0 else 151 by
        rw [← hq]
        by_cases h3 : keptB p.a.b p.n.toNat = p.a.b
        · rw [eP_ok ⟨h1, h2.1, h2.2, (kept_iff _ _).1 h3⟩]; simp [h3]
        · rw [eP_no (fun h => h3 ((kept_iff _ _).2 h.2.2.2))]; simp [h3])
      have hkp := keptp_any p.a.b p.n h2.1 (by omega)
      generalize wid p.a.v = n at *
      generalize keptB p.a.b p.n.toNat = kb at *
      generalize p.n = pn at *
      clear hq h1 h2
      go_enter Tryd.func59, Tryd.ntmps59
      go_wp2_with (first | (go_at_call 77; refine (HCA _ (by assumption)).mono ?_; rintro e w2 ⟨rfl, hb2⟩; have hk2 : Below W1.heap.size W1 w2 := bel_trans (by assumption) hb2; clear hb2) | (go_at_call 79; refine (HWD _ (by assumption)).mono ?_; rintro e w2 ⟨rfl, hb2⟩; have hk2 : Below W1.heap.size W1 w2 := bel_trans (by assumption) hb2; clear hb2) | (go_at_call 78; refine (HWI _).mono ?_; rintro e w2 ⟨rfl, hb2⟩; have hk2 : Below W1.heap.size W1 w2 := bel_trans (by assumption) hb2; clear hb2) | (go_at_call 80; refine (hkp _).mono ?_; rintro e w2 ⟨rfl, hb2⟩; have hk2 : Below W1.heap.size W1 w2 := bel_trans (by assumption) hb2; clear hb2) | (refine wp_region_lin (fun w' => Below W1.heap.size W1 w') (by kernel_rfl) (by kernel_rfl) (bel_drew (by assumption)) ?_; (repeat (first | (refine lin_off (by rfl) ?_; (try simp only [Act.put, List.setIfInBounds_toArray, List.set_cons_zero, List.set_cons_succ])) | (refine lin_op (v := ?_) (by rfl) (fun w9 hS9 => ?_) ?_; rotate_left; (focus (((try dsimp only at hS9); go_simp; (try go_bits)) <;> with_reducible rfl)); (try simp only [Act.put, List.setIfInBounds_toArray, List.set_cons_zero, List.set_cons_succ])) | (refine lin_fn (f := 77) (by rfl) rfl rfl (enters_of Tryd.func77 (by kernel_rfl) rfl) (fun w9 hS9 => (HCA w9 hS9).mono (fun e w' h => ⟨h.1, bel_trans hS9 h.2⟩)) ?_ ?_; (focus (simp [Act.eval]; done)); (try simp only [Act.put, List.setIfInBounds_toArray, List.set_cons_zero, List.set_cons_succ])) | (refine lin_fn (f := 79) (by rfl) rfl rfl (enters_of Tryd.func79 (by kernel_rfl) rfl) (fun w9 hS9 => (HWD w9 hS9).mono (fun e w' h => ⟨h.1, bel_trans hS9 h.2⟩)) ?_ ?_; (focus (simp [Act.eval]; done)); (try simp only [Act.put, List.setIfInBounds_toArray, List.set_cons_zero, List.set_cons_succ])) | (refine lin_fn (f := 78) (by rfl) rfl rfl (enters_of Tryd.func78 (by kernel_rfl) rfl) (fun w9 hS9 => (HWI w9).mono (fun e w' h => ⟨h.1, bel_trans hS9 h.2⟩)) ?_ ?_; (focus (simp [Act.eval]; done)); (try simp only [Act.put, List.setIfInBounds_toArray, List.set_cons_zero, List.set_cons_succ])) | (refine lin_fn (f := 80) (by rfl) rfl rfl (enters_of Tryd.func80 (by kernel_rfl) rfl) (fun w9 hS9 => (hkp w9).mono (fun e w' h => ⟨h.1, bel_trans hS9 h.2⟩)) ?_ ?_; (focus (simp [Act.eval]; done)); (try simp only [Act.put, List.setIfInBounds_toArray, List.set_cons_zero, List.set_cons_succ])))); refine lin_nil (fun w8 hS8 => ?_)))
      all_goals go_ret
      all_goals exact ⟨by rw [HE.out]; cases q <;> simp_all, bel_trans HB.out (by assumption)⟩
    · have HWI := within_b p.n ((wid p.a.v : Nat) : Int)
      rw [decide_eq_false h2] at HWI
      have HE := Lib.hid (eP_no (fun h => h2 ⟨h.2.1, h.2.2.1⟩) : eP p = 151)
      generalize wid p.a.v = n at *
      generalize p.n = pn at *
      clear h1 h2
      go_enter Tryd.func59, Tryd.ntmps59
      go_wp2_with (first | (go_at_call 77; refine (HCA _ (by assumption)).mono ?_; rintro e w2 ⟨rfl, hb2⟩; have hk2 : Below W1.heap.size W1 w2 := bel_trans (by assumption) hb2; clear hb2) | (go_at_call 79; refine (HWD _ (by assumption)).mono ?_; rintro e w2 ⟨rfl, hb2⟩; have hk2 : Below W1.heap.size W1 w2 := bel_trans (by assumption) hb2; clear hb2) | (go_at_call 78; refine (HWI _).mono ?_; rintro e w2 ⟨rfl, hb2⟩; have hk2 : Below W1.heap.size W1 w2 := bel_trans (by assumption) hb2; clear hb2) | (refine wp_region_lin (fun w' => Below W1.heap.size W1 w') (by kernel_rfl) (by kernel_rfl) (bel_drew (by assumption)) ?_; (repeat (first | (refine lin_off (by rfl) ?_; (try simp only [Act.put, List.setIfInBounds_toArray, List.set_cons_zero, List.set_cons_succ])) | (refine lin_op (v := ?_) (by rfl) (fun w9 hS9 => ?_) ?_; rotate_left; (focus (((try dsimp only at hS9); go_simp; (try go_bits)) <;> with_reducible rfl)); (try simp only [Act.put, List.setIfInBounds_toArray, List.set_cons_zero, List.set_cons_succ])) | (refine lin_fn (f := 77) (by rfl) rfl rfl (enters_of Tryd.func77 (by kernel_rfl) rfl) (fun w9 hS9 => (HCA w9 hS9).mono (fun e w' h => ⟨h.1, bel_trans hS9 h.2⟩)) ?_ ?_; (focus (simp [Act.eval]; done)); (try simp only [Act.put, List.setIfInBounds_toArray, List.set_cons_zero, List.set_cons_succ])) | (refine lin_fn (f := 79) (by rfl) rfl rfl (enters_of Tryd.func79 (by kernel_rfl) rfl) (fun w9 hS9 => (HWD w9 hS9).mono (fun e w' h => ⟨h.1, bel_trans hS9 h.2⟩)) ?_ ?_; (focus (simp [Act.eval]; done)); (try simp only [Act.put, List.setIfInBounds_toArray, List.set_cons_zero, List.set_cons_succ])) | (refine lin_fn (f := 78) (by rfl) rfl rfl (enters_of Tryd.func78 (by kernel_rfl) rfl) (fun w9 hS9 => (HWI w9).mono (fun e w' h => ⟨h.1, bel_trans hS9 h.2⟩)) ?_ ?_; (focus (simp [Act.eval]; done)); (try simp only [Act.put, List.setIfInBounds_toArray, List.set_cons_zero, List.set_cons_succ])))); refine lin_nil (fun w8 hS8 => ?_)))
      all_goals go_ret
      all_goals exact ⟨by rw [HE.out]; rfl, bel_trans HB.out (by assumption)⟩
  · rw [eA_no h1] at HCA
    have HE := Lib.hid (eP_no (fun h => h1 h.1) : eP p = 151)
    clear h1
    go_enter Tryd.func59, Tryd.ntmps59
    go_wp2_with (first | (go_at_call 77; refine (HCA _ (by assumption)).mono ?_; rintro e w2 ⟨rfl, hb2⟩; have hk2 : Below W1.heap.size W1 w2 := bel_trans (by assumption) hb2; clear hb2) | (refine wp_region_lin (fun w' => Below W1.heap.size W1 w') (by kernel_rfl) (by kernel_rfl) (bel_drew (by assumption)) ?_; (repeat (first | (refine lin_off (by rfl) ?_; (try simp only [Act.put, List.setIfInBounds_toArray, List.set_cons_zero, List.set_cons_succ])) | (refine lin_op (v := ?_) (by rfl) (fun w9 hS9 => ?_) ?_; rotate_left; (focus (((try dsimp only at hS9); go_simp; (try go_bits)) <;> with_reducible rfl)); (try simp only [Act.put, List.setIfInBounds_toArray, List.set_cons_zero, List.set_cons_succ])) | (refine lin_fn (f := 77) (by rfl) rfl rfl (enters_of Tryd.func77 (by kernel_rfl) rfl) (fun w9 hS9 => (HCA w9 hS9).mono (fun e w' h => ⟨h.1, bel_trans hS9 h.2⟩)) ?_ ?_; (focus (simp [Act.eval]; done)); (try simp only [Act.put, List.setIfInBounds_toArray, List.set_cons_zero, List.set_cons_succ])))); refine lin_nil (fun w8 hS8 => ?_)))
    all_goals go_ret
    all_goals exact ⟨by rw [HE.out]; rfl, bel_trans HB.out (by assumption)⟩

end Go.Proofs.YtclkfmblogkakaaDoor
namespace Go.Proofs.YtclkfmblogkakaaDoor
open Go.RowKit Go.Shelf
set_option linter.unusedVariables false
attribute [local go_sem ↓] load_b16_rule store_b16_rule load_ad_rule store_ad_rule load_px_rule store_px_rule eq_b16_rule eq_ad_rule eq_px_rule

theorem btI_on {b : B16} {i : Nat} (h : bt b i = true) : btI b i = 1 := by unfold btI; rw [h]; rfl
theorem btI_off {b : B16} {i : Nat} (h : bt b i = false) : btI b i = 0 := by unfold btI; rw [h]; rfl
theorem clear_not {b : B16} {n m : Nat} (h1 : n ≤ m) (h2 : m < 128) (h : bt b m = true) : ¬ clear b n := fun hc => by
  have := hc m h1 h2
  rw [h] at this
  cases this

set_option maxRecDepth 100000 in
set_option maxHeartbeats 1600000 in
theorem refrightaddr_any (a : Ad) (w : World) : Calls Tryd.prog 96 #[.agg a.cs] w fun e w' => e = .returned (.bool (decide (okA a))) ∧ Below w.heap.size w w' := by
  obtain ⟨W1, hW1⟩ : ∃ W1, w.alloc (.cells a.cs 63) = W1 := ⟨_, rfl⟩
  have hb1 : Below w.heap.size w W1 := by rw [← hW1]; exact ((Below.refl w.heap.size w).alloc (Nat.le_refl _) _)
  have b1 : Blk W1 (w.heap.size) 63 a.cs := by
    have h9 := Blk.new w 63 a.cs
    rw [← hW1]; exact h9
  have LA := ad_a b1
  have LB := ad_b b1
  have LV := ad_v b1
  have h0 : Below W1.heap.size W1 W1 := Below.refl _ _
  have HB := Lib.hid hb1
  clear hb1 b1
  have hw := wid_le a.v
  have HWD := refwidth_b a.v
  have HOK := Lib.hid (show okA a ↔ wid a.v ≠ 0 ∧ clear a.b (wid a.v) from Iff.rfl)
  generalize wid a.v = n at *
  go_enter Tryd.func96, Tryd.ntmps96
  go_wp2_with (first | (go_at_call 97; refine (HWD _).mono ?_; rintro e w2 ⟨rfl, hb2⟩; have hk2 : Below W1.heap.size W1 w2 := bel_trans (by assumption) hb2; clear hb2) | (refine wp_region_lin (fun w' => Below W1.heap.size W1 w') (by kernel_rfl) (by kernel_rfl) (bel_drew (by assumption)) ?_; (repeat (first | (refine lin_off (by rfl) ?_; (try simp only [Act.put, List.setIfInBounds_toArray, List.set_cons_zero, List.set_cons_succ])) | (refine lin_op (v := ?_) (by rfl) (fun w9 hS9 => ?_) ?_; rotate_left; (focus (((try dsimp only at hS9); go_simp; (try go_bits)) <;> with_reducible rfl)); (try simp only [Act.put, List.setIfInBounds_toArray, List.set_cons_zero, List.set_cons_succ])) | (refine lin_fn (f := 97) (by rfl) rfl rfl (enters_of Tryd.func97 (by kernel_rfl) rfl) (fun w9 hS9 => (HWD w9).mono (fun e w' h => ⟨h.1, bel_trans hS9 h.2⟩)) ?_ ?_; (focus (simp [Act.eval]; done)); (try simp only [Act.put, List.setIfInBounds_toArray, List.set_cons_zero, List.set_cons_succ])))); refine lin_nil (fun w8 hS8 => ?_)))
  go_loopw [4] (fun i wr => ∃ m : Nat, n ≤ m ∧ m ≤ 128 ∧ i = .int .i64 m ∧ (∀ j, n ≤ j → j < m → bt a.b j = false) ∧ Below W1.heap.size W1 wr) (fun i _ => 128 - (intOf i).toNat)
  case atStart => exact ⟨n, Nat.le_refl _, hw, rfl, fun j h1 h2 => by omega, by assumption⟩
  case round =>
    obtain ⟨m, hnm, hm, rfl, hcl, hk⟩ := hrel
    by_cases hlt : m < 128
    · have hat := at_any a.b m hlt
      cases hbm : bt a.b m with
      | true =>
        rw [btI_on hbm] at hat
        have HF := Lib.hid (show okA a → False from fun h => clear_not hnm hlt hbm (HOK.out.1 h).2)
        clear hcl
        go_wp2_with (first | (go_at_call 98; refine (hat _).mono ?_; rintro e w2 ⟨rfl, hb2⟩; have hk2 : Below W1.heap.size W1 w2 := bel_trans (by assumption) hb2; clear hb2) | (refine wp_region_lin (fun w' => Below W1.heap.size W1 w') (by kernel_rfl) (by kernel_rfl) (bel_drew (by assumption)) ?_; (repeat (first | (refine lin_off (by rfl) ?_; (try simp only [Act.put, List.setIfInBounds_toArray, List.set_cons_zero, List.set_cons_succ])) | (refine lin_op (v := ?_) (by rfl) (fun w9 hS9 => ?_) ?_; rotate_left; (focus (((try dsimp only at hS9); go_simp; (try go_bits)) <;> with_reducible rfl)); (try simp only [Act.put, List.setIfInBounds_toArray, List.set_cons_zero, List.set_cons_succ])) | (refine lin_fn (f := 98) (by rfl) rfl rfl (enters_of Tryd.func98 (by kernel_rfl) rfl) (fun w9 hS9 => (hat w9).mono (fun e w' h => ⟨h.1, bel_trans hS9 h.2⟩)) ?_ ?_; (focus (simp [Act.eval]; done)); (try simp only [Act.put, List.setIfInBounds_toArray, List.set_cons_zero, List.set_cons_succ])))); refine lin_nil (fun w8 hS8 => ?_)))
        go_ret
        exact ⟨by rw [decide_eq_false HF.out]; rfl, bel_trans HB.out (by assumption)⟩
      | false =>
        rw [btI_off hbm] at hat
        have HC := Lib.hid (show ∀ j, n ≤ j → j < m + 1 → bt a.b j = false from fun j h1 h2 => by
          by_cases h3 : j = m
          · rw [h3]; exact hbm
          · exact hcl j h1 (by omega))
        clear hcl
        go_wp2_with (first | (go_at_call 98; refine (hat _).mono ?_; rintro e w2 ⟨rfl, hb2⟩; have hk2 : Below W1.heap.size W1 w2 := bel_trans (by assumption) hb2; clear hb2) | (refine wp_region_lin (fun w' => Below W1.heap.size W1 w') (by kernel_rfl) (by kernel_rfl) (bel_drew (by assumption)) ?_; (repeat (first | (refine lin_off (by rfl) ?_; (try simp only [Act.put, List.setIfInBounds_toArray, List.set_cons_zero, List.set_cons_succ])) | (refine lin_op (v := ?_) (by rfl) (fun w9 hS9 => ?_) ?_; rotate_left; (focus (((try dsimp only at hS9); go_simp; (try go_bits)) <;> with_reducible rfl)); (try simp only [Act.put, List.setIfInBounds_toArray, List.set_cons_zero, List.set_cons_succ])) | (refine lin_fn (f := 98) (by rfl) rfl rfl (enters_of Tryd.func98 (by kernel_rfl) rfl) (fun w9 hS9 => (hat w9).mono (fun e w' h => ⟨h.1, bel_trans hS9 h.2⟩)) ?_ ?_; (focus (simp [Act.eval]; done)); (try simp only [Act.put, List.setIfInBounds_toArray, List.set_cons_zero, List.set_cons_succ])))); refine lin_nil (fun w8 hS8 => ?_)))
        go_roundw
        case rel => exact ⟨m + 1, by omega, by omega, by go_num, HC.out, by assumption⟩
        case measure => simp [intOf]; omega
    · obtain rfl : m = 128 := by omega
      have HC := Lib.hid (show clear a.b n from hcl)
      clear hcl
      by_cases h0n : n = 0
      · have d1 : decide (0 < n) = false := by simp; omega
        have HF := Lib.hid (show ¬ okA a from fun h => (HOK.out.1 h).1 h0n)
        clear h0n
        go_wp2
        go_ret
        exact ⟨by rw [decide_eq_false HF.out]; rfl, bel_trans HB.out (by assumption)⟩
      · have d1 : decide (0 < n) = true := by simp; omega
        have HF := Lib.hid (show okA a from HOK.out.2 ⟨h0n, HC.out⟩)
        clear h0n
        go_wp2
        go_ret
        exact ⟨by rw [decide_eq_true HF.out]; rfl, bel_trans HB.out (by assumption)⟩

set_option maxRecDepth 100000 in
set_option maxHeartbeats 1600000 in
theorem refright_any (p : Px) (w : World) : Calls Tryd.prog 72 #[.agg p.cs] w fun e w' => e = .returned (.bool (decide (okP p))) ∧ Below w.heap.size w w' := by
  obtain ⟨W1, hW1⟩ : ∃ W1, w.alloc (.cells p.cs 65) = W1 := ⟨_, rfl⟩
  have hb1 : Below w.heap.size w W1 := by rw [← hW1]; exact ((Below.refl w.heap.size w).alloc (Nat.le_refl _) _)
  have b1 : Blk W1 (w.heap.size) 65 p.cs := by
    have h9 := Blk.new w 65 p.cs
    rw [← hW1]; exact h9
  have LP := px_p b1
  have LA := px_a b1
  have LB := px_b b1
  have LV := px_v b1
  have LN := px_n b1
  have h0 : Below W1.heap.size W1 W1 := Below.refl _ _
  have HB := Lib.hid hb1
  clear hb1 b1
  have hw := wid_le p.a.v
  have HWD := refwidth_b p.a.v
  have HRA := refrightaddr_any p.a
  have HOK := Lib.hid (show okP p ↔ okA p.a ∧ 0 ≤ p.n ∧ p.n ≤ (wid p.a.v : Int) ∧ clear p.a.b p.n.toNat from Iff.rfl)
  by_cases h1 : okA p.a
  · rw [decide_eq_true h1] at HRA
    by_cases h2 : p.n < 0
    · have d1 : decide (p.n < 0) = true := by simpa using h2
      have HF := Lib.hid (show ¬ okP p from fun h => by have := (HOK.out.1 h).2.1; omega)
      clear h1 h2
      go_enter Tryd.func72, Tryd.ntmps72
      go_wp2_with (first | (go_at_call 96; refine (HRA _).mono ?_; rintro e w2 ⟨rfl, hb2⟩; have hk2 : Below W1.heap.size W1 w2 := bel_trans (by assumption) hb2; clear hb2) | (refine wp_region_lin (fun w' => Below W1.heap.size W1 w') (by kernel_rfl) (by kernel_rfl) (bel_drew (by assumption)) ?_; (repeat (first | (refine lin_off (by rfl) ?_; (try simp only [Act.put, List.setIfInBounds_toArray, List.set_cons_zero, List.set_cons_succ])) | (refine lin_op (v := ?_) (by rfl) (fun w9 hS9 => ?_) ?_; rotate_left; (focus (((try dsimp only at hS9); go_simp; (try go_bits)) <;> with_reducible rfl)); (try simp only [Act.put, List.setIfInBounds_toArray, List.set_cons_zero, List.set_cons_succ])) | (refine lin_fn (f := 96) (by rfl) rfl rfl (enters_of Tryd.func96 (by kernel_rfl) rfl) (fun w9 hS9 => (HRA w9).mono (fun e w' h => ⟨h.1, bel_trans hS9 h.2⟩)) ?_ ?_; (focus (simp [Act.eval]; done)); (try simp only [Act.put, List.setIfInBounds_toArray, List.set_cons_zero, List.set_cons_succ])))); refine lin_nil (fun w8 hS8 => ?_)))
      all_goals go_ret
      all_goals exact ⟨by rw [decide_eq_false HF.out]; rfl, bel_trans HB.out (by assumption)⟩
    · have d1 : decide (p.n < 0) = false := by simpa using h2
      obtain ⟨n, hn⟩ := Int.eq_ofNat_of_zero_le (by omega : 0 ≤ p.n)
      rw [hn] at d1 LN HOK
      by_cases h3 : n ≤ wid p.a.v
      · have d2 : decide (wid p.a.v < n) = false := by simp; omega
        have HOK2 := Lib.hid (show okP p ↔ clear p.a.b n from ⟨fun h => by have := (HOK.out.1 h).2.2.2; simpa using this, fun h => HOK.out.2 ⟨h1, by omega, by omega, by simpa using h⟩⟩)
        generalize wid p.a.v = ww at *
        clear h1 h2 hn HOK
        go_enter Tryd.func72, Tryd.ntmps72
        go_wp2_with (first | (go_at_call 96; refine (HRA _).mono ?_; rintro e w2 ⟨rfl, hb2⟩; have hk2 : Below W1.heap.size W1 w2 := bel_trans (by assumption) hb2; clear hb2) | (go_at_call 97; refine (HWD _).mono ?_; rintro e w2 ⟨rfl, hb2⟩; have hk2 : Below W1.heap.size W1 w2 := bel_trans (by assumption) hb2; clear hb2) | (refine wp_region_lin (fun w' => Below W1.heap.size W1 w') (by kernel_rfl) (by kernel_rfl) (bel_drew (by assumption)) ?_; (repeat (first | (refine lin_off (by rfl) ?_; (try simp only [Act.put, List.setIfInBounds_toArray, List.set_cons_zero, List.set_cons_succ])) | (refine lin_op (v := ?_) (by rfl) (fun w9 hS9 => ?_) ?_; rotate_left; (focus (((try dsimp only at hS9); go_simp; (try go_bits)) <;> with_reducible rfl)); (try simp only [Act.put, List.setIfInBounds_toArray, List.set_cons_zero, List.set_cons_succ])) | (refine lin_fn (f := 96) (by rfl) rfl rfl (enters_of Tryd.func96 (by kernel_rfl) rfl) (fun w9 hS9 => (HRA w9).mono (fun e w' h => ⟨h.1, bel_trans hS9 h.2⟩)) ?_ ?_; (focus (simp [Act.eval]; done)); (try simp only [Act.put, List.setIfInBounds_toArray, List.set_cons_zero, List.set_cons_succ])) | (refine lin_fn (f := 97) (by rfl) rfl rfl (enters_of Tryd.func97 (by kernel_rfl) rfl) (fun w9 hS9 => (HWD w9).mono (fun e w' h => ⟨h.1, bel_trans hS9 h.2⟩)) ?_ ?_; (focus (simp [Act.eval]; done)); (try simp only [Act.put, List.setIfInBounds_toArray, List.set_cons_zero, List.set_cons_succ])))); refine lin_nil (fun w8 hS8 => ?_)))
        go_loopw [3] (fun i wr => ∃ m : Nat, n ≤ m ∧ m ≤ 128 ∧ i = .int .i64 m ∧ (∀ j, n ≤ j → j < m → bt p.a.b j = false) ∧ Below W1.heap.size W1 wr) (fun i _ => 128 - (intOf i).toNat)
        case atStart => exact ⟨n, Nat.le_refl _, by omega, rfl, fun j h1 h2 => by omega, by assumption⟩
        case round =>
          obtain ⟨m, hnm, hm, rfl, hcl, hk⟩ := hrel
          by_cases hlt : m < 128
          · have hat := at_any p.a.b m hlt
            cases hbm : bt p.a.b m with
            | true =>
              rw [btI_on hbm] at hat
              have HF := Lib.hid (show ¬ okP p from fun h => clear_not hnm hlt hbm (HOK2.out.1 h))
              clear hcl
              go_wp2_with (first | (go_at_call 98; refine (hat _).mono ?_; rintro e w2 ⟨rfl, hb2⟩; have hk2 : Below W1.heap.size W1 w2 := bel_trans (by assumption) hb2; clear hb2) | (refine wp_region_lin (fun w' => Below W1.heap.size W1 w') (by kernel_rfl) (by kernel_rfl) (bel_drew (by assumption)) ?_; (repeat (first | (refine lin_off (by rfl) ?_; (try simp only [Act.put, List.setIfInBounds_toArray, List.set_cons_zero, List.set_cons_succ])) | (refine lin_op (v := ?_) (by rfl) (fun w9 hS9 => ?_) ?_; rotate_left; (focus (((try dsimp only at hS9); go_simp; (try go_bits)) <;> with_reducible rfl)); (try simp only [Act.put, List.setIfInBounds_toArray, List.set_cons_zero, List.set_cons_succ])) | (refine lin_fn (f := 98) (by rfl) rfl rfl (enters_of Tryd.func98 (by kernel_rfl) rfl) (fun w9 hS9 => (hat w9).mono (fun e w' h => ⟨h.1, bel_trans hS9 h.2⟩)) ?_ ?_; (focus (simp [Act.eval]; done)); (try simp only [Act.put, List.setIfInBounds_toArray, List.set_cons_zero, List.set_cons_succ])))); refine lin_nil (fun w8 hS8 => ?_)))
              go_ret
              exact ⟨by rw [decide_eq_false HF.out]; rfl, bel_trans HB.out (by assumption)⟩
            | false =>
              rw [btI_off hbm] at hat
              have HC := Lib.hid (show ∀ j, n ≤ j → j < m + 1 → bt p.a.b j = false from fun j h1 h2 => by
                by_cases h3 : j = m
                · rw [h3]; exact hbm
                · exact hcl j h1 (by omega))
              clear hcl
              go_wp2_with (first | (go_at_call 98; refine (hat _).mono ?_; rintro e w2 ⟨rfl, hb2⟩; have hk2 : Below W1.heap.size W1 w2 := bel_trans (by assumption) hb2; clear hb2) | (refine wp_region_lin (fun w' => Below W1.heap.size W1 w') (by kernel_rfl) (by kernel_rfl) (bel_drew (by assumption)) ?_; (repeat (first | (refine lin_off (by rfl) ?_; (try simp only [Act.put, List.setIfInBounds_toArray, List.set_cons_zero, List.set_cons_succ])) | (refine lin_op (v := ?_) (by rfl) (fun w9 hS9 => ?_) ?_; rotate_left; (focus (((try dsimp only at hS9); go_simp; (try go_bits)) <;> with_reducible rfl)); (try simp only [Act.put, List.setIfInBounds_toArray, List.set_cons_zero, List.set_cons_succ])) | (refine lin_fn (f := 98) (by rfl) rfl rfl (enters_of Tryd.func98 (by kernel_rfl) rfl) (fun w9 hS9 => (hat w9).mono (fun e w' h => ⟨h.1, bel_trans hS9 h.2⟩)) ?_ ?_; (focus (simp [Act.eval]; done)); (try simp only [Act.put, List.setIfInBounds_toArray, List.set_cons_zero, List.set_cons_succ])))); refine lin_nil (fun w8 hS8 => ?_)))
              go_roundw
              case rel => exact ⟨m + 1, by omega, by omega, by go_num, HC.out, by assumption⟩
              case measure => simp [intOf]; omega
          · obtain rfl : m = 128 := by omega
            have HF := Lib.hid (show okP p from HOK2.out.2 hcl)
            clear hcl
            go_wp2
            go_ret
            exact ⟨by rw [decide_eq_true HF.out]; rfl, bel_trans HB.out (by assumption)⟩
      · have d2 : decide (wid p.a.v < n) = true := by simp; omega
        have HF := Lib.hid (show ¬ okP p from fun h => by have := (HOK.out.1 h).2.2.1; omega)
        generalize wid p.a.v = ww at *
        clear h1 h2 h3 hn HOK
        go_enter Tryd.func72, Tryd.ntmps72
        go_wp2_with (first | (go_at_call 96; refine (HRA _).mono ?_; rintro e w2 ⟨rfl, hb2⟩; have hk2 : Below W1.heap.size W1 w2 := bel_trans (by assumption) hb2; clear hb2) | (go_at_call 97; refine (HWD _).mono ?_; rintro e w2 ⟨rfl, hb2⟩; have hk2 : Below W1.heap.size W1 w2 := bel_trans (by assumption) hb2; clear hb2) | (refine wp_region_lin (fun w' => Below W1.heap.size W1 w') (by kernel_rfl) (by kernel_rfl) (bel_drew (by assumption)) ?_; (repeat (first | (refine lin_off (by rfl) ?_; (try simp only [Act.put, List.setIfInBounds_toArray, List.set_cons_zero, List.set_cons_succ])) | (refine lin_op (v := ?_) (by rfl) (fun w9 hS9 => ?_) ?_; rotate_left; (focus (((try dsimp only at hS9); go_simp; (try go_bits)) <;> with_reducible rfl)); (try simp only [Act.put, List.setIfInBounds_toArray, List.set_cons_zero, List.set_cons_succ])) | (refine lin_fn (f := 96) (by rfl) rfl rfl (enters_of Tryd.func96 (by kernel_rfl) rfl) (fun w9 hS9 => (HRA w9).mono (fun e w' h => ⟨h.1, bel_trans hS9 h.2⟩)) ?_ ?_; (focus (simp [Act.eval]; done)); (try simp only [Act.put, List.setIfInBounds_toArray, List.set_cons_zero, List.set_cons_succ])) | (refine lin_fn (f := 97) (by rfl) rfl rfl (enters_of Tryd.func97 (by kernel_rfl) rfl) (fun w9 hS9 => (HWD w9).mono (fun e w' h => ⟨h.1, bel_trans hS9 h.2⟩)) ?_ ?_; (focus (simp [Act.eval]; done)); (try simp only [Act.put, List.setIfInBounds_toArray, List.set_cons_zero, List.set_cons_succ])))); refine lin_nil (fun w8 hS8 => ?_)))
        all_goals go_ret
        all_goals exact ⟨by rw [decide_eq_false HF.out]; rfl, bel_trans HB.out (by assumption)⟩
  · rw [decide_eq_false h1] at HRA
    have HF := Lib.hid (show ¬ okP p from fun h => h1 (HOK.out.1 h).1)
    clear h1
    go_enter Tryd.func72, Tryd.ntmps72
    go_wp2_with (first | (go_at_call 96; refine (HRA _).mono ?_; rintro e w2 ⟨rfl, hb2⟩; have hk2 : Below W1.heap.size W1 w2 := bel_trans (by assumption) hb2; clear hb2) | (refine wp_region_lin (fun w' => Below W1.heap.size W1 w') (by kernel_rfl) (by kernel_rfl) (bel_drew (by assumption)) ?_; (repeat (first | (refine lin_off (by rfl) ?_; (try simp only [Act.put, List.setIfInBounds_toArray, List.set_cons_zero, List.set_cons_succ])) | (refine lin_op (v := ?_) (by rfl) (fun w9 hS9 => ?_) ?_; rotate_left; (focus (((try dsimp only at hS9); go_simp; (try go_bits)) <;> with_reducible rfl)); (try simp only [Act.put, List.setIfInBounds_toArray, List.set_cons_zero, List.set_cons_succ])) | (refine lin_fn (f := 96) (by rfl) rfl rfl (enters_of Tryd.func96 (by kernel_rfl) rfl) (fun w9 hS9 => (HRA w9).mono (fun e w' h => ⟨h.1, bel_trans hS9 h.2⟩)) ?_ ?_; (focus (simp [Act.eval]; done)); (try simp only [Act.put, List.setIfInBounds_toArray, List.set_cons_zero, List.set_cons_succ])))); refine lin_nil (fun w8 hS8 => ?_)))
    all_goals go_ret
    all_goals exact ⟨by rw [decide_eq_false HF.out]; rfl, bel_trans HB.out (by assumption)⟩
end Go.Proofs.YtclkfmblogkakaaDoor
namespace Go.Proofs.YtclkfmblogkakaaDoor
open Go.RowKit Go.Shelf
set_option linter.unusedVariables false
attribute [local go_sem ↓] load_b16_rule store_b16_rule load_ad_rule store_ad_rule load_px_rule store_px_rule eq_b16_rule eq_ad_rule eq_px_rule

/-- A bit of an address; its nibble. -/
noncomputable def bitV (a : Ad) (i : Int) : Int := if okA a ∧ 0 ≤ i ∧ i < (wid a.v : Int) then btI a.b i.toNat else 0
noncomputable def nibV (a : Ad) (i : Int) : Int := 8 * bitV a (4 * i) + 4 * bitV a (4 * i + 1) + 2 * bitV a (4 * i + 2) + bitV a (4 * i + 3)
noncomputable def nibW (a : Ad) (i : Int) : Int := if 0 ≤ i ∧ i ≤ 31 then nibV a i else 0
theorem bit_and (b : B16) (i : Nat) : bits .and .u8 ((b.at (i / 8) : Int) / 2 ^ (7 - i % 8)) 1 = btI b i := by
  have hd : b.at (i / 8) / 2 ^ (7 - i % 8) < 256 := Nat.lt_of_le_of_lt (Nat.div_le_self _ _) (b.lt _)
  have e := u8_and_nat (b.at (i / 8) / 2 ^ (7 - i % 8)) 1 hd (by omega)
  have e2 : ((b.at (i / 8) / 2 ^ (7 - i % 8) : Nat) : Int) = (b.at (i / 8) : Int) / 2 ^ (7 - i % 8) := by simp
  rw [e2] at e
  have e1 : ((1 : Nat) : Int) = 1 := rfl
  rw [e1] at e
  rw [e, Nat.and_one_is_mod, bit_num]
  rfl
theorem nib_num : ∀ x, x < 256 → ∀ r, r < 2 → (x / 2 ^ (4 - r * 4)) &&& 15 = 8 * (x / 2 ^ (7 - 4 * r) % 2) + 4 * (x / 2 ^ (7 - (4 * r + 1)) % 2) + 2 * (x / 2 ^ (7 - (4 * r + 2)) % 2) + (x / 2 ^ (7 - (4 * r + 3)) % 2) := by decide +kernel
theorem nib_and (b : B16) (i : Nat) : bits .and .u8 ((b.at (i / 2) : Int) / 2 ^ (4 - i % 2 * 4)) 15 = 8 * btI b (4 * i) + 4 * btI b (4 * i + 1) + 2 * btI b (4 * i + 2) + btI b (4 * i + 3) := by
  have hd : b.at (i / 2) / 2 ^ (4 - i % 2 * 4) < 256 := Nat.lt_of_le_of_lt (Nat.div_le_self _ _) (b.lt _)
  have e := u8_and_nat (b.at (i / 2) / 2 ^ (4 - i % 2 * 4)) 15 hd (by omega)
  have e2 : ((b.at (i / 2) / 2 ^ (4 - i % 2 * 4) : Nat) : Int) = (b.at (i / 2) : Int) / 2 ^ (4 - i % 2 * 4) := by simp
  rw [e2] at e
  have e1 : ((15 : Nat) : Int) = 15 := rfl
  rw [e1] at e
  rw [e, nib_num _ (b.lt _) (i % 2) (by omega)]
  unfold btI bt
  rw [← bit_num, ← bit_num, ← bit_num, ← bit_num]
  rw [show 4 * i / 8 = i / 2 from by omega, show (4 * i + 1) / 8 = i / 2 from by omega, show (4 * i + 2) / 8 = i / 2 from by omega, show (4 * i + 3) / 8 = i / 2 from by omega]
  rw [show 4 * i % 8 = 4 * (i % 2) from by omega, show (4 * i + 1) % 8 = 4 * (i % 2) + 1 from by omega, show (4 * i + 2) % 8 = 4 * (i % 2) + 2 from by omega, show (4 * i + 3) % 8 = 4 * (i % 2) + 3 from by omega]
  omega
theorem btI_01 (b : B16) (i : Nat) : 0 ≤ btI b i ∧ btI b i ≤ 1 := by
  unfold btI
  cases bt b i <;> simp
theorem bitV_01 (a : Ad) (i : Int) : 0 ≤ bitV a i ∧ bitV a i ≤ 1 := by
  unfold bitV
  split
  · exact btI_01 _ _
  · omega
theorem ad_cell {W : World} {g : Nat} {a : Ad} (h : Blk W g 63 a.cs) (j : Nat) (hj : j < 16) : ∀ w', Below W.heap.size W w' → w'.cell? ⟨g, 1 + j, none⟩ = some (.int .u8 (a.b.at j : Int)) :=
  fun w' k => ((h.later k).cell _).trans ((a.c1 j).trans (a.b.get j hj))

end Go.Proofs.YtclkfmblogkakaaDoor
namespace Go.Proofs.YtclkfmblogkakaaDoor
open Go.RowKit Go.Shelf
set_option linter.unusedVariables false
attribute [local go_sem ↓] load_b16_rule store_b16_rule load_ad_rule store_ad_rule load_px_rule store_px_rule eq_b16_rule eq_ad_rule eq_px_rule

/-- Does a prefix contain an address, a prefix? -/
def hasM (p : Px) (a : Ad) : Prop := okP p ∧ okA a ∧ p.a.v = a.v ∧ p.a.b = keptB a.b p.n.toNat
noncomputable instance (p : Px) (a : Ad) : Decidable (hasM p a) := Classical.propDecidable _
def holdsM (p q : Px) : Prop := okP q ∧ p.n ≤ q.n ∧ hasM p q.a
noncomputable instance (p q : Px) : Decidable (holdsM p q) := Classical.propDecidable _
theorem okP_le {p : Px} (h : okP p) : 0 ≤ p.n ∧ p.n ≤ 128 := by
  have := wid_le p.a.v
  have h1 := h.2.1
  have h2 := h.2.2.1
  omega
theorem kept_bits {b c : B16} {n : Nat} (hc : clear b n) : b = keptB c n ↔ ∀ i, i < n → i < 128 → bt b i = bt c i := by
  constructor
  · intro h i hi h2
    rw [h, bt_kept _ _ _ h2]
    simp [hi]
  · intro h
    apply bt_ext
    intro i hi
    rw [bt_kept _ _ _ hi]
    by_cases hn : i < n
    · simp [hn, h i hn hi]
    · rw [hc i (by omega) hi]; simp [hn]

end Go.Proofs.YtclkfmblogkakaaDoor
