/-
  The contracts of prefix.CheckAddr, Check and of the reference's RightAddr, Right. Nothing here is a statement of the document.
-/
import Derived.Test.YtdbdmnahgkkjiaaDoorLin
import Derived.Test.YtdbdmnahgkkjiaaDoorLinX
namespace Go.Proofs.YtdbdmnahgkkjiaaDoor
open Go.RowKit Go.Shelf
set_option linter.unusedVariables false
/-- What lies in a block is loaded from it in every later world. -/
theorem Blk.later {w w' : World} {g : Nat} {t : TypeId} {cs : Array Value} (h : Blk w g t cs) (k : Below w.heap.size w w') : Blk w' g t cs := h.kept (Kept.of_below [] k) (by simp)
theorem ad_a {W : World} {g : Nat} {a : Ad} (h : Blk W g 36 a.cs) : ∀ w', Below W.heap.size W w' → (loadSem 36 (.pointer (some ⟨g, 0, none⟩))).run Tryd.prog w' = .ok (.agg a.cs) w' :=
  fun w' k => loadRes_of (o := 0) (h.later k) (fun q _ => by rw [Nat.zero_add]) _ Tryd.underlying36 rfl (s_ad a)
theorem ad_b {W : World} {g : Nat} {a : Ad} (h : Blk W g 36 a.cs) : ∀ w', Below W.heap.size W w' → (loadSem 34 (.pointer (some ⟨g, 1, none⟩))).run Tryd.prog w' = .ok (.agg a.b.cs) w' :=
  fun w' k => loadRes_of (o := 1) (h.later k) (fun q _ => a.c1 q) _ Tryd.underlying34 rfl (s_b16 a.b)
theorem ad_v {W : World} {g : Nat} {a : Ad} (h : Blk W g 36 a.cs) : ∀ w', Below W.heap.size W w' → w'.cell? ⟨g, 0, none⟩ = some (.int .i64 a.v) :=
  fun w' k => ((h.later k).cell 0).trans a.c0
theorem px_p {W : World} {g : Nat} {p : Px} (h : Blk W g 38 p.cs) : ∀ w', Below W.heap.size W w' → (loadSem 38 (.pointer (some ⟨g, 0, none⟩))).run Tryd.prog w' = .ok (.agg p.cs) w' :=
  fun w' k => loadRes_of (o := 0) (h.later k) (fun q _ => by rw [Nat.zero_add]) _ Tryd.underlying38 rfl (s_px p)
theorem px_a {W : World} {g : Nat} {p : Px} (h : Blk W g 38 p.cs) : ∀ w', Below W.heap.size W w' → (loadSem 36 (.pointer (some ⟨g, 0, none⟩))).run Tryd.prog w' = .ok (.agg p.a.cs) w' :=
  fun w' k => loadRes_of (o := 0) (h.later k) (fun q hq => by rw [Nat.zero_add]; exact p.ca q (by rw [Ad.size] at hq; exact hq)) _ Tryd.underlying36 rfl (s_ad p.a)
theorem px_b {W : World} {g : Nat} {p : Px} (h : Blk W g 38 p.cs) : ∀ w', Below W.heap.size W w' → (loadSem 34 (.pointer (some ⟨g, 1, none⟩))).run Tryd.prog w' = .ok (.agg p.a.b.cs) w' :=
  fun w' k => loadRes_of (o := 1) (h.later k) (fun q hq => p.cb q (by rw [B16.size] at hq; exact hq)) _ Tryd.underlying34 rfl (s_b16 p.a.b)
theorem px_v {W : World} {g : Nat} {p : Px} (h : Blk W g 38 p.cs) : ∀ w', Below W.heap.size W w' → w'.cell? ⟨g, 0, none⟩ = some (.int .i64 p.a.v) :=
  fun w' k => ((h.later k).cell 0).trans ((p.ca 0 (by omega)).trans p.a.c0)
theorem px_n {W : World} {g : Nat} {p : Px} (h : Blk W g 38 p.cs) : ∀ w', Below W.heap.size W w' → w'.cell? ⟨g, 17, none⟩ = some (.int .i64 p.n) :=
  fun w' k => ((h.later k).cell 17).trans p.cn
theorem bel_drew_all (W : World) : ∀ w', Below W.heap.size W w' → Below W.heap.size W w'.drew := fun w' h => bel_drew h

attribute [local go_sem ↓] load_b16_rule store_b16_rule load_ad_rule store_ad_rule load_px_rule store_px_rule eq_b16_rule eq_ad_rule eq_px_rule

set_option maxRecDepth 100000 in
set_option maxHeartbeats 1600000 in
theorem checkaddr_any (a : Ad) (w : World) (hW : Wid w) : Calls Tryd.prog 46 #[.agg a.cs] w fun e w' => e = .returned (.int .i64 (eA a)) ∧ Below w.heap.size w w' := by
  obtain ⟨W1, hW1⟩ : ∃ W1, w.alloc (.cells a.cs 36) = W1 := ⟨_, rfl⟩
  have hb1 : Below w.heap.size w W1 := by rw [← hW1]; exact (Below.refl _ _).alloc (Nat.le_refl _) _
  have b1 : Blk W1 w.heap.size 36 a.cs := by rw [← hW1]; exact Blk.new w _ _
  have LA := ad_a b1
  have LB := ad_b b1
  have LV := ad_v b1
  have HW : ∀ w', Below W1.heap.size W1 w' → Wid w' := fun w' h => (hW.later hb1).later h
  have h0 : Below W1.heap.size W1 W1 := Below.refl _ _
  have HB := Lib.hid hb1
  clear hb1 b1
  have hw := wid_le a.v
  have HWD := fun w' h => width_b a.v w' (HW w' h)
  by_cases h1 : wid a.v = 0
  · have HE := Lib.hid (eA_no (fun h => h.1 h1) : eA a = 150)
    rw [h1] at HWD
    clear hw h1
    go_enter Tryd.func46, Tryd.ntmps46
    go_wp2_with (first | (go_at_call 59; refine (HWD _ (by assumption)).mono ?_; rintro e w2 ⟨rfl, hb2⟩; have hk2 : Below W1.heap.size W1 w2 := bel_trans (by assumption) hb2; clear hb2) | (refine wp_region_lin (fun w' => Below W1.heap.size W1 w') (by kernel_rfl) (by kernel_rfl) (bel_drew (by assumption)) ?_; (repeat (first | (refine lin_off (by rfl) ?_; (try simp only [Act.put, List.setIfInBounds_toArray, List.set_cons_zero, List.set_cons_succ])) | (refine lin_op (v := ?_) (by rfl) (fun w9 hS9 => ?_) ?_; rotate_left; (focus (((try dsimp only at hS9); go_simp; (try go_bits)) <;> with_reducible rfl)); (try simp only [Act.put, List.setIfInBounds_toArray, List.set_cons_zero, List.set_cons_succ])) | (refine lin_fn (f := 59) (by rfl) rfl rfl (enters_of Tryd.func59 (by kernel_rfl) rfl) (fun w9 hS9 => (HWD w9 hS9).mono (fun e w' h => ⟨h.1, bel_trans hS9 h.2⟩)) ?_ ?_; (focus (simp [Act.eval]; done)); (try simp only [Act.put, List.setIfInBounds_toArray, List.set_cons_zero, List.set_cons_succ])))); refine lin_nil (fun w8 hS8 => ?_)))
    go_ret
    exact ⟨by rw [HE.out]; rfl, bel_trans HB.out (by assumption)⟩
  · have d1 : (((wid a.v : Nat) : Int) == 0) = false := by simp; exact h1
    have EQ := eqB (keptB a.b (wid a.v)) a.b
    obtain ⟨q, hq⟩ : ∃ q, decide (keptB a.b (wid a.v) = a.b) = q := ⟨_, rfl⟩
    rw [hq] at EQ
    have HE := Lib.hid (show eA a = if q = true then 0 else 150 by
      rw [← hq]
      by_cases h2 : keptB a.b (wid a.v) = a.b
      · rw [eA_ok ⟨h1, (kept_iff _ _).1 h2⟩]; simp [h2]
      · rw [eA_no (fun h => h2 ((kept_iff _ _).2 h.2))]; simp [h2])
    have hkp := kept_any a.b (wid a.v) (by omega)
    generalize wid a.v = n at *
    generalize keptB a.b n = kb at *
    clear hq h1
    go_enter Tryd.func46, Tryd.ntmps46
    go_wp2_with (first | (go_at_call 59; refine (HWD _ (by assumption)).mono ?_; rintro e w2 ⟨rfl, hb2⟩; have hk2 : Below W1.heap.size W1 w2 := bel_trans (by assumption) hb2; clear hb2) | (go_at_call 60; refine (hkp _).mono ?_; rintro e w2 ⟨rfl, hb2⟩; have hk2 : Below W1.heap.size W1 w2 := bel_trans (by assumption) hb2; clear hb2) | (refine wp_region_lin (fun w' => Below W1.heap.size W1 w') (by kernel_rfl) (by kernel_rfl) (bel_drew (by assumption)) ?_; (repeat (first | (refine lin_off (by rfl) ?_; (try simp only [Act.put, List.setIfInBounds_toArray, List.set_cons_zero, List.set_cons_succ])) | (refine lin_op (v := ?_) (by rfl) (fun w9 hS9 => ?_) ?_; rotate_left; (focus (((try dsimp only at hS9); go_simp; (try go_bits)) <;> with_reducible rfl)); (try simp only [Act.put, List.setIfInBounds_toArray, List.set_cons_zero, List.set_cons_succ])) | (refine lin_fn (f := 59) (by rfl) rfl rfl (enters_of Tryd.func59 (by kernel_rfl) rfl) (fun w9 hS9 => (HWD w9 hS9).mono (fun e w' h => ⟨h.1, bel_trans hS9 h.2⟩)) ?_ ?_; (focus (simp [Act.eval]; done)); (try simp only [Act.put, List.setIfInBounds_toArray, List.set_cons_zero, List.set_cons_succ])) | (refine lin_fn (f := 60) (by rfl) rfl rfl (enters_of Tryd.func60 (by kernel_rfl) rfl) (fun w9 hS9 => (hkp w9).mono (fun e w' h => ⟨h.1, bel_trans hS9 h.2⟩)) ?_ ?_; (focus (simp [Act.eval]; done)); (try simp only [Act.put, List.setIfInBounds_toArray, List.set_cons_zero, List.set_cons_succ])))); refine lin_nil (fun w8 hS8 => ?_)))
    all_goals go_ret
    all_goals exact ⟨by rw [HE.out]; cases q <;> simp_all, bel_trans HB.out (by assumption)⟩

set_option maxRecDepth 100000 in
set_option maxHeartbeats 1600000 in
theorem check_any (p : Px) (w : World) (hW : Wid w) : Calls Tryd.prog 37 #[.agg p.cs] w fun e w' => e = .returned (.int .i64 (eP p)) ∧ Below w.heap.size w w' := by
  obtain ⟨W1, hW1⟩ : ∃ W1, w.alloc (.cells p.cs 38) = W1 := ⟨_, rfl⟩
  have hb1 : Below w.heap.size w W1 := by rw [← hW1]; exact (Below.refl _ _).alloc (Nat.le_refl _) _
  have b1 : Blk W1 w.heap.size 38 p.cs := by rw [← hW1]; exact Blk.new w _ _
  have LP := px_p b1
  have LA := px_a b1
  have LB := px_b b1
  have LV := px_v b1
  have LN := px_n b1
  have HW : ∀ w', Below W1.heap.size W1 w' → Wid w' := fun w' h => (hW.later hb1).later h
  have h0 : Below W1.heap.size W1 W1 := Below.refl _ _
  have HB := Lib.hid hb1
  clear hb1 b1
  have hw := wid_le p.a.v
  have HWD := fun w' h => width_b p.a.v w' (HW w' h)
  have HCA := fun w' h => checkaddr_any p.a w' (HW w' h)
  by_cases h1 : okA p.a
  · rw [eA_ok h1] at HCA
    by_cases h2 : 0 ≤ p.n ∧ p.n ≤ (wid p.a.v : Int)
    · have HWI := within_b p.n ((wid p.a.v : Nat) : Int)
      rw [decide_eq_true h2] at HWI
      have EQ := eqB (keptB p.a.b p.n.toNat) p.a.b
      obtain ⟨q, hq⟩ : ∃ q, decide (keptB p.a.b p.n.toNat = p.a.b) = q := ⟨_, rfl⟩
      rw [hq] at EQ
      have HE := Lib.hid (show eP p = if q = true then 0 else 151 by
        rw [← hq]
        by_cases h3 : keptB p.a.b p.n.toNat = p.a.b
        · rw [eP_ok ⟨h1, h2.1, h2.2, (kept_iff _ _).1 h3⟩]; simp [h3]
        · rw [eP_no (fun h => h3 ((kept_iff _ _).2 h.2.2.2))]; simp [h3])
      have hkp := keptp_any p.a.b p.n h2.1 (by omega)
      generalize wid p.a.v = n at *
      generalize keptB p.a.b p.n.toNat = kb at *
      generalize p.n = pn at *
      clear hq h1 h2
      go_enter Tryd.func37, Tryd.ntmps37
      go_wp2_with (first | (go_at_call 46; refine (HCA _ (by assumption)).mono ?_; rintro e w2 ⟨rfl, hb2⟩; have hk2 : Below W1.heap.size W1 w2 := bel_trans (by assumption) hb2; clear hb2) | (go_at_call 59; refine (HWD _ (by assumption)).mono ?_; rintro e w2 ⟨rfl, hb2⟩; have hk2 : Below W1.heap.size W1 w2 := bel_trans (by assumption) hb2; clear hb2) | (go_at_call 58; refine (HWI _).mono ?_; rintro e w2 ⟨rfl, hb2⟩; have hk2 : Below W1.heap.size W1 w2 := bel_trans (by assumption) hb2; clear hb2) | (go_at_call 60; refine (hkp _).mono ?_; rintro e w2 ⟨rfl, hb2⟩; have hk2 : Below W1.heap.size W1 w2 := bel_trans (by assumption) hb2; clear hb2) | (refine wp_region_lin (fun w' => Below W1.heap.size W1 w') (by kernel_rfl) (by kernel_rfl) (bel_drew (by assumption)) ?_; (repeat (first | (refine lin_off (by rfl) ?_; (try simp only [Act.put, List.setIfInBounds_toArray, List.set_cons_zero, List.set_cons_succ])) | (refine lin_op (v := ?_) (by rfl) (fun w9 hS9 => ?_) ?_; rotate_left; (focus (((try dsimp only at hS9); go_simp; (try go_bits)) <;> with_reducible rfl)); (try simp only [Act.put, List.setIfInBounds_toArray, List.set_cons_zero, List.set_cons_succ])) | (refine lin_fn (f := 46) (by rfl) rfl rfl (enters_of Tryd.func46 (by kernel_rfl) rfl) (fun w9 hS9 => (HCA w9 hS9).mono (fun e w' h => ⟨h.1, bel_trans hS9 h.2⟩)) ?_ ?_; (focus (simp [Act.eval]; done)); (try simp only [Act.put, List.setIfInBounds_toArray, List.set_cons_zero, List.set_cons_succ])) | (refine lin_fn (f := 59) (by rfl) rfl rfl (enters_of Tryd.func59 (by kernel_rfl) rfl) (fun w9 hS9 => (HWD w9 hS9).mono (fun e w' h => ⟨h.1, bel_trans hS9 h.2⟩)) ?_ ?_; (focus (simp [Act.eval]; done)); (try simp only [Act.put, List.setIfInBounds_toArray, List.set_cons_zero, List.set_cons_succ])) | (refine lin_fn (f := 58) (by rfl) rfl rfl (enters_of Tryd.func58 (by kernel_rfl) rfl) (fun w9 hS9 => (HWI w9).mono (fun e w' h => ⟨h.1, bel_trans hS9 h.2⟩)) ?_ ?_; (focus (simp [Act.eval]; done)); (try simp only [Act.put, List.setIfInBounds_toArray, List.set_cons_zero, List.set_cons_succ])) | (refine lin_fn (f := 60) (by rfl) rfl rfl (enters_of Tryd.func60 (by kernel_rfl) rfl) (fun w9 hS9 => (hkp w9).mono (fun e w' h => ⟨h.1, bel_trans hS9 h.2⟩)) ?_ ?_; (focus (simp [Act.eval]; done)); (try simp only [Act.put, List.setIfInBounds_toArray, List.set_cons_zero, List.set_cons_succ])))); refine lin_nil (fun w8 hS8 => ?_)))
      all_goals go_ret
      all_goals exact ⟨by rw [HE.out]; cases q <;> simp_all, bel_trans HB.out (by assumption)⟩
    · have HWI := within_b p.n ((wid p.a.v : Nat) : Int)
      rw [decide_eq_false h2] at HWI
      have HE := Lib.hid (eP_no (fun h => h2 ⟨h.2.1, h.2.2.1⟩) : eP p = 151)
      generalize wid p.a.v = n at *
      generalize p.n = pn at *
      clear h1 h2
      go_enter Tryd.func37, Tryd.ntmps37
      go_wp2_with (first | (go_at_call 46; refine (HCA _ (by assumption)).mono ?_; rintro e w2 ⟨rfl, hb2⟩; have hk2 : Below W1.heap.size W1 w2 := bel_trans (by assumption) hb2; clear hb2) | (go_at_call 59; refine (HWD _ (by assumption)).mono ?_; rintro e w2 ⟨rfl, hb2⟩; have hk2 : Below W1.heap.size W1 w2 := bel_trans (by assumption) hb2; clear hb2) | (go_at_call 58; refine (HWI _).mono ?_; rintro e w2 ⟨rfl, hb2⟩; have hk2 : Below W1.heap.size W1 w2 := bel_trans (by assumption) hb2; clear hb2) | (refine wp_region_lin (fun w' => Below W1.heap.size W1 w') (by kernel_rfl) (by kernel_rfl) (bel_drew (by assumption)) ?_; (repeat (first | (refine lin_off (by rfl) ?_; (try simp only [Act.put, List.setIfInBounds_toArray, List.set_cons_zero, List.set_cons_succ])) | (refine lin_op (v := ?_) (by rfl) (fun w9 hS9 => ?_) ?_; rotate_left; (focus (((try dsimp only at hS9); go_simp; (try go_bits)) <;> with_reducible rfl)); (try simp only [Act.put, List.setIfInBounds_toArray, List.set_cons_zero, List.set_cons_succ])) | (refine lin_fn (f := 46) (by rfl) rfl rfl (enters_of Tryd.func46 (by kernel_rfl) rfl) (fun w9 hS9 => (HCA w9 hS9).mono (fun e w' h => ⟨h.1, bel_trans hS9 h.2⟩)) ?_ ?_; (focus (simp [Act.eval]; done)); (try simp only [Act.put, List.setIfInBounds_toArray, List.set_cons_zero, List.set_cons_succ])) | (refine lin_fn (f := 59) (by rfl) rfl rfl (enters_of Tryd.func59 (by kernel_rfl) rfl) (fun w9 hS9 => (HWD w9 hS9).mono (fun e w' h => ⟨h.1, bel_trans hS9 h.2⟩)) ?_ ?_; (focus (simp [Act.eval]; done)); (try simp only [Act.put, List.setIfInBounds_toArray, List.set_cons_zero, List.set_cons_succ])) | (refine lin_fn (f := 58) (by rfl) rfl rfl (enters_of Tryd.func58 (by kernel_rfl) rfl) (fun w9 hS9 => (HWI w9).mono (fun e w' h => ⟨h.1, bel_trans hS9 h.2⟩)) ?_ ?_; (focus (simp [Act.eval]; done)); (try simp only [Act.put, List.setIfInBounds_toArray, List.set_cons_zero, List.set_cons_succ])))); refine lin_nil (fun w8 hS8 => ?_)))
      all_goals go_ret
      all_goals exact ⟨by rw [HE.out]; rfl, bel_trans HB.out (by assumption)⟩
  · rw [eA_no h1] at HCA
    have HE := Lib.hid (eP_no (fun h => h1 h.1) : eP p = 151)
    clear h1
    go_enter Tryd.func37, Tryd.ntmps37
    go_wp2_with (first | (go_at_call 46; refine (HCA _ (by assumption)).mono ?_; rintro e w2 ⟨rfl, hb2⟩; have hk2 : Below W1.heap.size W1 w2 := bel_trans (by assumption) hb2; clear hb2) | (refine wp_region_lin (fun w' => Below W1.heap.size W1 w') (by kernel_rfl) (by kernel_rfl) (bel_drew (by assumption)) ?_; (repeat (first | (refine lin_off (by rfl) ?_; (try simp only [Act.put, List.setIfInBounds_toArray, List.set_cons_zero, List.set_cons_succ])) | (refine lin_op (v := ?_) (by rfl) (fun w9 hS9 => ?_) ?_; rotate_left; (focus (((try dsimp only at hS9); go_simp; (try go_bits)) <;> with_reducible rfl)); (try simp only [Act.put, List.setIfInBounds_toArray, List.set_cons_zero, List.set_cons_succ])) | (refine lin_fn (f := 46) (by rfl) rfl rfl (enters_of Tryd.func46 (by kernel_rfl) rfl) (fun w9 hS9 => (HCA w9 hS9).mono (fun e w' h => ⟨h.1, bel_trans hS9 h.2⟩)) ?_ ?_; (focus (simp [Act.eval]; done)); (try simp only [Act.put, List.setIfInBounds_toArray, List.set_cons_zero, List.set_cons_succ])))); refine lin_nil (fun w8 hS8 => ?_)))
    all_goals go_ret
    all_goals exact ⟨by rw [HE.out]; rfl, bel_trans HB.out (by assumption)⟩

end Go.Proofs.YtdbdmnahgkkjiaaDoor
