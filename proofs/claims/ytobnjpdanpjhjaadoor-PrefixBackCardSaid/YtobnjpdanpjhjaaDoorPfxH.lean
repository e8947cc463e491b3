/-
  What building an address and a prefix gives; the contracts of prefix.Of and of the reference's. Nothing here is a statement of the document.
-/
import Derived.Test.YtobnjpdanpjhjaaDoorPfxF
import Derived.Laws.ResultCell
namespace Go.Proofs.YtobnjpdanpjhjaaDoor
open Go.RowKit Go.Shelf
set_option linter.unusedVariables false

theorem results_blk {fn : Func} {p u : Tmp} {ty : TypeId} (h : fn.results = #[.cell p ty, .tmp u]) (tmps : Array Value) (w : World) (g : Nat) (vs : Array Value) (d : TypeDesc)
    (hp : tmps.getD p undef = .pointer (some ⟨g, 0, none⟩)) (hb : Blk w g ty vs) (hu : Tryd.prog.underlying ty = some d) (hd : d.isRow = true) (hi : (Tryd.prog.info? ty).map (·.size) = some vs.size) :
    (results fn tmps).run Tryd.prog w = .ok (.tuple #[.agg vs, tmps.getD u undef]) w := by
  have hl := run_loadVar_row (P := Tryd.prog) w g ty ty vs (0, 0) d hb hu (by cases d <;> simp_all) hi
  rw [results_cell_tmp h, hp]
  simp [asAddr, hl, Result.andThen]
def buildSem (ty : TypeId) (ps : Array (Nat × Value)) : Sem Value := Instr.build ty ps
theorem build_ad_rule (ps : Array (Nat × Value)) : Instr.build 24 ps = buildSem 24 ps := rfl
theorem build_px_rule (ps : Array (Nat × Value)) : Instr.build 26 ps = buildSem 26 ps := rfl
theorem list16 {l : List Nat} (h : l.length = 16) : ∃ a0 a1 a2 a3 a4 a5 a6 a7 a8 a9 a10 a11 a12 a13 a14 a15, l = [a0, a1, a2, a3, a4, a5, a6, a7, a8, a9, a10, a11, a12, a13, a14, a15] := by
  rcases l with _ | ⟨a0, _ | ⟨a1, _ | ⟨a2, _ | ⟨a3, _ | ⟨a4, _ | ⟨a5, _ | ⟨a6, _ | ⟨a7, _ | ⟨a8, _ | ⟨a9, _ | ⟨a10, _ | ⟨a11, _ | ⟨a12, _ | ⟨a13, _ | ⟨a14, _ | ⟨a15, _ | ⟨a16, l⟩⟩⟩⟩⟩⟩⟩⟩⟩⟩⟩⟩⟩⟩⟩⟩⟩ <;> first | exact ⟨_, _, _, _, _, _, _, _, _, _, _, _, _, _, _, _, rfl⟩ | (exfalso; simp at h; done) | (exfalso; simp at h; omega)
theorem B16.out (b : B16) : ∃ a0 a1 a2 a3 a4 a5 a6 a7 a8 a9 a10 a11 a12 a13 a14 a15, b.cs = #[byc a0, byc a1, byc a2, byc a3, byc a4, byc a5, byc a6, byc a7, byc a8, byc a9, byc a10, byc a11, byc a12, byc a13, byc a14, byc a15] := by
  obtain ⟨a0, a1, a2, a3, a4, a5, a6, a7, a8, a9, a10, a11, a12, a13, a14, a15, h⟩ := list16 b.len
  refine ⟨a0, a1, a2, a3, a4, a5, a6, a7, a8, a9, a10, a11, a12, a13, a14, a15, ?_⟩
  unfold B16.cs
  rw [h]
  rfl
theorem build_ad0 (w : World) : (buildSem 24 #[]).run Tryd.prog w = .ok (.agg Ad.zero.cs) w := by kernel_rfl
theorem build_px0 (w : World) : (buildSem 26 #[]).run Tryd.prog w = .ok (.agg Px.zero.cs) w := by kernel_rfl
theorem build_adv (v : Int) (w : World) : (buildSem 24 #[(0, .int .i64 v)]).run Tryd.prog w = .ok (.agg (Ad.mk v B16.zero).cs) w := by kernel_rfl
theorem build_ad (v : Int) (b : B16) (w : World) : (buildSem 24 #[(0, .int .i64 v), (1, .agg b.cs)]).run Tryd.prog w = .ok (.agg (Ad.mk v b).cs) w := by
  unfold Ad.cs
  show (buildSem 24 #[(0, .int .i64 v), (1, .agg b.cs)]).run Tryd.prog w = .ok (.agg (#[.int .i64 v] ++ b.cs)) w
  obtain ⟨a0, a1, a2, a3, a4, a5, a6, a7, a8, a9, a10, a11, a12, a13, a14, a15, h⟩ := b.out
  rw [h]
  kernel_rfl
theorem build_px (a : Ad) (n : Int) (w : World) : (buildSem 26 #[(0, .agg a.cs), (1, .int .i64 n)]).run Tryd.prog w = .ok (.agg (Px.mk a n).cs) w := by
  unfold Px.cs
  show (buildSem 26 #[(0, .agg a.cs), (1, .int .i64 n)]).run Tryd.prog w = .ok (.agg (a.cs ++ #[.int .i64 n])) w
  unfold Ad.cs
  obtain ⟨a0, a1, a2, a3, a4, a5, a6, a7, a8, a9, a10, a11, a12, a13, a14, a15, h⟩ := a.b.out
  rw [h]
  kernel_rfl
theorem over_b (a : Ad) (b : B16) : over a.cs 1 b.cs = (Ad.mk a.v b).cs := by
  apply Array.ext_getElem?
  intro i
  have hs : 1 + b.cs.size ≤ a.cs.size := by rw [B16.size, Ad.size]; omega
  rw [over_get hs, B16.size]
  rcases i with _ | i
  · rw [if_pos (by omega), a.c0, Ad.c0]
  · rw [if_neg (by omega), show i + 1 = 1 + i from by omega]
    by_cases h : i < 16
    · rw [if_pos (by omega), show 1 + i - 1 = i from by omega]
      exact (Ad.c1 ⟨a.v, b⟩ i).symm
    · rw [if_neg (by omega), Array.getElem?_eq_none (by rw [Ad.size]; omega), Array.getElem?_eq_none (by rw [Ad.size]; omega)]
theorem st_px {w : World} {g : Nat} {p q : Px} (h : Blk w g 26 p.cs) : (storeSem 26 (.pointer (some ⟨g, 0, none⟩)) (.agg q.cs)).run Tryd.prog w = .ok () (w.setRow g q.cs) := by
  have := storeRes_of (P := Tryd.prog) (ty := 26) (o := 0) (vs := q.cs) h (by rw [Px.size, Px.size]; omega) (s_px q) q.one
  rwa [over_all (by rw [Px.size, Px.size])] at this
theorem st_ad {w : World} {g : Nat} {p q : Ad} (h : Blk w g 24 p.cs) : (storeSem 24 (.pointer (some ⟨g, 0, none⟩)) (.agg q.cs)).run Tryd.prog w = .ok () (w.setRow g q.cs) := by
  have := storeRes_of (P := Tryd.prog) (ty := 24) (o := 0) (vs := q.cs) h (by rw [Ad.size, Ad.size]; omega) (s_ad q) q.one
  rwa [over_all (by rw [Ad.size, Ad.size])] at this
theorem st_b {w : World} {g : Nat} {p : Ad} {b : B16} (h : Blk w g 24 p.cs) : (storeSem 22 (.pointer (some ⟨g, 1, none⟩)) (.agg b.cs)).run Tryd.prog w = .ok () (w.setRow g (Ad.mk p.v b).cs) := by
  have := storeRes_of (P := Tryd.prog) (ty := 22) (o := 1) (vs := b.cs) h (by rw [B16.size, Ad.size]; omega) (s_b16 b) b.one
  rwa [over_b] at this
theorem below_setRow {B : Nat} {w w' : World} {g : Nat} (h : Below B w w') (hg : B ≤ g) (cs : Array Value) : Below B w (w'.setRow g cs) :=
  ⟨h.os, h.tape, h.output, by have := h.size; simpa using this, fun k hk => (setRow_other w' g k cs (by omega)).trans (h.block k hk)⟩

/-- What Of answers. -/
noncomputable def ofE (a : Ad) (n : Int) : Int := if okA a then (if 0 ≤ n ∧ n ≤ (wid a.v : Int) then 0 else 2) else 150
noncomputable def ofP (a : Ad) (n : Int) : Px := if okA a ∧ 0 ≤ n ∧ n ≤ (wid a.v : Int) then ⟨⟨a.v, keptB a.b n.toNat⟩, n⟩ else Px.zero
attribute [local go_sem ↓] load_b16_rule store_b16_rule load_ad_rule store_ad_rule load_px_rule store_px_rule eq_b16_rule eq_ad_rule eq_px_rule build_ad_rule build_px_rule

set_option maxRecDepth 100000 in
set_option maxHeartbeats 1600000 in
theorem of_any (a : Ad) (n : Int) (w : World) (hW : Wid w) : Calls Tryd.prog 8 #[.agg a.cs, .int .i64 n] w fun e w' => e = .returned (.tuple #[.agg (ofP a n).cs, .int .i64 (ofE a n)]) ∧ Below w.heap.size w w' := by
  obtain ⟨W1, hW1⟩ : ∃ W1, (w.alloc (.cells a.cs 24)).alloc (.cells Px.zero.cs 26) = W1 := ⟨_, rfl⟩
  have hb1 : Below w.heap.size w W1 := by rw [← hW1]; exact ((Below.refl _ _).alloc (Nat.le_refl _) _).alloc (by simp) _
  have b1 : Blk W1 w.heap.size 24 a.cs := by rw [← hW1]; exact (Blk.new w _ _).alloc _
  have b2 : Blk W1 (w.heap.size + 1) 26 Px.zero.cs := by
    have h9 := Blk.new (w.alloc (.cells a.cs 24)) 26 Px.zero.cs
    rw [World.size_alloc] at h9
    rw [← hW1]; exact h9
  have LA := ad_a b1
  have LB := ad_b b1
  have LV := ad_v b1
  have HW : ∀ w', Below W1.heap.size W1 w' → Wid w' := fun w' h => (hW.later hb1).later h
  have h0 : Below W1.heap.size W1 W1 := Below.refl _ _
  have BZ := build_px0
  have ST := fun (q : Px) w' (h : Below W1.heap.size W1 w') => st_px (q := q) (b2.later h)
  have ST0 := ST Px.zero
  have HB := Lib.hid (And.intro hb1 (And.intro b1 b2))
  clear hb1 b1 b2
  have HWD := fun w' h => width_b a.v w' (HW w' h)
  have HCA := fun w' h => checkaddr_any a w' (HW w' h)
  by_cases h1 : okA a
  · rw [eA_ok h1] at HCA
    have HWI := within_b n ((wid a.v : Nat) : Int)
    by_cases h2 : 0 ≤ n ∧ n ≤ (wid a.v : Int)
    · rw [decide_eq_true h2] at HWI
      have HE := Lib.hid (show ofE a n = 0 by unfold ofE; rw [if_pos h1, if_pos h2])
      have HP := Lib.hid (show ofP a n = ⟨⟨a.v, keptB a.b n.toNat⟩, n⟩ from if_pos ⟨h1, h2⟩)
      have hkp := keptp_any a.b n h2.1 (by have := wid_le a.v; omega)
      generalize keptB a.b n.toNat = kb at *
      generalize wid a.v = ww at *
      clear h1 h2
      go_enter Tryd.func8, Tryd.ntmps8
      go_wp2_with (first | (go_at_call 21; refine (HCA _ (by assumption)).mono ?_; rintro e w2 ⟨rfl, hb2⟩; have hk2 : Below W1.heap.size W1 w2 := bel_trans (by assumption) hb2; clear hb2) | (go_at_call 15; refine (HWD _ (by assumption)).mono ?_; rintro e w2 ⟨rfl, hb2⟩; have hk2 : Below W1.heap.size W1 w2 := bel_trans (by assumption) hb2; clear hb2) | (go_at_call 22; refine (HWI _).mono ?_; rintro e w2 ⟨rfl, hb2⟩; have hk2 : Below W1.heap.size W1 w2 := bel_trans (by assumption) hb2; clear hb2) | (with_reducible refine wpList_alloc_z rfl 26 rfl Px.zero.cs 18 z_px ?_) | (refine wp_region_lin (fun w' => Below W1.heap.size W1 w') (by kernel_rfl) (by kernel_rfl) (bel_drew (by assumption)) ?_; (repeat (first | (refine lin_off (by rfl) ?_; (try simp only [Act.put, List.setIfInBounds_toArray, List.set_cons_zero, List.set_cons_succ])) | (refine lin_op (v := ?_) (by rfl) (fun w9 hS9 => ?_) ?_; rotate_left; (focus (((try dsimp only at hS9); go_simp; (try go_bits)) <;> with_reducible rfl)); (try simp only [Act.put, List.setIfInBounds_toArray, List.set_cons_zero, List.set_cons_succ])) | (refine lin_fn (f := 21) (by rfl) rfl rfl (enters_of Tryd.func21 (by kernel_rfl) rfl) (fun w9 hS9 => (HCA w9 hS9).mono (fun e w' h => ⟨h.1, bel_trans hS9 h.2⟩)) ?_ ?_; (focus (simp [Act.eval]; done)); (try simp only [Act.put, List.setIfInBounds_toArray, List.set_cons_zero, List.set_cons_succ])) | (refine lin_fn (f := 15) (by rfl) rfl rfl (enters_of Tryd.func15 (by kernel_rfl) rfl) (fun w9 hS9 => (HWD w9 hS9).mono (fun e w' h => ⟨h.1, bel_trans hS9 h.2⟩)) ?_ ?_; (focus (simp [Act.eval]; done)); (try simp only [Act.put, List.setIfInBounds_toArray, List.set_cons_zero, List.set_cons_succ])) | (refine lin_fn (f := 22) (by rfl) rfl rfl (enters_of Tryd.func22 (by kernel_rfl) rfl) (fun w9 hS9 => (HWI w9).mono (fun e w' h => ⟨h.1, bel_trans hS9 h.2⟩)) ?_ ?_; (focus (simp [Act.eval]; done)); (try simp only [Act.put, List.setIfInBounds_toArray, List.set_cons_zero, List.set_cons_succ])))); refine lin_nil (fun w8 hS8 => ?_)))
      refine (hkp _).mono ?_
      rintro e w3 ⟨rfl, hb3⟩
      have hk3 : Below W1.heap.size W1 w3 := bel_trans (by assumption) hb3
      have b3 := HB.out.2.1.later hk3
      have b4 := HB.out.2.2.later hk3
      have S1 := st_b (b := kb) b3
      obtain ⟨w4, hw4⟩ : ∃ w4, w3.setRow w.heap.size (Ad.mk a.v kb).cs = w4 := ⟨_, rfl⟩
      rw [hw4] at S1
      have b5 : Blk w4 w.heap.size 24 (Ad.mk a.v kb).cs := by rw [← hw4]; exact b3.row _
      have b6 : Blk w4 (w.heap.size + 1) 26 Px.zero.cs := by rw [← hw4]; exact b4.kept ((Kept.refl [w.heap.size] w3).setRow (.inl (by simp)) _) (by simp)
      have L5 := ad_a b5 w4 (Below.refl _ _)
      have BP := build_px ⟨a.v, kb⟩ n
      have S2 := st_px (q := ⟨⟨a.v, kb⟩, n⟩) b6
      obtain ⟨w5, hw5⟩ : ∃ w5, w4.setRow (w.heap.size + 1) (Px.mk ⟨a.v, kb⟩ n).cs = w5 := ⟨_, rfl⟩
      rw [hw5] at S2
      have b7 : Blk w5 (w.heap.size + 1) 26 (Px.mk ⟨a.v, kb⟩ n).cs := by rw [← hw5]; exact b6.row _
      have hb7 : Below w.heap.size w w5 := by
        rw [← hw5, ← hw4]
        exact below_setRow (below_setRow (bel_trans HB.out.1 hk3) (Nat.le_refl _) _) (Nat.le_succ _) _
      have HR := Lib.hid (And.intro b7 hb7)
      clear b3 b4 b5 b6 b7 hb7 ST ST0 LA LB LV hb3 hw4 hw5
      go_wp2
      refine bodyPost_ret (results_blk rfl _ _ (w.heap.size + 1) _ _ rfl HR.out.1 Tryd.underlying26 rfl (s_px _)) rfl ?_
      exact ⟨by rw [HE.out, HP.out]; rfl, HR.out.2⟩
    · rw [decide_eq_false h2] at HWI
      have HE := Lib.hid (show ofE a n = 2 by unfold ofE; rw [if_pos h1, if_neg h2])
      have HP := Lib.hid (show ofP a n = Px.zero from if_neg (fun h => h2 h.2))
      generalize wid a.v = ww at *
      clear h1 h2 ST
      go_enter Tryd.func8, Tryd.ntmps8
      go_wp2_with (first | (go_at_call 21; refine (HCA _ (by assumption)).mono ?_; rintro e w2 ⟨rfl, hb2⟩; have hk2 : Below W1.heap.size W1 w2 := bel_trans (by assumption) hb2; clear hb2) | (go_at_call 15; refine (HWD _ (by assumption)).mono ?_; rintro e w2 ⟨rfl, hb2⟩; have hk2 : Below W1.heap.size W1 w2 := bel_trans (by assumption) hb2; clear hb2) | (go_at_call 22; refine (HWI _).mono ?_; rintro e w2 ⟨rfl, hb2⟩; have hk2 : Below W1.heap.size W1 w2 := bel_trans (by assumption) hb2; clear hb2) | (with_reducible refine wpList_alloc_z rfl 26 rfl Px.zero.cs 18 z_px ?_) | (refine wp_region_lin (fun w' => Below W1.heap.size W1 w') (by kernel_rfl) (by kernel_rfl) (bel_drew (by assumption)) ?_; (repeat (first | (refine lin_off (by rfl) ?_; (try simp only [Act.put, List.setIfInBounds_toArray, List.set_cons_zero, List.set_cons_succ])) | (refine lin_op (v := ?_) (by rfl) (fun w9 hS9 => ?_) ?_; rotate_left; (focus (((try dsimp only at hS9); go_simp; (try go_bits)) <;> with_reducible rfl)); (try simp only [Act.put, List.setIfInBounds_toArray, List.set_cons_zero, List.set_cons_succ])) | (refine lin_fn (f := 21) (by rfl) rfl rfl (enters_of Tryd.func21 (by kernel_rfl) rfl) (fun w9 hS9 => (HCA w9 hS9).mono (fun e w' h => ⟨h.1, bel_trans hS9 h.2⟩)) ?_ ?_; (focus (simp [Act.eval]; done)); (try simp only [Act.put, List.setIfInBounds_toArray, List.set_cons_zero, List.set_cons_succ])) | (refine lin_fn (f := 15) (by rfl) rfl rfl (enters_of Tryd.func15 (by kernel_rfl) rfl) (fun w9 hS9 => (HWD w9 hS9).mono (fun e w' h => ⟨h.1, bel_trans hS9 h.2⟩)) ?_ ?_; (focus (simp [Act.eval]; done)); (try simp only [Act.put, List.setIfInBounds_toArray, List.set_cons_zero, List.set_cons_succ])) | (refine lin_fn (f := 22) (by rfl) rfl rfl (enters_of Tryd.func22 (by kernel_rfl) rfl) (fun w9 hS9 => (HWI w9).mono (fun e w' h => ⟨h.1, bel_trans hS9 h.2⟩)) ?_ ?_; (focus (simp [Act.eval]; done)); (try simp only [Act.put, List.setIfInBounds_toArray, List.set_cons_zero, List.set_cons_succ])))); refine lin_nil (fun w8 hS8 => ?_)))
      refine bodyPost_ret (results_blk rfl _ _ (w.heap.size + 1) _ _ rfl ((HB.out.2.2.later (by assumption)).row _) Tryd.underlying26 rfl (s_px _)) rfl ?_
      exact ⟨by rw [HE.out, HP.out]; rfl, below_setRow (bel_trans HB.out.1 (by assumption)) (Nat.le_succ _) _⟩
  · rw [eA_no h1] at HCA
    have HE := Lib.hid (show ofE a n = 150 from if_neg h1)
    have HP := Lib.hid (show ofP a n = Px.zero from if_neg (fun h => h1 h.1))
    clear h1 ST
    go_enter Tryd.func8, Tryd.ntmps8
    go_wp2_with (first | (go_at_call 21; refine (HCA _ (by assumption)).mono ?_; rintro e w2 ⟨rfl, hb2⟩; have hk2 : Below W1.heap.size W1 w2 := bel_trans (by assumption) hb2; clear hb2) | (with_reducible refine wpList_alloc_z rfl 26 rfl Px.zero.cs 18 z_px ?_) | (refine wp_region_lin (fun w' => Below W1.heap.size W1 w') (by kernel_rfl) (by kernel_rfl) (bel_drew (by assumption)) ?_; (repeat (first | (refine lin_off (by rfl) ?_; (try simp only [Act.put, List.setIfInBounds_toArray, List.set_cons_zero, List.set_cons_succ])) | (refine lin_op (v := ?_) (by rfl) (fun w9 hS9 => ?_) ?_; rotate_left; (focus (((try dsimp only at hS9); go_simp; (try go_bits)) <;> with_reducible rfl)); (try simp only [Act.put, List.setIfInBounds_toArray, List.set_cons_zero, List.set_cons_succ])) | (refine lin_fn (f := 21) (by rfl) rfl rfl (enters_of Tryd.func21 (by kernel_rfl) rfl) (fun w9 hS9 => (HCA w9 hS9).mono (fun e w' h => ⟨h.1, bel_trans hS9 h.2⟩)) ?_ ?_; (focus (simp [Act.eval]; done)); (try simp only [Act.put, List.setIfInBounds_toArray, List.set_cons_zero, List.set_cons_succ])))); refine lin_nil (fun w8 hS8 => ?_)))
    refine bodyPost_ret (results_blk rfl _ _ (w.heap.size + 1) _ _ rfl ((HB.out.2.2.later (by assumption)).row _) Tryd.underlying26 rfl (s_px _)) rfl ?_
    exact ⟨by rw [HE.out, HP.out]; rfl, below_setRow (bel_trans HB.out.1 (by assumption)) (Nat.le_succ _) _⟩

theorem keep_next : ∀ x, x < 256 → ∀ s, s < 8 → keepN x (s + 1) = keepN x s + (x / 2 ^ (7 - s) % 2) * 2 ^ (7 - s) := by decide +kernel
theorem keep_room : ∀ x, x < 256 → ∀ s, s < 8 → keepN x s + 2 ^ (7 - s) < 256 := by
  intro x hx s hs
  have h : ∀ x, x < 256 → ∀ s, s < 8 → keepN x s + 2 ^ (7 - s) < 256 := by decide +kernel
  exact h x hx s hs
theorem kept_next (b : B16) (m : Nat) (hm : m < 128) (i : Nat) (hi : i < 16) : (keptB b (m + 1)).at i = if i = m / 8 then (keptB b m).at i + (bt b m).toNat * 2 ^ (7 - m % 8) else (keptB b m).at i := by
  rw [keptB_at _ _ _ hi, keptB_at _ _ _ hi]
  by_cases h : i = m / 8
  · rw [if_pos h]
    have h1 : stayN m i = m % 8 := by unfold stayN; omega
    have h2 : stayN (m + 1) i = m % 8 + 1 := by unfold stayN; omega
    rw [h1, h2, keep_next _ (b.lt _) _ (by omega)]
    unfold bt
    rw [← bit_num, h]
  · rw [if_neg h]
    have h1 : stayN (m + 1) i = stayN m i := by unfold stayN; omega
    rw [h1]
theorem kept_same (b : B16) (m : Nat) (hm : m < 128) (h : bt b m = false) : keptB b (m + 1) = keptB b m := B16.ext_at fun i hi => by
  rw [kept_next b m hm i hi, h]
  simp
theorem px_set {p : Px} {b : B16} {k x : Nat} (hk : k < 16) (h : ∀ i, i < 16 → b.at i = if i = k then x else p.a.b.at i) : p.cs.setIfInBounds (1 + k) (.int .u8 (x : Int)) = (Px.mk ⟨p.a.v, b⟩ p.n).cs := by
  apply Array.ext_getElem?
  intro i
  rw [Array.getElem?_setIfInBounds]
  by_cases h1 : i < 17
  · rw [Px.ca _ i h1, Px.ca _ i h1]
    rcases i with _ | i
    · rw [if_neg (by omega), Ad.c0, Ad.c0]
    · rw [show i + 1 = 1 + i from by omega, Ad.c1]
      have hi : i < 16 := by omega
      by_cases h2 : k = i
      · subst h2
        rw [if_pos rfl, if_pos (by rw [Px.size]; omega)]
        have e := b.get k hk
        rw [h k hk, if_pos rfl] at e
        exact ((Ad.c1 ⟨p.a.v, b⟩ k).trans e).symm
      · rw [if_neg (by omega), p.a.b.get i hi]
        have e := b.get i hi
        rw [h i hi, if_neg (fun e => h2 e.symm)] at e
        exact ((Ad.c1 ⟨p.a.v, b⟩ i).trans e).symm
  · rw [if_neg (by omega)]
    by_cases h2 : i = 17
    · subst h2; rw [Px.cn, Px.cn]
    · rw [Array.getElem?_eq_none (by rw [Px.size]; omega), Array.getElem?_eq_none (by rw [Px.size]; omega)]

end Go.Proofs.YtobnjpdanpjhjaaDoor
