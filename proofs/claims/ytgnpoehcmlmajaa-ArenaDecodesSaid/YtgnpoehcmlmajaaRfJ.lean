/-
  The document's arena: a word loaded. Nothing here is a statement of the document.
-/
import Derived.Test.YtgnpoehcmlmajaaRfH
namespace Go.Proofs.Ytgnpoehcmlmajaa
open Go.RowKit Go.Shelf
set_option linter.unusedVariables false
attribute [local go_sem ↓] load_ra_rule store_ra_rule load_rb_rule store_rb_rule load_root_rule store_root_rule
section
variable {w W W' : World} {g z lo : Nat} {bv : Value} {ls : Nat → Value} {vs : List Value} {M : Mo}
theorem Fr.lat (F : Fr w W z lo bv ls vs M) (k : Below W.heap.size W W') : Fr w W' z lo bv ls vs M := ⟨F.bx.later k, (F.later k).2, F.sz⟩
/-- A place that may not be led to; one that a block that is taken has. -/
def Bad (R : List Rb) (x : Int) : Prop := x ≠ 0 ∧ ∀ b ∈ R, b.t = true → (b.x : Int) ≠ x
def Tkn (R : List Rb) (x : Int) : Prop := ∃ (i : Nat) (b : Rb), R[i]? = some b ∧ b.t = true ∧ (b.x : Int) = x
theorem rtk_tkn (h : Rfa w lo bv ls vs M) {x : Int} (hx : Tkn M.R x) : Calls Try.prog 36 #[.agg (M.vals bv ls), .int .i64 x] w fun e w' => (∃ i : Nat, e = .returned (.int .i64 (i : Int))) ∧ Below w.heap.size w w' := by
  obtain ⟨i, b, hb, ht, rfl⟩ := hx
  exact (rtk_yes h hb ht).mono fun e w' ⟨h1, h2⟩ => ⟨⟨i, h1⟩, h2⟩
set_option maxRecDepth 100000 in
set_option maxHeartbeats 2000000 in
theorem rpub_bx (h : Rfa w lo bv ls vs M) (v e : Nat) (four six : Int) (he : M.gd ≤ e) (hv : v < 18446744073709551616) (hz : v ≠ 0) (hn : v - 1 = M.v) (hx4 : Bad M.R four) : Calls Try.prog 27 #[.agg (M.vals bv ls), .agg (rtcs v e four six)] w fun x w' => x = .returned (.tuple #[.agg (M.vals bv ls), .int .i64 4]) ∧ Below w.heap.size w w' := by
  obtain ⟨W, hW, F, hr⟩ := fr_pub h (rtcs v e four six)
  have c12 : W.cell? ⟨w.heap.size, 12, none⟩ = some (.int .u64 (M.gd : Int)) := F.bx.bx.cell 12
  have c8 : W.cell? ⟨w.heap.size, 8, none⟩ = some (.int .u64 (M.v : Int)) := F.bx.bx.cell 8
  have r1 : W.cell? ⟨w.heap.size + 1, 1, none⟩ = some (.int .u64 (e : Int)) := hr.cell 1
  have r0 : W.cell? ⟨w.heap.size + 1, 0, none⟩ = some (.int .u64 (v : Int)) := hr.cell 0
  have r2 : W.cell? ⟨w.heap.size + 1, 2, none⟩ = some (.int .i64 four) := hr.cell 2
  have r3 : W.cell? ⟨w.heap.size + 1, 3, none⟩ = some (.int .i64 six) := hr.cell 3
  have hl := F.bx.ld
  have ht4 := fun {W' : World} (hR : Rfa W' lo bv ls vs M) => rtk_no hR hx4.2
  have hq4 : ¬ (four = 0) := hx4.1
  have HF := Lib.hid (And.intro F hr)
  have HS := Lib.hid (M.vals_size bv ls)
  have hlt : (M.gd : Int) ≤ (e : Int) := by omega
  have hz0 : ((v : Int) == 0) = false := by simp; omega
  have hw1 : IntKind.u64.wrap ((v : Int) - 1) = (M.v : Int) := by rw [IntKind.wrap_u64]; omega
  clear h hr F hn hz
  obtain ⟨V, hV⟩ : ∃ V, M.vals bv ls = V := ⟨_, rfl⟩
  have HV := Lib.hid hV
  rw [hV] at hW hl ⊢
  obtain ⟨R, hR⟩ : ∃ R, rtcs v e four six = R := ⟨_, rfl⟩
  have HR := Lib.hid hR
  rw [hR] at hW ⊢
  clear hR
  obtain ⟨mg, hmg⟩ : ∃ mg, M.gd = mg := ⟨_, rfl⟩
  obtain ⟨mv, hmv⟩ : ∃ mv, M.v = mv := ⟨_, rfl⟩
  rw [hmg] at c12 hlt
  rw [hmv] at c8 hw1
  have HM := Lib.hid (And.intro hmg hmv)
  clear hmg hmv
  go_enter Try.func27, Try.ntmps27
  have hta4 := ht4 HF.out.1.bx.rf
  rw [hV] at hta4
  go_wp2_with fail
  refine hta4.mono ?_
  rintro e9 W2 ⟨rfl, hb4⟩
  have HF4 := Lib.hid (And.intro (HF.out.1.lat hb4) (HF.out.2.kept (Kept.of_below [] hb4) (by simp)))
  clear hta4 hb4 r2 r3 hl c12 c8 r1 r0 hW
  have r2 : W2.cell? ⟨w.heap.size + 1, 2, none⟩ = some (.int .i64 four) := HF4.out.2.cell 2
  have r3 : W2.cell? ⟨w.heap.size + 1, 3, none⟩ = some (.int .i64 six) := HF4.out.2.cell 3
  have hl := HF4.out.1.bx.ld
  rw [HV.out] at hl
  obtain ⟨hs, hbk, hbe⟩ := HF4.out.1.st
  rw [HV.out] at hs hbk hbe
  have HE := Lib.hid (And.intro hbk hbe)
  clear hbk hbe
  have hsz : V.size = 13 := by rw [← HV.out]; exact HS.out
  have HSZ := Lib.hid hsz
  clear hsz
  go_wp2_with fail
  refine bodyPost_ret (results_ra2 rfl _ _ (w.heap.size + 2) V rfl HE.out.1 HSZ.out) rfl ?_
  exact ⟨rfl, HE.out.2⟩
set_option maxRecDepth 100000 in
set_option maxHeartbeats 2000000 in
theorem rpub_zb (h : Rfa w lo bv ls vs M) (v e : Nat) (four six : Int) (he : M.gd ≤ e) (hv : v < 18446744073709551616) (hz : v ≠ 0) (hn : v - 1 = M.v) (hx4 : four = 0) (hx6 : Bad M.R six) : Calls Try.prog 27 #[.agg (M.vals bv ls), .agg (rtcs v e four six)] w fun x w' => x = .returned (.tuple #[.agg (M.vals bv ls), .int .i64 4]) ∧ Below w.heap.size w w' := by
  subst hx4
  obtain ⟨W, hW, F, hr⟩ := fr_pub h (rtcs v e 0 six)
  have c12 : W.cell? ⟨w.heap.size, 12, none⟩ = some (.int .u64 (M.gd : Int)) := F.bx.bx.cell 12
  have c8 : W.cell? ⟨w.heap.size, 8, none⟩ = some (.int .u64 (M.v : Int)) := F.bx.bx.cell 8
  have r1 : W.cell? ⟨w.heap.size + 1, 1, none⟩ = some (.int .u64 (e : Int)) := hr.cell 1
  have r0 : W.cell? ⟨w.heap.size + 1, 0, none⟩ = some (.int .u64 (v : Int)) := hr.cell 0
  have r2 : W.cell? ⟨w.heap.size + 1, 2, none⟩ = some (.int .i64 0) := hr.cell 2
  have r3 : W.cell? ⟨w.heap.size + 1, 3, none⟩ = some (.int .i64 six) := hr.cell 3
  have hl := F.bx.ld
  have ht6 := fun {W' : World} (hR : Rfa W' lo bv ls vs M) => rtk_no hR hx6.2
  have hq6 : ¬ (six = 0) := hx6.1
  have HF := Lib.hid (And.intro F hr)
  have HS := Lib.hid (M.vals_size bv ls)
  have hlt : (M.gd : Int) ≤ (e : Int) := by omega
  have hz0 : ((v : Int) == 0) = false := by simp; omega
  have hw1 : IntKind.u64.wrap ((v : Int) - 1) = (M.v : Int) := by rw [IntKind.wrap_u64]; omega
  clear h hr F hn hz
  obtain ⟨V, hV⟩ : ∃ V, M.vals bv ls = V := ⟨_, rfl⟩
  have HV := Lib.hid hV
  rw [hV] at hW hl ⊢
  obtain ⟨R, hR⟩ : ∃ R, rtcs v e 0 six = R := ⟨_, rfl⟩
  have HR := Lib.hid hR
  rw [hR] at hW ⊢
  clear hR
  obtain ⟨mg, hmg⟩ : ∃ mg, M.gd = mg := ⟨_, rfl⟩
  obtain ⟨mv, hmv⟩ : ∃ mv, M.v = mv := ⟨_, rfl⟩
  rw [hmg] at c12 hlt
  rw [hmv] at c8 hw1
  have HM := Lib.hid (And.intro hmg hmv)
  clear hmg hmv
  go_enter Try.func27, Try.ntmps27
  have hta6 := ht6 HF.out.1.bx.rf
  rw [hV] at hta6
  go_wp2_with fail
  refine hta6.mono ?_
  rintro e9 W2 ⟨rfl, hb6⟩
  have HF6 := Lib.hid (And.intro (HF.out.1.lat hb6) (HF.out.2.kept (Kept.of_below [] hb6) (by simp)))
  clear hta6 hb6 r2 r3 hl c12 c8 r1 r0 hW
  have r2 : W2.cell? ⟨w.heap.size + 1, 2, none⟩ = some (.int .i64 0) := HF6.out.2.cell 2
  have r3 : W2.cell? ⟨w.heap.size + 1, 3, none⟩ = some (.int .i64 six) := HF6.out.2.cell 3
  have hl := HF6.out.1.bx.ld
  rw [HV.out] at hl
  obtain ⟨hs, hbk, hbe⟩ := HF6.out.1.st
  rw [HV.out] at hs hbk hbe
  have HE := Lib.hid (And.intro hbk hbe)
  clear hbk hbe
  have hsz : V.size = 13 := by rw [← HV.out]; exact HS.out
  have HSZ := Lib.hid hsz
  clear hsz
  go_wp2_with fail
  refine bodyPost_ret (results_ra2 rfl _ _ (w.heap.size + 2) V rfl HE.out.1 HSZ.out) rfl ?_
  exact ⟨rfl, HE.out.2⟩
set_option maxRecDepth 100000 in
set_option maxHeartbeats 2000000 in
theorem rpub_tb (h : Rfa w lo bv ls vs M) (v e : Nat) (four six : Int) (he : M.gd ≤ e) (hv : v < 18446744073709551616) (hz : v ≠ 0) (hn : v - 1 = M.v) (hx4 : Tkn M.R four) (hx6 : Bad M.R six) (hpos : ∀ b ∈ M.R, 0 < b.x) : Calls Try.prog 27 #[.agg (M.vals bv ls), .agg (rtcs v e four six)] w fun x w' => x = .returned (.tuple #[.agg (M.vals bv ls), .int .i64 4]) ∧ Below w.heap.size w w' := by
  obtain ⟨W, hW, F, hr⟩ := fr_pub h (rtcs v e four six)
  have c12 : W.cell? ⟨w.heap.size, 12, none⟩ = some (.int .u64 (M.gd : Int)) := F.bx.bx.cell 12
  have c8 : W.cell? ⟨w.heap.size, 8, none⟩ = some (.int .u64 (M.v : Int)) := F.bx.bx.cell 8
  have r1 : W.cell? ⟨w.heap.size + 1, 1, none⟩ = some (.int .u64 (e : Int)) := hr.cell 1
  have r0 : W.cell? ⟨w.heap.size + 1, 0, none⟩ = some (.int .u64 (v : Int)) := hr.cell 0
  have r2 : W.cell? ⟨w.heap.size + 1, 2, none⟩ = some (.int .i64 four) := hr.cell 2
  have r3 : W.cell? ⟨w.heap.size + 1, 3, none⟩ = some (.int .i64 six) := hr.cell 3
  have hl := F.bx.ld
  have ht4 := fun {W' : World} (hR : Rfa W' lo bv ls vs M) => rtk_tkn hR hx4
  have hq4 : ¬ (four = 0) := by
    obtain ⟨i9, b9, hb9, _, hx9⟩ := hx4
    have h17 := hpos b9 (List.mem_of_getElem? hb9)
    omega
  have ht6 := fun {W' : World} (hR : Rfa W' lo bv ls vs M) => rtk_no hR hx6.2
  have hq6 : ¬ (six = 0) := hx6.1
  have HF := Lib.hid (And.intro F hr)
  have HS := Lib.hid (M.vals_size bv ls)
  have hlt : (M.gd : Int) ≤ (e : Int) := by omega
  have hz0 : ((v : Int) == 0) = false := by simp; omega
  have hw1 : IntKind.u64.wrap ((v : Int) - 1) = (M.v : Int) := by rw [IntKind.wrap_u64]; omega
  clear h hr F hn hz
  obtain ⟨V, hV⟩ : ∃ V, M.vals bv ls = V := ⟨_, rfl⟩
  have HV := Lib.hid hV
  rw [hV] at hW hl ⊢
  obtain ⟨R, hR⟩ : ∃ R, rtcs v e four six = R := ⟨_, rfl⟩
  have HR := Lib.hid hR
  rw [hR] at hW ⊢
  clear hR
  obtain ⟨mg, hmg⟩ : ∃ mg, M.gd = mg := ⟨_, rfl⟩
  obtain ⟨mv, hmv⟩ : ∃ mv, M.v = mv := ⟨_, rfl⟩
  rw [hmg] at c12 hlt
  rw [hmv] at c8 hw1
  have HM := Lib.hid (And.intro hmg hmv)
  clear hmg hmv
  go_enter Try.func27, Try.ntmps27
  have hta4 := ht4 HF.out.1.bx.rf
  rw [hV] at hta4
  go_wp2_with fail
  refine hta4.mono ?_
  rintro e9 W2 ⟨⟨i4, rfl⟩, hb4⟩
  have HF4 := Lib.hid (And.intro (HF.out.1.lat hb4) (HF.out.2.kept (Kept.of_below [] hb4) (by simp)))
  clear hta4 hb4 r2 r3 hl c12 c8 r1 r0 hW
  have r2 : W2.cell? ⟨w.heap.size + 1, 2, none⟩ = some (.int .i64 four) := HF4.out.2.cell 2
  have r3 : W2.cell? ⟨w.heap.size + 1, 3, none⟩ = some (.int .i64 six) := HF4.out.2.cell 3
  have hl := HF4.out.1.bx.ld
  rw [HV.out] at hl
  have hge4 : ((i4 : Int) < 0) = False := by simp
  have hta6 := ht6 HF4.out.1.bx.rf
  rw [hV] at hta6
  go_wp2_with fail
  refine hta6.mono ?_
  rintro e9 W3 ⟨rfl, hb6⟩
  have HF6 := Lib.hid (And.intro (HF4.out.1.lat hb6) (HF4.out.2.kept (Kept.of_below [] hb6) (by simp)))
  clear hta6 hb6 r2 r3 hl
  have r2 : W3.cell? ⟨w.heap.size + 1, 2, none⟩ = some (.int .i64 four) := HF6.out.2.cell 2
  have r3 : W3.cell? ⟨w.heap.size + 1, 3, none⟩ = some (.int .i64 six) := HF6.out.2.cell 3
  have hl := HF6.out.1.bx.ld
  rw [HV.out] at hl
  obtain ⟨hs, hbk, hbe⟩ := HF6.out.1.st
  rw [HV.out] at hs hbk hbe
  have HE := Lib.hid (And.intro hbk hbe)
  clear hbk hbe
  have hsz : V.size = 13 := by rw [← HV.out]; exact HS.out
  have HSZ := Lib.hid hsz
  clear hsz
  go_wp2_with fail
  refine bodyPost_ret (results_ra2 rfl _ _ (w.heap.size + 2) V rfl HE.out.1 HSZ.out) rfl ?_
  exact ⟨rfl, HE.out.2⟩
set_option maxRecDepth 100000 in
set_option maxHeartbeats 2000000 in
theorem rpub_zz (h : Rfa w lo bv ls vs M) (v e : Nat) (four six : Int) (he : M.gd ≤ e) (hv : v < 18446744073709551616) (hz : v ≠ 0) (hn : v - 1 = M.v) (hx4 : four = 0) (hx6 : six = 0) : Calls Try.prog 27 #[.agg (M.vals bv ls), .agg (rtcs v e four six)] w fun x w' => ∃ u, x = .returned (.tuple #[u, .int .i64 0]) ∧ Ans w w' u { M with v := v, e := e, four := four, six := six } := by
  subst hx4
  subst hx6
  obtain ⟨W, hW, F, hr⟩ := fr_pub h (rtcs v e 0 0)
  have c12 : W.cell? ⟨w.heap.size, 12, none⟩ = some (.int .u64 (M.gd : Int)) := F.bx.bx.cell 12
  have c8 : W.cell? ⟨w.heap.size, 8, none⟩ = some (.int .u64 (M.v : Int)) := F.bx.bx.cell 8
  have r1 : W.cell? ⟨w.heap.size + 1, 1, none⟩ = some (.int .u64 (e : Int)) := hr.cell 1
  have r0 : W.cell? ⟨w.heap.size + 1, 0, none⟩ = some (.int .u64 (v : Int)) := hr.cell 0
  have r2 : W.cell? ⟨w.heap.size + 1, 2, none⟩ = some (.int .i64 0) := hr.cell 2
  have r3 : W.cell? ⟨w.heap.size + 1, 3, none⟩ = some (.int .i64 0) := hr.cell 3
  have hl := F.bx.ld
  have HF := Lib.hid (And.intro F hr)
  have HS := Lib.hid (M.vals_size bv ls)
  have hlt : (M.gd : Int) ≤ (e : Int) := by omega
  have hz0 : ((v : Int) == 0) = false := by simp; omega
  have hw1 : IntKind.u64.wrap ((v : Int) - 1) = (M.v : Int) := by rw [IntKind.wrap_u64]; omega
  clear h hr F hn hz
  obtain ⟨V, hV⟩ : ∃ V, M.vals bv ls = V := ⟨_, rfl⟩
  have HV := Lib.hid hV
  rw [hV] at hW hl ⊢
  obtain ⟨R, hR⟩ : ∃ R, rtcs v e 0 0 = R := ⟨_, rfl⟩
  have HR := Lib.hid hR
  rw [hR] at hW ⊢
  clear hR
  obtain ⟨mg, hmg⟩ : ∃ mg, M.gd = mg := ⟨_, rfl⟩
  obtain ⟨mv, hmv⟩ : ∃ mv, M.v = mv := ⟨_, rfl⟩
  rw [hmg] at c12 hlt
  rw [hmv] at c8 hw1
  have HM := Lib.hid (And.intro hmg hmv)
  clear hmg hmv
  go_enter Try.func27, Try.ntmps27
  have hcp := rcopy_any HF.out.1.bx.rf
  rw [HV.out] at hcp
  go_wp2_with fail
  refine hcp.mono ?_
  rintro e9 W' ⟨bv', ls', vs', rfl, hRf, hb⟩
  clear hcp hl r2 r3
  have hst := sra_new W' (M.vals_size bv' ls') hRf.vals_one
  have hk3 : Below W'.heap.size W' (W'.alloc (.cells (M.vals bv' ls') 36)) := (Below.refl _ _).alloc (Nat.le_refl _) _
  have b3 := Blk.new W' 36 (M.vals bv' ls')
  have hro := ld_root (w := W'.alloc (.cells (M.vals bv' ls') 36)) (g := w.heap.size + 1) (v := v) (e := e) (a := 0) (b := 0) ((HF.out.2.kept (Kept.of_below [] hb) (by simp)).kept (Kept.of_below [] hk3) (by simp))
  have hsr := storeRes_of (P := Try.prog) (ty := 34) (o := 8) (vs := rtcs v e 0 0) b3 (by simp [rtcs, Mo.vals]) s_root (rt_one _ _ _ _)
  rw [Mo.vals_root] at hsr
  have b4 := b3.row (({ M with v := v, e := e, four := 0, six := 0 } : Mo).vals bv' ls')
  have hk4 : Below W'.heap.size W' ((W'.alloc (.cells (M.vals bv' ls') 36)).setRow W'.heap.size (({ M with v := v, e := e, four := 0, six := 0 } : Mo).vals bv' ls')) := below_setRow hk3 (Nat.le_refl _) _
  obtain ⟨W4, hW4⟩ : ∃ W4, (W'.alloc (.cells (M.vals bv' ls') 36)).setRow W'.heap.size (({ M with v := v, e := e, four := 0, six := 0 } : Mo).vals bv' ls') = W4 := ⟨_, rfl⟩
  rw [hW4] at b4 hk4
  have hR4 : Rfa W4 W.heap.size bv' ls' vs' ({ M with v := v, e := e, four := 0, six := 0 } : Mo) := by
    have := hRf.later hk4
    exact ⟨this.row, this.len, this.wds, this.apart, this.ok, this.uq, this.lst, this.few, this.fewl, this.small⟩
  have hl4 := lra b4 rfl
  obtain ⟨hs4, hbk, hans⟩ := Fr.ans (M' := ({ M with v := v, e := e, four := 0, six := 0 } : Mo)) HF.out.1 hR4 (bel_later hb hk4)
  have HX := Lib.hid (And.intro hbk hans)
  obtain ⟨V4, hV4⟩ : ∃ V4, ({ M with v := v, e := e, four := 0, six := 0 } : Mo).vals bv' ls' = V4 := ⟨_, rfl⟩
  rw [hV4] at hl4 hs4 b4 HX hsr hW4
  rw [HR.out] at hro hsr
  clear b3 hRf hk3 hk4 b4 hb hR4 hbk hans
  generalize M.vals bv' ls' = V3 at *
  have h13 : V4.size = 13 := by rw [← hV4]; rfl
  have HV4 := Lib.hid h13
  clear h13 hV4
  go_wp2_with fail
  refine bodyPost_ret (results_ra2 rfl _ _ (w.heap.size + 2) V4 rfl HX.out.1 HV4.out) rfl ?_
  exact ⟨_, rfl, HX.out.2⟩
set_option maxRecDepth 100000 in
set_option maxHeartbeats 2000000 in
theorem rpub_zt (h : Rfa w lo bv ls vs M) (v e : Nat) (four six : Int) (he : M.gd ≤ e) (hv : v < 18446744073709551616) (hz : v ≠ 0) (hn : v - 1 = M.v) (hx4 : four = 0) (hx6 : Tkn M.R six) (hpos : ∀ b ∈ M.R, 0 < b.x) : Calls Try.prog 27 #[.agg (M.vals bv ls), .agg (rtcs v e four six)] w fun x w' => ∃ u, x = .returned (.tuple #[u, .int .i64 0]) ∧ Ans w w' u { M with v := v, e := e, four := four, six := six } := by
  subst hx4
  obtain ⟨W, hW, F, hr⟩ := fr_pub h (rtcs v e 0 six)
  have c12 : W.cell? ⟨w.heap.size, 12, none⟩ = some (.int .u64 (M.gd : Int)) := F.bx.bx.cell 12
  have c8 : W.cell? ⟨w.heap.size, 8, none⟩ = some (.int .u64 (M.v : Int)) := F.bx.bx.cell 8
  have r1 : W.cell? ⟨w.heap.size + 1, 1, none⟩ = some (.int .u64 (e : Int)) := hr.cell 1
  have r0 : W.cell? ⟨w.heap.size + 1, 0, none⟩ = some (.int .u64 (v : Int)) := hr.cell 0
  have r2 : W.cell? ⟨w.heap.size + 1, 2, none⟩ = some (.int .i64 0) := hr.cell 2
  have r3 : W.cell? ⟨w.heap.size + 1, 3, none⟩ = some (.int .i64 six) := hr.cell 3
  have hl := F.bx.ld
  have ht6 := fun {W' : World} (hR : Rfa W' lo bv ls vs M) => rtk_tkn hR hx6
  have hq6 : ¬ (six = 0) := by
    obtain ⟨i9, b9, hb9, _, hx9⟩ := hx6
    have h17 := hpos b9 (List.mem_of_getElem? hb9)
    omega
  have HF := Lib.hid (And.intro F hr)
  have HS := Lib.hid (M.vals_size bv ls)
  have hlt : (M.gd : Int) ≤ (e : Int) := by omega
  have hz0 : ((v : Int) == 0) = false := by simp; omega
  have hw1 : IntKind.u64.wrap ((v : Int) - 1) = (M.v : Int) := by rw [IntKind.wrap_u64]; omega
  clear h hr F hn hz
  obtain ⟨V, hV⟩ : ∃ V, M.vals bv ls = V := ⟨_, rfl⟩
  have HV := Lib.hid hV
  rw [hV] at hW hl ⊢
  obtain ⟨R, hR⟩ : ∃ R, rtcs v e 0 six = R := ⟨_, rfl⟩
  have HR := Lib.hid hR
  rw [hR] at hW ⊢
  clear hR
  obtain ⟨mg, hmg⟩ : ∃ mg, M.gd = mg := ⟨_, rfl⟩
  obtain ⟨mv, hmv⟩ : ∃ mv, M.v = mv := ⟨_, rfl⟩
  rw [hmg] at c12 hlt
  rw [hmv] at c8 hw1
  have HM := Lib.hid (And.intro hmg hmv)
  clear hmg hmv
  go_enter Try.func27, Try.ntmps27
  have hta6 := ht6 HF.out.1.bx.rf
  rw [hV] at hta6
  go_wp2_with fail
  refine hta6.mono ?_
  rintro e9 W2 ⟨⟨i6, rfl⟩, hb6⟩
  have HF6 := Lib.hid (And.intro (HF.out.1.lat hb6) (HF.out.2.kept (Kept.of_below [] hb6) (by simp)))
  clear hta6 hb6 r2 r3 hl c12 c8 r1 r0 hW
  have r2 : W2.cell? ⟨w.heap.size + 1, 2, none⟩ = some (.int .i64 0) := HF6.out.2.cell 2
  have r3 : W2.cell? ⟨w.heap.size + 1, 3, none⟩ = some (.int .i64 six) := HF6.out.2.cell 3
  have hl := HF6.out.1.bx.ld
  rw [HV.out] at hl
  have hge6 : ((i6 : Int) < 0) = False := by simp
  have hcp := rcopy_any HF6.out.1.bx.rf
  rw [HV.out] at hcp
  go_wp2_with fail
  refine hcp.mono ?_
  rintro e9 W' ⟨bv', ls', vs', rfl, hRf, hb⟩
  clear hcp hl r2 r3
  have hst := sra_new W' (M.vals_size bv' ls') hRf.vals_one
  have hk3 : Below W'.heap.size W' (W'.alloc (.cells (M.vals bv' ls') 36)) := (Below.refl _ _).alloc (Nat.le_refl _) _
  have b3 := Blk.new W' 36 (M.vals bv' ls')
  have hro := ld_root (w := W'.alloc (.cells (M.vals bv' ls') 36)) (g := w.heap.size + 1) (v := v) (e := e) (a := 0) (b := six) ((HF6.out.2.kept (Kept.of_below [] hb) (by simp)).kept (Kept.of_below [] hk3) (by simp))
  have hsr := storeRes_of (P := Try.prog) (ty := 34) (o := 8) (vs := rtcs v e 0 six) b3 (by simp [rtcs, Mo.vals]) s_root (rt_one _ _ _ _)
  rw [Mo.vals_root] at hsr
  have b4 := b3.row (({ M with v := v, e := e, four := 0, six := six } : Mo).vals bv' ls')
  have hk4 : Below W'.heap.size W' ((W'.alloc (.cells (M.vals bv' ls') 36)).setRow W'.heap.size (({ M with v := v, e := e, four := 0, six := six } : Mo).vals bv' ls')) := below_setRow hk3 (Nat.le_refl _) _
  obtain ⟨W4, hW4⟩ : ∃ W4, (W'.alloc (.cells (M.vals bv' ls') 36)).setRow W'.heap.size (({ M with v := v, e := e, four := 0, six := six } : Mo).vals bv' ls') = W4 := ⟨_, rfl⟩
  rw [hW4] at b4 hk4
  have hR4 : Rfa W4 W2.heap.size bv' ls' vs' ({ M with v := v, e := e, four := 0, six := six } : Mo) := by
    have := hRf.later hk4
    exact ⟨this.row, this.len, this.wds, this.apart, this.ok, this.uq, this.lst, this.few, this.fewl, this.small⟩
  have hl4 := lra b4 rfl
  obtain ⟨hs4, hbk, hans⟩ := Fr.ans (M' := ({ M with v := v, e := e, four := 0, six := six } : Mo)) HF6.out.1 hR4 (bel_later hb hk4)
  have HX := Lib.hid (And.intro hbk hans)
  obtain ⟨V4, hV4⟩ : ∃ V4, ({ M with v := v, e := e, four := 0, six := six } : Mo).vals bv' ls' = V4 := ⟨_, rfl⟩
  rw [hV4] at hl4 hs4 b4 HX hsr hW4
  rw [HR.out] at hro hsr
  clear b3 hRf hk3 hk4 b4 hb hR4 hbk hans
  generalize M.vals bv' ls' = V3 at *
  have h13 : V4.size = 13 := by rw [← hV4]; rfl
  have HV4 := Lib.hid h13
  clear h13 hV4
  go_wp2_with fail
  refine bodyPost_ret (results_ra2 rfl _ _ (w.heap.size + 2) V4 rfl HX.out.1 HV4.out) rfl ?_
  exact ⟨_, rfl, HX.out.2⟩
set_option maxRecDepth 100000 in
set_option maxHeartbeats 2000000 in
theorem rpub_tz (h : Rfa w lo bv ls vs M) (v e : Nat) (four six : Int) (he : M.gd ≤ e) (hv : v < 18446744073709551616) (hz : v ≠ 0) (hn : v - 1 = M.v) (hx4 : Tkn M.R four) (hx6 : six = 0) (hpos : ∀ b ∈ M.R, 0 < b.x) : Calls Try.prog 27 #[.agg (M.vals bv ls), .agg (rtcs v e four six)] w fun x w' => ∃ u, x = .returned (.tuple #[u, .int .i64 0]) ∧ Ans w w' u { M with v := v, e := e, four := four, six := six } := by
  subst hx6
  obtain ⟨W, hW, F, hr⟩ := fr_pub h (rtcs v e four 0)
  have c12 : W.cell? ⟨w.heap.size, 12, none⟩ = some (.int .u64 (M.gd : Int)) := F.bx.bx.cell 12
  have c8 : W.cell? ⟨w.heap.size, 8, none⟩ = some (.int .u64 (M.v : Int)) := F.bx.bx.cell 8
  have r1 : W.cell? ⟨w.heap.size + 1, 1, none⟩ = some (.int .u64 (e : Int)) := hr.cell 1
  have r0 : W.cell? ⟨w.heap.size + 1, 0, none⟩ = some (.int .u64 (v : Int)) := hr.cell 0
  have r2 : W.cell? ⟨w.heap.size + 1, 2, none⟩ = some (.int .i64 four) := hr.cell 2
  have r3 : W.cell? ⟨w.heap.size + 1, 3, none⟩ = some (.int .i64 0) := hr.cell 3
  have hl := F.bx.ld
  have ht4 := fun {W' : World} (hR : Rfa W' lo bv ls vs M) => rtk_tkn hR hx4
  have hq4 : ¬ (four = 0) := by
    obtain ⟨i9, b9, hb9, _, hx9⟩ := hx4
    have h17 := hpos b9 (List.mem_of_getElem? hb9)
    omega
  have HF := Lib.hid (And.intro F hr)
  have HS := Lib.hid (M.vals_size bv ls)
  have hlt : (M.gd : Int) ≤ (e : Int) := by omega
  have hz0 : ((v : Int) == 0) = false := by simp; omega
  have hw1 : IntKind.u64.wrap ((v : Int) - 1) = (M.v : Int) := by rw [IntKind.wrap_u64]; omega
  clear h hr F hn hz
  obtain ⟨V, hV⟩ : ∃ V, M.vals bv ls = V := ⟨_, rfl⟩
  have HV := Lib.hid hV
  rw [hV] at hW hl ⊢
  obtain ⟨R, hR⟩ : ∃ R, rtcs v e four 0 = R := ⟨_, rfl⟩
  have HR := Lib.hid hR
  rw [hR] at hW ⊢
  clear hR
  obtain ⟨mg, hmg⟩ : ∃ mg, M.gd = mg := ⟨_, rfl⟩
  obtain ⟨mv, hmv⟩ : ∃ mv, M.v = mv := ⟨_, rfl⟩
  rw [hmg] at c12 hlt
  rw [hmv] at c8 hw1
  have HM := Lib.hid (And.intro hmg hmv)
  clear hmg hmv
  go_enter Try.func27, Try.ntmps27
  have hta4 := ht4 HF.out.1.bx.rf
  rw [hV] at hta4
  go_wp2_with fail
  refine hta4.mono ?_
  rintro e9 W2 ⟨⟨i4, rfl⟩, hb4⟩
  have HF4 := Lib.hid (And.intro (HF.out.1.lat hb4) (HF.out.2.kept (Kept.of_below [] hb4) (by simp)))
  clear hta4 hb4 r2 r3 hl c12 c8 r1 r0 hW
  have r2 : W2.cell? ⟨w.heap.size + 1, 2, none⟩ = some (.int .i64 four) := HF4.out.2.cell 2
  have r3 : W2.cell? ⟨w.heap.size + 1, 3, none⟩ = some (.int .i64 0) := HF4.out.2.cell 3
  have hl := HF4.out.1.bx.ld
  rw [HV.out] at hl
  have hge4 : ((i4 : Int) < 0) = False := by simp
  have hcp := rcopy_any HF4.out.1.bx.rf
  rw [HV.out] at hcp
  go_wp2_with fail
  refine hcp.mono ?_
  rintro e9 W' ⟨bv', ls', vs', rfl, hRf, hb⟩
  clear hcp hl r2 r3
  have hst := sra_new W' (M.vals_size bv' ls') hRf.vals_one
  have hk3 : Below W'.heap.size W' (W'.alloc (.cells (M.vals bv' ls') 36)) := (Below.refl _ _).alloc (Nat.le_refl _) _
  have b3 := Blk.new W' 36 (M.vals bv' ls')
  have hro := ld_root (w := W'.alloc (.cells (M.vals bv' ls') 36)) (g := w.heap.size + 1) (v := v) (e := e) (a := four) (b := 0) ((HF4.out.2.kept (Kept.of_below [] hb) (by simp)).kept (Kept.of_below [] hk3) (by simp))
  have hsr := storeRes_of (P := Try.prog) (ty := 34) (o := 8) (vs := rtcs v e four 0) b3 (by simp [rtcs, Mo.vals]) s_root (rt_one _ _ _ _)
  rw [Mo.vals_root] at hsr
  have b4 := b3.row (({ M with v := v, e := e, four := four, six := 0 } : Mo).vals bv' ls')
  have hk4 : Below W'.heap.size W' ((W'.alloc (.cells (M.vals bv' ls') 36)).setRow W'.heap.size (({ M with v := v, e := e, four := four, six := 0 } : Mo).vals bv' ls')) := below_setRow hk3 (Nat.le_refl _) _
  obtain ⟨W4, hW4⟩ : ∃ W4, (W'.alloc (.cells (M.vals bv' ls') 36)).setRow W'.heap.size (({ M with v := v, e := e, four := four, six := 0 } : Mo).vals bv' ls') = W4 := ⟨_, rfl⟩
  rw [hW4] at b4 hk4
  have hR4 : Rfa W4 W2.heap.size bv' ls' vs' ({ M with v := v, e := e, four := four, six := 0 } : Mo) := by
    have := hRf.later hk4
    exact ⟨this.row, this.len, this.wds, this.apart, this.ok, this.uq, this.lst, this.few, this.fewl, this.small⟩
  have hl4 := lra b4 rfl
  obtain ⟨hs4, hbk, hans⟩ := Fr.ans (M' := ({ M with v := v, e := e, four := four, six := 0 } : Mo)) HF4.out.1 hR4 (bel_later hb hk4)
  have HX := Lib.hid (And.intro hbk hans)
  obtain ⟨V4, hV4⟩ : ∃ V4, ({ M with v := v, e := e, four := four, six := 0 } : Mo).vals bv' ls' = V4 := ⟨_, rfl⟩
  rw [hV4] at hl4 hs4 b4 HX hsr hW4
  rw [HR.out] at hro hsr
  clear b3 hRf hk3 hk4 b4 hb hR4 hbk hans
  generalize M.vals bv' ls' = V3 at *
  have h13 : V4.size = 13 := by rw [← hV4]; rfl
  have HV4 := Lib.hid h13
  clear h13 hV4
  go_wp2_with fail
  refine bodyPost_ret (results_ra2 rfl _ _ (w.heap.size + 2) V4 rfl HX.out.1 HV4.out) rfl ?_
  exact ⟨_, rfl, HX.out.2⟩
set_option maxRecDepth 100000 in
set_option maxHeartbeats 2000000 in
theorem rpub_tt (h : Rfa w lo bv ls vs M) (v e : Nat) (four six : Int) (he : M.gd ≤ e) (hv : v < 18446744073709551616) (hz : v ≠ 0) (hn : v - 1 = M.v) (hx4 : Tkn M.R four) (hx6 : Tkn M.R six) (hpos : ∀ b ∈ M.R, 0 < b.x) : Calls Try.prog 27 #[.agg (M.vals bv ls), .agg (rtcs v e four six)] w fun x w' => ∃ u, x = .returned (.tuple #[u, .int .i64 0]) ∧ Ans w w' u { M with v := v, e := e, four := four, six := six } := by
  obtain ⟨W, hW, F, hr⟩ := fr_pub h (rtcs v e four six)
  have c12 : W.cell? ⟨w.heap.size, 12, none⟩ = some (.int .u64 (M.gd : Int)) := F.bx.bx.cell 12
  have c8 : W.cell? ⟨w.heap.size, 8, none⟩ = some (.int .u64 (M.v : Int)) := F.bx.bx.cell 8
  have r1 : W.cell? ⟨w.heap.size + 1, 1, none⟩ = some (.int .u64 (e : Int)) := hr.cell 1
  have r0 : W.cell? ⟨w.heap.size + 1, 0, none⟩ = some (.int .u64 (v : Int)) := hr.cell 0
  have r2 : W.cell? ⟨w.heap.size + 1, 2, none⟩ = some (.int .i64 four) := hr.cell 2
  have r3 : W.cell? ⟨w.heap.size + 1, 3, none⟩ = some (.int .i64 six) := hr.cell 3
  have hl := F.bx.ld
  have ht4 := fun {W' : World} (hR : Rfa W' lo bv ls vs M) => rtk_tkn hR hx4
  have hq4 : ¬ (four = 0) := by
    obtain ⟨i9, b9, hb9, _, hx9⟩ := hx4
    have h17 := hpos b9 (List.mem_of_getElem? hb9)
    omega
  have ht6 := fun {W' : World} (hR : Rfa W' lo bv ls vs M) => rtk_tkn hR hx6
  have hq6 : ¬ (six = 0) := by
    obtain ⟨i9, b9, hb9, _, hx9⟩ := hx6
    have h17 := hpos b9 (List.mem_of_getElem? hb9)
    omega
  have HF := Lib.hid (And.intro F hr)
  have HS := Lib.hid (M.vals_size bv ls)
  have hlt : (M.gd : Int) ≤ (e : Int) := by omega
  have hz0 : ((v : Int) == 0) = false := by simp; omega
  have hw1 : IntKind.u64.wrap ((v : Int) - 1) = (M.v : Int) := by rw [IntKind.wrap_u64]; omega
  clear h hr F hn hz
  obtain ⟨V, hV⟩ : ∃ V, M.vals bv ls = V := ⟨_, rfl⟩
  have HV := Lib.hid hV
  rw [hV] at hW hl ⊢
  obtain ⟨R, hR⟩ : ∃ R, rtcs v e four six = R := ⟨_, rfl⟩
  have HR := Lib.hid hR
  rw [hR] at hW ⊢
  clear hR
  obtain ⟨mg, hmg⟩ : ∃ mg, M.gd = mg := ⟨_, rfl⟩
  obtain ⟨mv, hmv⟩ : ∃ mv, M.v = mv := ⟨_, rfl⟩
  rw [hmg] at c12 hlt
  rw [hmv] at c8 hw1
  have HM := Lib.hid (And.intro hmg hmv)
  clear hmg hmv
  go_enter Try.func27, Try.ntmps27
  have hta4 := ht4 HF.out.1.bx.rf
  rw [hV] at hta4
  go_wp2_with fail
  refine hta4.mono ?_
  rintro e9 W2 ⟨⟨i4, rfl⟩, hb4⟩
  have HF4 := Lib.hid (And.intro (HF.out.1.lat hb4) (HF.out.2.kept (Kept.of_below [] hb4) (by simp)))
  clear hta4 hb4 r2 r3 hl c12 c8 r1 r0 hW
  have r2 : W2.cell? ⟨w.heap.size + 1, 2, none⟩ = some (.int .i64 four) := HF4.out.2.cell 2
  have r3 : W2.cell? ⟨w.heap.size + 1, 3, none⟩ = some (.int .i64 six) := HF4.out.2.cell 3
  have hl := HF4.out.1.bx.ld
  rw [HV.out] at hl
  have hge4 : ((i4 : Int) < 0) = False := by simp
  have hta6 := ht6 HF4.out.1.bx.rf
  rw [hV] at hta6
  go_wp2_with fail
  refine hta6.mono ?_
  rintro e9 W3 ⟨⟨i6, rfl⟩, hb6⟩
  have HF6 := Lib.hid (And.intro (HF4.out.1.lat hb6) (HF4.out.2.kept (Kept.of_below [] hb6) (by simp)))
  clear hta6 hb6 r2 r3 hl
  have r2 : W3.cell? ⟨w.heap.size + 1, 2, none⟩ = some (.int .i64 four) := HF6.out.2.cell 2
  have r3 : W3.cell? ⟨w.heap.size + 1, 3, none⟩ = some (.int .i64 six) := HF6.out.2.cell 3
  have hl := HF6.out.1.bx.ld
  rw [HV.out] at hl
  have hge6 : ((i6 : Int) < 0) = False := by simp
  have hcp := rcopy_any HF6.out.1.bx.rf
  rw [HV.out] at hcp
  go_wp2_with fail
  refine hcp.mono ?_
  rintro e9 W' ⟨bv', ls', vs', rfl, hRf, hb⟩
  clear hcp hl r2 r3
  have hst := sra_new W' (M.vals_size bv' ls') hRf.vals_one
  have hk3 : Below W'.heap.size W' (W'.alloc (.cells (M.vals bv' ls') 36)) := (Below.refl _ _).alloc (Nat.le_refl _) _
  have b3 := Blk.new W' 36 (M.vals bv' ls')
  have hro := ld_root (w := W'.alloc (.cells (M.vals bv' ls') 36)) (g := w.heap.size + 1) (v := v) (e := e) (a := four) (b := six) ((HF6.out.2.kept (Kept.of_below [] hb) (by simp)).kept (Kept.of_below [] hk3) (by simp))
  have hsr := storeRes_of (P := Try.prog) (ty := 34) (o := 8) (vs := rtcs v e four six) b3 (by simp [rtcs, Mo.vals]) s_root (rt_one _ _ _ _)
  rw [Mo.vals_root] at hsr
  have b4 := b3.row (({ M with v := v, e := e, four := four, six := six } : Mo).vals bv' ls')
  have hk4 : Below W'.heap.size W' ((W'.alloc (.cells (M.vals bv' ls') 36)).setRow W'.heap.size (({ M with v := v, e := e, four := four, six := six } : Mo).vals bv' ls')) := below_setRow hk3 (Nat.le_refl _) _
  obtain ⟨W4, hW4⟩ : ∃ W4, (W'.alloc (.cells (M.vals bv' ls') 36)).setRow W'.heap.size (({ M with v := v, e := e, four := four, six := six } : Mo).vals bv' ls') = W4 := ⟨_, rfl⟩
  rw [hW4] at b4 hk4
  have hR4 : Rfa W4 W3.heap.size bv' ls' vs' ({ M with v := v, e := e, four := four, six := six } : Mo) := by
    have := hRf.later hk4
    exact ⟨this.row, this.len, this.wds, this.apart, this.ok, this.uq, this.lst, this.few, this.fewl, this.small⟩
  have hl4 := lra b4 rfl
  obtain ⟨hs4, hbk, hans⟩ := Fr.ans (M' := ({ M with v := v, e := e, four := four, six := six } : Mo)) HF6.out.1 hR4 (bel_later hb hk4)
  have HX := Lib.hid (And.intro hbk hans)
  obtain ⟨V4, hV4⟩ : ∃ V4, ({ M with v := v, e := e, four := four, six := six } : Mo).vals bv' ls' = V4 := ⟨_, rfl⟩
  rw [hV4] at hl4 hs4 b4 HX hsr hW4
  rw [HR.out] at hro hsr
  clear b3 hRf hk3 hk4 b4 hb hR4 hbk hans
  generalize M.vals bv' ls' = V3 at *
  have h13 : V4.size = 13 := by rw [← hV4]; rfl
  have HV4 := Lib.hid h13
  clear h13 hV4
  go_wp2_with fail
  refine bodyPost_ret (results_ra2 rfl _ _ (w.heap.size + 2) V4 rfl HX.out.1 HV4.out) rfl ?_
  exact ⟨_, rfl, HX.out.2⟩
end
end Go.Proofs.Ytgnpoehcmlmajaa
namespace Go.Proofs.Ytgnpoehcmlmajaa
open Go.RowKit Go.Shelf
set_option linter.unusedVariables false
attribute [local go_sem ↓] load_ra_rule store_ra_rule load_rb_rule store_rb_rule
section
variable {w W W' : World} {g z lo : Nat} {bv : Value} {ls : Nat → Value} {vs : List Value} {M : Mo}
/-- What a block's cells tell in the box's world. -/
theorem Bx.blk (F : Bx w W g lo bv ls vs M) {k : Nat} {b : Rb} (hb : M.R[k]? = some b) : ∃ gb c gw cw, bv = .slice (some ⟨gb, 0, none⟩) M.R.length c ∧ vs[k]? = some (.slice (some ⟨gw, 0, none⟩) (2 ^ b.c) cw) ∧
    W.cell? ⟨g, 1, none⟩ = some (.slice (some ⟨gb, 0, none⟩) M.R.length c) ∧ W.cell? ⟨gb, k * 4, none⟩ = some (.int .i64 (b.x : Int)) ∧ W.cell? ⟨gb, k * 4 + 1, none⟩ = some (.int .i64 (b.c : Int)) ∧ W.cell? ⟨gb, k * 4 + 2, none⟩ = some (.bool b.t) ∧ W.cell? ⟨gb, k * 4 + 3, none⟩ = some (.slice (some ⟨gw, 0, none⟩) (2 ^ b.c) cw) ∧
    (∀ j u, (wvl b.ws)[j]? = some u → W.cell? ⟨gw, j, none⟩ = some u) ∧ k < M.R.length := by
  have hk := (List.getElem?_eq_some_iff.1 hb).1
  obtain ⟨v, hv⟩ := F.rf.v_get hb
  obtain ⟨gb, c, hbv, _⟩ := owns_cell F.rf.row (by omega)
  have hok := F.rf.ok b (List.mem_of_getElem? hb)
  obtain ⟨gw, cw, hvw, _, _, hcl⟩ := owns_cell (F.rf.wds k b v hb hv) (by have := (pow5 hok.1).1; omega)
  have c1 := F.c1
  have hrow := F.rf.row
  rw [hbv] at c1 hrow
  have hc := (lrow hrow hb hv hk).1
  subst hvw
  exact ⟨gb, c, gw, cw, hbv, hv, c1, hc 0 (by omega), hc 1 (by omega), hc 2 (by omega), hc 3 (by omega), hcl, hk⟩
theorem wvl_get {l : List Nat} {j : Nat} (hj : j < l.length) : (wvl l)[j]? = some (.int .u32 ((l.getD j 0 : Nat) : Int)) := by
  simp [wvl, hj]
set_option maxRecDepth 100000 in
set_option maxHeartbeats 1000000 in
theorem rload_no (h : Rfa w lo bv ls vs M) (x i : Int) (hx : ∀ b ∈ M.R, b.t = true → (b.x : Int) ≠ x) : Calls Try.prog 24 #[.agg (M.vals bv ls), .int .i64 x, .int .i64 i] w fun e w' => e = .returned (.tuple #[.int .u32 0, .int .i64 4]) ∧ Below w.heap.size w w' := by
  have hB := bx_new h
  obtain ⟨W, hW⟩ : ∃ W, w.alloc (.cells (M.vals bv ls) 36) = W := ⟨_, rfl⟩
  rw [hW] at hB
  have hta := rtk_no hB.rf hx
  have hl := hB.ld
  have HB := Lib.hid hB
  clear hB h
  generalize M.vals bv ls = V at *
  go_enter Try.func24, Try.ntmps24
  go_wp2_with fail
  refine hta.mono ?_
  rintro e W2 ⟨rfl, hb2⟩
  have HX := Lib.hid (bel_later HB.out.hb hb2)
  clear hta hb2 hl hW
  go_wp2_with fail
  go_ret2
  exact ⟨rfl, HX.out⟩
set_option maxRecDepth 100000 in
set_option maxHeartbeats 1000000 in
theorem rload_out (h : Rfa w lo bv ls vs M) {k : Nat} {b : Rb} (hb : M.R[k]? = some b) (ht : b.t = true) (i : Int) (hi : i < 0 ∨ ((2 ^ b.c : Nat) : Int) ≤ i) : Calls Try.prog 24 #[.agg (M.vals bv ls), .int .i64 (b.x : Int), .int .i64 i] w fun e w' => e = .returned (.tuple #[.int .u32 0, .int .i64 2]) ∧ Below w.heap.size w w' := by
  have hB := bx_new h
  obtain ⟨W, hW⟩ : ∃ W, w.alloc (.cells (M.vals bv ls) 36) = W := ⟨_, rfl⟩
  rw [hW] at hB
  have hta := rtk_yes hB.rf hb ht
  have hl := hB.ld
  have hfew := h.few
  have HB := Lib.hid (And.intro hB hb)
  clear hB h hb
  generalize M.vals bv ls = V at *
  go_enter Try.func24, Try.ntmps24
  go_wp2_with fail
  refine hta.mono ?_
  rintro e W2 ⟨rfl, hb2⟩
  have F2 := HB.out.1.later hb2
  obtain ⟨gb, c, gw, cw, _, _, c1, _, _, _, c3, _, hk⟩ := F2.blk HB.out.2
  have HX := Lib.hid F2.hb
  clear hta hb2 hl hW F2
  generalize M.R.length = n at *
  generalize hzz : 2 ^ b.c = zz at *
  have hk0 : ¬ ((k : Int) < 0) := by omega
  have hki : (k : Int) < (n : Int) := by omega
  by_cases hi0 : i < 0
  · go_wp2_with fail
    go_ret2
    exact ⟨rfl, HX.out⟩
  · have hi1 : (zz : Int) ≤ i := by omega
    clear hi
    go_wp2_with fail
    go_ret2
    exact ⟨rfl, HX.out⟩
set_option maxRecDepth 100000 in
set_option maxHeartbeats 1000000 in
theorem rload_yes (h : Rfa w lo bv ls vs M) {k : Nat} {b : Rb} (hb : M.R[k]? = some b) (ht : b.t = true) (i : Nat) (hi : i < 2 ^ b.c) : Calls Try.prog 24 #[.agg (M.vals bv ls), .int .i64 (b.x : Int), .int .i64 (i : Int)] w fun e w' => e = .returned (.tuple #[.int .u32 ((b.ws.getD i 0 : Nat) : Int), .int .i64 0]) ∧ Below w.heap.size w w' := by
  have hB := bx_new h
  obtain ⟨W, hW⟩ : ∃ W, w.alloc (.cells (M.vals bv ls) 36) = W := ⟨_, rfl⟩
  rw [hW] at hB
  have hta := rtk_yes hB.rf hb ht
  have hl := hB.ld
  have hfew := h.few
  have hok := h.ok b (List.mem_of_getElem? hb)
  have hg : (wvl b.ws)[i]? = some (.int .u32 ((b.ws.getD i 0 : Nat) : Int)) := wvl_get (by omega)
  have HB := Lib.hid (And.intro hB hb)
  clear hB h hb
  generalize M.vals bv ls = V at *
  generalize b.ws.getD i 0 = y at *
  go_enter Try.func24, Try.ntmps24
  go_wp2_with fail
  refine hta.mono ?_
  rintro e W2 ⟨rfl, hb2⟩
  have F2 := HB.out.1.later hb2
  obtain ⟨gb, c, gw, cw, _, _, c1, _, _, _, c3, hcl, hk⟩ := F2.blk HB.out.2
  have ci := hcl i _ hg
  have HX := Lib.hid F2.hb
  have hp := (pow5 hok.1).2
  clear hta hb2 hl hW F2 hcl hg hok
  generalize M.R.length = n at *
  generalize hzz : 2 ^ b.c = zz at *
  have hk0 : ¬ ((k : Int) < 0) := by omega
  have hki : (k : Int) < (n : Int) := by omega
  have hi0 : ¬ ((i : Int) < 0) := by omega
  have hi1 : (i : Int) < (zz : Int) := by omega
  go_wp2_with fail
  go_ret2
  exact ⟨rfl, HX.out⟩
end
end Go.Proofs.Ytgnpoehcmlmajaa
