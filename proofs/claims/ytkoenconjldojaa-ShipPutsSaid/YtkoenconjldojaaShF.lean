/-
  Entries that a call owns; the contracts of the reference's batch and Entries. Nothing here is a statement of the document.
-/
import Derived.Test.YtkoenconjldojaaLinZ
import Derived.Test.YtkoenconjldojaaLinF
import Derived.Deep.Cut
import Derived.Deep.CutBlock
namespace Go.Proofs.Ytkoenconjldojaa
open Go.RowKit Go.Shelf
set_option linter.unusedVariables false
set_option linter.unusedSimpArgs false
attribute [local go_sem 10000] gtU_rule leU_rule ltU_rule geU_rule adU_rule sbU_rule mxU_rule mnU_rule mnI_rule
attribute [local go_sem ↓] load_at_rule store_at_rule load_la_rule store_la_rule load_bs_rule store_bs_rule load_vw_rule store_vw_rule load_jo_rule store_jo_rule load_ms_rule store_ms_rule load_ch_rule store_ch_rule load_hd_rule store_hd_rule load_rb_rule store_rb_rule load_en_rule store_en_rule
attribute [local go_sem ↓] build_at_rule build_jo_rule
/-- The place of the last entry. -/
def lastV (v : Vw) : Int × Int := if v.n = 0 then ((v.b.i : Int), v.b.e) else ((v.z : Int), (eng v.L (v.n - 1)).ep)
theorem lastV_z (v : Vw) : (lastV v).1 = (v.z : Int) := by
  unfold lastV Vw.z
  split
  · rename_i h; rw [h]; rfl
  · rfl
set_option maxRecDepth 100000 in
set_option maxHeartbeats 1600000 in
theorem last12_any (v : Vw) (w : World) (hL : EnIn w 0 v.a v.n v.c v.L) (hz : v.b.i + v.n < 18446744073709551616) : Calls Try.prog 56 #[.agg v.cs] w fun e w' => e = .returned (.agg (acs (lastV v).1 (lastV v).2)) ∧ Below w.heap.size w w' := by
  obtain ⟨W1, hW1⟩ : ∃ W1, w.alloc (.cells v.cs 102) = W1 := ⟨_, rfl⟩
  have hb1 : Below w.heap.size w W1 := by rw [← hW1]; exact below_alloc w _
  have b1 : Blk W1 w.heap.size 102 v.cs := by rw [← hW1]; exact Blk.new w _ _
  obtain ⟨W2, hW2⟩ : ∃ W2, W1.alloc (.cells (acs 0 0) 24) = W2 := ⟨_, rfl⟩
  have hb12 : Below W1.heap.size W1 W2 := by rw [← hW2]; exact below_alloc W1 _
  have b2 : Blk W2 W1.heap.size 24 (acs 0 0) := by rw [← hW2]; exact Blk.new W1 _ _
  have hle : w.heap.size ≤ W1.heap.size := by rw [← hW1]; simp
  have v2 := (b1.later hb12)
  have hb02 : Below w.heap.size w W2 := bel_trans hb1 hb12
  by_cases h0 : v.n = 0
  · rw [show lastV v = ((v.b.i : Int), v.b.e) by unfold lastV; rw [if_pos h0]]
    obtain ⟨c0, c1, c2, c3, c4⟩ := vw_cells v2
    rw [h0] at c4
    have LA := jo_at v2
    have ST := st_at (i2 := (v.b.i : Int)) (e2 := v.b.e) b2
    have HF := Lib.hid (And.intro (b2.row (acs (v.b.i : Int) v.b.e)) (below_setRow hb02 hle (acs (v.b.i : Int) v.b.e)))
    clear hb1 b1 hb12 b2 v2 hb02 hle h0 hL hz
    go_enter Try.func56, Try.ntmps56
    go_wp2_with (with_reducible refine wpList_alloc_z rfl 24 rfl (acs 0 0) 2 z_at ?_)
    refine bodyPost_ret (results_cell_row rfl _ _ W1.heap.size 24 _ (0, 0) _ rfl HF.out.1 Try.underlying24 rfl (s_at _ _)) rfl ?_
    exact ⟨rfl, HF.out.2⟩
  · rw [show lastV v = ((v.z : Int), (eng v.L (v.n - 1)).ep) by unfold lastV; rw [if_neg h0]]
    have hl : v.n - 1 < v.L.length := by have := hL.1; omega
    obtain ⟨g, o, ha, hrow⟩ := (hL.later hb02).2.1.spot hl
    have c5 : W2.drew.cell? ⟨g, o + (v.n - 1) * 4, none⟩ = some (.int .u64 (eng v.L (v.n - 1)).ep) := hrow.c0 hl
    have v2d : Blk W2.drew w.heap.size 102 v.cs := v2
    obtain ⟨p0, p1, p2, p3, p4⟩ := vw_cells v2
    obtain ⟨c0, c1, c2, c3, c4⟩ := vw_cells v2d
    rw [ha] at c4 p4
    have b2d : Blk W2.drew W1.heap.size 24 (acs 0 0) := b2
    have ST := st_at (i2 := (v.z : Int)) (e2 := (eng v.L (v.n - 1)).ep) b2d
    have HF := Lib.hid (And.intro (b2d.row (acs (v.z : Int) (eng v.L (v.n - 1)).ep)) (below_setRow (bel_drew hb02) hle (acs (v.z : Int) (eng v.L (v.n - 1)).ep)))
    have d0 : adU (v.b.i : Int) (v.n : Int) = (v.z : Int) := adU_nat hz
    have d1 : IntKind.u64.wrap (v.n : Int) = (v.n : Int) := by rw [IntKind.wrap_u64]; omega
    have B1 := build_at (v.z : Int) (eng v.L (v.n - 1)).ep
    have hcn : v.n ≤ v.c := hL.2.2.1
    have hcm : v.c ≤ 9223372036854775807 := by have := hL.2.2.2.1; unfold maxLen at this; omega
    have d2 : ((v.n : Int) == 0) = false := by simp; omega
    generalize hn : v.n - 1 = n at *
    have hn2 : n < v.n := by omega
    have d3 : wrap64 ((v.n : Int) - 1) = (n : Int) := by unfold wrap64; omega
    have d4 : IntKind.i64.wrap ((v.n : Int) - 1) = (n : Int) := by rw [IntKind.wrap_i64]; omega
    clear hb1 b1 hb12 b2 v2 hb02 hle hL hz hl hrow ha b2d v2d
    clear hn h0
    generalize v.n = m at *
    go_enter Try.func56, Try.ntmps56
    go_wp2_with (with_reducible refine wpList_alloc_z rfl 24 rfl (acs 0 0) 2 z_at ?_)
    refine wp_region_linF (fun w' => w' = _) 15 [15] [0, 1, 2, 3, 4, 5, 6, 7, 8, 9, 10, 11, 12, 13, 14, 15] (by kernel_rfl) (by kernel_rfl) rfl ?_
    (repeat (refine linF_op (v := ?_) rfl rfl (by rfl) (fun w9 hS9 => ?_) ?_; rotate_left; (focus ((subst hS9; go_simp) <;> with_reducible rfl)); (try simp only [Act.put, List.getElem_toArray, List.getElem_cons_zero, List.getElem_cons_succ, List.setIfInBounds_toArray, List.set_cons_zero, List.set_cons_succ])))
    refine linF_fin (w' := W2.drew.setRow W1.heap.size (acs (v.z : Int) (eng v.L n).ep)) rfl rfl (by rfl) (by go_simp; done) ?_
    (try simp only [Act.put, List.getElem_toArray, List.getElem_cons_zero, List.getElem_cons_succ, List.setIfInBounds_toArray, List.set_cons_zero, List.set_cons_succ])
    go_wp2_with fail
    refine bodyPost_ret (results_cell_row rfl _ _ W1.heap.size 24 _ (0, 0) _ rfl HF.out.1 Try.underlying24 rfl (s_at _ _)) rfl ?_
    exact ⟨rfl, HF.out.2⟩

set_option maxRecDepth 100000 in
set_option maxHeartbeats 1600000 in
theorem last14_any (v : Vw) (w : World) (hL : EnIn w 0 v.a v.n v.c v.L) (hz : v.b.i + v.n < 18446744073709551616) : Calls Try.prog 43 #[.agg v.cs] w fun e w' => e = .returned (.agg (acs (lastV v).1 (lastV v).2)) ∧ Below w.heap.size w w' := by
  obtain ⟨W1, hW1⟩ : ∃ W1, w.alloc (.cells v.cs 36) = W1 := ⟨_, rfl⟩
  have hb1 : Below w.heap.size w W1 := by rw [← hW1]; exact below_alloc w _
  have b1 : Blk W1 w.heap.size 36 v.cs := by rw [← hW1]; exact Blk.new w _ _
  obtain ⟨W2, hW2⟩ : ∃ W2, W1.alloc (.cells (acs 0 0) 24) = W2 := ⟨_, rfl⟩
  have hb12 : Below W1.heap.size W1 W2 := by rw [← hW2]; exact below_alloc W1 _
  have b2 : Blk W2 W1.heap.size 24 (acs 0 0) := by rw [← hW2]; exact Blk.new W1 _ _
  have hle : w.heap.size ≤ W1.heap.size := by rw [← hW1]; simp
  have v2 := (b1.later hb12)
  have hb02 : Below w.heap.size w W2 := bel_trans hb1 hb12
  have LV := ld_vw v2
  have HJ := journal_any v W2
  have HX := Lib.hid (And.intro hb02 (And.intro b2 (And.intro hle (And.intro hL hz))))
  clear hb1 b1 hb12 b2 v2 hb02 hle hL hz
  go_enter Try.func43, Try.ntmps43
  go_wp2_with (with_reducible refine wpList_alloc_z rfl 24 rfl (acs 0 0) 2 z_at ?_)
  refine HJ.mono ?_
  rintro e W3 ⟨rfl, hb3⟩
  have HT := last12_any v W3 (HX.out.2.2.2.1.later (bel_trans HX.out.1 hb3)) HX.out.2.2.2.2
  have HY := Lib.hid (And.intro (bel_trans HX.out.1 hb3) (HX.out.2.1.later hb3))
  clear hb3
  go_wp2_with fail
  refine HT.mono ?_
  rintro e W4 ⟨rfl, hb4⟩
  have b4 := HY.out.2.later hb4
  have ST := st_at (i2 := (lastV v).1) (e2 := (lastV v).2) b4
  have HF := Lib.hid (And.intro (b4.row (acs (lastV v).1 (lastV v).2)) (below_setRow (bel_trans HY.out.1 hb4) HX.out.2.2.1 (acs (lastV v).1 (lastV v).2)))
  clear hb4 b4
  go_wp2_with fail
  refine bodyPost_ret (results_cell_row rfl _ _ W1.heap.size 24 _ (0, 0) _ rfl HF.out.1 Try.underlying24 rfl (s_at _ _)) rfl ?_
  exact ⟨rfl, HF.out.2⟩

set_option maxRecDepth 100000 in
set_option maxHeartbeats 1600000 in
theorem at12_base (v : Vw) (x : Nat) (w : World) (hL : EnIn w 0 v.a v.n v.c v.L) (hz : v.b.i + v.n < 18446744073709551616) (hx : x < 18446744073709551616) (h : x = v.b.i) : Calls Try.prog 41 #[.agg v.cs, .int .u64 (x : Int)] w fun e w' => e = .returned (.tuple #[.agg (acs (v.b.i : Int) v.b.e), .bool true]) ∧ Below w.heap.size w w' := by
  obtain ⟨W1, hW1⟩ : ∃ W1, w.alloc (.cells v.cs 102) = W1 := ⟨_, rfl⟩
  have hb1 : Below w.heap.size w W1 := by rw [← hW1]; exact below_alloc w _
  have b1 : Blk W1 w.heap.size 102 v.cs := by rw [← hW1]; exact Blk.new w _ _
  obtain ⟨W2, hW2⟩ : ∃ W2, W1.alloc (.cells (acs 0 0) 24) = W2 := ⟨_, rfl⟩
  have hb12 : Below W1.heap.size W1 W2 := by rw [← hW2]; exact below_alloc W1 _
  have b2 : Blk W2 W1.heap.size 24 (acs 0 0) := by rw [← hW2]; exact Blk.new W1 _ _
  have hle : w.heap.size ≤ W1.heap.size := by rw [← hW1]; simp
  have v2 := (b1.later hb12)
  have hb02 : Below w.heap.size w W2 := bel_trans hb1 hb12
  have LA := jo_at v2
  have LV := ld_jo v2
  obtain ⟨c0, c1, c2, c3, c4⟩ := vw_cells v2
  have B0 := build_at0
  have d2 : ((x : Int) == (v.b.i : Int)) = true := by simp; omega
  have HX := Lib.hid (And.intro hb02 (And.intro b2 (And.intro hle (And.intro v2 hL))))
  have ST := st_at (i2 := (v.b.i : Int)) (e2 := v.b.e) b2
  have HF := Lib.hid (And.intro (b2.row (acs (v.b.i : Int) v.b.e)) (below_setRow hb02 HX.out.2.2.1 (acs (v.b.i : Int) v.b.e)))
  clear hb1 b1 hb12 b2 v2 hb02 hle hL hz
  clear h
  go_enter Try.func41, Try.ntmps41
  go_wp2_with (with_reducible refine wpList_alloc_z rfl 24 rfl (acs 0 0) 2 z_at ?_)
  refine bodyPost_ret (results_row_tmp rfl _ _ W1.heap.size _ _ rfl HF.out.1 Try.underlying24 rfl (s_at _ _)) rfl ?_
  exact ⟨rfl, HF.out.2⟩

set_option maxRecDepth 100000 in
set_option maxHeartbeats 1600000 in
theorem at12_low (v : Vw) (x : Nat) (w : World) (hL : EnIn w 0 v.a v.n v.c v.L) (hz : v.b.i + v.n < 18446744073709551616) (hx : x < 18446744073709551616) (h : x < v.b.i) : Calls Try.prog 41 #[.agg v.cs, .int .u64 (x : Int)] w fun e w' => e = .returned (.tuple #[.agg (acs 0 0), .bool false]) ∧ Below w.heap.size w w' := by
  obtain ⟨W1, hW1⟩ : ∃ W1, w.alloc (.cells v.cs 102) = W1 := ⟨_, rfl⟩
  have hb1 : Below w.heap.size w W1 := by rw [← hW1]; exact below_alloc w _
  have b1 : Blk W1 w.heap.size 102 v.cs := by rw [← hW1]; exact Blk.new w _ _
  obtain ⟨W2, hW2⟩ : ∃ W2, W1.alloc (.cells (acs 0 0) 24) = W2 := ⟨_, rfl⟩
  have hb12 : Below W1.heap.size W1 W2 := by rw [← hW2]; exact below_alloc W1 _
  have b2 : Blk W2 W1.heap.size 24 (acs 0 0) := by rw [← hW2]; exact Blk.new W1 _ _
  have hle : w.heap.size ≤ W1.heap.size := by rw [← hW1]; simp
  have v2 := (b1.later hb12)
  have hb02 : Below w.heap.size w W2 := bel_trans hb1 hb12
  have LA := jo_at v2
  have LV := ld_jo v2
  obtain ⟨c0, c1, c2, c3, c4⟩ := vw_cells v2
  have B0 := build_at0
  have d2 : ((x : Int) == (v.b.i : Int)) = false := by simp; omega
  have d0 : ltU (x : Int) (v.b.i : Int) = true := by rw [ltU_nat]; simp [h]
  have HX := Lib.hid (And.intro hb02 (And.intro b2 (And.intro hle (And.intro v2 hL))))
  have ST := st_at (i2 := 0) (e2 := 0) b2
  have HF := Lib.hid (And.intro (b2.row (acs 0 0)) (below_setRow hb02 HX.out.2.2.1 (acs 0 0)))
  clear hb1 b1 hb12 b2 v2 hb02 hle hL hz
  clear h
  go_enter Try.func41, Try.ntmps41
  go_wp2_with (with_reducible refine wpList_alloc_z rfl 24 rfl (acs 0 0) 2 z_at ?_)
  refine bodyPost_ret (results_row_tmp rfl _ _ W1.heap.size _ _ rfl HF.out.1 Try.underlying24 rfl (s_at _ _)) rfl ?_
  exact ⟨rfl, HF.out.2⟩

set_option maxRecDepth 100000 in
set_option maxHeartbeats 1600000 in
theorem at12_high (v : Vw) (x : Nat) (w : World) (hL : EnIn w 0 v.a v.n v.c v.L) (hz : v.b.i + v.n < 18446744073709551616) (hx : x < 18446744073709551616) (h : v.z < x) : Calls Try.prog 41 #[.agg v.cs, .int .u64 (x : Int)] w fun e w' => e = .returned (.tuple #[.agg (acs 0 0), .bool false]) ∧ Below w.heap.size w w' := by
  obtain ⟨W1, hW1⟩ : ∃ W1, w.alloc (.cells v.cs 102) = W1 := ⟨_, rfl⟩
  have hb1 : Below w.heap.size w W1 := by rw [← hW1]; exact below_alloc w _
  have b1 : Blk W1 w.heap.size 102 v.cs := by rw [← hW1]; exact Blk.new w _ _
  obtain ⟨W2, hW2⟩ : ∃ W2, W1.alloc (.cells (acs 0 0) 24) = W2 := ⟨_, rfl⟩
  have hb12 : Below W1.heap.size W1 W2 := by rw [← hW2]; exact below_alloc W1 _
  have b2 : Blk W2 W1.heap.size 24 (acs 0 0) := by rw [← hW2]; exact Blk.new W1 _ _
  have hle : w.heap.size ≤ W1.heap.size := by rw [← hW1]; simp
  have v2 := (b1.later hb12)
  have hb02 : Below w.heap.size w W2 := bel_trans hb1 hb12
  have LA := jo_at v2
  have LV := ld_jo v2
  obtain ⟨c0, c1, c2, c3, c4⟩ := vw_cells v2
  have B0 := build_at0
  have d2 : ((x : Int) == (v.b.i : Int)) = false := by simp; unfold Vw.z at h; omega
  have d0 : ltU (x : Int) (v.b.i : Int) = false := by rw [ltU_nat]; simp; unfold Vw.z at h; omega
  have d1 : gtU (x : Int) (v.z : Int) = true := by rw [gtU_nat]; simp [h]
  have HT := last12_any v W2 (hL.later hb02) hz
  have FL : ∀ w, (Instr.field 24 (.agg (acs (lastV v).1 (lastV v).2)) 0).run Try.prog w = .ok (.int .u64 (v.z : Int)) w := fun w => by rw [← lastV_z]; rfl
  have HX := Lib.hid (And.intro hb02 (And.intro b2 (And.intro hle (And.intro v2 hL))))
  clear hb1 b1 hb12 b2 v2 hb02 hle hL hz
  clear h
  go_enter Try.func41, Try.ntmps41
  go_wp2_with (with_reducible refine wpList_alloc_z rfl 24 rfl (acs 0 0) 2 z_at ?_)
  refine HT.mono ?_
  rintro e W4 ⟨rfl, hb4⟩
  have r4 := HX.out.2.1.later hb4
  have hb04 := bel_trans HX.out.1 hb4
  have ST := st_at (i2 := 0) (e2 := 0) r4
  have HF := Lib.hid (And.intro (r4.row (acs 0 0)) (below_setRow hb04 HX.out.2.2.1 (acs 0 0)))
  clear hb4 r4 hb04
  go_wp2_with fail
  refine bodyPost_ret (results_row_tmp rfl _ _ W1.heap.size _ _ rfl HF.out.1 Try.underlying24 rfl (s_at _ _)) rfl ?_
  exact ⟨rfl, HF.out.2⟩

set_option maxRecDepth 100000 in
set_option maxHeartbeats 1600000 in
theorem at12_mid (v : Vw) (x : Nat) (w : World) (hL : EnIn w 0 v.a v.n v.c v.L) (hz : v.b.i + v.n < 18446744073709551616) (hx : x < 18446744073709551616) (h : v.b.i < x) (h2 : x ≤ v.z) : Calls Try.prog 41 #[.agg v.cs, .int .u64 (x : Int)] w fun e w' => e = .returned (.tuple #[.agg (acs (x : Int) (eng v.L (x - v.b.i - 1)).ep), .bool true]) ∧ Below w.heap.size w w' := by
  obtain ⟨W1, hW1⟩ : ∃ W1, w.alloc (.cells v.cs 102) = W1 := ⟨_, rfl⟩
  have hb1 : Below w.heap.size w W1 := by rw [← hW1]; exact below_alloc w _
  have b1 : Blk W1 w.heap.size 102 v.cs := by rw [← hW1]; exact Blk.new w _ _
  obtain ⟨W2, hW2⟩ : ∃ W2, W1.alloc (.cells (acs 0 0) 24) = W2 := ⟨_, rfl⟩
  have hb12 : Below W1.heap.size W1 W2 := by rw [← hW2]; exact below_alloc W1 _
  have b2 : Blk W2 W1.heap.size 24 (acs 0 0) := by rw [← hW2]; exact Blk.new W1 _ _
  have hle : w.heap.size ≤ W1.heap.size := by rw [← hW1]; simp
  have v2 := (b1.later hb12)
  have hb02 : Below w.heap.size w W2 := bel_trans hb1 hb12
  have LA := jo_at v2
  have LV := ld_jo v2
  obtain ⟨c0, c1, c2, c3, c4⟩ := vw_cells v2
  have B0 := build_at0
  have d2 : ((x : Int) == (v.b.i : Int)) = false := by simp; omega
  have d0 : ltU (x : Int) (v.b.i : Int) = false := by rw [ltU_nat]; simp; omega
  have d1 : gtU (x : Int) (v.z : Int) = false := by rw [gtU_nat]; simp [h2]
  have d3 : sbU (x : Int) (v.b.i : Int) = ((x - v.b.i : Nat) : Int) := sbU_nat (by omega) hx
  have d4 : sbU ((x - v.b.i : Nat) : Int) 1 = ((x - v.b.i - 1 : Nat) : Int) := sbU_nat (a := x - v.b.i) (b := 1) (by omega) (by omega)
  have hl : x - v.b.i - 1 < v.L.length := by have := hL.1; unfold Vw.z at h2; omega
  have hln : x - v.b.i - 1 < v.n := by have := hL.1; omega
  have hnc : v.n ≤ v.c := hL.2.2.1
  obtain ⟨g, o, ha, hrow⟩ := (hL.later hb02).2.1.spot hl
  rw [ha] at c4
  have HT := last12_any v W2 (hL.later hb02) hz
  have FL : ∀ w, (Instr.field 24 (.agg (acs (lastV v).1 (lastV v).2)) 0).run Try.prog w = .ok (.int .u64 (v.z : Int)) w := fun w => by rw [← lastV_z]; rfl
  generalize hj : x - v.b.i - 1 = j at *
  have B1 := build_at (x : Int) (eng v.L j).ep
  have HR := Lib.hid hrow
  have HA := Lib.hid ha
  have HX := Lib.hid (And.intro hb02 (And.intro b2 (And.intro hle (And.intro v2 hL))))
  clear hb1 b1 hb12 b2 v2 hb02 hle hL hz
  clear h h2 hrow ha hj
  go_enter Try.func41, Try.ntmps41
  go_wp2_with (with_reducible refine wpList_alloc_z rfl 24 rfl (acs 0 0) 2 z_at ?_)
  refine HT.mono ?_
  rintro e W4 ⟨rfl, hb4⟩
  have r4 := HX.out.2.1.later hb4
  have hb04 := bel_trans HX.out.1 hb4
  obtain ⟨q0, q1, q2, q3, q4⟩ := vw_cells (HX.out.2.2.2.1.later hb4)
  have e4 : v.a = some ⟨g, o, none⟩ := HA.out
  rw [e4] at q4
  have c6 := (HR.out.later hb4).c0 hl
  have ST := st_at (i2 := (x : Int)) (e2 := (eng v.L j).ep) r4
  have HF := Lib.hid (And.intro (r4.row (acs (x : Int) (eng v.L j).ep)) (below_setRow hb04 HX.out.2.2.1 (acs (x : Int) (eng v.L j).ep)))
  clear hb4 r4 hb04 e4
  go_wp2_with fail
  refine bodyPost_ret (results_row_tmp rfl _ _ W1.heap.size _ _ rfl HF.out.1 Try.underlying24 rfl (s_at _ _)) rfl ?_
  exact ⟨rfl, HF.out.2⟩

theorem at12_any (v : Vw) (x : Nat) (w : World) (hL : EnIn w 0 v.a v.n v.c v.L) (hz : v.b.i + v.n < 18446744073709551616) (hx : x < 18446744073709551616) : Calls Try.prog 41 #[.agg v.cs, .int .u64 (x : Int)] w fun e w' => e = .returned (.tuple #[.agg (acs (placeR v x).1 (placeR v x).2.1), .bool (placeR v x).2.2]) ∧ Below w.heap.size w w' := by
  by_cases h1 : x = v.b.i
  · rw [show placeR v x = ((v.b.i : Int), v.b.e, true) by unfold placeR; rw [if_pos h1]]
    exact at12_base v x w hL hz hx h1
  · by_cases h2 : x < v.b.i
    · rw [show placeR v x = (0, 0, false) by unfold placeR; rw [if_neg h1, if_pos (.inl h2)]]
      exact at12_low v x w hL hz hx h2
    · by_cases h3 : v.z < x
      · rw [show placeR v x = (0, 0, false) by unfold placeR; rw [if_neg h1, if_pos (.inr h3)]]
        exact at12_high v x w hL hz hx h3
      · rw [show placeR v x = ((x : Int), (eng v.L (x - v.b.i - 1)).ep, true) by unfold placeR; rw [if_neg h1, if_neg (fun h => h.elim h2 h3)]]
        exact at12_mid v x w hL hz hx (by omega) (by omega)
set_option maxRecDepth 100000 in
set_option maxHeartbeats 1600000 in
theorem place14_any (v : Vw) (x : Nat) (w : World) (hL : EnIn w 0 v.a v.n v.c v.L) (hz : v.b.i + v.n < 18446744073709551616) (hx : x < 18446744073709551616) : Calls Try.prog 15 #[.agg v.cs, .int .u64 (x : Int)] w fun e w' => e = .returned (.tuple #[.agg (acs (placeR v x).1 (placeR v x).2.1), .bool (placeR v x).2.2]) ∧ Below w.heap.size w w' := by
  obtain ⟨W1, hW1⟩ : ∃ W1, w.alloc (.cells v.cs 36) = W1 := ⟨_, rfl⟩
  have hb1 : Below w.heap.size w W1 := by rw [← hW1]; exact below_alloc w _
  have b1 : Blk W1 w.heap.size 36 v.cs := by rw [← hW1]; exact Blk.new w _ _
  obtain ⟨W2, hW2⟩ : ∃ W2, W1.alloc (.cells (acs 0 0) 24) = W2 := ⟨_, rfl⟩
  have hb12 : Below W1.heap.size W1 W2 := by rw [← hW2]; exact below_alloc W1 _
  have b2 : Blk W2 W1.heap.size 24 (acs 0 0) := by rw [← hW2]; exact Blk.new W1 _ _
  have hle : w.heap.size ≤ W1.heap.size := by rw [← hW1]; simp
  have v2 := (b1.later hb12)
  have hb02 : Below w.heap.size w W2 := bel_trans hb1 hb12
  have LV := ld_vw v2
  have HJ := journal_any v W2
  have HX := Lib.hid (And.intro hb02 (And.intro b2 (And.intro hle (And.intro hL hz))))
  clear hb1 b1 hb12 b2 v2 hb02 hle hL hz
  obtain ⟨q1, q2, q3, hq⟩ : ∃ q1 q2 q3, placeR v x = (q1, q2, q3) := ⟨_, _, _, rfl⟩
  rw [hq]
  have HQ := Lib.hid hq
  clear hq
  dsimp only
  go_enter Try.func15, Try.ntmps15
  go_wp2_with (with_reducible refine wpList_alloc_z rfl 24 rfl (acs 0 0) 2 z_at ?_)
  refine HJ.mono ?_
  rintro e W3 ⟨rfl, hb3⟩
  have HT := at12_any v x W3 (HX.out.2.2.2.1.later (bel_trans HX.out.1 hb3)) HX.out.2.2.2.2 hx
  have HY := Lib.hid (And.intro (bel_trans HX.out.1 hb3) (HX.out.2.1.later hb3))
  rw [HQ.out] at HT
  dsimp only at HT
  clear hb3
  go_wp2_with fail
  refine HT.mono ?_
  rintro e W4 ⟨rfl, hb4⟩
  have b4 := HY.out.2.later hb4
  have ST := st_at (i2 := q1) (e2 := q2) b4
  have HF := Lib.hid (And.intro (b4.row (acs q1 q2)) (below_setRow (bel_trans HY.out.1 hb4) HX.out.2.2.1 (acs q1 q2)))
  clear hb4 b4
  go_wp2_with fail
  refine bodyPost_ret (results_row_tmp rfl _ _ W1.heap.size _ _ rfl HF.out.1 Try.underlying24 rfl (s_at _ _)) rfl ?_
  exact ⟨rfl, HF.out.2⟩

end Go.Proofs.Ytkoenconjldojaa
namespace Go.Proofs.Ytkoenconjldojaa
open Go.RowKit Go.Shelf
set_option linter.unusedVariables false
set_option linter.unusedSimpArgs false
set_option maxRecDepth 100000
attribute [local go_sem 10000] gtU_rule leU_rule ltU_rule geU_rule adU_rule sbU_rule mxU_rule mnU_rule mnI_rule
attribute [local go_sem ↓] load_at_rule store_at_rule load_la_rule store_la_rule load_bs_rule store_bs_rule load_vw_rule store_vw_rule load_jo_rule store_jo_rule load_ms_rule store_ms_rule load_ch_rule store_ch_rule load_hd_rule store_hd_rule load_rb_rule store_rb_rule load_en_rule store_en_rule

theorem OwnUp.into {w : World} {B : Nat} {a : Option Addr} {n c : Nat} {U : List Up} (h : OwnUp w B (.slice a n c) U) : UpIn w B a n c U := by
  obtain ⟨a', c', h1, h2, h3, h4, h5⟩ := h.lies
  injection h1 with e1 e2 e3
  subst e1 e2 e3
  refine ⟨rfl, h4, h2, h3, fun h0 => ?_, fun _ => h5⟩
  subst h0
  rcases h.2 with ⟨h9, _⟩ | ⟨g, cap, cur, h9, _⟩
  · injection h9
  · injection h9 with h8; cases h8
theorem OwnRo.into {w : World} {B : Nat} {a : Option Addr} {n c : Nat} {U : List Ro} (h : OwnRo w B (.slice a n c) U) : RoIn w B a n c U := by
  obtain ⟨a', c', h1, h2, h3, h4, h5⟩ := h.lies
  injection h1 with e1 e2 e3
  subst e1 e2 e3
  refine ⟨rfl, h4, h2, h3, fun h0 => ?_, fun _ => h5⟩
  subst h0
  rcases h.2 with ⟨h9, _⟩ | ⟨g, cap, cur, h9, _⟩
  · injection h9
  · injection h9 with h8; cases h8
/-- Entries that a call owns, and their updates. -/
def EnOwn (w : World) (B : Nat) (v : Value) (L : List En) : Prop := OwnEn w B v L ∧ ∀ x ∈ L, OwnUp w B (.slice x.a x.n x.c) x.U
theorem EnOwn.into {w : World} {B : Nat} {a : Option Addr} {n c : Nat} {U : List En} (h : EnOwn w B (.slice a n c) U) : EnIn w B a n c U := by
  obtain ⟨h, hx⟩ := h
  obtain ⟨a', c', h1, h2, h3, h4, h5⟩ := h.lies
  injection h1 with e1 e2 e3
  subst e1 e2 e3
  refine ⟨rfl, h4, h2, h3, fun h0 => ?_, fun _ => h5, fun x k => (hx x k).into⟩
  subst h0
  rcases h.2 with ⟨h9, _⟩ | ⟨g, cap, cur, h9, _⟩
  · injection h9
  · injection h9 with h8; cases h8
theorem EnOwn.slice {w : World} {B : Nat} {v : Value} {L : List En} (h : EnOwn w B v L) : ∃ a c, v = .slice a L.length c := by
  obtain ⟨a, c, h1, _⟩ := h.1.lies
  exact ⟨a, c, h1⟩
theorem OwnUp.kept {w w' : World} {B : Nat} {S : List Nat} {v : Value} {L : List Up} (h : OwnUp w B v L) (k : Kept S w w') (hS : ∀ g, v.ownBlock = some g → g ∉ S) : OwnUp w' B v L := by
  refine ⟨h.1, ?_⟩
  rcases h.2 with h | ⟨g, cap, cur, h1, h2, h3, h4⟩
  · exact .inl h
  · exact .inr ⟨g, cap, cur, h1, h2, k.blk h3 (hS g (by rw [h1]; rfl)), h4⟩
theorem OwnEn.kept {w w' : World} {B : Nat} {S : List Nat} {v : Value} {L : List En} (h : OwnEn w B v L) (k : Kept S w w') (hS : ∀ g, v.ownBlock = some g → g ∉ S) : OwnEn w' B v L := by
  refine ⟨h.1, ?_⟩
  rcases h.2 with h | ⟨g, cap, cur, h1, h2, h3, h4⟩
  · exact .inl h
  · exact .inr ⟨g, cap, cur, h1, h2, k.blk h3 (hS g (by rw [h1]; rfl)), h4⟩
theorem OwnUp.upon {w w' : World} {B : Nat} {v : Value} {L : List Up} (h : OwnUp w B v L) (k : Below w.heap.size w w') : OwnUp w' B v L := h.kept (Kept.of_below [] k) (by simp)
theorem OwnEn.upon {w w' : World} {B : Nat} {v : Value} {L : List En} (h : OwnEn w B v L) (k : Below w.heap.size w w') : OwnEn w' B v L := h.kept (Kept.of_below [] k) (by simp)
theorem EnOwn.upon {w w' : World} {B : Nat} {v : Value} {L : List En} (h : EnOwn w B v L) (k : Below w.heap.size w w') : EnOwn w' B v L := ⟨h.1.upon k, fun x hx => (h.2 x hx).upon k⟩
theorem enup_apart {w : World} {B C : Nat} {v u : Value} {L : List En} {U : List Up} (h : OwnEn w B v L) (k : OwnUp w C u U) : ∀ g, u.ownBlock = some g → g ∉ v.ownBlock.toList := by
  intro g hg hm
  have hv : v.ownBlock = some g := by simpa using hm
  rcases h.2 with h9 | ⟨q, cap, cur, h1, h2, h3, h4⟩
  · rw [h9.1] at hv; cases hv
  · rcases k.2 with h9 | ⟨q', cap', cur', h1', h2', h3', h4'⟩
    · rw [h9.1] at hg; cases hg
    · rw [h1] at hv
      rw [h1'] at hg
      obtain rfl : q = g := by simpa [Value.ownBlock] using hv
      obtain rfl : q' = q := by simpa [Value.ownBlock] using hg
      rw [h3] at h3'
      have := Option.some.inj h3'
      simp only [Obj.cells.injEq] at this
      exact absurd this.2.1 (by decide)
theorem EnOwn.app {w w' : World} {B : Nat} {v v' : Value} {L : List En} {x : En} (h : EnOwn w B v L) (hx : OwnUp w B (.slice x.a x.n x.c) x.U) (ho : OwnEn w' B v' (L ++ [x])) (hg : w.grownBy w' v.ownBlock) : EnOwn w' B v' (L ++ [x]) := by
  have k : Kept v.ownBlock.toList w w' := (Kept.refl _ _).grown hg (fun j hj => .inl (by rw [hj]; simp))
  refine ⟨ho, fun y hy => ?_⟩
  rcases List.mem_append.1 hy with hy | hy
  · exact (h.2 y hy).kept k (enup_apart h.1 (h.2 y hy))
  · obtain rfl : y = x := by simpa using hy
    exact hx.kept k (enup_apart h.1 hx)
theorem EnOwn.nil (w : World) (B : Nat) : EnOwn w B (.slice none 0 0) [] := ⟨World.ownsRow_nil _ _ _ _, fun x hx => by simp at hx⟩
/-- One entry in a new block. -/
def enbuild1 (x : En) : Array (Nat × Value) := #[(0, .agg x.cs)]
theorem enbuild1_run (x : En) (w : World) : (enbuildSem 1 #[(0, .agg x.cs)]).run Try.prog w = .ok (.slice (some ⟨w.heap.size, 0, none⟩) 1 1) (w.alloc (.cells x.cs 92)) := by kernel_rfl
theorem en_at1 {w : World} {g : Nat} {x : En} (h : Blk w g 92 x.cs) : EnAt w (some ⟨g, 0, none⟩) [x] := by
  refine .inr ⟨g, 0, rfl, enrow_cells _ _ _ 0 h.lt fun k u hk => ?_⟩
  rw [Nat.zero_add, h.cell, ← Array.getElem?_toList]
  rw [encs_one] at hk
  exact hk
/-- One entry is appended. -/
theorem enapp_one {w : World} {B : Nat} {v : Value} {L : List En} {x : En} (h : EnOwn w B v L) (hx : OwnUp w B (.slice x.a x.n x.c) x.U) (hs : L.length ≤ 100000) (hB : B ≤ w.heap.size) :
    ∃ v' w', (∀ ty : TypeId, (enappSem ty #[v, .slice (some ⟨w.heap.size, 0, none⟩) 1 1]).run Try.prog (w.alloc (.cells x.cs 92)) = .ok v' w') ∧ EnOwn w' B v' (L ++ [x]) ∧ Kept v.ownBlock.toList w w' ∧ Below B w w' := by
  have kb : Below w.heap.size w (w.alloc (.cells x.cs 92)) := below_alloc w _
  have h1 := h.upon kb
  obtain ⟨v', w', r1, r2, r3, _⟩ := enapp_run (c := 1) 34 h1.1 (m := 1) (M := [x]) rfl (en_at1 (Blk.new w 92 x.cs)) (by omega) (Nat.le_trans hB kb.size)
  have k0 : Kept v.ownBlock.toList w (w.alloc (.cells x.cs 92)) := Kept.of_below _ kb
  refine ⟨v', w', fun ty => r1, h1.app (hx.upon kb) r2 r3, k0.grown r3 (fun j hj => .inl (by rw [hj]; simp)), ?_⟩
  refine (Below.grown ((Below.refl B w).alloc hB _) r3 (Nat.le_trans hB kb.size) (fun k hk => ?_))
  exact (h.1.lt k hk).1
theorem upapp_none9 {w : World} (ty : TypeId) {B : Nat} {v : Value} {L : List Up} (h : OwnUp w B v L) : (upappSem ty #[v, .slice none 0 0]).run Try.prog w = .ok v w := by
  obtain ⟨i0, hi, hz0, hz1, hz2⟩ := info_parts info_up
  exact run_append_owned_none (P := Try.prog) w B 43 ty 106 i0 22 Try.underlying43 hi v L.length (upcs L) h
theorem roapp_none9 {w : World} (ty : TypeId) {B : Nat} {v : Value} {L : List Ro} (h : OwnRo w B v L) : (roappSem ty #[v, .slice none 0 0]).run Try.prog w = .ok v w := by
  obtain ⟨i0, hi, hz0, hz1, hz2⟩ := info_parts info_ro
  exact run_append_owned_none (P := Try.prog) w B 25 ty 61 i0 21 Try.underlying25 hi v L.length (rocs L) h
/-- Rows are copied by append behind a new slice of none. -/
theorem upcopy9 {w : World} {a : Option Addr} {n c : Nat} {U : List Up} (h : UpIn w 0 a n c U) (hs : n ≤ 1000) :
    ∃ a' c' w', (∀ ty : TypeId, (upappSem ty #[.slice (some ⟨w.heap.size, 0, none⟩) 0 0, .slice a n c]).run Try.prog (w.alloc (.cells #[] 106)) = .ok (.slice a' n c') w') ∧ OwnUp w' w.heap.size (.slice a' n c') U ∧ Below w.heap.size w w' := by
  obtain ⟨h1, h2, h3, h4, h5, _⟩ := h
  have kb : Below w.heap.size w (w.alloc (.cells #[] 106)) := below_alloc w _
  cases a with
  | none =>
    obtain rfl : U = [] := by
      rcases h2 with h | ⟨g, o, h, _⟩
      · exact h
      · cases h
    obtain rfl := h5 rfl
    obtain rfl : n = 0 := h1.symm
    exact ⟨_, _, _, fun ty => upapp_none9 ty (upown0 w w.heap.size (Nat.le_refl _)), upown0 w _ (Nat.le_refl _), kb⟩
  | some x =>
    obtain ⟨v', w', q1, q2, q3, q4⟩ := upapp_run (c := c) 43 (upown0 w w.heap.size (Nat.le_refl _)) h1 (h2.later kb) (by simp; omega) kb.size
    have q2' : OwnUp w' w.heap.size v' U := by simpa using q2
    obtain ⟨a', c', e, _⟩ := q2'.lies
    subst e
    rw [h1] at q1 q2'
    exact ⟨a', c', w', fun ty => q1, q2', kb.grown q3 kb.size (fun k hk => by cases hk; exact Nat.le_refl _)⟩
theorem rocopy9 {w : World} {a : Option Addr} {n c : Nat} {U : List Ro} (h : RoIn w 0 a n c U) (hs : n ≤ 1000) :
    ∃ a' c' w', (∀ ty : TypeId, (roappSem ty #[.slice (some ⟨w.heap.size, 0, none⟩) 0 0, .slice a n c]).run Try.prog (w.alloc (.cells #[] 61)) = .ok (.slice a' n c') w') ∧ OwnRo w' w.heap.size (.slice a' n c') U ∧ Below w.heap.size w w' := by
  obtain ⟨h1, h2, h3, h4, h5, _⟩ := h
  have kb : Below w.heap.size w (w.alloc (.cells #[] 61)) := below_alloc w _
  cases a with
  | none =>
    obtain rfl : U = [] := by
      rcases h2 with h | ⟨g, o, h, _⟩
      · exact h
      · cases h
    obtain rfl := h5 rfl
    obtain rfl : n = 0 := h1.symm
    exact ⟨_, _, _, fun ty => roapp_none9 ty (roown0 w w.heap.size (Nat.le_refl _)), roown0 w _ (Nat.le_refl _), kb⟩
  | some x =>
    obtain ⟨v', w', q1, q2, q3, q4⟩ := roapp_run (c := c) 25 (roown0 w w.heap.size (Nat.le_refl _)) h1 (h2.later kb) (by simp; omega) kb.size
    have q2' : OwnRo w' w.heap.size v' U := by simpa using q2
    obtain ⟨a', c', e, _⟩ := q2'.lies
    subst e
    rw [h1] at q1 q2'
    exact ⟨a', c', w', fun ty => q1, q2', kb.grown q3 kb.size (fun k hk => by cases hk; exact Nat.le_refl _)⟩
theorem build_hd_rule (ps : Array (Nat × Value)) : Instr.build 45 ps = buildSem 45 ps := rfl
theorem build_hd (a : Option Addr) (n c : Nat) (w : World) : (buildSem 45 #[(0, .slice a n c)]).run Try.prog w = .ok (.agg #[.slice a n c]) w := by kernel_rfl
theorem build_rb_rule (ps : Array (Nat × Value)) : Instr.build 27 ps = buildSem 27 ps := rfl
theorem build_rb (a : Option Addr) (n c : Nat) (w : World) : (buildSem 27 #[(0, .slice a n c)]).run Try.prog w = .ok (.agg #[.slice a n c]) w := by kernel_rfl
theorem build_en (x : En) (w : World) : (buildSem 92 #[(0, .int .u64 x.ep), (1, .int .i64 x.cl), (2, .int .u32 x.sq), (3, .agg #[.slice x.a x.n x.c])]).run Try.prog w = .ok (.agg x.cs) w := by kernel_rfl
theorem upbuild0_run9 (w : World) : (upbuildSem 0 #[]).run Try.prog w = .ok (.slice (some ⟨w.heap.size, 0, none⟩) 0 0) (w.alloc (.cells #[] 106)) := upbuild0_run w
attribute [local go_sem ↓] build_hd_rule build_rb_rule build_en_rule upbuild_rule upapp_rule robuild_rule roapp_rule enbuild_rule enapp_rule
set_option maxRecDepth 100000 in
set_option maxHeartbeats 1600000 in
theorem batch_any (a : Option Addr) (n c : Nat) (U : List Up) (w : World) (h : UpIn w 0 a n c U) (hs : n ≤ 1000) : Calls Try.prog 57 #[.agg #[.slice a n c]] w fun e w' => ∃ a' c', e = .returned (.agg #[.slice a' n c']) ∧ OwnUp w' w.heap.size (.slice a' n c') U ∧ Below w.heap.size w w' := by
  obtain ⟨W1, hW1⟩ : ∃ W1, w.alloc (.cells #[.slice a n c] 45) = W1 := ⟨_, rfl⟩
  have hb1 : Below w.heap.size w W1 := by rw [← hW1]; exact below_alloc w _
  have b1 : Blk W1 w.heap.size 45 #[.slice a n c] := by rw [← hW1]; exact Blk.new w _ _
  obtain ⟨W2, hW2⟩ : ∃ W2, W1.alloc (.cells #[.slice none 0 0] 45) = W2 := ⟨_, rfl⟩
  have hb12 : Below W1.heap.size W1 W2 := by rw [← hW2]; exact below_alloc W1 _
  have b2 : Blk W2 W1.heap.size 45 #[.slice none 0 0] := by rw [← hW2]; exact Blk.new W1 _ _
  have hle : w.heap.size ≤ W1.heap.size := hb1.size
  have hb02 := bel_trans hb1 hb12
  have c1 := (b1.later hb12).cell 0
  have c1a : (W2.alloc (.cells #[] 106)).cell? ⟨w.heap.size, 0, none⟩ = some (.slice a n c) := ((b1.later hb12).alloc _).cell 0
  obtain ⟨a', c', W3, hap, hO, hb23⟩ := upcopy9 (h.later hb02) hs
  have b3 := b2.later hb23
  have hbu := upbuild0_run W2
  have hap2 := hap 43
  have HB := build_hd a' n c'
  have ST := st_hd (a2 := a') (n2 := n) (c2 := c') b3
  have hsz := hb12.size
  have k3 : Kept [W1.heap.size] W3 (W3.setRow W1.heap.size #[.slice a' n c']) := (Kept.refl _ _).setRow (.inl (by simp)) _
  have hlt : W1.heap.size < W2.heap.size := by rw [← hW2]; simp
  have HF := Lib.hid (And.intro (b3.row #[.slice a' n c']) (And.intro (below_setRow (bel_trans hb02 hb23) hle #[.slice a' n c']) (show OwnUp (W3.setRow W1.heap.size #[.slice a' n c']) w.heap.size (.slice a' n c') U from ⟨hO.1, by
    rcases hO.2 with h9 | ⟨g, cap, cur, e1, e2, e3, e4⟩
    · exact .inl h9
    · exact .inr ⟨g, cap, cur, e1, by omega, k3.blk e3 (by simp; omega), e4⟩⟩)))
  clear h hb1 b1 hb12 b2 hle hb02 hO hb23 b3 hap hsz k3 hlt
  go_enter Try.func57, Try.ntmps57
  go_wp2_with (with_reducible refine wpList_alloc_z rfl 45 rfl #[.slice none 0 0] 1 z_hd ?_)
  refine bodyPost_ret (results_cell_row rfl _ _ W1.heap.size 45 _ (0, 0) _ rfl HF.out.1 Try.underlying45 rfl (s_hd _ _ _)) rfl ?_
  exact ⟨a', c', rfl, HF.out.2.2, HF.out.2.1⟩

end Go.Proofs.Ytkoenconjldojaa
