/-
  The contracts of ship.Check, end, behind, Match and of the reference's Right, journal, Last, Match, Offers; the law's one. Nothing here is a statement of the document.
-/
import Derived.Test.YtkoenconjldojaaShB
namespace Go.Proofs.Ytkoenconjldojaa
open Go.RowKit Go.Shelf
set_option linter.unusedVariables false
set_option linter.unusedSimpArgs false
attribute [local go_sem 10000] gtU_rule leU_rule ltU_rule geU_rule adU_rule sbU_rule mxU_rule mnU_rule
attribute [local go_sem ↓] load_at_rule store_at_rule load_la_rule store_la_rule load_bs_rule store_bs_rule load_vw_rule store_vw_rule load_jo_rule store_jo_rule load_ms_rule store_ms_rule load_ch_rule store_ch_rule load_hd_rule store_hd_rule load_rb_rule store_rb_rule load_en_rule store_en_rule

def Vw.ok (v : Vw) : Bool := decide (v.b.i ≤ 4611686018427387904) && decide (v.n ≤ 40)
def Vw.e (v : Vw) : Int := if v.ok then 0 else 240
def Vw.z (v : Vw) : Nat := v.b.i + v.n
theorem Vw.ok_of {v : Vw} (h : v.ok = true) : v.b.i ≤ 4611686018427387904 ∧ v.n ≤ 40 := by simpa [Vw.ok] using h
theorem vw_cells {w : World} {g : Nat} {v : Vw} {t : TypeId} (h : Blk w g t v.cs) : w.cell? ⟨g, 0, none⟩ = some (.int .u64 v.v) ∧ w.cell? ⟨g, 1, none⟩ = some (.int .u64 v.b.i) ∧ w.cell? ⟨g, 2, none⟩ = some (.int .u64 v.b.e) ∧ w.cell? ⟨g, 3, none⟩ = some (.slice v.b.a v.b.n v.b.c) ∧ w.cell? ⟨g, 10, none⟩ = some (.slice v.a v.n v.c) :=
  ⟨h.cell 0, h.cell 1, h.cell 2, h.cell 3, h.cell 10⟩
theorem ms_cells {w : World} {g : Nat} {m : Ms} {t : TypeId} (h : Blk w g t m.cs) : w.cell? ⟨g, 0, none⟩ = some (.int .i64 m.kd) ∧ w.cell? ⟨g, 4, none⟩ = some (.int .u64 m.pi) ∧ w.cell? ⟨g, 5, none⟩ = some (.int .u64 m.pe) ∧ w.cell? ⟨g, 6, none⟩ = some (.slice m.a m.n m.c) ∧ w.cell? ⟨g, 8, none⟩ = some (.bool m.ok) ∧ w.cell? ⟨g, 9, none⟩ = some (.int .u64 m.ix) ∧ w.cell? ⟨g, 11, none⟩ = some (.int .u64 m.b.i) ∧ w.cell? ⟨g, 12, none⟩ = some (.int .u64 m.b.e) :=
  ⟨h.cell 0, h.cell 4, h.cell 5, h.cell 6, h.cell 8, h.cell 9, h.cell 11, h.cell 12⟩
theorem below_alloc (w : World) (o : Obj) : Below w.heap.size w (w.alloc o) := (Below.refl w.heap.size w).alloc (Nat.le_refl _) _
set_option maxRecDepth 100000 in
set_option maxHeartbeats 1600000 in
theorem check_any14 (v : Vw) (w : World) : Calls Try.prog 11 #[.agg v.cs] w fun e w' => e = .returned (.int .i64 v.e) ∧ Below w.heap.size w w' := by
  obtain ⟨W1, hW1⟩ : ∃ W1, w.alloc (.cells v.cs 36) = W1 := ⟨_, rfl⟩
  have hb1 : Below w.heap.size w W1 := by rw [← hW1]; exact below_alloc w _
  have b1 : Blk W1 w.heap.size 36 v.cs := by rw [← hW1]; exact Blk.new w _ _
  have d0 : gtU (v.b.i : Int) 4611686018427387904 = !decide (v.b.i ≤ 4611686018427387904) := gtU_nat v.b.i 4611686018427387904
  have f0 : leU (v.b.i : Int) 4611686018427387904 = decide (v.b.i ≤ 4611686018427387904) := leU_nat v.b.i 4611686018427387904
  have d1 : decide ((v.n : Int) > 40) = !decide (v.n ≤ 40) := by rw [Bool.eq_iff_iff]; simp; omega
  have f1 : decide ((v.n : Int) ≤ 40) = decide (v.n ≤ 40) := by rw [Bool.eq_iff_iff]; simp; omega
  have hk : v.ok = (decide (v.b.i ≤ 4611686018427387904) && decide (v.n ≤ 40)) := rfl
  unfold Vw.e
  rw [hk]
  clear hk
  obtain ⟨c0, c1, c2, c3, c4⟩ := vw_cells b1
  have HB := Lib.hid hb1
  clear hb1 b1
  by_cases x0 : v.b.i ≤ 4611686018427387904
  · by_cases x1 : v.n ≤ 40
    · simp only [x0, x1, decide_true, Bool.not_true, Bool.and_true, if_true] at d0 f0 d1 f1 ⊢
      have q : (v.n : Int) ≤ 40 := by omega
      clear x0 x1
      go_enter Try.func11, Try.ntmps11
      go_wp2
      go_ret
      exact ⟨rfl, HB.out⟩
    · simp only [x0, x1, decide_true, decide_false, Bool.not_true, Bool.not_false, Bool.and_false, Bool.false_eq_true, if_false] at d0 f0 d1 f1 ⊢
      have q : ¬ (v.n : Int) ≤ 40 := by omega
      have q2 : (40 : Int) < (v.n : Int) := by omega
      clear x0 x1
      go_enter Try.func11, Try.ntmps11
      go_wp2
      go_ret
      exact ⟨rfl, HB.out⟩
  · simp only [x0, decide_false, Bool.not_false, Bool.false_and, Bool.false_eq_true, if_false] at d0 f0 ⊢
    clear x0 d1 f1
    go_enter Try.func11, Try.ntmps11
    go_wp2
    go_ret
    exact ⟨rfl, HB.out⟩

set_option maxRecDepth 100000 in
set_option maxHeartbeats 1600000 in
theorem right_any14 (v : Vw) (w : World) : Calls Try.prog 10 #[.agg v.cs] w fun e w' => e = .returned (.bool v.ok) ∧ Below w.heap.size w w' := by
  obtain ⟨W1, hW1⟩ : ∃ W1, w.alloc (.cells v.cs 36) = W1 := ⟨_, rfl⟩
  have hb1 : Below w.heap.size w W1 := by rw [← hW1]; exact below_alloc w _
  have b1 : Blk W1 w.heap.size 36 v.cs := by rw [← hW1]; exact Blk.new w _ _
  have d0 : gtU (v.b.i : Int) 4611686018427387904 = !decide (v.b.i ≤ 4611686018427387904) := gtU_nat v.b.i 4611686018427387904
  have f0 : leU (v.b.i : Int) 4611686018427387904 = decide (v.b.i ≤ 4611686018427387904) := leU_nat v.b.i 4611686018427387904
  have d1 : decide ((v.n : Int) > 40) = !decide (v.n ≤ 40) := by rw [Bool.eq_iff_iff]; simp; omega
  have f1 : decide ((v.n : Int) ≤ 40) = decide (v.n ≤ 40) := by rw [Bool.eq_iff_iff]; simp; omega
  have hk : v.ok = (decide (v.b.i ≤ 4611686018427387904) && decide (v.n ≤ 40)) := rfl
  skip
  rw [hk]
  clear hk
  obtain ⟨c0, c1, c2, c3, c4⟩ := vw_cells b1
  have HB := Lib.hid hb1
  clear hb1 b1
  by_cases x0 : v.b.i ≤ 4611686018427387904
  · by_cases x1 : v.n ≤ 40
    · simp only [x0, x1, decide_true, Bool.not_true, Bool.and_true, if_true] at d0 f0 d1 f1 ⊢
      have q : (v.n : Int) ≤ 40 := by omega
      clear x0 x1
      go_enter Try.func10, Try.ntmps10
      go_wp2
      go_ret
      exact ⟨rfl, HB.out⟩
    · simp only [x0, x1, decide_true, decide_false, Bool.not_true, Bool.not_false, Bool.and_false, Bool.false_eq_true, if_false] at d0 f0 d1 f1 ⊢
      have q : ¬ (v.n : Int) ≤ 40 := by omega
      have q2 : (40 : Int) < (v.n : Int) := by omega
      clear x0 x1
      go_enter Try.func10, Try.ntmps10
      go_wp2
      go_ret
      exact ⟨rfl, HB.out⟩
  · simp only [x0, decide_false, Bool.not_false, Bool.false_and, Bool.false_eq_true, if_false] at d0 f0 ⊢
    clear x0 d1 f1
    go_enter Try.func10, Try.ntmps10
    go_wp2
    go_ret
    exact ⟨rfl, HB.out⟩

set_option maxRecDepth 100000 in
set_option maxHeartbeats 1600000 in
theorem end_any (v : Vw) (w : World) (h : v.b.i + v.n < 18446744073709551616) : Calls Try.prog 35 #[.agg v.cs] w fun e w' => e = .returned (.int .u64 (v.z : Int)) ∧ Below w.heap.size w w' := by
  obtain ⟨W1, hW1⟩ : ∃ W1, w.alloc (.cells v.cs 36) = W1 := ⟨_, rfl⟩
  have hb1 : Below w.heap.size w W1 := by rw [← hW1]; exact below_alloc w _
  have b1 : Blk W1 w.heap.size 36 v.cs := by rw [← hW1]; exact Blk.new w _ _
  have d0 : adU (v.b.i : Int) (v.n : Int) = (v.z : Int) := adU_nat h
  have d1 : IntKind.u64.wrap (v.n : Int) = (v.n : Int) := by rw [IntKind.wrap_u64]; omega
  obtain ⟨c0, c1, c2, c3, c4⟩ := vw_cells b1
  have HB := Lib.hid hb1
  clear hb1 b1 h
  go_enter Try.func35, Try.ntmps35
  go_wp2
  go_ret
  exact ⟨rfl, HB.out⟩

/-- The next match. -/
def matchV (x l : Nat) (m : Ms) : Nat := min (if m.kd = 2 then (if m.ok then max x m.ix else m.ix) else x) l
set_option maxRecDepth 100000 in
set_option maxHeartbeats 1600000 in
theorem match_any (x l : Nat) (m : Ms) (w : World) : Calls Try.prog 26 #[.int .u64 (x : Int), .int .u64 (l : Int), .agg m.cs] w fun e w' => e = .returned (.int .u64 (matchV x l m : Int)) ∧ Below w.heap.size w w' := by
  obtain ⟨W1, hW1⟩ : ∃ W1, w.alloc (.cells m.cs 47) = W1 := ⟨_, rfl⟩
  have hb1 : Below w.heap.size w W1 := by rw [← hW1]; exact below_alloc w _
  have b1 : Blk W1 w.heap.size 47 m.cs := by rw [← hW1]; exact Blk.new w _ _
  have d0 := mxU_nat x m.ix
  have d1 := mnU_nat (max x m.ix) l
  have d2 := mnU_nat m.ix l
  have d3 := mnU_nat x l
  have hk : matchV x l m = min (if m.kd = 2 then (if m.ok then max x m.ix else m.ix) else x) l := rfl
  obtain ⟨c0, c1, c2, c3, c4, c5, c6, c7⟩ := ms_cells b1
  have HB := Lib.hid hb1
  clear hb1 b1
  generalize max x m.ix = y at *
  by_cases x0 : m.kd = 2
  · have q0 : decide (m.kd = 2) = true := by simp [x0]
    have q1 : (m.kd != 2) = false := by simp [x0]
    cases x1 : m.ok
    · rw [x1] at c4
      simp only [x0, x1, if_true, Bool.false_eq_true, if_false] at hk
      rw [hk]
      clear hk x1
      go_enter Try.func26, Try.ntmps26
      go_wp2
      go_ret
      exact ⟨rfl, HB.out⟩
    · rw [x1] at c4
      simp only [x0, x1, if_true, Bool.false_eq_true, if_false] at hk
      rw [hk]
      clear hk x1
      go_enter Try.func26, Try.ntmps26
      go_wp2
      go_ret
      exact ⟨rfl, HB.out⟩
  · have q0 : decide (m.kd = 2) = false := by simp [x0]
    have q1 : (m.kd != 2) = true := by simp [x0]
    simp only [x0, if_false] at hk
    rw [hk]
    clear hk
    go_enter Try.func26, Try.ntmps26
    go_wp2
    go_ret
    exact ⟨rfl, HB.out⟩

set_option maxRecDepth 100000 in
set_option maxHeartbeats 1600000 in
theorem rmatch_any (x l : Nat) (m : Ms) (w : World) : Calls Try.prog 27 #[.int .u64 (x : Int), .int .u64 (l : Int), .agg m.cs] w fun e w' => e = .returned (.int .u64 (matchV x l m : Int)) ∧ Below w.heap.size w w' := by
  obtain ⟨W1, hW1⟩ : ∃ W1, w.alloc (.cells m.cs 47) = W1 := ⟨_, rfl⟩
  have hb1 : Below w.heap.size w W1 := by rw [← hW1]; exact below_alloc w _
  have b1 : Blk W1 w.heap.size 47 m.cs := by rw [← hW1]; exact Blk.new w _ _
  have d0 := mxU_nat x m.ix
  have d1 := mnU_nat (max x m.ix) l
  have d2 := mnU_nat m.ix l
  have d3 := mnU_nat x l
  have hk : matchV x l m = min (if m.kd = 2 then (if m.ok then max x m.ix else m.ix) else x) l := rfl
  obtain ⟨c0, c1, c2, c3, c4, c5, c6, c7⟩ := ms_cells b1
  have HB := Lib.hid hb1
  clear hb1 b1
  generalize max x m.ix = y at *
  by_cases x0 : m.kd = 2
  · have q0 : decide (m.kd = 2) = true := by simp [x0]
    have q1 : (m.kd != 2) = false := by simp [x0]
    cases x1 : m.ok
    · rw [x1] at c4
      simp only [x0, x1, if_true, Bool.false_eq_true, if_false] at hk
      rw [hk]
      clear hk x1
      go_enter Try.func27, Try.ntmps27
      go_wp2
      go_ret
      exact ⟨rfl, HB.out⟩
    · rw [x1] at c4
      simp only [x0, x1, if_true, Bool.false_eq_true, if_false] at hk
      rw [hk]
      clear hk x1
      go_enter Try.func27, Try.ntmps27
      go_wp2
      go_ret
      exact ⟨rfl, HB.out⟩
  · have q0 : decide (m.kd = 2) = false := by simp [x0]
    have q1 : (m.kd != 2) = true := by simp [x0]
    simp only [x0, if_false] at hk
    rw [hk]
    clear hk
    go_enter Try.func27, Try.ntmps27
    go_wp2
    go_ret
    exact ⟨rfl, HB.out⟩

/-- Is it an offer that can be gone through? -/
def Ms.off (m : Ms) : Bool := decide (m.kd = 1) && (decide (m.n ≤ 8) && decide (m.pi ≤ 4611686018427387904))
set_option maxRecDepth 100000 in
set_option maxHeartbeats 1600000 in
theorem offers_any (m : Ms) (w : World) : Calls Try.prog 23 #[.agg m.cs] w fun e w' => e = .returned (.bool m.off) ∧ Below w.heap.size w w' := by
  obtain ⟨W1, hW1⟩ : ∃ W1, w.alloc (.cells m.cs 47) = W1 := ⟨_, rfl⟩
  have hb1 : Below w.heap.size w W1 := by rw [← hW1]; exact below_alloc w _
  have b1 : Blk W1 w.heap.size 47 m.cs := by rw [← hW1]; exact Blk.new w _ _
  have f0 : leU (m.pi : Int) 4611686018427387904 = decide (m.pi ≤ 4611686018427387904) := leU_nat m.pi 4611686018427387904
  have hk : m.off = (decide (m.kd = 1) && (decide (m.n ≤ 8) && decide (m.pi ≤ 4611686018427387904))) := rfl
  rw [hk]
  clear hk
  obtain ⟨c0, c1, c2, c3, c4, c5, c6, c7⟩ := ms_cells b1
  have HB := Lib.hid hb1
  clear hb1 b1
  by_cases x0 : m.kd = 1
  · have q0 : decide (m.kd = 1) = true := by simp [x0]
    by_cases x1 : m.n ≤ 8
    · have q1 : decide ((m.n : Int) ≤ 8) = true := by simp; omega
      simp only [x1, q0, decide_true, Bool.true_and]
      have q2 : (m.n : Int) ≤ 8 := by omega
      clear x1
      generalize decide (m.pi ≤ 4611686018427387904) = y at *
      go_enter Try.func23, Try.ntmps23
      go_wp2
      go_ret
      exact ⟨rfl, HB.out⟩
    · have q1 : decide ((m.n : Int) ≤ 8) = false := by simp; omega
      simp only [x1, q0, decide_false, Bool.true_and, Bool.false_and]
      have q2 : ¬ (m.n : Int) ≤ 8 := by omega
      clear x1
      go_enter Try.func23, Try.ntmps23
      go_wp2
      go_ret
      exact ⟨rfl, HB.out⟩
  · have q0 : decide (m.kd = 1) = false := by simp [x0]
    simp only [q0, Bool.false_and]
    go_enter Try.func23, Try.ntmps23
    go_wp2
    go_ret
    exact ⟨rfl, HB.out⟩

theorem build_en_rule (ps : Array (Nat × Value)) : Instr.build 92 ps = buildSem 92 ps := rfl
def oneE (ep sq : Int) : En := ⟨ep, 1, sq, none, 0, 0, []⟩
theorem build_one (ep sq : Int) (w : World) : (buildSem 92 #[(0, .int .u64 ep), (1, .int .i64 1), (2, .int .u32 sq)]).run Try.prog w = .ok (.agg (oneE ep sq).cs) w := by kernel_rfl
attribute [local go_sem ↓] build_en_rule
set_option maxRecDepth 100000 in
set_option maxHeartbeats 1600000 in
theorem one_any (ep sq : Int) (w : World) : Calls Try.prog 32 #[.int .u64 ep, .int .u32 sq] w fun e w' => e = .returned (.agg (oneE ep sq).cs) ∧ Below w.heap.size w w' := by
  have B1 := build_one ep sq
  have S := st_en (q := oneE ep sq) (Blk.new w 92 En.zero.cs)
  rw [World.setRow_alloc_new] at S
  have HX := Lib.hid (And.intro (Blk.new w 92 (oneE ep sq).cs) (below_alloc w (.cells (oneE ep sq).cs 92)))
  go_enter Try.func32, Try.ntmps32
  go_wp2_with (with_reducible refine wpList_alloc_z rfl 92 rfl En.zero.cs 4 z_en ?_)
  refine bodyPost_ret (results_cell_row rfl _ _ w.heap.size 92 _ (0, 0) _ rfl HX.out.1 Try.underlying92 rfl (s_en _)) rfl ?_
  exact ⟨rfl, HX.out.2⟩

theorem build_jo_rule (ps : Array (Nat × Value)) : Instr.build 102 ps = buildSem 102 ps := rfl
theorem build_jo (v : Vw) (w : World) : (buildSem 102 #[(0, .int .u64 v.v), (1, .agg v.b.cs), (2, .slice v.a v.n v.c)]).run Try.prog w = .ok (.agg v.cs) w := by kernel_rfl
attribute [local go_sem ↓] build_jo_rule
set_option maxRecDepth 100000 in
set_option maxHeartbeats 1600000 in
theorem journal_any (v : Vw) (w : World) : Calls Try.prog 42 #[.agg v.cs] w fun e w' => e = .returned (.agg v.cs) ∧ Below w.heap.size w w' := by
  obtain ⟨W1, hW1⟩ : ∃ W1, w.alloc (.cells v.cs 36) = W1 := ⟨_, rfl⟩
  have hb1 : Below w.heap.size w W1 := by rw [← hW1]; exact below_alloc w _
  have b1 : Blk W1 w.heap.size 36 v.cs := by rw [← hW1]; exact Blk.new w _ _
  have B1 := build_jo v
  obtain ⟨c0, c1, c2, c3, c4⟩ := vw_cells (b1.alloc (.cells Vw.zero.cs 102))
  have l1 := vw_bs (b1.alloc (.cells Vw.zero.cs 102))
  have S := st_jo (b2 := v) (Blk.new W1 102 Vw.zero.cs)
  rw [World.setRow_alloc_new] at S
  have HX := Lib.hid (And.intro (Blk.new W1 102 v.cs) (bel_trans hb1 (below_alloc W1 (.cells v.cs 102))))
  clear hb1 b1
  go_enter Try.func42, Try.ntmps42
  go_wp2_with (with_reducible refine wpList_alloc_z rfl 102 rfl Vw.zero.cs 11 z_jo ?_)
  refine bodyPost_ret (results_cell_row rfl _ _ W1.heap.size 102 _ (0, 0) _ rfl HX.out.1 Try.underlying102 rfl (s_jo _)) rfl ?_
  exact ⟨rfl, HX.out.2⟩

end Go.Proofs.Ytkoenconjldojaa
