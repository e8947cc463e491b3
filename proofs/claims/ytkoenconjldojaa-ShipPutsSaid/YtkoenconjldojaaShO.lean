/-
  The contracts of ship.made and Accept. Nothing here is a statement of the document.
-/
import Derived.Test.YtkoenconjldojaaShN
import Derived.ScopeJumps
import Derived.WalkMore
namespace Go.Proofs.Ytkoenconjldojaa
open Go.RowKit Go.Shelf
set_option linter.unusedVariables false
set_option linter.unusedSimpArgs false
set_option maxRecDepth 100000
attribute [local go_sem 10000] gtU_rule leU_rule ltU_rule geU_rule adU_rule sbU_rule mxU_rule mnU_rule mnI_rule
attribute [local go_sem ↓] load_at_rule store_at_rule load_la_rule store_la_rule load_bs_rule store_bs_rule load_vw_rule store_vw_rule load_jo_rule store_jo_rule load_ms_rule store_ms_rule load_ch_rule store_ch_rule load_hd_rule store_hd_rule load_rb_rule store_rb_rule load_en_rule store_en_rule
attribute [local go_sem ↓] build_hd_rule build_rb_rule build_en_rule build_at_rule build_jo_rule upbuild_rule upapp_rule robuild_rule roapp_rule enbuild_rule enapp_rule build_vw_rule eq_at_rule eq_la_rule build_ch_rule
def chNo (h : Nat) : Ch := ⟨false, 0, none, 0, 0, [], h⟩
theorem build_chno (h : Nat) (w : World) : (buildSem 67 #[(3, .int .u64 (h : Int))]).run Try.prog w = .ok (.agg (chNo h).cs) w := by kernel_rfl
/-- What an offer makes of a view. -/
def MadeR (v : Vw) (m : Ms) (c : Ch) : Prop :=
  (v.z < m.pi ∧ c = chNo v.z) ∨ (¬ v.z < m.pi ∧ ((placeR v m.pi).2.2 = true ∧ (placeR v m.pi).2.1 ≠ m.pe) ∧ c = chNo (m.pi - min m.pi 1)) ∨ (¬ v.z < m.pi ∧ ¬ ((placeR v m.pi).2.2 = true ∧ (placeR v m.pi).2.1 ≠ m.pe) ∧ FitR v m c)
theorem placeR_at {v : Vw} {x : Nat} (h : (placeR v x).2.2 = true) : (placeR v x).1 = (x : Int) := by
  unfold placeR at *
  split
  · rename_i h1; rw [h1]
  · rename_i h1
    rw [if_neg h1] at h
    split at h
    · simp at h
    · rename_i h2; rw [if_neg h2]
set_option maxHeartbeats 4000000 in
theorem made_far (v : Vw) (m : Ms) (w : World) (hv : v.ok = true) (hmi : m.pi ≤ 4611686018427387904) (hmn : m.n ≤ 8) (hL : EnIn w 0 v.a v.n v.c v.L) (hM : EnIn w 0 m.a m.n m.c m.L) (hU : ∀ x ∈ m.L, x.n ≤ 1000) (h1 : v.z < m.pi) :
    Calls Try.prog 46 #[.agg v.cs, .agg m.cs] w fun e w' => ∃ c : Ch, e = .returned (.agg c.cs) ∧ MadeR v m c ∧ EnOwn w' w.heap.size (.slice c.a c.n c.c) c.L ∧ Below w.heap.size w w' := by
  obtain ⟨W1, hW1⟩ : ∃ W1, w.alloc (.cells v.cs 36) = W1 := ⟨_, rfl⟩
  have hb1 : Below w.heap.size w W1 := by rw [← hW1]; exact below_alloc w _
  have b1 : Blk W1 w.heap.size 36 v.cs := by rw [← hW1]; exact Blk.new w _ _
  obtain ⟨W2, hW2⟩ : ∃ W2, W1.alloc (.cells m.cs 47) = W2 := ⟨_, rfl⟩
  have hb12 : Below W1.heap.size W1 W2 := by rw [← hW2]; exact below_alloc W1 _
  have b2 : Blk W2 W1.heap.size 47 m.cs := by rw [← hW2]; exact Blk.new W1 _ _
  obtain ⟨W3, hW3⟩ : ∃ W3, W2.alloc (.cells Ch.zero.cs 67) = W3 := ⟨_, rfl⟩
  have hb23 : Below W2.heap.size W2 W3 := by rw [← hW3]; exact below_alloc W2 _
  have b3 : Blk W3 W2.heap.size 67 Ch.zero.cs := by rw [← hW3]; exact Blk.new W2 _ _
  have hb03 : Below w.heap.size w W3 := bel_trans (bel_trans hb1 hb12) hb23
  have v3 := (b1.later hb12).later hb23
  have m3 := b2.later hb23
  have hle : w.heap.size ≤ W2.heap.size := (bel_trans hb1 hb12).size
  have hzz := Vw.ok_of hv
  obtain ⟨T, hT⟩ : ∃ T : World → Prop, T = fun w' => Below w.heap.size w w' ∧ Blk w' w.heap.size 36 v.cs ∧ Blk w' W1.heap.size 47 m.cs ∧ Blk w' W2.heap.size 67 Ch.zero.cs := ⟨_, rfl⟩
  have hT0 : T W3 := by rw [hT]; exact ⟨hb03, v3, m3, b3⟩
  have hTd : ∀ w, T w → T w.drew := by rw [hT]; exact fun w h => ⟨bel_drew h.1, h.2⟩
  have hTb : ∀ w w', T w → Below w.heap.size w w' → T w' := by rw [hT]; exact fun w w' h k => ⟨bel_trans h.1 k, h.2.1.later k, h.2.2.1.later k, h.2.2.2.later k⟩
  have hTf : ∀ w', T w' → (loadSem 36 (.pointer (some ⟨w.heap.size, 0, none⟩))).run Try.prog w' = .ok (.agg v.cs) w' ∧ w'.cell? ⟨W1.heap.size, 4, none⟩ = some (.int .u64 (m.pi : Int)) ∧ (loadSem 24 (.pointer (some ⟨W1.heap.size, 4, none⟩))).run Try.prog w' = .ok (.agg (acs (m.pi : Int) m.pe)) w' := by
    rw [hT]
    exact fun w' h => ⟨ld_vw h.2.1, h.2.2.1.cell 4, ms_at h.2.2.1⟩
  have hTn : ∀ w', T w' → Below w.heap.size w w' ∧ Blk w' W2.heap.size 67 Ch.zero.cs ∧ Blk w' W1.heap.size 47 m.cs := by rw [hT]; exact fun w' h => ⟨h.1, h.2.2.2, h.2.2.1⟩
  have HX := Lib.hid (And.intro hT0 (And.intro hle (And.intro hL (And.intro hM (And.intro hU (And.intro hzz hTn))))))
  have HN := Lib.hid (show v.b.i + v.n < 18446744073709551616 by omega)
  clear hT hT0 hL hM hU hb03 v3 m3 b3 hle hzz hTn
  clear hb1 b1 hb12 b2 hb23
  have dz := gtU_nat m.pi v.z
  have dz1 : gtU (m.pi : Int) (v.z : Int) = true := by rw [dz]; simp; omega
  have HW := Lib.hid (show MadeR v m (chNo v.z) from .inl ⟨h1, rfl⟩)
  clear dz h1
  go_enter Try.func46, Try.ntmps46
  go_wp2_with (with_reducible refine wpList_alloc_z rfl 67 rfl Ch.zero.cs 4 z_ch ?_)
  rw [hW3]
  refine wp_scope_jumps 0 (fun a' w' => T w' ∧ ∃ u7 u8 u9 u10 u11 u12 u13 u14 u15 u16 u17 u18 u19 u20 u21 u22 u23 u24 u25 u26 u27 u28 u29 u30 u31 u32 u33 u34 u35 u36 u37 u38 : Value, a' = { tmps := #[.agg v.cs, .agg m.cs, .pointer (some ⟨w.heap.size, 0, none⟩), .pointer (some ⟨W1.heap.size, 0, none⟩), .pointer (some ⟨W2.heap.size, 0, none⟩), .int .u64 (m.pi : Int), .int .u64 (v.z : Int), u7, u8, u9, u10, u11, u12, u13, u14, u15, u16, u17, u18, u19, u20, u21, u22, u23, u24, u25, u26, u27, u28, u29, u30, u31, u32, u33, u34, u35, u36, u37, u38], defers := [] }) (fun _ _ => 0) rfl ?first ?pass
  case first =>
    go_wp2_with fail
    refine wp_region_linX T [4] [0, 1, 2, 3, 4, 5, 6] (by kernel_rfl) (by kernel_rfl) (hTd _ HX.out.1) ?_
    (repeat (first | (refine linX_off rfl rfl (by rfl) ?_; (try simp only [Act.put, List.getElem_toArray, List.getElem_cons_zero, List.getElem_cons_succ, List.setIfInBounds_toArray, List.set_cons_zero, List.set_cons_succ])) | (refine linX_op (v := ?_) rfl rfl (by rfl) (fun w9 hS9 => ?_) ?_; rotate_left; (focus (((try dsimp only at hS9); obtain ⟨z1, z2, z3⟩ := hTf w9 hS9; go_simp; (try go_bits)) <;> with_reducible rfl)); (try simp only [Act.put, List.getElem_toArray, List.getElem_cons_zero, List.getElem_cons_succ, List.setIfInBounds_toArray, List.set_cons_zero, List.set_cons_succ]))))
    refine linX_call (f := 35) (args := #[.agg v.cs]) rfl rfl (by rfl) rfl rfl (enters_of Try.func35 (by kernel_rfl) rfl) (by simp [Act.eval]) ?_
    refine (end_any v W3.drew HN.out).mono ?_
    rintro e W4 ⟨rfl, hb4⟩
    have hT4 := hTb _ _ (hTd _ HX.out.1) hb4
    refine ⟨_, rfl, hT4, ?_⟩
    (try simp only [Act.put, List.getElem_toArray, List.getElem_cons_zero, List.getElem_cons_succ, List.setIfInBounds_toArray, List.set_cons_zero, List.set_cons_succ])
    (repeat (first | (refine linX_off rfl rfl (by rfl) ?_; (try simp only [Act.put, List.getElem_toArray, List.getElem_cons_zero, List.getElem_cons_succ, List.setIfInBounds_toArray, List.set_cons_zero, List.set_cons_succ])) | (refine linX_op (v := ?_) rfl rfl (by rfl) (fun w9 hS9 => ?_) ?_; rotate_left; (focus (((try dsimp only at hS9); obtain ⟨z1, z2, z3⟩ := hTf w9 hS9; go_simp; (try go_bits)) <;> with_reducible rfl)); (try simp only [Act.put, List.getElem_toArray, List.getElem_cons_zero, List.getElem_cons_succ, List.setIfInBounds_toArray, List.set_cons_zero, List.set_cons_succ]))))
    refine linX_nil ?_
    go_wp2_with fail
    have hTJ := hT4
    exact wp_goto ⟨rfl, hTJ, _, _, _, _, _, _, _, _, _, _, _, _, _, _, _, _, _, _, _, _, _, _, _, _, _, _, _, _, _, _, _, _, rfl⟩
  case pass =>
    rintro a' w' ⟨hT', u7, u8, u9, u10, u11, u12, u13, u14, u15, u16, u17, u18, u19, u20, u21, u22, u23, u24, u25, u26, u27, u28, u29, u30, u31, u32, u33, u34, u35, u36, u37, u38, rfl⟩
    have r7 := (HX.out.2.2.2.2.2.2 w' hT').2.1
    have BC := build_chno (v.z)
    have ST7 := st_ch (b2 := chNo (v.z)) r7
    have HF := Lib.hid (And.intro (r7.row (chNo (v.z)).cs) (And.intro (below_setRow (HX.out.2.2.2.2.2.2 w' hT').1 HX.out.2.1 (chNo (v.z)).cs) HW.out))
    clear r7
    go_wp2_with fail
    simp only [Exit.jump]
    refine bodyPost_ret (results_cell_row rfl _ _ W2.heap.size 67 _ (0, 0) _ rfl HF.out.1 Try.underlying67 rfl (s_ch _)) rfl ?_
    exact ⟨_, rfl, HF.out.2.2, EnOwn.nil _ _, HF.out.2.1⟩

set_option maxHeartbeats 4000000 in
theorem made_other (v : Vw) (m : Ms) (w : World) (hv : v.ok = true) (hmi : m.pi ≤ 4611686018427387904) (hmn : m.n ≤ 8) (hL : EnIn w 0 v.a v.n v.c v.L) (hM : EnIn w 0 m.a m.n m.c m.L) (hU : ∀ x ∈ m.L, x.n ≤ 1000) (h1 : ¬ v.z < m.pi) (h2 : (placeR v m.pi).2.2 = true ∧ (placeR v m.pi).2.1 ≠ m.pe) :
    Calls Try.prog 46 #[.agg v.cs, .agg m.cs] w fun e w' => ∃ c : Ch, e = .returned (.agg c.cs) ∧ MadeR v m c ∧ EnOwn w' w.heap.size (.slice c.a c.n c.c) c.L ∧ Below w.heap.size w w' := by
  obtain ⟨W1, hW1⟩ : ∃ W1, w.alloc (.cells v.cs 36) = W1 := ⟨_, rfl⟩
  have hb1 : Below w.heap.size w W1 := by rw [← hW1]; exact below_alloc w _
  have b1 : Blk W1 w.heap.size 36 v.cs := by rw [← hW1]; exact Blk.new w _ _
  obtain ⟨W2, hW2⟩ : ∃ W2, W1.alloc (.cells m.cs 47) = W2 := ⟨_, rfl⟩
  have hb12 : Below W1.heap.size W1 W2 := by rw [← hW2]; exact below_alloc W1 _
  have b2 : Blk W2 W1.heap.size 47 m.cs := by rw [← hW2]; exact Blk.new W1 _ _
  obtain ⟨W3, hW3⟩ : ∃ W3, W2.alloc (.cells Ch.zero.cs 67) = W3 := ⟨_, rfl⟩
  have hb23 : Below W2.heap.size W2 W3 := by rw [← hW3]; exact below_alloc W2 _
  have b3 : Blk W3 W2.heap.size 67 Ch.zero.cs := by rw [← hW3]; exact Blk.new W2 _ _
  have hb03 : Below w.heap.size w W3 := bel_trans (bel_trans hb1 hb12) hb23
  have v3 := (b1.later hb12).later hb23
  have m3 := b2.later hb23
  have hle : w.heap.size ≤ W2.heap.size := (bel_trans hb1 hb12).size
  have hzz := Vw.ok_of hv
  obtain ⟨T, hT⟩ : ∃ T : World → Prop, T = fun w' => Below w.heap.size w w' ∧ Blk w' w.heap.size 36 v.cs ∧ Blk w' W1.heap.size 47 m.cs ∧ Blk w' W2.heap.size 67 Ch.zero.cs := ⟨_, rfl⟩
  have hT0 : T W3 := by rw [hT]; exact ⟨hb03, v3, m3, b3⟩
  have hTd : ∀ w, T w → T w.drew := by rw [hT]; exact fun w h => ⟨bel_drew h.1, h.2⟩
  have hTb : ∀ w w', T w → Below w.heap.size w w' → T w' := by rw [hT]; exact fun w w' h k => ⟨bel_trans h.1 k, h.2.1.later k, h.2.2.1.later k, h.2.2.2.later k⟩
  have hTf : ∀ w', T w' → (loadSem 36 (.pointer (some ⟨w.heap.size, 0, none⟩))).run Try.prog w' = .ok (.agg v.cs) w' ∧ w'.cell? ⟨W1.heap.size, 4, none⟩ = some (.int .u64 (m.pi : Int)) ∧ (loadSem 24 (.pointer (some ⟨W1.heap.size, 4, none⟩))).run Try.prog w' = .ok (.agg (acs (m.pi : Int) m.pe)) w' := by
    rw [hT]
    exact fun w' h => ⟨ld_vw h.2.1, h.2.2.1.cell 4, ms_at h.2.2.1⟩
  have hTn : ∀ w', T w' → Below w.heap.size w w' ∧ Blk w' W2.heap.size 67 Ch.zero.cs ∧ Blk w' W1.heap.size 47 m.cs := by rw [hT]; exact fun w' h => ⟨h.1, h.2.2.2, h.2.2.1⟩
  have HX := Lib.hid (And.intro hT0 (And.intro hle (And.intro hL (And.intro hM (And.intro hU (And.intro hzz hTn))))))
  have HN := Lib.hid (show v.b.i + v.n < 18446744073709551616 by omega)
  clear hT hT0 hL hM hU hb03 v3 m3 b3 hle hzz hTn
  clear hb1 b1 hb12 b2 hb23
  have dz := gtU_nat m.pi v.z
  have dz1 : gtU (m.pi : Int) (v.z : Int) = false := by rw [dz]; simp; omega
  obtain ⟨hh, hhh⟩ : ∃ hh, m.pi - min m.pi 1 = hh := ⟨_, rfl⟩
  have HW := Lib.hid (show MadeR v m (chNo hh) from .inr (.inl ⟨h1, h2, by rw [hhh]⟩))
  have hp1 := placeR_at h2.1
  obtain ⟨p1, p2, p3, hq⟩ : ∃ p1 p2 p3, placeR v m.pi = (p1, p2, p3) := ⟨_, _, _, rfl⟩
  have HQ := Lib.hid hq
  rw [hq] at h2 hp1
  dsimp only at h2 hp1
  obtain ⟨h3, h4⟩ := h2
  subst h3
  have EA := eqAt p1 p2 (m.pi : Int) m.pe
  rw [decide_eq_false (fun h => h4 h.2)] at EA
  have e0 : mnU (m.pi : Int) 1 = ((min m.pi 1 : Nat) : Int) := mnU_nat m.pi 1
  obtain ⟨mm, hmm⟩ : ∃ mm, min m.pi 1 = mm := ⟨_, rfl⟩
  rw [hmm] at e0 hhh
  have e1 : sbU (m.pi : Int) (mm : Int) = (hh : Int) := by rw [← hhh]; exact sbU_nat (by omega) (by omega)
  clear dz h1 h4 hp1 hq hhh hmm
  go_enter Try.func46, Try.ntmps46
  go_wp2_with (with_reducible refine wpList_alloc_z rfl 67 rfl Ch.zero.cs 4 z_ch ?_)
  rw [hW3]
  refine wp_scope_jumps 0 (fun a' w' => T w' ∧ ∃ u7 u8 u9 u10 u11 u12 u13 u14 u15 u16 u17 u18 u19 u20 u21 u22 u23 u24 u25 u26 u27 u28 u29 u30 u31 u32 u33 u34 u35 u36 u37 u38 : Value, a' = { tmps := #[.agg v.cs, .agg m.cs, .pointer (some ⟨w.heap.size, 0, none⟩), .pointer (some ⟨W1.heap.size, 0, none⟩), .pointer (some ⟨W2.heap.size, 0, none⟩), .int .u64 (m.pi : Int), .int .u64 (hh : Int), u7, u8, u9, u10, u11, u12, u13, u14, u15, u16, u17, u18, u19, u20, u21, u22, u23, u24, u25, u26, u27, u28, u29, u30, u31, u32, u33, u34, u35, u36, u37, u38], defers := [] }) (fun _ _ => 0) rfl ?first ?pass
  case first =>
    go_wp2_with fail
    refine wp_region_linX T [4] [0, 1, 2, 3, 4, 5, 6] (by kernel_rfl) (by kernel_rfl) (hTd _ HX.out.1) ?_
    (repeat (first | (refine linX_off rfl rfl (by rfl) ?_; (try simp only [Act.put, List.getElem_toArray, List.getElem_cons_zero, List.getElem_cons_succ, List.setIfInBounds_toArray, List.set_cons_zero, List.set_cons_succ])) | (refine linX_op (v := ?_) rfl rfl (by rfl) (fun w9 hS9 => ?_) ?_; rotate_left; (focus (((try dsimp only at hS9); obtain ⟨z1, z2, z3⟩ := hTf w9 hS9; go_simp; (try go_bits)) <;> with_reducible rfl)); (try simp only [Act.put, List.getElem_toArray, List.getElem_cons_zero, List.getElem_cons_succ, List.setIfInBounds_toArray, List.set_cons_zero, List.set_cons_succ]))))
    refine linX_call (f := 35) (args := #[.agg v.cs]) rfl rfl (by rfl) rfl rfl (enters_of Try.func35 (by kernel_rfl) rfl) (by simp [Act.eval]) ?_
    refine (end_any v W3.drew HN.out).mono ?_
    rintro e W4 ⟨rfl, hb4⟩
    have hT4 := hTb _ _ (hTd _ HX.out.1) hb4
    refine ⟨_, rfl, hT4, ?_⟩
    (try simp only [Act.put, List.getElem_toArray, List.getElem_cons_zero, List.getElem_cons_succ, List.setIfInBounds_toArray, List.set_cons_zero, List.set_cons_succ])
    (repeat (first | (refine linX_off rfl rfl (by rfl) ?_; (try simp only [Act.put, List.getElem_toArray, List.getElem_cons_zero, List.getElem_cons_succ, List.setIfInBounds_toArray, List.set_cons_zero, List.set_cons_succ])) | (refine linX_op (v := ?_) rfl rfl (by rfl) (fun w9 hS9 => ?_) ?_; rotate_left; (focus (((try dsimp only at hS9); obtain ⟨z1, z2, z3⟩ := hTf w9 hS9; go_simp; (try go_bits)) <;> with_reducible rfl)); (try simp only [Act.put, List.getElem_toArray, List.getElem_cons_zero, List.getElem_cons_succ, List.setIfInBounds_toArray, List.set_cons_zero, List.set_cons_succ]))))
    refine linX_nil ?_
    have HPL := vplace_any v m.pi W4 (HX.out.2.2.1.later (HX.out.2.2.2.2.2.2 W4 hT4).1) (by omega)
    rw [show placeV v m.pi = placeR v m.pi by unfold placeV; rw [if_pos hv], HQ.out] at HPL
    dsimp only at HPL
    obtain ⟨z1, z2, z3⟩ := hTf W4 hT4
    go_wp2_with fail
    refine HPL.mono ?_
    rintro e W5 ⟨rfl, hb5⟩
    have hT5 := hTb _ _ hT4 hb5
    have SA := st_at (i2 := p1) (e2 := p2) (Blk.new W5 24 (acs 0 0))
    rw [World.setRow_alloc_new] at SA
    obtain ⟨W6, hW6⟩ : ∃ W6, W5.alloc (.cells (acs p1 p2) 24) = W6 := ⟨_, rfl⟩
    rw [hW6] at SA
    have hT6 : T W6 := hTb _ _ hT5 (by rw [← hW6]; exact below_alloc W5 _)
    have a6 : Blk W6 W5.heap.size 24 (acs p1 p2) := by rw [← hW6]; exact Blk.new W5 _ _
    have LA := ld_at a6
    obtain ⟨y1, y2, y3⟩ := hTf W6 hT6
    have hTJ := hT6
    clear hTJ a6 hT4 hT5 hb5 hb4
    go_wp2_with (with_reducible refine wpList_alloc_z rfl 24 rfl (acs 0 0) 2 z_at ?_)
    have hTJ := hT6
    exact wp_goto ⟨rfl, hTJ, _, _, _, _, _, _, _, _, _, _, _, _, _, _, _, _, _, _, _, _, _, _, _, _, _, _, _, _, _, _, _, _, rfl⟩
  case pass =>
    rintro a' w' ⟨hT', u7, u8, u9, u10, u11, u12, u13, u14, u15, u16, u17, u18, u19, u20, u21, u22, u23, u24, u25, u26, u27, u28, u29, u30, u31, u32, u33, u34, u35, u36, u37, u38, rfl⟩
    have r7 := (HX.out.2.2.2.2.2.2 w' hT').2.1
    have BC := build_chno (hh)
    have ST7 := st_ch (b2 := chNo (hh)) r7
    have HF := Lib.hid (And.intro (r7.row (chNo (hh)).cs) (And.intro (below_setRow (HX.out.2.2.2.2.2.2 w' hT').1 HX.out.2.1 (chNo (hh)).cs) HW.out))
    clear r7
    go_wp2_with fail
    simp only [Exit.jump]
    refine bodyPost_ret (results_cell_row rfl _ _ W2.heap.size 67 _ (0, 0) _ rfl HF.out.1 Try.underlying67 rfl (s_ch _)) rfl ?_
    exact ⟨_, rfl, HF.out.2.2, EnOwn.nil _ _, HF.out.2.1⟩

set_option maxHeartbeats 4000000 in
theorem made_fits (v : Vw) (m : Ms) (w : World) (hv : v.ok = true) (hmi : m.pi ≤ 4611686018427387904) (hmn : m.n ≤ 8) (hL : EnIn w 0 v.a v.n v.c v.L) (hM : EnIn w 0 m.a m.n m.c m.L) (hU : ∀ x ∈ m.L, x.n ≤ 1000) (h1 : ¬ v.z < m.pi) (h2 : ¬ ((placeR v m.pi).2.2 = true ∧ (placeR v m.pi).2.1 ≠ m.pe)) :
    Calls Try.prog 46 #[.agg v.cs, .agg m.cs] w fun e w' => ∃ c : Ch, e = .returned (.agg c.cs) ∧ MadeR v m c ∧ EnOwn w' w.heap.size (.slice c.a c.n c.c) c.L ∧ Below w.heap.size w w' := by
  obtain ⟨W1, hW1⟩ : ∃ W1, w.alloc (.cells v.cs 36) = W1 := ⟨_, rfl⟩
  have hb1 : Below w.heap.size w W1 := by rw [← hW1]; exact below_alloc w _
  have b1 : Blk W1 w.heap.size 36 v.cs := by rw [← hW1]; exact Blk.new w _ _
  obtain ⟨W2, hW2⟩ : ∃ W2, W1.alloc (.cells m.cs 47) = W2 := ⟨_, rfl⟩
  have hb12 : Below W1.heap.size W1 W2 := by rw [← hW2]; exact below_alloc W1 _
  have b2 : Blk W2 W1.heap.size 47 m.cs := by rw [← hW2]; exact Blk.new W1 _ _
  obtain ⟨W3, hW3⟩ : ∃ W3, W2.alloc (.cells Ch.zero.cs 67) = W3 := ⟨_, rfl⟩
  have hb23 : Below W2.heap.size W2 W3 := by rw [← hW3]; exact below_alloc W2 _
  have b3 : Blk W3 W2.heap.size 67 Ch.zero.cs := by rw [← hW3]; exact Blk.new W2 _ _
  have hb03 : Below w.heap.size w W3 := bel_trans (bel_trans hb1 hb12) hb23
  have v3 := (b1.later hb12).later hb23
  have m3 := b2.later hb23
  have hle : w.heap.size ≤ W2.heap.size := (bel_trans hb1 hb12).size
  have hzz := Vw.ok_of hv
  obtain ⟨T, hT⟩ : ∃ T : World → Prop, T = fun w' => Below w.heap.size w w' ∧ Blk w' w.heap.size 36 v.cs ∧ Blk w' W1.heap.size 47 m.cs ∧ Blk w' W2.heap.size 67 Ch.zero.cs := ⟨_, rfl⟩
  have hT0 : T W3 := by rw [hT]; exact ⟨hb03, v3, m3, b3⟩
  have hTd : ∀ w, T w → T w.drew := by rw [hT]; exact fun w h => ⟨bel_drew h.1, h.2⟩
  have hTb : ∀ w w', T w → Below w.heap.size w w' → T w' := by rw [hT]; exact fun w w' h k => ⟨bel_trans h.1 k, h.2.1.later k, h.2.2.1.later k, h.2.2.2.later k⟩
  have hTf : ∀ w', T w' → (loadSem 36 (.pointer (some ⟨w.heap.size, 0, none⟩))).run Try.prog w' = .ok (.agg v.cs) w' ∧ w'.cell? ⟨W1.heap.size, 4, none⟩ = some (.int .u64 (m.pi : Int)) ∧ (loadSem 24 (.pointer (some ⟨W1.heap.size, 4, none⟩))).run Try.prog w' = .ok (.agg (acs (m.pi : Int) m.pe)) w' := by
    rw [hT]
    exact fun w' h => ⟨ld_vw h.2.1, h.2.2.1.cell 4, ms_at h.2.2.1⟩
  have hTn : ∀ w', T w' → Below w.heap.size w w' ∧ Blk w' W2.heap.size 67 Ch.zero.cs ∧ Blk w' W1.heap.size 47 m.cs := by rw [hT]; exact fun w' h => ⟨h.1, h.2.2.2, h.2.2.1⟩
  have HX := Lib.hid (And.intro hT0 (And.intro hle (And.intro hL (And.intro hM (And.intro hU (And.intro hzz hTn))))))
  have HN := Lib.hid (show v.b.i + v.n < 18446744073709551616 by omega)
  clear hT hT0 hL hM hU hb03 v3 m3 b3 hle hzz hTn
  clear hb1 b1 hb12 b2 hb23
  have dz := gtU_nat m.pi v.z
  have dz1 : gtU (m.pi : Int) (v.z : Int) = false := by rw [dz]; simp; omega
  have HW := Lib.hid (show ∀ c, FitR v m c → MadeR v m c from fun c hc => .inr (.inr ⟨h1, h2, hc⟩))
  have hp1 := fun h => placeR_at (v := v) (x := m.pi) h
  obtain ⟨p1, p2, p3, hq⟩ : ∃ p1 p2 p3, placeR v m.pi = (p1, p2, p3) := ⟨_, _, _, rfl⟩
  have HQ := Lib.hid hq
  rw [hq] at h2 hp1
  dsimp only at h2 hp1
  have EA : p3 = true → ∀ w, (eqSem 24 (.agg (acs p1 p2)) (.agg (acs (m.pi : Int) m.pe))).run Try.prog w = .ok true w := fun h w => by
    rw [eqAt, decide_eq_true ⟨hp1 h, Classical.byContradiction fun hn => h2 ⟨h, hn⟩⟩]
  clear dz h1 h2 hp1 hq
  go_enter Try.func46, Try.ntmps46
  go_wp2_with (with_reducible refine wpList_alloc_z rfl 67 rfl Ch.zero.cs 4 z_ch ?_)
  rw [hW3]
  go_step3
  go_wp2_with fail
  refine wp_region_linX T [4] [0, 1, 2, 3, 4, 5, 6] (by kernel_rfl) (by kernel_rfl) (hTd _ HX.out.1) ?_
  (repeat (first | (refine linX_off rfl rfl (by rfl) ?_; (try simp only [Act.put, List.getElem_toArray, List.getElem_cons_zero, List.getElem_cons_succ, List.setIfInBounds_toArray, List.set_cons_zero, List.set_cons_succ])) | (refine linX_op (v := ?_) rfl rfl (by rfl) (fun w9 hS9 => ?_) ?_; rotate_left; (focus (((try dsimp only at hS9); obtain ⟨z1, z2, z3⟩ := hTf w9 hS9; go_simp; (try go_bits)) <;> with_reducible rfl)); (try simp only [Act.put, List.getElem_toArray, List.getElem_cons_zero, List.getElem_cons_succ, List.setIfInBounds_toArray, List.set_cons_zero, List.set_cons_succ]))))
  refine linX_call (f := 35) (args := #[.agg v.cs]) rfl rfl (by rfl) rfl rfl (enters_of Try.func35 (by kernel_rfl) rfl) (by simp [Act.eval]) ?_
  refine (end_any v W3.drew HN.out).mono ?_
  rintro e W4 ⟨rfl, hb4⟩
  have hT4 := hTb _ _ (hTd _ HX.out.1) hb4
  refine ⟨_, rfl, hT4, ?_⟩
  (try simp only [Act.put, List.getElem_toArray, List.getElem_cons_zero, List.getElem_cons_succ, List.setIfInBounds_toArray, List.set_cons_zero, List.set_cons_succ])
  (repeat (first | (refine linX_off rfl rfl (by rfl) ?_; (try simp only [Act.put, List.getElem_toArray, List.getElem_cons_zero, List.getElem_cons_succ, List.setIfInBounds_toArray, List.set_cons_zero, List.set_cons_succ])) | (refine linX_op (v := ?_) rfl rfl (by rfl) (fun w9 hS9 => ?_) ?_; rotate_left; (focus (((try dsimp only at hS9); obtain ⟨z1, z2, z3⟩ := hTf w9 hS9; go_simp; (try go_bits)) <;> with_reducible rfl)); (try simp only [Act.put, List.getElem_toArray, List.getElem_cons_zero, List.getElem_cons_succ, List.setIfInBounds_toArray, List.set_cons_zero, List.set_cons_succ]))))
  refine linX_nil ?_
  have HPL := vplace_any v m.pi W4 (HX.out.2.2.1.later (HX.out.2.2.2.2.2.2 W4 hT4).1) (by omega)
  rw [show placeV v m.pi = placeR v m.pi by unfold placeV; rw [if_pos hv], HQ.out] at HPL
  dsimp only at HPL
  obtain ⟨z1, z2, z3⟩ := hTf W4 hT4
  go_wp2_with fail
  refine HPL.mono ?_
  rintro e W5 ⟨rfl, hb5⟩
  have hT5 := hTb _ _ hT4 hb5
  have SA := st_at (i2 := p1) (e2 := p2) (Blk.new W5 24 (acs 0 0))
  rw [World.setRow_alloc_new] at SA
  obtain ⟨W6, hW6⟩ : ∃ W6, W5.alloc (.cells (acs p1 p2) 24) = W6 := ⟨_, rfl⟩
  rw [hW6] at SA
  have hT6 : T W6 := hTb _ _ hT5 (by rw [← hW6]; exact below_alloc W5 _)
  have a6 : Blk W6 W5.heap.size 24 (acs p1 p2) := by rw [← hW6]; exact Blk.new W5 _ _
  have LA := ld_at a6
  obtain ⟨y1, y2, y3⟩ := hTf W6 hT6
  have HFI := fitting_any v m W6 hv hmi hmn (HX.out.2.2.1.later (HX.out.2.2.2.2.2.2 W6 hT6).1) (HX.out.2.2.2.1.later (HX.out.2.2.2.2.2.2 W6 hT6).1) HX.out.2.2.2.2.1
  have LM := ld_ms (HX.out.2.2.2.2.2.2 W6 hT6).2.2
  have HT6 := Lib.hid hT6
  clear hT4 hT5 hb5 hb4 hT6
  cases p3 with
  | true =>
    have EA2 := EA rfl
    clear EA
    go_wp2_with (with_reducible refine wpList_alloc_z rfl 24 rfl (acs 0 0) 2 z_at ?_)
    refine HFI.mono ?_
    rintro e W7 ⟨c, rfl, hfit, hown, hb7⟩
    have hT7 := hTb _ _ HT6.out hb7
    have r7 := (HX.out.2.2.2.2.2.2 W7 hT7).2.1
    have hb07 := (HX.out.2.2.2.2.2.2 W7 hT7).1
    have ST7 := st_ch (b2 := c) r7
    have hz6 := (HX.out.2.2.2.2.2.2 W6 HT6.out).1.size
    have hown7 : EnOwn (W7.setRow W2.heap.size c.cs) w.heap.size (.slice c.a c.n c.c) c.L := (hown.less hz6).turn (fun g t cs ht hb => hb.kept ((Kept.refl [W2.heap.size] W7).setRow (.inl (by simp)) _) (fun hm => by
      have e : g = W2.heap.size := by simpa using hm
      subst e
      exact (Blk.ne hb r7 ht) rfl))
    have HF := Lib.hid (And.intro (r7.row c.cs) (And.intro (below_setRow hb07 HX.out.2.1 c.cs) (And.intro (HW.out c hfit) hown7)))
    clear hfit hown hb7 hT7 r7 hb07 hz6 hown7
    go_wp2_with fail
    try rw [Exit.noGoto_ret]
    refine bodyPost_ret (results_cell_row rfl _ _ W2.heap.size 67 _ (0, 0) _ rfl HF.out.1 Try.underlying67 rfl (s_ch _)) rfl ?_
    exact ⟨c, rfl, HF.out.2.2.1, HF.out.2.2.2, HF.out.2.1⟩
  | false =>
    clear EA
    go_wp2_with (with_reducible refine wpList_alloc_z rfl 24 rfl (acs 0 0) 2 z_at ?_)
    refine HFI.mono ?_
    rintro e W7 ⟨c, rfl, hfit, hown, hb7⟩
    have hT7 := hTb _ _ HT6.out hb7
    have r7 := (HX.out.2.2.2.2.2.2 W7 hT7).2.1
    have hb07 := (HX.out.2.2.2.2.2.2 W7 hT7).1
    have ST7 := st_ch (b2 := c) r7
    have hz6 := (HX.out.2.2.2.2.2.2 W6 HT6.out).1.size
    have hown7 : EnOwn (W7.setRow W2.heap.size c.cs) w.heap.size (.slice c.a c.n c.c) c.L := (hown.less hz6).turn (fun g t cs ht hb => hb.kept ((Kept.refl [W2.heap.size] W7).setRow (.inl (by simp)) _) (fun hm => by
      have e : g = W2.heap.size := by simpa using hm
      subst e
      exact (Blk.ne hb r7 ht) rfl))
    have HF := Lib.hid (And.intro (r7.row c.cs) (And.intro (below_setRow hb07 HX.out.2.1 c.cs) (And.intro (HW.out c hfit) hown7)))
    clear hfit hown hb7 hT7 r7 hb07 hz6 hown7
    go_wp2_with fail
    try rw [Exit.noGoto_ret]
    refine bodyPost_ret (results_cell_row rfl _ _ W2.heap.size 67 _ (0, 0) _ rfl HF.out.1 Try.underlying67 rfl (s_ch _)) rfl ?_
    exact ⟨c, rfl, HF.out.2.2.1, HF.out.2.2.2, HF.out.2.1⟩
theorem made_any (v : Vw) (m : Ms) (w : World) (hv : v.ok = true) (hmi : m.pi ≤ 4611686018427387904) (hmn : m.n ≤ 8) (hL : EnIn w 0 v.a v.n v.c v.L) (hM : EnIn w 0 m.a m.n m.c m.L) (hU : ∀ x ∈ m.L, x.n ≤ 1000) :
    Calls Try.prog 46 #[.agg v.cs, .agg m.cs] w fun e w' => ∃ c : Ch, e = .returned (.agg c.cs) ∧ MadeR v m c ∧ EnOwn w' w.heap.size (.slice c.a c.n c.c) c.L ∧ Below w.heap.size w w' := by
  by_cases h1 : v.z < m.pi
  · exact made_far v m w hv hmi hmn hL hM hU h1
  · by_cases h2 : (placeR v m.pi).2.2 = true ∧ (placeR v m.pi).2.1 ≠ m.pe
    · exact made_other v m w hv hmi hmn hL hM hU h1 h2
    · exact made_fits v m w hv hmi hmn hL hM hU h1 h2
end Go.Proofs.Ytkoenconjldojaa
