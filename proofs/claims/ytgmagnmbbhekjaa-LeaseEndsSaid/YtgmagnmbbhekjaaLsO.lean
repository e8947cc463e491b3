/-
  A lease that is data. Nothing here is a statement of the document.
-/
import Derived.Test.YtgmagnmbbhekjaaLsE
import Derived.Test.YtgmagnmbbhekjaaLin
import Derived.WalkKit
import Derived.ProofKit
import Derived.OpenShut
import Derived.DataShut
import Derived.Deep.SlicePairs
namespace Go.Proofs.Ytgmagnmbbhekjaa
open Go.RowKit
set_option linter.unusedVariables false
attribute [local go_sem 10000] gtU_rule leU_rule ltU_rule geU_rule adU_rule sbU_rule mxU_rule
attribute [local go_sem ↓] load_ls_rule store_ls_rule

/-- A new box with something stored. -/
theorem lst_new (m : Ls) (W : World) : (storeSem 24 (.pointer (some ⟨W.heap.size, 0, none⟩)) (.agg m.cs)).run Try.prog (W.alloc (.cells #[.int .u64 0, .int .u64 0, .int .u64 0] 24)) = .ok () (W.alloc (.cells m.cs 24)) := by
  have h := st_ls (n := Ls.zero) (m := m) (Blk.new W 24 Ls.zero.cs)
  have e : (W.alloc (.cells Ls.zero.cs 24)).setRow W.heap.size m.cs = W.alloc (.cells m.cs 24) := by
    exact World.setRow_alloc_new _ _ _ _
  rw [e] at h
  exact h

set_option maxRecDepth 100000 in
set_option maxHeartbeats 4000000 in
theorem lwakes_any (w : World) : Calls Try.prog 7 #[] w fun e w' => e = .returned (.bool true) ∧ Below w.heap.size w w' := by
  obtain ⟨L1, hL1⟩ : ∃ L : Ls, L = ⟨0, 8, 0⟩ := ⟨_, rfl⟩
  obtain ⟨L2, hL2⟩ : ∃ L : Ls, L = ⟨0, 8, 12⟩ := ⟨_, rfl⟩
  obtain ⟨L3, hL3⟩ : ∃ L : Ls, L = ⟨1, 8, 12⟩ := ⟨_, rfl⟩
  have h1 : ∀ w, Calls Try.prog 16 #[.agg #[.int .u64 0, .int .u64 0, .int .u64 0], .int .u64 0] w fun e w' => e = .returned (.tuple #[.agg L1.cs, .int .i64 0]) ∧ Below w.heap.size w w' := fun w => by
    have := lgranted_any Ls.zero 0 w
    rw [show grantedR Ls.zero 0 = (L1, 0) by rw [hL1]; rfl] at this
    exact this
  have h2 : ∀ w, Calls Try.prog 14 #[.agg L1.cs] w fun e w' => e = .returned (.tuple #[.agg L2.cs, .int .i64 0]) ∧ Below w.heap.size w w' := fun w => by
    have := lgrant_any L1 w
    rw [show grantR L1 = (L2, 0) by rw [hL1, hL2]; rfl] at this
    exact this
  have h3 : ∀ w, Calls Try.prog 12 #[.agg L2.cs] w fun e w' => e = .returned (.tuple #[.agg L3.cs, .int .i64 0]) ∧ Below w.heap.size w w' := fun w => by
    have := ltick_any L2 w
    rw [show tickR L2 = (L3, 0) by rw [hL2, hL3]; rfl] at this
    exact this
  have h4 : ∀ w, Calls Try.prog 10 #[.agg L1.cs] w fun e w' => e = .returned (.bool true) ∧ Below w.heap.size w w' := fun w => by
    have := lholds_any L1 w
    rwa [show L1.holds = true by rw [hL1]; rfl] at this
  have h5 : ∀ w, Calls Try.prog 11 #[.agg L1.cs] w fun e w' => e = .returned (.bool true) ∧ Below w.heap.size w w' := fun w => by
    have := lfree_any L1 w
    rwa [show L1.free = true by rw [hL1]; rfl] at this
  have h6 : ∀ w, Calls Try.prog 11 #[.agg L2.cs] w fun e w' => e = .returned (.bool false) ∧ Below w.heap.size w w' := fun w => by
    have := lfree_any L2 w
    rwa [show L2.free = false by rw [hL2]; rfl] at this
  have n3 : L3.n = 1 := by rw [hL3]
  have H0 := Lib.hid (Below.refl w.heap.size w)
  clear hL1 hL2 hL3
  go_enter Try.func7, Try.ntmps7
  go_wp2_with fail
  refine (h1 _).mono ?_
  rintro e w1 ⟨rfl, hb1⟩
  have st1 := lst_new L1 w1
  obtain ⟨v1, hv1⟩ : ∃ v, w1.alloc (.cells (L1).cs 24) = v := ⟨_, rfl⟩
  rw [hv1] at st1
  have B1 : Blk v1 w1.heap.size 24 (L1).cs := by rw [← hv1]; exact Blk.new w1 _ _
  have C1 := Lib.hid (show ∀ W, Below v1.heap.size v1 W → Blk W w1.heap.size 24 (L1).cs from fun W h => Kept.blk (Kept.of_below [] h) B1 (by simp))
  have hb1' : Below w.heap.size w v1 := by rw [← hv1]; exact bel_al hb1 _
  have H1 := Lib.hid hb1'
  have lx := ld_ls B1
  clear hb1 hb1' B1
  go_wp2_with fail
  refine (h2 _).mono ?_
  rintro e w2 ⟨rfl, hb2⟩
  have hv2b := hb2
  have B1 := C1.out w2 hb2
  replace hb2 := bel_tr H1.out hb2
  have st2 := lst_new L2 w2
  obtain ⟨v2, hv2⟩ : ∃ v, w2.alloc (.cells (L2).cs 24) = v := ⟨_, rfl⟩
  rw [hv2] at st2
  have B2 : Blk v2 w2.heap.size 24 (L2).cs := by rw [← hv2]; exact Blk.new w2 _ _
  have C2 := Lib.hid (show ∀ W, Below v2.heap.size v2 W → Blk W w2.heap.size 24 (L2).cs from fun W h => Kept.blk (Kept.of_below [] h) B2 (by simp))
  have hb2' : Below w.heap.size w v2 := by rw [← hv2]; exact bel_al hb2 _
  have H2 := Lib.hid hb2'
  have hv2v : Below v1.heap.size v1 v2 := by rw [← hv2]; exact bel_al hv2b _
  have lx := ld_ls B2
  have D1 := Lib.hid (show ∀ W, Below v2.heap.size v2 W → Blk W w1.heap.size 24 L1.cs from fun W h => C1.out W (bel_tr hv2v h))
  clear hb2 hb2' B2 hv2b B1 hv2v
  go_wp2_with fail
  refine (h3 _).mono ?_
  rintro e w3 ⟨rfl, hb3⟩
  have hv3b := hb3
  replace hb3 := bel_tr H2.out hb3
  have st3 := lst_new L3 w3
  obtain ⟨v3, hv3⟩ : ∃ v, w3.alloc (.cells (L3).cs 24) = v := ⟨_, rfl⟩
  rw [hv3] at st3
  have B3 : Blk v3 w3.heap.size 24 (L3).cs := by rw [← hv3]; exact Blk.new w3 _ _
  have C3 := Lib.hid (show ∀ W, Below v3.heap.size v3 W → Blk W w3.heap.size 24 (L3).cs from fun W h => Kept.blk (Kept.of_below [] h) B3 (by simp))
  have hb3' : Below w.heap.size w v3 := by rw [← hv3]; exact bel_al hb3 _
  have H3 := Lib.hid hb3'
  have hv3v : Below v2.heap.size v2 v3 := by rw [← hv3]; exact bel_al hv3b _
  have E1 := Lib.hid (show ∀ W, Below v3.heap.size v3 W → Blk W w1.heap.size 24 L1.cs from fun W h => D1.out W (bel_tr hv3v h))
  have E2 := Lib.hid (show ∀ W, Below v3.heap.size v3 W → Blk W w2.heap.size 24 L2.cs from fun W h => C2.out W (bel_tr hv3v h))
  have lx := ld_ls (E1.out v3 (Below.refl _ _))
  clear hb3 hb3' B3 hv3b hv3v
  go_wp2_with fail
  refine (h4 _).mono ?_
  rintro e w4 ⟨rfl, hb4⟩
  have lx4 := ld_ls (E1.out w4 hb4)
  go_wp2_with fail
  refine (h5 _).mono ?_
  rintro e w5 ⟨rfl, hb5⟩
  have hb5 := bel_tr hb4 hb5
  have lx5 := ld_ls (E2.out w5 hb5)
  go_wp2_with fail
  refine (h6 _).mono ?_
  rintro e w6 ⟨rfl, hb6⟩
  have hb6 := bel_tr hb5 hb6
  obtain ⟨c0, c1, c2⟩ := ls_cell (C3.out w6 hb6)
  rw [n3] at c0
  go_wp2
  go_ret
  exact ⟨rfl, bel_tr H3.out hb6⟩

set_option maxRecDepth 100000 in
set_option maxHeartbeats 4000000 in
theorem leasetells_walk (l : Ls) (w : World) : Calls Try.prog 3 #[.agg l.cs] w fun e w' => e = .returned (.bool true) ∧ Below w.heap.size w w' := by
  obtain ⟨W1, hW1⟩ : ∃ W1, w.alloc (.cells l.cs 24) = W1 := ⟨_, rfl⟩
  have H1 := Lib.hid (show Below w.heap.size w W1 by rw [← hW1]; exact below_alloc w _)
  have b1 : Blk W1 w.heap.size 24 l.cs := by rw [← hW1]; exact Blk.new w _ _
  have C1 := Lib.hid (show ∀ W, Below W1.heap.size W1 W → Blk W w.heap.size 24 l.cs from fun W h => Kept.blk (Kept.of_below [] h) b1 (by simp))
  clear b1
  have hc := fun w => lcheck_any l w
  have hr := fun w => lright_any l w
  have hh := fun w => lholds_any l w
  have hf := fun w => lfree_any l w
  have d1 := ltU_nat l.n l.h
  have d2 := geU_nat l.n l.p
  simp only [show l.e = if l.ok then 0 else 230 from rfl, show l.holds = (l.ok && decide (l.n < l.h)) from rfl, show l.free = (l.ok && decide (l.p ≤ l.n)) from rfl] at hc hh hf
  generalize decide (l.n < l.h) = x at *
  generalize decide (l.p ≤ l.n) = y at *
  generalize l.ok = k at *
  cases k
  · simp only [Bool.false_and, Bool.true_and, Bool.false_eq_true, ↓reduceIte] at hc hh hf
    go_enter Try.func3, Try.ntmps3
    go_wp2_with fail
    refine (lwakes_any _).mono ?_
    rintro e w2 ⟨rfl, hb2⟩
    have lx2 := ld_ls (C1.out w2 hb2)
    go_wp2_with fail
    refine (hc _).mono ?_
    rintro e w3 ⟨rfl, hb3⟩
    replace hb3 := bel_tr hb2 hb3
    have lx3 := ld_ls (C1.out w3 hb3)
    go_wp2_with fail
    refine (hr _).mono ?_
    rintro e w4 ⟨rfl, hb4⟩
    replace hb4 := bel_tr hb3 hb4
    have lx4 := ld_ls (C1.out w4 hb4)
    go_wp2_with fail
    refine (hh _).mono ?_
    rintro e w5 ⟨rfl, hb5⟩
    replace hb5 := bel_tr hb4 hb5
    have lx5 := ld_ls (C1.out w5 hb5)
    go_wp2_with fail
    refine (hf _).mono ?_
    rintro e w6 ⟨rfl, hb6⟩
    replace hb6 := bel_tr hb5 hb6
    go_wp2
    go_ret
    exact ⟨rfl, bel_tr H1.out hb6⟩
  · simp only [Bool.false_and, Bool.true_and, Bool.false_eq_true, ↓reduceIte] at hc hh hf
    cases x <;> cases y <;>
    · go_enter Try.func3, Try.ntmps3
      go_wp2_with fail
      refine (lwakes_any _).mono ?_
      rintro e w2 ⟨rfl, hb2⟩
      have lx2 := ld_ls (C1.out w2 hb2)
      go_wp2_with fail
      refine (hc _).mono ?_
      rintro e w3 ⟨rfl, hb3⟩
      replace hb3 := bel_tr hb2 hb3
      have lx3 := ld_ls (C1.out w3 hb3)
      go_wp2_with fail
      refine (hr _).mono ?_
      rintro e w4 ⟨rfl, hb4⟩
      replace hb4 := bel_tr hb3 hb4
      have C4 : ∀ W, Below w4.heap.size w4 W → Blk W w.heap.size 24 l.cs := fun W h => C1.out W (bel_tr hb4 h)
      go_wp2
      refine wp_region_linY (fun w' => Below w4.heap.size w4 w') [4, 14] [0, 1, 2, 3, 5, 6, 7, 8, 9, 4, 10, 11, 12, 13, 15, 16, 17, 18, 19, 14, 20, 21, 22] (by kernel_rfl) (by kernel_rfl) ((Below.refl _ _).drew) ?_
      (repeat (refine linX_op (v := ?_) rfl rfl (by rfl) (fun w9 hS9 => ?_) ?_; rotate_left; (focus ((have B9 := C4 w9 hS9; have k9 := ld_ls B9; obtain ⟨c0, c1, c2⟩ := ls_cell B9; (try dsimp only at hS9); go_simp) <;> with_reducible rfl)); (try simp only [Act.put, List.getElem_toArray, List.getElem_cons_zero, List.getElem_cons_succ, List.setIfInBounds_toArray, List.set_cons_zero, List.set_cons_succ])))
      refine linX_call (f := 10) (args := #[.agg l.cs]) rfl rfl (by rfl) rfl rfl (enters_of Try.func10 (by kernel_rfl) rfl) ?_ ?_; (focus (simp [Act.eval]; done))
      refine (hh _).mono ?_
      rintro e w5 ⟨rfl, hb5⟩
      replace hb5 : Below w4.heap.size w4 w5 := ⟨hb5.os, hb5.tape, hb5.output, hb5.size, hb5.block⟩
      refine ⟨_, rfl, hb5, ?_⟩
      (try simp only [Act.put, List.getElem_toArray, List.getElem_cons_zero, List.getElem_cons_succ, List.setIfInBounds_toArray, List.set_cons_zero, List.set_cons_succ])
      (repeat (refine linX_op (v := ?_) rfl rfl (by rfl) (fun w9 hS9 => ?_) ?_; rotate_left; (focus ((have B9 := C4 w9 hS9; have k9 := ld_ls B9; obtain ⟨c0, c1, c2⟩ := ls_cell B9; (try dsimp only at hS9); go_simp) <;> with_reducible rfl)); (try simp only [Act.put, List.getElem_toArray, List.getElem_cons_zero, List.getElem_cons_succ, List.setIfInBounds_toArray, List.set_cons_zero, List.set_cons_succ])))
      refine linX_call (f := 11) (args := #[.agg l.cs]) rfl rfl (by rfl) rfl rfl (enters_of Try.func11 (by kernel_rfl) rfl) ?_ ?_; (focus (simp [Act.eval]; done))
      refine (hf _).mono ?_
      rintro e w6 ⟨rfl, hb6⟩
      replace hb6 : Below w4.heap.size w4 w6 := bel_tr hb5 hb6
      refine ⟨_, rfl, hb6, ?_⟩
      (try simp only [Act.put, List.getElem_toArray, List.getElem_cons_zero, List.getElem_cons_succ, List.setIfInBounds_toArray, List.set_cons_zero, List.set_cons_succ])
      (repeat (refine linX_op (v := ?_) rfl rfl (by rfl) (fun w9 hS9 => ?_) ?_; rotate_left; (focus ((have B9 := C4 w9 hS9; have k9 := ld_ls B9; obtain ⟨c0, c1, c2⟩ := ls_cell B9; (try dsimp only at hS9); go_simp) <;> with_reducible rfl)); (try simp only [Act.put, List.getElem_toArray, List.getElem_cons_zero, List.getElem_cons_succ, List.setIfInBounds_toArray, List.set_cons_zero, List.set_cons_succ])))
      refine linX_nil ?_
      go_wp2
      go_ret
      exact ⟨rfl, bel_tr H1.out (bel_tr hb4 hb6)⟩

end Go.Proofs.Ytgmagnmbbhekjaa
namespace Go.Proofs.Ytgmagnmbbhekjaa
open Go.RowKit
set_option linter.unusedVariables false
/-- The lesser one. -/
def mnU (x y : Int) : Int := if y < x then y else x
theorem mnU_rule {P : Program} (w : World) (ts : Array TypeId) (t : TypeId) (x y : Int) : (Builtin.min_ ts t #[.int .u64 x, .int .u64 y]).run P w = .ok (.int .u64 (mnU x y)) w := run_min_int2 w ts t .u64 .u64 x y
theorem mnU_nat (x y : Nat) : mnU (x : Int) (y : Int) = ((min x y : Nat) : Int) := by unfold mnU; split <;> omega
def rmU (x y : Int) : Int := x.tmod y
theorem rmU_rule {P : Program} (w : World) (x y : Int) (h : y ≠ 0) : (Op.intDiv .rem .u64 x y).run P w = .ok (.int .u64 (rmU x y)) w := by simp [Op.intDiv, h, rmU]
theorem rmU_nat (x y : Nat) : rmU (x : Int) (y : Int) = ((x % y : Nat) : Int) := by unfold rmU; rw [Int.tmod_eq_emod_of_nonneg (by omega)]; simp
attribute [local go_sem 10000] gtU_rule leU_rule ltU_rule geU_rule adU_rule sbU_rule mxU_rule mnU_rule
attribute [local go_sem ↓] load_ls_rule store_ls_rule

set_option maxRecDepth 100000 in
set_option maxHeartbeats 4000000 in
theorem leaseends_walk (l : Ls) (s : Nat) (hs : s < 18446744073709551616) (w : World) : Calls Try.prog 6 #[.agg l.cs, .int .u64 s] w fun e w' => e = .returned (.bool true) ∧ Below w.heap.size w w' := by
  obtain ⟨v0, hv0⟩ : ∃ W1, w.alloc (.cells l.cs 24) = W1 := ⟨_, rfl⟩
  have H0 := Lib.hid (show Below w.heap.size w v0 by rw [← hv0]; exact below_alloc w _)
  have b0 : Blk v0 w.heap.size 24 l.cs := by rw [← hv0]; exact Blk.new w _ _
  have X0 := Lib.hid (show ∀ W, Below v0.heap.size v0 W → Blk W w.heap.size 24 l.cs from fun W h => Kept.blk (Kept.of_below [] h) b0 (by simp))
  clear b0 hs
  -- the numbers
  obtain ⟨N, hN⟩ : ∃ N, l.n % 1099511627776 = N := ⟨_, rfl⟩
  have hNl : N < 1099511627776 := by rw [← hN]; exact Nat.mod_lt _ (by omega)
  obtain ⟨Hh, hH⟩ : ∃ N2, min l.h N = N2 := ⟨_, rfl⟩
  have hHl : Hh ≤ N := by rw [← hH]; exact Nat.min_le_right _ _
  obtain ⟨Pp, hP⟩ : ∃ N2, min l.p N = N2 := ⟨_, rfl⟩
  have hPl : Pp ≤ N := by rw [← hP]; exact Nat.min_le_right _ _
  have r1 : (l.n : Int) % 1099511627776 = (N : Int) := by rw [← hN]; simp
  have r1b : (l.n : Int).tmod 1099511627776 = (N : Int) := by rw [← hN]; exact rmU_nat l.n 1099511627776
  have r2 : mnU (l.h : Int) (N : Int) = (Hh : Int) := by rw [← hH]; exact mnU_nat _ _
  have r3 : mnU (l.p : Int) (N : Int) = (Pp : Int) := by rw [← hP]; exact mnU_nat _ _
  obtain ⟨M, hM⟩ : ∃ M, min N 20 = M := ⟨_, rfl⟩
  have hMl : M ≤ 20 ∧ M ≤ N := by omega
  have r4 : mnU (N : Int) 20 = (M : Int) := by rw [← hM]; exact mnU_nat _ _
  obtain ⟨M1, hM1⟩ : ∃ M1, M + 1 = M1 := ⟨_, rfl⟩
  have r5 : adU (M : Int) 1 = (M1 : Int) := by rw [← hM1]; exact adU_nat (b := 1) (by omega)
  have r6 : (M1 : Int) ≠ 0 := by omega
  have r6b : ¬ M1 = 0 := by omega
  obtain ⟨D, hD⟩ : ∃ D, s % M1 = D := ⟨_, rfl⟩
  have hDl : D ≤ M := by have : s % M1 < M1 := Nat.mod_lt _ (by omega); omega
  have r7 : (s : Int) % (M1 : Int) = (D : Int) := by rw [← hD]; simp
  have r7c := hD
  have r7b : (s : Int).tmod (M1 : Int) = (D : Int) := by rw [← hD]; exact rmU_nat _ _
  obtain ⟨t, ht⟩ : ∃ t, N - D = t := ⟨_, rfl⟩
  have r8 : sbU (N : Int) (D : Int) = (t : Int) := by rw [← ht]; exact sbU_nat (by omega) (by omega)
  have htl : t ≤ N ∧ N ≤ t + 20 := by omega
  obtain ⟨l1, hl1⟩ : ∃ l1 : Ls, l1 = ⟨N, Hh, Pp⟩ := ⟨_, rfl⟩
  obtain ⟨hK, hhK⟩ : ∃ hK : Nat → Ls, ∀ k, hK k = ⟨N + k, max Hh (t + 8), Pp⟩ := ⟨_, fun _ => rfl⟩
  obtain ⟨pK, hpK⟩ : ∃ pK : Nat → Ls, ∀ k, pK k = ⟨N + k, Hh, N + 12⟩ := ⟨_, fun _ => rfl⟩
  have hok : ∀ a b c : Nat, a ≤ 4611686018427387804 → b ≤ 4611686018427387904 → c ≤ 4611686018427387904 → Ls.late ⟨a, b, c⟩ = 0 ∧ Ls.ok ⟨a, b, c⟩ = true := by
    intro a b c ha hb hc
    have h1 : Ls.ok ⟨a, b, c⟩ = true := by simp [Ls.ok, hb, hc]; omega
    refine ⟨?_, h1⟩
    unfold Ls.late; rw [h1]; simp [ha]
  have hgd : ∀ w, Calls Try.prog 16 #[.agg l1.cs, .int .u64 t] w fun e w' => e = .returned (.tuple #[.agg (hK 0).cs, .int .i64 0]) ∧ Below w.heap.size w w' := fun w => by
    have := lgranted_any l1 t w
    rwa [show grantedR l1 t = (hK 0, 0) by
      have := (hok N Hh Pp (by omega) (by omega) (by omega)).1
      unfold grantedR; rw [hl1, if_pos this, if_pos (by simpa using htl.1), hhK]; rfl] at this
  have hgr : ∀ w, Calls Try.prog 14 #[.agg l1.cs] w fun e w' => e = .returned (.tuple #[.agg (pK 0).cs, .int .i64 0]) ∧ Below w.heap.size w w' := fun w => by
    have := lgrant_any l1 w
    rwa [show grantR l1 = (pK 0, 0) by
      have := (hok N Hh Pp (by omega) (by omega) (by omega)).1
      unfold grantR; rw [hl1, if_pos this, hpK]; unfold grantL; simp; omega] at this
  have hth : ∀ k, k < 20 → ∀ w, Calls Try.prog 12 #[.agg (hK k).cs] w fun e w' => e = .returned (.tuple #[.agg (hK (k + 1)).cs, .int .i64 0]) ∧ Below w.heap.size w w' := fun k hk w => by
    have := ltick_any (hK k) w
    rwa [show tickR (hK k) = (hK (k + 1), 0) by
      unfold tickR; rw [hhK, if_pos (hok _ _ _ (by omega) (by omega) (by omega)).1, hhK]; rfl] at this
  have htp : ∀ k, k < 20 → ∀ w, Calls Try.prog 12 #[.agg (pK k).cs] w fun e w' => e = .returned (.tuple #[.agg (pK (k + 1)).cs, .int .i64 0]) ∧ Below w.heap.size w w' := fun k hk w => by
    have := ltick_any (pK k) w
    rwa [show tickR (pK k) = (pK (k + 1), 0) by
      unfold tickR; rw [hpK, if_pos (hok _ _ _ (by omega) (by omega) (by omega)).1, hpK]; rfl] at this
  have hhh : ∀ k, k < 20 → ∀ w, Calls Try.prog 10 #[.agg (hK k).cs] w fun e w' => e = .returned (.bool (decide (N + k < t + 8))) ∧ Below w.heap.size w w' := fun k hk w => by
    have := lholds_any (hK k) w
    rwa [show (hK k).holds = decide (N + k < t + 8) by
      rw [hhK]; unfold Ls.holds; rw [(hok _ _ _ (by omega) (by omega) (by omega)).2]; simp; omega] at this
  have hff : ∀ k, k < 20 → ∀ w, Calls Try.prog 11 #[.agg (pK k).cs] w fun e w' => e = .returned (.bool (decide (12 ≤ k))) ∧ Below w.heap.size w w' := fun k hk w => by
    have := lfree_any (pK k) w
    rwa [show (pK k).free = decide (12 ≤ k) by
      rw [hpK]; unfold Ls.free; rw [(hok _ _ _ (by omega) (by omega) (by omega)).2]; simp] at this
  have l1cs : l1.cs = #[.int .u64 N, .int .u64 Hh, .int .u64 Pp] := by rw [hl1]; rfl
  have l1n : l1.n = N := by rw [hl1]
  clear hok hN hH hP hM hM1 hD ht hl1 hMl hDl hhK hpK
  go_enter Try.func6, Try.ntmps6
  go_wp2_with fail
  refine (lwakes_any _).mono ?_
  rintro e u0 ⟨rfl, hu0⟩
  have HB := bel_tr H0.out hu0
  have b0 := X0.out u0 hu0
  obtain ⟨c0, c1, c2⟩ := ls_cell b0
  obtain ⟨f0, f1, f2⟩ := ls_free b0
  have hlt := b0.lt
  obtain ⟨u1, hu1⟩ : ∃ u, u0.setCell ⟨w.heap.size, 0, none⟩ (.int .u64 N) = u := ⟨_, rfl⟩
  have b1 : Blk u1 w.heap.size 24 #[.int .u64 N, .int .u64 l.h, .int .u64 l.p] := by rw [← hu1]; exact b0.set 0 _
  obtain ⟨u2, hu2⟩ : ∃ u, u1.setCell ⟨w.heap.size, 1, none⟩ (.int .u64 Hh) = u := ⟨_, rfl⟩
  have b2 : Blk u2 w.heap.size 24 #[.int .u64 N, .int .u64 Hh, .int .u64 l.p] := by rw [← hu2]; exact b1.set 1 _
  obtain ⟨u3, hu3⟩ : ∃ u, u2.setCell ⟨w.heap.size, 2, none⟩ (.int .u64 Pp) = u := ⟨_, rfl⟩
  have b3 : Blk u3 w.heap.size 24 l1.cs := by rw [← hu3, l1cs]; exact b2.set 2 _
  have k3 : Kept [w.heap.size] u0 u3 := by rw [← hu3, ← hu2, ← hu1]; exact Kept.setCell (p := ⟨w.heap.size, 2, none⟩) (Kept.setCell (p := ⟨w.heap.size, 1, none⟩) (Kept.setCell (p := ⟨w.heap.size, 0, none⟩) (Kept.refl [w.heap.size] u0) (.inl (by simp)) _) (.inl (by simp)) _) (.inl (by simp)) _
  have hb3 : Below w.heap.size w u3 := HB.trans (k3.below (by simp) HB.size)
  have e0 : u1.cell? ⟨w.heap.size, 0, none⟩ = some (.int .u64 N) := b1.cell 0
  have e1 : u1.cell? ⟨w.heap.size, 1, none⟩ = some (.int .u64 l.h) := b1.cell 1
  have e2 : u1.cell? ⟨w.heap.size, 2, none⟩ = some (.int .u64 l.p) := b1.cell 2
  have e3 : u2.cell? ⟨w.heap.size, 2, none⟩ = some (.int .u64 l.p) := b2.cell 2
  have g1 : u1.frozen? ⟨w.heap.size, 1, none⟩ = false := b1.free 1
  have g2 : u2.frozen? ⟨w.heap.size, 2, none⟩ = false := b2.free 2
  have lt1 := b1.lt
  have lt2 := b2.lt
  have H3 := Lib.hid (And.intro b3 hb3)
  clear HB b0 b1 b2 b3 k3 hb3 l1cs
  go_wp2_with fail
  have q0 : u3.cell? ⟨w.heap.size, 0, none⟩ = some (.int .u64 N) := by have := (ls_cell H3.out.1).1; rwa [l1n] at this
  refine wp_region_lin (fun w' => w' = u3.drew) (by kernel_rfl) (by kernel_rfl) rfl ?_
  (repeat (refine lin_op (v := ?_) (by rfl) (fun w9 hS9 => ?_) ?_; rotate_left; (focus ((subst hS9; go_simp) <;> with_reducible rfl)); (try simp only [Act.put, List.getElem_toArray, List.getElem_cons_zero, List.getElem_cons_succ, List.setIfInBounds_toArray, List.set_cons_zero, List.set_cons_succ])))
  refine lin_nil (fun w8 hS8 => ?_)
  obtain ⟨u4, hu4⟩ : ∃ u, u3.drew = u := ⟨_, rfl⟩
  rw [hu4] at hS8
  subst hS8
  have b4 : Blk w8 w.heap.size 24 l1.cs := by rw [← hu4]; exact H3.out.1
  have hb4 : Below w.heap.size w w8 := by rw [← hu4]; have h := H3.out.2; exact ⟨h.os, h.tape, h.output, h.size, h.block⟩
  have H4 := Lib.hid hb4
  have X4 := Lib.hid (show ∀ W, Below w8.heap.size w8 W → Blk W w.heap.size 24 l1.cs from fun W h => Kept.blk (Kept.of_below [] h) b4 (by simp))
  have lx := ld_ls b4
  clear hu4 hu1 hu2 hu3 e0 e1 e2 e3 g1 g2 c0 c1 c2 f0 f1 f2 q0 b4 hb4 lt1 lt2 hlt
  go_wp2_with fail
  refine (hgd _).mono ?_
  rintro e w1 ⟨rfl, hb1⟩
  have st1 := lst_new (hK 0) w1
  obtain ⟨v1, hv1⟩ : ∃ v, w1.alloc (.cells (hK 0).cs 24) = v := ⟨_, rfl⟩
  rw [hv1] at st1
  have hc1 : Below w8.heap.size w8 v1 := by rw [← hv1]; exact bel_al hb1 _
  have s1 : w8.heap.size ≤ w1.heap.size := hb1.size
  have B1 : Blk v1 w1.heap.size 24 (hK 0).cs := by rw [← hv1]; exact Blk.new w1 _ _
  have lx := ld_ls (X4.out v1 hc1)
  have HC1 := Lib.hid hc1
  have HB1 := Lib.hid B1
  clear hb1 hc1 B1
  go_wp2_with fail
  refine (hgr _).mono ?_
  rintro e w2 ⟨rfl, hb2⟩
  have st2 := lst_new (pK 0) w2
  obtain ⟨v2, hv2⟩ : ∃ v, w2.alloc (.cells (pK 0).cs 24) = v := ⟨_, rfl⟩
  rw [hv2] at st2
  have hc2 : Below v1.heap.size v1 v2 := by rw [← hv2]; exact bel_al hb2 _
  have s2 : w1.heap.size < w2.heap.size := Nat.lt_of_lt_of_le HB1.out.lt hb2.size
  have B2 : Blk v2 w2.heap.size 24 (pK 0).cs := by rw [← hv2]; exact Blk.new w2 _ _
  have B1 : Blk v2 w1.heap.size 24 (hK 0).cs := Kept.blk (Kept.of_below [] hc2) HB1.out (by simp)
  have B0 := X4.out v2 (bel_tr HC1.out hc2)
  have hz : w.heap.size < w8.heap.size := (X4.out w8 (Below.refl _ _)).lt
  have HS := Lib.hid (show w.heap.size < w8.heap.size ∧ w8.heap.size ≤ w1.heap.size ∧ w1.heap.size < w2.heap.size from ⟨hz, s1, s2⟩)
  have HZ := Lib.hid (show Blk v2 w.heap.size 24 l1.cs ∧ Blk v2 w1.heap.size 24 (hK 0).cs ∧ Blk v2 w2.heap.size 24 (pK 0).cs ∧ Below w.heap.size w v2 from ⟨B0, B1, B2, bel_tr H4.out (bel_tr HC1.out hc2)⟩)
  clear hb2 hc2 B2 B1 B0 hz s1 s2
  go_wp2_with fail
  go_loopw [6, 9] (fun _ i wr => ∃ k : Nat, k ≤ 20 ∧ i = .int .u64 k ∧ Blk wr w.heap.size 24 l1.cs ∧ Blk wr w1.heap.size 24 (hK k).cs ∧ Blk wr w2.heap.size 24 (pK k).cs ∧ Below w.heap.size w wr) (fun _ i _ => 20 - (intOf i).toNat)
  case atStart => exact ⟨0, by omega, rfl, HZ.out⟩
  case round =>
    obtain ⟨k, hk, rfl, R0, R1, R2, hR⟩ := hrel
    by_cases hlt : k < 20
    · have d0 : ltU (k : Int) 20 = true := by rw [show (20 : Int) = ((20 : Nat) : Int) from rfl, ltU_nat]; simpa using hlt
      have r9 : adU (N : Int) (k : Int) = ((N + k : Nat) : Int) := adU_nat (by omega)
      have r10 : adU (t : Int) 8 = ((t + 8 : Nat) : Int) := adU_nat (b := 8) (by omega)
      have r11 := ltU_nat (N + k) (t + 8)
      have r12 : geU (k : Int) 12 = decide (12 ≤ k) := geU_nat k 12
      have r13 : adU (k : Int) 1 = ((k + 1 : Nat) : Int) := adU_nat (b := 1) (by omega)
      have hh := hhh k hlt
      have hf := hff k hlt
      have th := hth k hlt
      have tp := htp k hlt
      generalize decide (N + k < t + 8) = x at *
      generalize decide (12 ≤ k) = y at *
      generalize ((N + k : Nat) : Int) = z1 at *
      generalize ((t + 8 : Nat) : Int) = z2 at *
      clear hhh hff hth htp
      have C0 : ∀ W, Below wr.heap.size wr W → Blk W w.heap.size 24 l1.cs := fun W h => Kept.blk (Kept.of_below [] h) R0 (by simp)
      have C1 : ∀ W, Below wr.heap.size wr W → Blk W w1.heap.size 24 (hK k).cs := fun W h => Kept.blk (Kept.of_below [] h) R1 (by simp)
      have C2 : ∀ W, Below wr.heap.size wr W → Blk W w2.heap.size 24 (pK k).cs := fun W h => Kept.blk (Kept.of_below [] h) R2 (by simp)
      clear R0 R1 R2
      have HCC := Lib.hid (And.intro C0 (And.intro C1 C2))
      have HR := Lib.hid hR
      clear hR
      go_wp2_with fail
      cases x <;> cases y <;>
      · refine wp_region_linY (fun w' => Below wr.heap.size wr w') [1, 12] [0, 2, 3, 4, 5, 6, 7, 8, 1, 9, 10, 11, 13, 14, 12, 15, 16] (by kernel_rfl) (by kernel_rfl) ((Below.refl _ _).drew) ?_
        (repeat (refine linX_op (v := ?_) rfl rfl (by rfl) (fun w9 hS9 => ?_) ?_; rotate_left; (focus ((have B9 := HCC.out.1 w9 hS9; have k9 := ld_ls (HCC.out.2.1 w9 hS9); have k8 := ld_ls (HCC.out.2.2 w9 hS9); obtain ⟨c0, c1, c2⟩ := ls_cell B9; rw [l1n] at c0; (try dsimp only at hS9); go_simp) <;> with_reducible rfl)); (try simp only [Act.put, List.getElem_toArray, List.getElem_cons_zero, List.getElem_cons_succ, List.setIfInBounds_toArray, List.set_cons_zero, List.set_cons_succ])))
        refine linX_call (f := 10) (args := #[.agg (hK k).cs]) rfl rfl (by rfl) rfl rfl (enters_of Try.func10 (by kernel_rfl) rfl) ?_ ?_; (focus (simp [Act.eval]; done))
        refine (hh _).mono ?_
        rintro e w5 ⟨rfl, hb5⟩
        replace hb5 : Below wr.heap.size wr w5 := ⟨hb5.os, hb5.tape, hb5.output, hb5.size, hb5.block⟩
        refine ⟨_, rfl, hb5, ?_⟩
        (try simp only [Act.put, List.getElem_toArray, List.getElem_cons_zero, List.getElem_cons_succ, List.setIfInBounds_toArray, List.set_cons_zero, List.set_cons_succ])
        (repeat (refine linX_op (v := ?_) rfl rfl (by rfl) (fun w9 hS9 => ?_) ?_; rotate_left; (focus ((have B9 := HCC.out.1 w9 hS9; have k9 := ld_ls (HCC.out.2.1 w9 hS9); have k8 := ld_ls (HCC.out.2.2 w9 hS9); obtain ⟨c0, c1, c2⟩ := ls_cell B9; rw [l1n] at c0; (try dsimp only at hS9); go_simp) <;> with_reducible rfl)); (try simp only [Act.put, List.getElem_toArray, List.getElem_cons_zero, List.getElem_cons_succ, List.setIfInBounds_toArray, List.set_cons_zero, List.set_cons_succ])))
        refine linX_call (f := 11) (args := #[.agg (pK k).cs]) rfl rfl (by rfl) rfl rfl (enters_of Try.func11 (by kernel_rfl) rfl) ?_ ?_; (focus (simp [Act.eval]; done))
        refine (hf _).mono ?_
        rintro e w6 ⟨rfl, hb6⟩
        replace hb6 : Below wr.heap.size wr w6 := bel_tr hb5 hb6
        refine ⟨_, rfl, hb6, ?_⟩
        (try simp only [Act.put, List.getElem_toArray, List.getElem_cons_zero, List.getElem_cons_succ, List.setIfInBounds_toArray, List.set_cons_zero, List.set_cons_succ])
        (repeat (refine linX_op (v := ?_) rfl rfl (by rfl) (fun w9 hS9 => ?_) ?_; rotate_left; (focus ((have B9 := HCC.out.1 w9 hS9; have k9 := ld_ls (HCC.out.2.1 w9 hS9); have k8 := ld_ls (HCC.out.2.2 w9 hS9); obtain ⟨c0, c1, c2⟩ := ls_cell B9; rw [l1n] at c0; (try dsimp only at hS9); go_simp) <;> with_reducible rfl)); (try simp only [Act.put, List.getElem_toArray, List.getElem_cons_zero, List.getElem_cons_succ, List.setIfInBounds_toArray, List.set_cons_zero, List.set_cons_succ])))
        refine linX_nil ?_
        have F0 := HCC.out.1 w6 hb6
        have F1 := HCC.out.2.1 w6 hb6
        have F2 := HCC.out.2.2 w6 hb6
        have HF := bel_tr HR.out hb6
        have lx1 := ld_ls F1
        go_wp2_with fail
        refine (th _).mono ?_
        rintro e w7 ⟨rfl, hb7⟩
        replace F0 : Blk w7 _ _ _ := Kept.blk (Kept.of_below [] hb7) F0 (by simp)
        replace F1 : Blk w7 _ _ _ := Kept.blk (Kept.of_below [] hb7) F1 (by simp)
        replace F2 : Blk w7 _ _ _ := Kept.blk (Kept.of_below [] hb7) F2 (by simp)
        replace HF := bel_tr HF hb7
        have st1 := st_ls (m := hK (k + 1)) F1
        have k7 : Kept [w1.heap.size] w7 (w7.setRow w1.heap.size (hK (k + 1)).cs) := (Kept.refl [w1.heap.size] w7).setRow (.inl (by simp)) _
        replace F1 := F1.row (hK (k + 1)).cs
        replace F0 := F0.kept k7 (by have := HS.out; simp; omega)
        replace F2 := F2.kept k7 (by have := HS.out; simp; omega)
        replace HF := HF.trans (k7.below (by have := HS.out; simp; omega) HF.size)
        generalize w7.setRow w1.heap.size (hK (k + 1)).cs = wa at *
        have lx2 := ld_ls F2
        have HQ := Lib.hid (And.intro F0 (And.intro F1 (And.intro F2 HF)))
        clear F0 F1 F2 HF k7 lx1
        go_wp2_with fail
        refine (tp _).mono ?_
        rintro e wb ⟨rfl, hbb⟩
        obtain ⟨F0, F1, F2, HF⟩ := HQ.out
        replace F0 : Blk wb _ _ _ := Kept.blk (Kept.of_below [] hbb) F0 (by simp)
        replace F1 : Blk wb _ _ _ := Kept.blk (Kept.of_below [] hbb) F1 (by simp)
        replace F2 : Blk wb _ _ _ := Kept.blk (Kept.of_below [] hbb) F2 (by simp)
        replace HF := bel_tr HF hbb
        have st2 := st_ls (m := pK (k + 1)) F2
        have k7 : Kept [w2.heap.size] wb (wb.setRow w2.heap.size (pK (k + 1)).cs) := (Kept.refl [w2.heap.size] wb).setRow (.inl (by simp)) _
        replace F2 := F2.row (pK (k + 1)).cs
        replace F0 := F0.kept k7 (by have := HS.out; simp; omega)
        replace F1 := F1.kept k7 (by have := HS.out; simp; omega)
        replace HF := HF.trans (k7.below (by have := HS.out; simp; omega) HF.size)
        generalize wb.setRow w2.heap.size (pK (k + 1)).cs = wc at *
        have HQ := Lib.hid (And.intro F0 (And.intro F1 (And.intro F2 HF)))
        clear F0 F1 F2 HF k7
        go_wp2
        go_roundw
        case rel => exact ⟨k + 1, by omega, by rfl, HQ.out⟩
        case measure => simp [intOf]; omega
    · obtain rfl : k = 20 := by omega
      have d0 : ltU ((20 : Nat) : Int) 20 = false := by decide
      go_wp2
      go_ret
      exact ⟨rfl, hR⟩
end Go.Proofs.Ytgmagnmbbhekjaa
namespace Go.Proofs.Ytgmagnmbbhekjaa
open Go.RowKit Go.ChangeShapes Go.WideShapes
set_option linter.unusedVariables false
theorem c_u64 : Try.prog.cellsOf 22 = 1 := by kernel_rfl
theorem c_ls : Try.prog.cellsOf 24 = 3 := by kernel_rfl
theorem u64_of {a : Int} (h : (Lit.int .u64 a).wf = true) : ∃ s : Nat, a = (s : Int) ∧ s < 18446744073709551616 := by
  have h0 := bounds_u64 h
  exact ⟨a.toNat, by omega, by omega⟩
theorem ls_cells {H : Type} {enc : TypeId × Value → H} {W : World} {sp : Nat → Bool} {held : Bool} {fuel : Nat} {cs : List Value} {y : DataW H × List MemPlace} (h : DataW.trod enc Try.prog W 0 sp held fuel 24 cs = some y) : ∃ n : Ls, cs = n.cs.toList := by
  obtain ⟨xs, m, _, _, hlen, hxs, hg⟩ := DataW.trod_struct Try.underlying24 h
  rw [c_ls] at hlen
  obtain ⟨y0, y1, y2, rfl⟩ : ∃ y0 y1 y2, xs = [y0, y1, y2] := by
    match xs, hxs with
    | [a, b, c], _ => exact ⟨a, b, c, rfl⟩
  have t0 : DataW.trod enc Try.prog W 0 sp held m 22 (List.take (Try.prog.cellsOf 22) (List.drop 0 cs)) = some y0 := hg 0 _ rfl
  have t1 : DataW.trod enc Try.prog W 0 sp held m 22 (List.take (Try.prog.cellsOf 22) (List.drop 1 cs)) = some y1 := hg 1 _ rfl
  have t2 : DataW.trod enc Try.prog W 0 sp held m 22 (List.take (Try.prog.cellsOf 22) (List.drop 2 cs)) = some y2 := hg 2 _ rfl
  rw [c_u64] at t0 t1 t2
  obtain ⟨u0, e0, _, f0⟩ := DataW.trod_int Try.underlying22 t0
  obtain ⟨u1, e1, _, f1⟩ := DataW.trod_int Try.underlying22 t1
  obtain ⟨u2, e2, _, f2⟩ := DataW.trod_int Try.underlying22 t2
  obtain ⟨n0, rfl, g0⟩ := u64_of f0
  obtain ⟨n1, rfl, g1⟩ := u64_of f1
  obtain ⟨n2, rfl, g2⟩ := u64_of f2
  refine ⟨⟨n0, n1, n2⟩, ?_⟩
  match cs, hlen with
  | [a, b, c], _ =>
    simp at e0 e1 e2
    simp [Ls.cs, e0, e1, e2]
theorem ls_of {H : Type} {enc : TypeId × Value → H} {W : World} {sp : Nat → Bool} {base : Nat} {held : Bool} {v : Value} {d : DataW H} {p : List MemPlace} (hv : Value.okWide Try.prog W .any base 24 v) (h : DataW.Trod enc Try.prog W 0 sp held 24 v d p) : ∃ n : Ls, v = .agg n.cs := by
  obtain ⟨cs, rfl, hsz⟩ := okWide_struct Try.underlying24 hv
  obtain ⟨fuel, hf⟩ := h
  obtain ⟨a, ha⟩ := ls_cells (show DataW.trod enc Try.prog W 0 sp held fuel 24 cs.toList = some _ from hf)
  exact ⟨a, congrArg Value.agg (Array.toList_inj.1 ha)⟩
theorem un_of {H : Type} {enc : TypeId × Value → H} {W : World} {sp : Nat → Bool} {base : Nat} {held : Bool} {v : Value} {d : DataW H} {p : List MemPlace} (hv : Value.okWide Try.prog W .any base 22 v) (h : DataW.Trod enc Try.prog W 0 sp held 22 v d p) : ∃ n : Nat, v = .int .u64 (n : Int) ∧ n < 18446744073709551616 := by
  obtain ⟨a0, rfl, rfl, rfl, w0⟩ := open_int Try.underlying22 hv h
  obtain ⟨n, rfl, hn⟩ := u64_of w0
  exact ⟨n, rfl, hn⟩
end Go.Proofs.Ytgmagnmbbhekjaa
