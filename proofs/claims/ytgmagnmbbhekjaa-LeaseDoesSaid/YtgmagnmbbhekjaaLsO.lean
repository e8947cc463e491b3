/-
  A lease that is data. Nothing here is a statement of the document.
-/
import Derived.Test.YtgmagnmbbhekjaaLsE
import Derived.Test.YtgmagnmbbhekjaaLin
import Derived.WalkKit
import Derived.ProofKit
import Derived.OpenShut
import Derived.DataShut
import Derived.Deep.SlicePairs
namespace Go.Proofs.Ytgmagnmbbhekjaa
open Go.RowKit
set_option linter.unusedVariables false
attribute [local go_sem 10000] gtU_rule leU_rule ltU_rule geU_rule adU_rule sbU_rule mxU_rule
attribute [local go_sem ↓] load_ls_rule store_ls_rule

/-- A new box with something stored. -/
theorem lst_new (m : Ls) (W : World) : (storeSem 24 (.pointer (some ⟨W.heap.size, 0, none⟩)) (.agg m.cs)).run Try.prog (W.alloc (.cells #[.int .u64 0, .int .u64 0, .int .u64 0] 24)) = .ok () (W.alloc (.cells m.cs 24)) := by
  have h := st_ls (n := Ls.zero) (m := m) (Blk.new W 24 Ls.zero.cs)
  have e : (W.alloc (.cells Ls.zero.cs 24)).setRow W.heap.size m.cs = W.alloc (.cells m.cs 24) := by
    exact World.setRow_alloc_new _ _ _ _
  rw [e] at h
  exact h

set_option maxRecDepth 100000 in
set_option maxHeartbeats 4000000 in
theorem lwakes_any (w : World) : Calls Try.prog 7 #[] w fun e w' => e = .returned (.bool true) ∧ Below w.heap.size w w' := by
  obtain ⟨L1, hL1⟩ : ∃ L : Ls, L = ⟨0, 8, 0⟩ := ⟨_, rfl⟩
  obtain ⟨L2, hL2⟩ : ∃ L : Ls, L = ⟨0, 8, 12⟩ := ⟨_, rfl⟩
  obtain ⟨L3, hL3⟩ : ∃ L : Ls, L = ⟨1, 8, 12⟩ := ⟨_, rfl⟩
  have h1 : ∀ w, Calls Try.prog 16 #[.agg #[.int .u64 0, .int .u64 0, .int .u64 0], .int .u64 0] w fun e w' => e = .returned (.tuple #[.agg L1.cs, .int .i64 0]) ∧ Below w.heap.size w w' := fun w => by
    have := lgranted_any Ls.zero 0 w
    rw [show grantedR Ls.zero 0 = (L1, 0) by rw [hL1]; rfl] at this
    exact this
  have h2 : ∀ w, Calls Try.prog 14 #[.agg L1.cs] w fun e w' => e = .returned (.tuple #[.agg L2.cs, .int .i64 0]) ∧ Below w.heap.size w w' := fun w => by
    have := lgrant_any L1 w
    rw [show grantR L1 = (L2, 0) by rw [hL1, hL2]; rfl] at this
    exact this
  have h3 : ∀ w, Calls Try.prog 12 #[.agg L2.cs] w fun e w' => e = .returned (.tuple #[.agg L3.cs, .int .i64 0]) ∧ Below w.heap.size w w' := fun w => by
    have := ltick_any L2 w
    rw [show tickR L2 = (L3, 0) by rw [hL2, hL3]; rfl] at this
    exact this
  have h4 : ∀ w, Calls Try.prog 10 #[.agg L1.cs] w fun e w' => e = .returned (.bool true) ∧ Below w.heap.size w w' := fun w => by
    have := lholds_any L1 w
    rwa [show L1.holds = true by rw [hL1]; rfl] at this
  have h5 : ∀ w, Calls Try.prog 11 #[.agg L1.cs] w fun e w' => e = .returned (.bool true) ∧ Below w.heap.size w w' := fun w => by
    have := lfree_any L1 w
    rwa [show L1.free = true by rw [hL1]; rfl] at this
  have h6 : ∀ w, Calls Try.prog 11 #[.agg L2.cs] w fun e w' => e = .returned (.bool false) ∧ Below w.heap.size w w' := fun w => by
    have := lfree_any L2 w
    rwa [show L2.free = false by rw [hL2]; rfl] at this
  have n3 : L3.n = 1 := by rw [hL3]
  have H0 := Lib.hid (Below.refl w.heap.size w)
  clear hL1 hL2 hL3
  go_enter Try.func7, Try.ntmps7
  go_wp2_with fail
  refine (h1 _).mono ?_
  rintro e w1 ⟨rfl, hb1⟩
  have st1 := lst_new L1 w1
  obtain ⟨v1, hv1⟩ : ∃ v, w1.alloc (.cells (L1).cs 24) = v := ⟨_, rfl⟩
  rw [hv1] at st1
  have B1 : Blk v1 w1.heap.size 24 (L1).cs := by rw [← hv1]; exact Blk.new w1 _ _
  have C1 := Lib.hid (show ∀ W, Below v1.heap.size v1 W → Blk W w1.heap.size 24 (L1).cs from fun W h => Kept.blk (Kept.of_below [] h) B1 (by simp))
  have hb1' : Below w.heap.size w v1 := by rw [← hv1]; exact bel_al hb1 _
  have H1 := Lib.hid hb1'
  have lx := ld_ls B1
  clear hb1 hb1' B1
  go_wp2_with fail
  refine (h2 _).mono ?_
  rintro e w2 ⟨rfl, hb2⟩
  have hv2b := hb2
  have B1 := C1.out w2 hb2
  replace hb2 := bel_tr H1.out hb2
  have st2 := lst_new L2 w2
  obtain ⟨v2, hv2⟩ : ∃ v, w2.alloc (.cells (L2).cs 24) = v := ⟨_, rfl⟩
  rw [hv2] at st2
  have B2 : Blk v2 w2.heap.size 24 (L2).cs := by rw [← hv2]; exact Blk.new w2 _ _
  have C2 := Lib.hid (show ∀ W, Below v2.heap.size v2 W → Blk W w2.heap.size 24 (L2).cs from fun W h => Kept.blk (Kept.of_below [] h) B2 (by simp))
  have hb2' : Below w.heap.size w v2 := by rw [← hv2]; exact bel_al hb2 _
  have H2 := Lib.hid hb2'
  have hv2v : Below v1.heap.size v1 v2 := by rw [← hv2]; exact bel_al hv2b _
  have lx := ld_ls B2
  have D1 := Lib.hid (show ∀ W, Below v2.heap.size v2 W → Blk W w1.heap.size 24 L1.cs from fun W h => C1.out W (bel_tr hv2v h))
  clear hb2 hb2' B2 hv2b B1 hv2v
  go_wp2_with fail
  refine (h3 _).mono ?_
  rintro e w3 ⟨rfl, hb3⟩
  have hv3b := hb3
  replace hb3 := bel_tr H2.out hb3
  have st3 := lst_new L3 w3
  obtain ⟨v3, hv3⟩ : ∃ v, w3.alloc (.cells (L3).cs 24) = v := ⟨_, rfl⟩
  rw [hv3] at st3
  have B3 : Blk v3 w3.heap.size 24 (L3).cs := by rw [← hv3]; exact Blk.new w3 _ _
  have C3 := Lib.hid (show ∀ W, Below v3.heap.size v3 W → Blk W w3.heap.size 24 (L3).cs from fun W h => Kept.blk (Kept.of_below [] h) B3 (by simp))
  have hb3' : Below w.heap.size w v3 := by rw [← hv3]; exact bel_al hb3 _
  have H3 := Lib.hid hb3'
  have hv3v : Below v2.heap.size v2 v3 := by rw [← hv3]; exact bel_al hv3b _
  have E1 := Lib.hid (show ∀ W, Below v3.heap.size v3 W → Blk W w1.heap.size 24 L1.cs from fun W h => D1.out W (bel_tr hv3v h))
  have E2 := Lib.hid (show ∀ W, Below v3.heap.size v3 W → Blk W w2.heap.size 24 L2.cs from fun W h => C2.out W (bel_tr hv3v h))
  have lx := ld_ls (E1.out v3 (Below.refl _ _))
  clear hb3 hb3' B3 hv3b hv3v
  go_wp2_with fail
  refine (h4 _).mono ?_
  rintro e w4 ⟨rfl, hb4⟩
  have lx4 := ld_ls (E1.out w4 hb4)
  go_wp2_with fail
  refine (h5 _).mono ?_
  rintro e w5 ⟨rfl, hb5⟩
  have hb5 := bel_tr hb4 hb5
  have lx5 := ld_ls (E2.out w5 hb5)
  go_wp2_with fail
  refine (h6 _).mono ?_
  rintro e w6 ⟨rfl, hb6⟩
  have hb6 := bel_tr hb5 hb6
  obtain ⟨c0, c1, c2⟩ := ls_cell (C3.out w6 hb6)
  rw [n3] at c0
  go_wp2
  go_ret
  exact ⟨rfl, bel_tr H3.out hb6⟩

set_option maxRecDepth 100000 in
set_option maxHeartbeats 4000000 in
theorem leasetells_walk (l : Ls) (w : World) : Calls Try.prog 3 #[.agg l.cs] w fun e w' => e = .returned (.bool true) ∧ Below w.heap.size w w' := by
  obtain ⟨W1, hW1⟩ : ∃ W1, w.alloc (.cells l.cs 24) = W1 := ⟨_, rfl⟩
  have H1 := Lib.hid (show Below w.heap.size w W1 by rw [← hW1]; exact below_alloc w _)
  have b1 : Blk W1 w.heap.size 24 l.cs := by rw [← hW1]; exact Blk.new w _ _
  have C1 := Lib.hid (show ∀ W, Below W1.heap.size W1 W → Blk W w.heap.size 24 l.cs from fun W h => Kept.blk (Kept.of_below [] h) b1 (by simp))
  clear b1
  have hc := fun w => lcheck_any l w
  have hr := fun w => lright_any l w
  have hh := fun w => lholds_any l w
  have hf := fun w => lfree_any l w
  have d1 := ltU_nat l.n l.h
  have d2 := geU_nat l.n l.p
  simp only [show l.e = if l.ok then 0 else 230 from rfl, show l.holds = (l.ok && decide (l.n < l.h)) from rfl, show l.free = (l.ok && decide (l.p ≤ l.n)) from rfl] at hc hh hf
  generalize decide (l.n < l.h) = x at *
  generalize decide (l.p ≤ l.n) = y at *
  generalize l.ok = k at *
  cases k
  · simp only [Bool.false_and, Bool.true_and, Bool.false_eq_true, ↓reduceIte] at hc hh hf
    go_enter Try.func3, Try.ntmps3
    go_wp2_with fail
    refine (lwakes_any _).mono ?_
    rintro e w2 ⟨rfl, hb2⟩
    have lx2 := ld_ls (C1.out w2 hb2)
    go_wp2_with fail
    refine (hc _).mono ?_
    rintro e w3 ⟨rfl, hb3⟩
    replace hb3 := bel_tr hb2 hb3
    have lx3 := ld_ls (C1.out w3 hb3)
    go_wp2_with fail
    refine (hr _).mono ?_
    rintro e w4 ⟨rfl, hb4⟩
    replace hb4 := bel_tr hb3 hb4
    have lx4 := ld_ls (C1.out w4 hb4)
    go_wp2_with fail
    refine (hh _).mono ?_
    rintro e w5 ⟨rfl, hb5⟩
    replace hb5 := bel_tr hb4 hb5
    have lx5 := ld_ls (C1.out w5 hb5)
    go_wp2_with fail
    refine (hf _).mono ?_
    rintro e w6 ⟨rfl, hb6⟩
    replace hb6 := bel_tr hb5 hb6
    go_wp2
    go_ret
    exact ⟨rfl, bel_tr H1.out hb6⟩
  · simp only [Bool.false_and, Bool.true_and, Bool.false_eq_true, ↓reduceIte] at hc hh hf
    cases x <;> cases y <;>
    · go_enter Try.func3, Try.ntmps3
      go_wp2_with fail
      refine (lwakes_any _).mono ?_
      rintro e w2 ⟨rfl, hb2⟩
      have lx2 := ld_ls (C1.out w2 hb2)
      go_wp2_with fail
      refine (hc _).mono ?_
      rintro e w3 ⟨rfl, hb3⟩
      replace hb3 := bel_tr hb2 hb3
      have lx3 := ld_ls (C1.out w3 hb3)
      go_wp2_with fail
      refine (hr _).mono ?_
      rintro e w4 ⟨rfl, hb4⟩
      replace hb4 := bel_tr hb3 hb4
      have C4 : ∀ W, Below w4.heap.size w4 W → Blk W w.heap.size 24 l.cs := fun W h => C1.out W (bel_tr hb4 h)
      go_wp2
      refine wp_region_linY (fun w' => Below w4.heap.size w4 w') [4, 14] [0, 1, 2, 3, 5, 6, 7, 8, 9, 4, 10, 11, 12, 13, 15, 16, 17, 18, 19, 14, 20, 21, 22] (by kernel_rfl) (by kernel_rfl) ((Below.refl _ _).drew) ?_
      (repeat (refine linX_op (v := ?_) rfl rfl (by rfl) (fun w9 hS9 => ?_) ?_; rotate_left; (focus ((have B9 := C4 w9 hS9; have k9 := ld_ls B9; obtain ⟨c0, c1, c2⟩ := ls_cell B9; (try dsimp only at hS9); go_simp) <;> with_reducible rfl)); (try simp only [Act.put, List.getElem_toArray, List.getElem_cons_zero, List.getElem_cons_succ, List.setIfInBounds_toArray, List.set_cons_zero, List.set_cons_succ])))
      refine linX_call (f := 10) (args := #[.agg l.cs]) rfl rfl (by rfl) rfl rfl (enters_of Try.func10 (by kernel_rfl) rfl) ?_ ?_; (focus (simp [Act.eval]; done))
      refine (hh _).mono ?_
      rintro e w5 ⟨rfl, hb5⟩
      replace hb5 : Below w4.heap.size w4 w5 := ⟨hb5.os, hb5.tape, hb5.output, hb5.size, hb5.block⟩
      refine ⟨_, rfl, hb5, ?_⟩
      (try simp only [Act.put, List.getElem_toArray, List.getElem_cons_zero, List.getElem_cons_succ, List.setIfInBounds_toArray, List.set_cons_zero, List.set_cons_succ])
      (repeat (refine linX_op (v := ?_) rfl rfl (by rfl) (fun w9 hS9 => ?_) ?_; rotate_left; (focus ((have B9 := C4 w9 hS9; have k9 := ld_ls B9; obtain ⟨c0, c1, c2⟩ := ls_cell B9; (try dsimp only at hS9); go_simp) <;> with_reducible rfl)); (try simp only [Act.put, List.getElem_toArray, List.getElem_cons_zero, List.getElem_cons_succ, List.setIfInBounds_toArray, List.set_cons_zero, List.set_cons_succ])))
      refine linX_call (f := 11) (args := #[.agg l.cs]) rfl rfl (by rfl) rfl rfl (enters_of Try.func11 (by kernel_rfl) rfl) ?_ ?_; (focus (simp [Act.eval]; done))
      refine (hf _).mono ?_
      rintro e w6 ⟨rfl, hb6⟩
      replace hb6 : Below w4.heap.size w4 w6 := bel_tr hb5 hb6
      refine ⟨_, rfl, hb6, ?_⟩
      (try simp only [Act.put, List.getElem_toArray, List.getElem_cons_zero, List.getElem_cons_succ, List.setIfInBounds_toArray, List.set_cons_zero, List.set_cons_succ])
      (repeat (refine linX_op (v := ?_) rfl rfl (by rfl) (fun w9 hS9 => ?_) ?_; rotate_left; (focus ((have B9 := C4 w9 hS9; have k9 := ld_ls B9; obtain ⟨c0, c1, c2⟩ := ls_cell B9; (try dsimp only at hS9); go_simp) <;> with_reducible rfl)); (try simp only [Act.put, List.getElem_toArray, List.getElem_cons_zero, List.getElem_cons_succ, List.setIfInBounds_toArray, List.set_cons_zero, List.set_cons_succ])))
      refine linX_nil ?_
      go_wp2
      go_ret
      exact ⟨rfl, bel_tr H1.out (bel_tr hb4 hb6)⟩

end Go.Proofs.Ytgmagnmbbhekjaa
namespace Go.Proofs.Ytgmagnmbbhekjaa
open Go.RowKit
set_option linter.unusedVariables false
def eqLs (a b : Value) : Sem Bool := Op.equalIn 10000 24 a b
theorem eq_ls_rule (a b : Value) : Op.equalIn 10000 24 a b = eqLs a b := rfl
theorem eq_ls_self (n : Ls) (w : World) : (eqLs (.agg n.cs) (.agg n.cs)).run Try.prog w = .ok true w := by
  unfold eqLs Ls.cs
  go_simp
attribute [local go_sem 10000] gtU_rule leU_rule ltU_rule geU_rule adU_rule sbU_rule mxU_rule
attribute [local go_sem ↓] load_ls_rule store_ls_rule eq_ls_rule

set_option maxRecDepth 100000 in
set_option maxHeartbeats 4000000 in
theorem leasedoes_walk (l : Ls) (s : Nat) (hs : s < 18446744073709551616) (w : World) : Calls Try.prog 4 #[.agg l.cs, .int .u64 s] w fun e w' => e = .returned (.bool true) ∧ Below w.heap.size w w' := by
  obtain ⟨v0, hv0⟩ : ∃ W1, w.alloc (.cells l.cs 24) = W1 := ⟨_, rfl⟩
  have H0 := Lib.hid (show Below w.heap.size w v0 by rw [← hv0]; exact below_alloc w _)
  have b0 : Blk v0 w.heap.size 24 l.cs := by rw [← hv0]; exact Blk.new w _ _
  have X0 := Lib.hid (show ∀ W, Below v0.heap.size v0 W → Blk W w.heap.size 24 l.cs from fun W h => Kept.blk (Kept.of_below [] h) b0 (by simp))
  clear b0 hs
  have ht := fun w => ltick_any l w
  have hu := fun w => rtick_any l w
  have hg := fun w => lgrant_any l w
  have hh := fun w => rgrant_any l w
  have hd := fun w => lgranted_any l s w
  have hq := fun w => rgranted_any l s w
  generalize tickR l = rt at *
  generalize grantR l = rg at *
  generalize grantedR l s = rd at *
  obtain ⟨mt, qt⟩ := rt
  obtain ⟨mg, qg⟩ := rg
  obtain ⟨md, qd⟩ := rd
  go_enter Try.func4, Try.ntmps4
  go_wp2_with fail
  refine (lwakes_any _).mono ?_
  rintro e u0 ⟨rfl, hu0⟩
  have U0 := Lib.hid (bel_tr H0.out hu0)
  have Y := X0.out u0 hu0
  have Z0 := Lib.hid (show ∀ W, Below u0.heap.size u0 W → Blk W w.heap.size 24 l.cs from fun W h => X0.out W (bel_tr hu0 h))
  have lx := ld_ls Y
  clear hu0 Y
  go_wp2_with fail
  refine (ht _).mono ?_
  rintro e w1 ⟨rfl, hb1⟩
  have st1 := lst_new mt w1
  obtain ⟨u1, hv1⟩ : ∃ v, w1.alloc (.cells (mt).cs 24) = v := ⟨_, rfl⟩
  rw [hv1] at st1
  have hc1 : Below u0.heap.size u0 u1 := by rw [← hv1]; exact bel_al hb1 _
  have B1 : Blk u1 w1.heap.size 24 (mt).cs := by rw [← hv1]; exact Blk.new w1 _ _
  have U1 := Lib.hid (bel_tr U0.out hc1)
  have Z1 := Lib.hid (show ∀ W, Below u1.heap.size u1 W → Blk W w.heap.size 24 l.cs from fun W h => Z0.out W (bel_tr hc1 h))
  have F1_1 := B1
  have lx := ld_ls (Z1.out u1 (Below.refl _ _))
  clear hb1 hc1 B1
  go_wp2_with fail
  refine (hu _).mono ?_
  rintro e w2 ⟨rfl, hb2⟩
  have st2 := lst_new mt w2
  obtain ⟨u2, hv2⟩ : ∃ v, w2.alloc (.cells (mt).cs 24) = v := ⟨_, rfl⟩
  rw [hv2] at st2
  have hc2 : Below u1.heap.size u1 u2 := by rw [← hv2]; exact bel_al hb2 _
  have B2 : Blk u2 w2.heap.size 24 (mt).cs := by rw [← hv2]; exact Blk.new w2 _ _
  have U2 := Lib.hid (bel_tr U1.out hc2)
  have Z2 := Lib.hid (show ∀ W, Below u2.heap.size u2 W → Blk W w.heap.size 24 l.cs from fun W h => Z1.out W (bel_tr hc2 h))
  have F1_2 : Blk u2 w1.heap.size 24 (mt).cs := Kept.blk (Kept.of_below [] hc2) F1_1 (by simp)
  clear F1_1
  have F2_2 := B2
  have lx := ld_ls (Z2.out u2 (Below.refl _ _))
  clear hb2 hc2 B2
  go_wp2_with fail
  refine (hg _).mono ?_
  rintro e w3 ⟨rfl, hb3⟩
  have st3 := lst_new mg w3
  obtain ⟨u3, hv3⟩ : ∃ v, w3.alloc (.cells (mg).cs 24) = v := ⟨_, rfl⟩
  rw [hv3] at st3
  have hc3 : Below u2.heap.size u2 u3 := by rw [← hv3]; exact bel_al hb3 _
  have B3 : Blk u3 w3.heap.size 24 (mg).cs := by rw [← hv3]; exact Blk.new w3 _ _
  have U3 := Lib.hid (bel_tr U2.out hc3)
  have Z3 := Lib.hid (show ∀ W, Below u3.heap.size u3 W → Blk W w.heap.size 24 l.cs from fun W h => Z2.out W (bel_tr hc3 h))
  have F1_3 : Blk u3 w1.heap.size 24 (mt).cs := Kept.blk (Kept.of_below [] hc3) F1_2 (by simp)
  clear F1_2
  have F2_3 : Blk u3 w2.heap.size 24 (mt).cs := Kept.blk (Kept.of_below [] hc3) F2_2 (by simp)
  clear F2_2
  have F3_3 := B3
  have lx := ld_ls (Z3.out u3 (Below.refl _ _))
  clear hb3 hc3 B3
  go_wp2_with fail
  refine (hh _).mono ?_
  rintro e w4 ⟨rfl, hb4⟩
  have st4 := lst_new mg w4
  obtain ⟨u4, hv4⟩ : ∃ v, w4.alloc (.cells (mg).cs 24) = v := ⟨_, rfl⟩
  rw [hv4] at st4
  have hc4 : Below u3.heap.size u3 u4 := by rw [← hv4]; exact bel_al hb4 _
  have B4 : Blk u4 w4.heap.size 24 (mg).cs := by rw [← hv4]; exact Blk.new w4 _ _
  have U4 := Lib.hid (bel_tr U3.out hc4)
  have Z4 := Lib.hid (show ∀ W, Below u4.heap.size u4 W → Blk W w.heap.size 24 l.cs from fun W h => Z3.out W (bel_tr hc4 h))
  have F1_4 : Blk u4 w1.heap.size 24 (mt).cs := Kept.blk (Kept.of_below [] hc4) F1_3 (by simp)
  clear F1_3
  have F2_4 : Blk u4 w2.heap.size 24 (mt).cs := Kept.blk (Kept.of_below [] hc4) F2_3 (by simp)
  clear F2_3
  have F3_4 : Blk u4 w3.heap.size 24 (mg).cs := Kept.blk (Kept.of_below [] hc4) F3_3 (by simp)
  clear F3_3
  have F4_4 := B4
  have lx := ld_ls (Z4.out u4 (Below.refl _ _))
  clear hb4 hc4 B4
  go_wp2_with fail
  refine (hd _).mono ?_
  rintro e w5 ⟨rfl, hb5⟩
  have st5 := lst_new md w5
  obtain ⟨u5, hv5⟩ : ∃ v, w5.alloc (.cells (md).cs 24) = v := ⟨_, rfl⟩
  rw [hv5] at st5
  have hc5 : Below u4.heap.size u4 u5 := by rw [← hv5]; exact bel_al hb5 _
  have B5 : Blk u5 w5.heap.size 24 (md).cs := by rw [← hv5]; exact Blk.new w5 _ _
  have U5 := Lib.hid (bel_tr U4.out hc5)
  have Z5 := Lib.hid (show ∀ W, Below u5.heap.size u5 W → Blk W w.heap.size 24 l.cs from fun W h => Z4.out W (bel_tr hc5 h))
  have F1_5 : Blk u5 w1.heap.size 24 (mt).cs := Kept.blk (Kept.of_below [] hc5) F1_4 (by simp)
  clear F1_4
  have F2_5 : Blk u5 w2.heap.size 24 (mt).cs := Kept.blk (Kept.of_below [] hc5) F2_4 (by simp)
  clear F2_4
  have F3_5 : Blk u5 w3.heap.size 24 (mg).cs := Kept.blk (Kept.of_below [] hc5) F3_4 (by simp)
  clear F3_4
  have F4_5 : Blk u5 w4.heap.size 24 (mg).cs := Kept.blk (Kept.of_below [] hc5) F4_4 (by simp)
  clear F4_4
  have F5_5 := B5
  have lx := ld_ls (Z5.out u5 (Below.refl _ _))
  clear hb5 hc5 B5
  go_wp2_with fail
  refine (hq _).mono ?_
  rintro e w6 ⟨rfl, hb6⟩
  have st6 := lst_new md w6
  obtain ⟨u6, hv6⟩ : ∃ v, w6.alloc (.cells (md).cs 24) = v := ⟨_, rfl⟩
  rw [hv6] at st6
  have hc6 : Below u5.heap.size u5 u6 := by rw [← hv6]; exact bel_al hb6 _
  have B6 : Blk u6 w6.heap.size 24 (md).cs := by rw [← hv6]; exact Blk.new w6 _ _
  have U6 := Lib.hid (bel_tr U5.out hc6)
  have Z6 := Lib.hid (show ∀ W, Below u6.heap.size u6 W → Blk W w.heap.size 24 l.cs from fun W h => Z5.out W (bel_tr hc6 h))
  have F1_6 : Blk u6 w1.heap.size 24 (mt).cs := Kept.blk (Kept.of_below [] hc6) F1_5 (by simp)
  clear F1_5
  have F2_6 : Blk u6 w2.heap.size 24 (mt).cs := Kept.blk (Kept.of_below [] hc6) F2_5 (by simp)
  clear F2_5
  have F3_6 : Blk u6 w3.heap.size 24 (mg).cs := Kept.blk (Kept.of_below [] hc6) F3_5 (by simp)
  clear F3_5
  have F4_6 : Blk u6 w4.heap.size 24 (mg).cs := Kept.blk (Kept.of_below [] hc6) F4_5 (by simp)
  clear F4_5
  have F5_6 : Blk u6 w5.heap.size 24 (md).cs := Kept.blk (Kept.of_below [] hc6) F5_5 (by simp)
  clear F5_5
  have F6_6 := B6
  have lx := ld_ls (Z6.out u6 (Below.refl _ _))
  clear hb6 hc6 B6
  have g1 := ld_ls F1_6
  have g2 := ld_ls F2_6
  have g3 := ld_ls F3_6
  have g4 := ld_ls F4_6
  have g5 := ld_ls F5_6
  have g6 := ld_ls F6_6
  have e1 := eq_ls_self mt u6
  have e2 := eq_ls_self mg u6
  have e3 := eq_ls_self md u6
  go_wp2
  go_ret
  exact ⟨rfl, U6.out⟩
end Go.Proofs.Ytgmagnmbbhekjaa
namespace Go.Proofs.Ytgmagnmbbhekjaa
open Go.RowKit Go.ChangeShapes Go.WideShapes
set_option linter.unusedVariables false
theorem c_u64 : Try.prog.cellsOf 22 = 1 := by kernel_rfl
theorem c_ls : Try.prog.cellsOf 24 = 3 := by kernel_rfl
theorem u64_of {a : Int} (h : (Lit.int .u64 a).wf = true) : ∃ s : Nat, a = (s : Int) ∧ s < 18446744073709551616 := by
  have h0 := bounds_u64 h
  exact ⟨a.toNat, by omega, by omega⟩
theorem ls_cells {H : Type} {enc : TypeId × Value → H} {W : World} {sp : Nat → Bool} {held : Bool} {fuel : Nat} {cs : List Value} {y : DataW H × List MemPlace} (h : DataW.trod enc Try.prog W 0 sp held fuel 24 cs = some y) : ∃ n : Ls, cs = n.cs.toList := by
  obtain ⟨xs, m, _, _, hlen, hxs, hg⟩ := DataW.trod_struct Try.underlying24 h
  rw [c_ls] at hlen
  obtain ⟨y0, y1, y2, rfl⟩ : ∃ y0 y1 y2, xs = [y0, y1, y2] := by
    match xs, hxs with
    | [a, b, c], _ => exact ⟨a, b, c, rfl⟩
  have t0 : DataW.trod enc Try.prog W 0 sp held m 22 (List.take (Try.prog.cellsOf 22) (List.drop 0 cs)) = some y0 := hg 0 _ rfl
  have t1 : DataW.trod enc Try.prog W 0 sp held m 22 (List.take (Try.prog.cellsOf 22) (List.drop 1 cs)) = some y1 := hg 1 _ rfl
  have t2 : DataW.trod enc Try.prog W 0 sp held m 22 (List.take (Try.prog.cellsOf 22) (List.drop 2 cs)) = some y2 := hg 2 _ rfl
  rw [c_u64] at t0 t1 t2
  obtain ⟨u0, e0, _, f0⟩ := DataW.trod_int Try.underlying22 t0
  obtain ⟨u1, e1, _, f1⟩ := DataW.trod_int Try.underlying22 t1
  obtain ⟨u2, e2, _, f2⟩ := DataW.trod_int Try.underlying22 t2
  obtain ⟨n0, rfl, g0⟩ := u64_of f0
  obtain ⟨n1, rfl, g1⟩ := u64_of f1
  obtain ⟨n2, rfl, g2⟩ := u64_of f2
  refine ⟨⟨n0, n1, n2⟩, ?_⟩
  match cs, hlen with
  | [a, b, c], _ =>
    simp at e0 e1 e2
    simp [Ls.cs, e0, e1, e2]
theorem ls_of {H : Type} {enc : TypeId × Value → H} {W : World} {sp : Nat → Bool} {base : Nat} {held : Bool} {v : Value} {d : DataW H} {p : List MemPlace} (hv : Value.okWide Try.prog W .any base 24 v) (h : DataW.Trod enc Try.prog W 0 sp held 24 v d p) : ∃ n : Ls, v = .agg n.cs := by
  obtain ⟨cs, rfl, hsz⟩ := okWide_struct Try.underlying24 hv
  obtain ⟨fuel, hf⟩ := h
  obtain ⟨a, ha⟩ := ls_cells (show DataW.trod enc Try.prog W 0 sp held fuel 24 cs.toList = some _ from hf)
  exact ⟨a, congrArg Value.agg (Array.toList_inj.1 ha)⟩
theorem un_of {H : Type} {enc : TypeId × Value → H} {W : World} {sp : Nat → Bool} {base : Nat} {held : Bool} {v : Value} {d : DataW H} {p : List MemPlace} (hv : Value.okWide Try.prog W .any base 22 v) (h : DataW.Trod enc Try.prog W 0 sp held 22 v d p) : ∃ n : Nat, v = .int .u64 (n : Int) ∧ n < 18446744073709551616 := by
  obtain ⟨a0, rfl, rfl, rfl, w0⟩ := open_int Try.underlying22 hv h
  obtain ⟨n, rfl, hn⟩ := u64_of w0
  exact ⟨n, rfl, hn⟩
end Go.Proofs.Ytgmagnmbbhekjaa
