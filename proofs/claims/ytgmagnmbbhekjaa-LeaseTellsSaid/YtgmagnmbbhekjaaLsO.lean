/-
  A lease that is data. Nothing here is a statement of the document.
-/
import Derived.Test.YtgmagnmbbhekjaaLsE
import Derived.Test.YtgmagnmbbhekjaaLin
import Derived.WalkKit
import Derived.ProofKit
import Derived.OpenShut
import Derived.DataShut
import Derived.Deep.SlicePairs
namespace Go.Proofs.Ytgmagnmbbhekjaa
open Go.RowKit
set_option linter.unusedVariables false
attribute [local go_sem 10000] gtU_rule leU_rule ltU_rule geU_rule adU_rule sbU_rule mxU_rule
attribute [local go_sem ↓] load_ls_rule store_ls_rule

/-- A new box with something stored. -/
theorem lst_new (m : Ls) (W : World) : (storeSem 24 (.pointer (some ⟨W.heap.size, 0, none⟩)) (.agg m.cs)).run Try.prog (W.alloc (.cells #[.int .u64 0, .int .u64 0, .int .u64 0] 24)) = .ok () (W.alloc (.cells m.cs 24)) := by
  have h := st_ls (n := Ls.zero) (m := m) (Blk.new W 24 Ls.zero.cs)
  have e : (W.alloc (.cells Ls.zero.cs 24)).setRow W.heap.size m.cs = W.alloc (.cells m.cs 24) := by
    exact World.setRow_alloc_new _ _ _ _
  rw [e] at h
  exact h

set_option maxRecDepth 100000 in
set_option maxHeartbeats 4000000 in
theorem lwakes_any (w : World) : Calls Try.prog 7 #[] w fun e w' => e = .returned (.bool true) ∧ Below w.heap.size w w' := by
  obtain ⟨L1, hL1⟩ : ∃ L : Ls, L = ⟨0, 8, 0⟩ := ⟨_, rfl⟩
  obtain ⟨L2, hL2⟩ : ∃ L : Ls, L = ⟨0, 8, 12⟩ := ⟨_, rfl⟩
  obtain ⟨L3, hL3⟩ : ∃ L : Ls, L = ⟨1, 8, 12⟩ := ⟨_, rfl⟩
  have h1 : ∀ w, Calls Try.prog 16 #[.agg #[.int .u64 0, .int .u64 0, .int .u64 0], .int .u64 0] w fun e w' => e = .returned (.tuple #[.agg L1.cs, .int .i64 0]) ∧ Below w.heap.size w w' := fun w => by
    have := lgranted_any Ls.zero 0 w
    rw [show grantedR Ls.zero 0 = (L1, 0) by rw [hL1]; rfl] at this
    exact this
  have h2 : ∀ w, Calls Try.prog 14 #[.agg L1.cs] w fun e w' => e = .returned (.tuple #[.agg L2.cs, .int .i64 0]) ∧ Below w.heap.size w w' := fun w => by
    have := lgrant_any L1 w
    rw [show grantR L1 = (L2, 0) by rw [hL1, hL2]; rfl] at this
    exact this
  have h3 : ∀ w, Calls Try.prog 12 #[.agg L2.cs] w fun e w' => e = .returned (.tuple #[.agg L3.cs, .int .i64 0]) ∧ Below w.heap.size w w' := fun w => by
    have := ltick_any L2 w
    rw [show tickR L2 = (L3, 0) by rw [hL2, hL3]; rfl] at this
    exact this
  have h4 : ∀ w, Calls Try.prog 10 #[.agg L1.cs] w fun e w' => e = .returned (.bool true) ∧ Below w.heap.size w w' := fun w => by
    have := lholds_any L1 w
    rwa [show L1.holds = true by rw [hL1]; rfl] at this
  have h5 : ∀ w, Calls Try.prog 11 #[.agg L1.cs] w fun e w' => e = .returned (.bool true) ∧ Below w.heap.size w w' := fun w => by
    have := lfree_any L1 w
    rwa [show L1.free = true by rw [hL1]; rfl] at this
  have h6 : ∀ w, Calls Try.prog 11 #[.agg L2.cs] w fun e w' => e = .returned (.bool false) ∧ Below w.heap.size w w' := fun w => by
    have := lfree_any L2 w
    rwa [show L2.free = false by rw [hL2]; rfl] at this
  have n3 : L3.n = 1 := by rw [hL3]
  have H0 := Lib.hid (Below.refl w.heap.size w)
  clear hL1 hL2 hL3
  go_enter Try.func7, Try.ntmps7
  go_wp2_with fail
  refine (h1 _).mono ?_
  rintro e w1 ⟨rfl, hb1⟩
  have st1 := lst_new L1 w1
  obtain ⟨v1, hv1⟩ : ∃ v, w1.alloc (.cells (L1).cs 24) = v := ⟨_, rfl⟩
  rw [hv1] at st1
  have B1 : Blk v1 w1.heap.size 24 (L1).cs := by rw [← hv1]; exact Blk.new w1 _ _
  have C1 := Lib.hid (show ∀ W, Below v1.heap.size v1 W → Blk W w1.heap.size 24 (L1).cs from fun W h => Kept.blk (Kept.of_below [] h) B1 (by simp))
  have hb1' : Below w.heap.size w v1 := by rw [← hv1]; exact bel_al hb1 _
  have H1 := Lib.hid hb1'
  have lx := ld_ls B1
  clear hb1 hb1' B1
  go_wp2_with fail
  refine (h2 _).mono ?_
  rintro e w2 ⟨rfl, hb2⟩
  have hv2b := hb2
  have B1 := C1.out w2 hb2
  replace hb2 := bel_tr H1.out hb2
  have st2 := lst_new L2 w2
  obtain ⟨v2, hv2⟩ : ∃ v, w2.alloc (.cells (L2).cs 24) = v := ⟨_, rfl⟩
  rw [hv2] at st2
  have B2 : Blk v2 w2.heap.size 24 (L2).cs := by rw [← hv2]; exact Blk.new w2 _ _
  have C2 := Lib.hid (show ∀ W, Below v2.heap.size v2 W → Blk W w2.heap.size 24 (L2).cs from fun W h => Kept.blk (Kept.of_below [] h) B2 (by simp))
  have hb2' : Below w.heap.size w v2 := by rw [← hv2]; exact bel_al hb2 _
  have H2 := Lib.hid hb2'
  have hv2v : Below v1.heap.size v1 v2 := by rw [← hv2]; exact bel_al hv2b _
  have lx := ld_ls B2
  have D1 := Lib.hid (show ∀ W, Below v2.heap.size v2 W → Blk W w1.heap.size 24 L1.cs from fun W h => C1.out W (bel_tr hv2v h))
  clear hb2 hb2' B2 hv2b B1 hv2v
  go_wp2_with fail
  refine (h3 _).mono ?_
  rintro e w3 ⟨rfl, hb3⟩
  have hv3b := hb3
  replace hb3 := bel_tr H2.out hb3
  have st3 := lst_new L3 w3
  obtain ⟨v3, hv3⟩ : ∃ v, w3.alloc (.cells (L3).cs 24) = v := ⟨_, rfl⟩
  rw [hv3] at st3
  have B3 : Blk v3 w3.heap.size 24 (L3).cs := by rw [← hv3]; exact Blk.new w3 _ _
  have C3 := Lib.hid (show ∀ W, Below v3.heap.size v3 W → Blk W w3.heap.size 24 (L3).cs from fun W h => Kept.blk (Kept.of_below [] h) B3 (by simp))
  have hb3' : Below w.heap.size w v3 := by rw [← hv3]; exact bel_al hb3 _
  have H3 := Lib.hid hb3'
  have hv3v : Below v2.heap.size v2 v3 := by rw [← hv3]; exact bel_al hv3b _
  have E1 := Lib.hid (show ∀ W, Below v3.heap.size v3 W → Blk W w1.heap.size 24 L1.cs from fun W h => D1.out W (bel_tr hv3v h))
  have E2 := Lib.hid (show ∀ W, Below v3.heap.size v3 W → Blk W w2.heap.size 24 L2.cs from fun W h => C2.out W (bel_tr hv3v h))
  have lx := ld_ls (E1.out v3 (Below.refl _ _))
  clear hb3 hb3' B3 hv3b hv3v
  go_wp2_with fail
  refine (h4 _).mono ?_
  rintro e w4 ⟨rfl, hb4⟩
  have lx4 := ld_ls (E1.out w4 hb4)
  go_wp2_with fail
  refine (h5 _).mono ?_
  rintro e w5 ⟨rfl, hb5⟩
  have hb5 := bel_tr hb4 hb5
  have lx5 := ld_ls (E2.out w5 hb5)
  go_wp2_with fail
  refine (h6 _).mono ?_
  rintro e w6 ⟨rfl, hb6⟩
  have hb6 := bel_tr hb5 hb6
  obtain ⟨c0, c1, c2⟩ := ls_cell (C3.out w6 hb6)
  rw [n3] at c0
  go_wp2
  go_ret
  exact ⟨rfl, bel_tr H3.out hb6⟩

set_option maxRecDepth 100000 in
set_option maxHeartbeats 4000000 in
theorem leasetells_walk (l : Ls) (w : World) : Calls Try.prog 3 #[.agg l.cs] w fun e w' => e = .returned (.bool true) ∧ Below w.heap.size w w' := by
  obtain ⟨W1, hW1⟩ : ∃ W1, w.alloc (.cells l.cs 24) = W1 := ⟨_, rfl⟩
  have H1 := Lib.hid (show Below w.heap.size w W1 by rw [← hW1]; exact below_alloc w _)
  have b1 : Blk W1 w.heap.size 24 l.cs := by rw [← hW1]; exact Blk.new w _ _
  have C1 := Lib.hid (show ∀ W, Below W1.heap.size W1 W → Blk W w.heap.size 24 l.cs from fun W h => Kept.blk (Kept.of_below [] h) b1 (by simp))
  clear b1
  have hc := fun w => lcheck_any l w
  have hr := fun w => lright_any l w
  have hh := fun w => lholds_any l w
  have hf := fun w => lfree_any l w
  have d1 := ltU_nat l.n l.h
  have d2 := geU_nat l.n l.p
  simp only [show l.e = if l.ok then 0 else 230 from rfl, show l.holds = (l.ok && decide (l.n < l.h)) from rfl, show l.free = (l.ok && decide (l.p ≤ l.n)) from rfl] at hc hh hf
  generalize decide (l.n < l.h) = x at *
  generalize decide (l.p ≤ l.n) = y at *
  generalize l.ok = k at *
  cases k
  · simp only [Bool.false_and, Bool.true_and, Bool.false_eq_true, ↓reduceIte] at hc hh hf
    go_enter Try.func3, Try.ntmps3
    go_wp2_with fail
    refine (lwakes_any _).mono ?_
    rintro e w2 ⟨rfl, hb2⟩
    have lx2 := ld_ls (C1.out w2 hb2)
    go_wp2_with fail
    refine (hc _).mono ?_
    rintro e w3 ⟨rfl, hb3⟩
    replace hb3 := bel_tr hb2 hb3
    have lx3 := ld_ls (C1.out w3 hb3)
    go_wp2_with fail
    refine (hr _).mono ?_
    rintro e w4 ⟨rfl, hb4⟩
    replace hb4 := bel_tr hb3 hb4
    have lx4 := ld_ls (C1.out w4 hb4)
    go_wp2_with fail
    refine (hh _).mono ?_
    rintro e w5 ⟨rfl, hb5⟩
    replace hb5 := bel_tr hb4 hb5
    have lx5 := ld_ls (C1.out w5 hb5)
    go_wp2_with fail
    refine (hf _).mono ?_
    rintro e w6 ⟨rfl, hb6⟩
    replace hb6 := bel_tr hb5 hb6
    go_wp2
    go_ret
    exact ⟨rfl, bel_tr H1.out hb6⟩
  · simp only [Bool.false_and, Bool.true_and, Bool.false_eq_true, ↓reduceIte] at hc hh hf
    cases x <;> cases y <;>
    · go_enter Try.func3, Try.ntmps3
      go_wp2_with fail
      refine (lwakes_any _).mono ?_
      rintro e w2 ⟨rfl, hb2⟩
      have lx2 := ld_ls (C1.out w2 hb2)
      go_wp2_with fail
      refine (hc _).mono ?_
      rintro e w3 ⟨rfl, hb3⟩
      replace hb3 := bel_tr hb2 hb3
      have lx3 := ld_ls (C1.out w3 hb3)
      go_wp2_with fail
      refine (hr _).mono ?_
      rintro e w4 ⟨rfl, hb4⟩
      replace hb4 := bel_tr hb3 hb4
      have C4 : ∀ W, Below w4.heap.size w4 W → Blk W w.heap.size 24 l.cs := fun W h => C1.out W (bel_tr hb4 h)
      go_wp2
      refine wp_region_linY (fun w' => Below w4.heap.size w4 w') [4, 14] [0, 1, 2, 3, 5, 6, 7, 8, 9, 4, 10, 11, 12, 13, 15, 16, 17, 18, 19, 14, 20, 21, 22] (by kernel_rfl) (by kernel_rfl) ((Below.refl _ _).drew) ?_
      (repeat (refine linX_op (v := ?_) rfl rfl (by rfl) (fun w9 hS9 => ?_) ?_; rotate_left; (focus ((have B9 := C4 w9 hS9; have k9 := ld_ls B9; obtain ⟨c0, c1, c2⟩ := ls_cell B9; (try dsimp only at hS9); go_simp) <;> with_reducible rfl)); (try simp only [Act.put, List.getElem_toArray, List.getElem_cons_zero, List.getElem_cons_succ, List.setIfInBounds_toArray, List.set_cons_zero, List.set_cons_succ])))
      refine linX_call (f := 10) (args := #[.agg l.cs]) rfl rfl (by rfl) rfl rfl (enters_of Try.func10 (by kernel_rfl) rfl) ?_ ?_; (focus (simp [Act.eval]; done))
      refine (hh _).mono ?_
      rintro e w5 ⟨rfl, hb5⟩
      replace hb5 : Below w4.heap.size w4 w5 := ⟨hb5.os, hb5.tape, hb5.output, hb5.size, hb5.block⟩
      refine ⟨_, rfl, hb5, ?_⟩
      (try simp only [Act.put, List.getElem_toArray, List.getElem_cons_zero, List.getElem_cons_succ, List.setIfInBounds_toArray, List.set_cons_zero, List.set_cons_succ])
      (repeat (refine linX_op (v := ?_) rfl rfl (by rfl) (fun w9 hS9 => ?_) ?_; rotate_left; (focus ((have B9 := C4 w9 hS9; have k9 := ld_ls B9; obtain ⟨c0, c1, c2⟩ := ls_cell B9; (try dsimp only at hS9); go_simp) <;> with_reducible rfl)); (try simp only [Act.put, List.getElem_toArray, List.getElem_cons_zero, List.getElem_cons_succ, List.setIfInBounds_toArray, List.set_cons_zero, List.set_cons_succ])))
      refine linX_call (f := 11) (args := #[.agg l.cs]) rfl rfl (by rfl) rfl rfl (enters_of Try.func11 (by kernel_rfl) rfl) ?_ ?_; (focus (simp [Act.eval]; done))
      refine (hf _).mono ?_
      rintro e w6 ⟨rfl, hb6⟩
      replace hb6 : Below w4.heap.size w4 w6 := bel_tr hb5 hb6
      refine ⟨_, rfl, hb6, ?_⟩
      (try simp only [Act.put, List.getElem_toArray, List.getElem_cons_zero, List.getElem_cons_succ, List.setIfInBounds_toArray, List.set_cons_zero, List.set_cons_succ])
      (repeat (refine linX_op (v := ?_) rfl rfl (by rfl) (fun w9 hS9 => ?_) ?_; rotate_left; (focus ((have B9 := C4 w9 hS9; have k9 := ld_ls B9; obtain ⟨c0, c1, c2⟩ := ls_cell B9; (try dsimp only at hS9); go_simp) <;> with_reducible rfl)); (try simp only [Act.put, List.getElem_toArray, List.getElem_cons_zero, List.getElem_cons_succ, List.setIfInBounds_toArray, List.set_cons_zero, List.set_cons_succ])))
      refine linX_nil ?_
      go_wp2
      go_ret
      exact ⟨rfl, bel_tr H1.out (bel_tr hb4 hb6)⟩

end Go.Proofs.Ytgmagnmbbhekjaa
namespace Go.Proofs.Ytgmagnmbbhekjaa
open Go.RowKit Go.ChangeShapes Go.WideShapes
set_option linter.unusedVariables false
theorem c_u64 : Try.prog.cellsOf 22 = 1 := by kernel_rfl
theorem c_ls : Try.prog.cellsOf 24 = 3 := by kernel_rfl
theorem u64_of {a : Int} (h : (Lit.int .u64 a).wf = true) : ∃ s : Nat, a = (s : Int) ∧ s < 18446744073709551616 := by
  have h0 := bounds_u64 h
  exact ⟨a.toNat, by omega, by omega⟩
theorem ls_cells {H : Type} {enc : TypeId × Value → H} {W : World} {sp : Nat → Bool} {held : Bool} {fuel : Nat} {cs : List Value} {y : DataW H × List MemPlace} (h : DataW.trod enc Try.prog W 0 sp held fuel 24 cs = some y) : ∃ n : Ls, cs = n.cs.toList := by
  obtain ⟨xs, m, _, _, hlen, hxs, hg⟩ := DataW.trod_struct Try.underlying24 h
  rw [c_ls] at hlen
  obtain ⟨y0, y1, y2, rfl⟩ : ∃ y0 y1 y2, xs = [y0, y1, y2] := by
    match xs, hxs with
    | [a, b, c], _ => exact ⟨a, b, c, rfl⟩
  have t0 : DataW.trod enc Try.prog W 0 sp held m 22 (List.take (Try.prog.cellsOf 22) (List.drop 0 cs)) = some y0 := hg 0 _ rfl
  have t1 : DataW.trod enc Try.prog W 0 sp held m 22 (List.take (Try.prog.cellsOf 22) (List.drop 1 cs)) = some y1 := hg 1 _ rfl
  have t2 : DataW.trod enc Try.prog W 0 sp held m 22 (List.take (Try.prog.cellsOf 22) (List.drop 2 cs)) = some y2 := hg 2 _ rfl
  rw [c_u64] at t0 t1 t2
  obtain ⟨u0, e0, _, f0⟩ := DataW.trod_int Try.underlying22 t0
  obtain ⟨u1, e1, _, f1⟩ := DataW.trod_int Try.underlying22 t1
  obtain ⟨u2, e2, _, f2⟩ := DataW.trod_int Try.underlying22 t2
  obtain ⟨n0, rfl, g0⟩ := u64_of f0
  obtain ⟨n1, rfl, g1⟩ := u64_of f1
  obtain ⟨n2, rfl, g2⟩ := u64_of f2
  refine ⟨⟨n0, n1, n2⟩, ?_⟩
  match cs, hlen with
  | [a, b, c], _ =>
    simp at e0 e1 e2
    simp [Ls.cs, e0, e1, e2]
theorem ls_of {H : Type} {enc : TypeId × Value → H} {W : World} {sp : Nat → Bool} {base : Nat} {held : Bool} {v : Value} {d : DataW H} {p : List MemPlace} (hv : Value.okWide Try.prog W .any base 24 v) (h : DataW.Trod enc Try.prog W 0 sp held 24 v d p) : ∃ n : Ls, v = .agg n.cs := by
  obtain ⟨cs, rfl, hsz⟩ := okWide_struct Try.underlying24 hv
  obtain ⟨fuel, hf⟩ := h
  obtain ⟨a, ha⟩ := ls_cells (show DataW.trod enc Try.prog W 0 sp held fuel 24 cs.toList = some _ from hf)
  exact ⟨a, congrArg Value.agg (Array.toList_inj.1 ha)⟩
theorem un_of {H : Type} {enc : TypeId × Value → H} {W : World} {sp : Nat → Bool} {base : Nat} {held : Bool} {v : Value} {d : DataW H} {p : List MemPlace} (hv : Value.okWide Try.prog W .any base 22 v) (h : DataW.Trod enc Try.prog W 0 sp held 22 v d p) : ∃ n : Nat, v = .int .u64 (n : Int) ∧ n < 18446744073709551616 := by
  obtain ⟨a0, rfl, rfl, rfl, w0⟩ := open_int Try.underlying22 hv h
  obtain ⟨n, rfl, hn⟩ := u64_of w0
  exact ⟨n, rfl, hn⟩
end Go.Proofs.Ytgmagnmbbhekjaa
