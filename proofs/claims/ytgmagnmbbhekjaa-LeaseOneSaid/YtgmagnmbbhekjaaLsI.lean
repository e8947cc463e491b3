/-
  What the law LeaseOne keeps: two leases, what was asked, what was told, the grants; and why one alone holds. Nothing here is a statement of the document.
-/
import Derived.Test.YtgmagnmbbhekjaaLsE
import Derived.Maps.AppendAt
import Derived.Deep.MidRow
import Derived.Laws.OwnMore
import Derived.IntWalk
namespace Go.Proofs.Ytgmagnmbbhekjaa
open Go.RowKit
set_option linter.unusedVariables false
attribute [local go_sem 10000] gtU_rule leU_rule ltU_rule geU_rule adU_rule sbU_rule mxU_rule
attribute [local go_sem ↓] load_ls_rule store_ls_rule

/-- A new box with something stored. -/
theorem lst_new (m : Ls) (W : World) : (storeSem 24 (.pointer (some ⟨W.heap.size, 0, none⟩)) (.agg m.cs)).run Try.prog (W.alloc (.cells #[.int .u64 0, .int .u64 0, .int .u64 0] 24)) = .ok () (W.alloc (.cells m.cs 24)) := by
  have h := st_ls (n := Ls.zero) (m := m) (Blk.new W 24 Ls.zero.cs)
  have e : (W.alloc (.cells Ls.zero.cs 24)).setRow W.heap.size m.cs = W.alloc (.cells m.cs 24) := by
    exact World.setRow_alloc_new _ _ _ _
  rw [e] at h
  exact h

set_option maxRecDepth 100000 in
set_option maxHeartbeats 4000000 in
theorem lwakes_any (w : World) : Calls Try.prog 7 #[] w fun e w' => e = .returned (.bool true) ∧ Below w.heap.size w w' := by
  obtain ⟨L1, hL1⟩ : ∃ L : Ls, L = ⟨0, 8, 0⟩ := ⟨_, rfl⟩
  obtain ⟨L2, hL2⟩ : ∃ L : Ls, L = ⟨0, 8, 12⟩ := ⟨_, rfl⟩
  obtain ⟨L3, hL3⟩ : ∃ L : Ls, L = ⟨1, 8, 12⟩ := ⟨_, rfl⟩
  have h1 : ∀ w, Calls Try.prog 16 #[.agg #[.int .u64 0, .int .u64 0, .int .u64 0], .int .u64 0] w fun e w' => e = .returned (.tuple #[.agg L1.cs, .int .i64 0]) ∧ Below w.heap.size w w' := fun w => by
    have := lgranted_any Ls.zero 0 w
    rw [show grantedR Ls.zero 0 = (L1, 0) by rw [hL1]; rfl] at this
    exact this
  have h2 : ∀ w, Calls Try.prog 14 #[.agg L1.cs] w fun e w' => e = .returned (.tuple #[.agg L2.cs, .int .i64 0]) ∧ Below w.heap.size w w' := fun w => by
    have := lgrant_any L1 w
    rw [show grantR L1 = (L2, 0) by rw [hL1, hL2]; rfl] at this
    exact this
  have h3 : ∀ w, Calls Try.prog 12 #[.agg L2.cs] w fun e w' => e = .returned (.tuple #[.agg L3.cs, .int .i64 0]) ∧ Below w.heap.size w w' := fun w => by
    have := ltick_any L2 w
    rw [show tickR L2 = (L3, 0) by rw [hL2, hL3]; rfl] at this
    exact this
  have h4 : ∀ w, Calls Try.prog 10 #[.agg L1.cs] w fun e w' => e = .returned (.bool true) ∧ Below w.heap.size w w' := fun w => by
    have := lholds_any L1 w
    rwa [show L1.holds = true by rw [hL1]; rfl] at this
  have h5 : ∀ w, Calls Try.prog 11 #[.agg L1.cs] w fun e w' => e = .returned (.bool true) ∧ Below w.heap.size w w' := fun w => by
    have := lfree_any L1 w
    rwa [show L1.free = true by rw [hL1]; rfl] at this
  have h6 : ∀ w, Calls Try.prog 11 #[.agg L2.cs] w fun e w' => e = .returned (.bool false) ∧ Below w.heap.size w w' := fun w => by
    have := lfree_any L2 w
    rwa [show L2.free = false by rw [hL2]; rfl] at this
  have n3 : L3.n = 1 := by rw [hL3]
  have H0 := Lib.hid (Below.refl w.heap.size w)
  clear hL1 hL2 hL3
  go_enter Try.func7, Try.ntmps7
  go_wp2_with fail
  refine (h1 _).mono ?_
  rintro e w1 ⟨rfl, hb1⟩
  have st1 := lst_new L1 w1
  obtain ⟨v1, hv1⟩ : ∃ v, w1.alloc (.cells (L1).cs 24) = v := ⟨_, rfl⟩
  rw [hv1] at st1
  have B1 : Blk v1 w1.heap.size 24 (L1).cs := by rw [← hv1]; exact Blk.new w1 _ _
  have C1 := Lib.hid (show ∀ W, Below v1.heap.size v1 W → Blk W w1.heap.size 24 (L1).cs from fun W h => Kept.blk (Kept.of_below [] h) B1 (by simp))
  have hb1' : Below w.heap.size w v1 := by rw [← hv1]; exact bel_al hb1 _
  have H1 := Lib.hid hb1'
  have lx := ld_ls B1
  clear hb1 hb1' B1
  go_wp2_with fail
  refine (h2 _).mono ?_
  rintro e w2 ⟨rfl, hb2⟩
  have hv2b := hb2
  have B1 := C1.out w2 hb2
  replace hb2 := bel_tr H1.out hb2
  have st2 := lst_new L2 w2
  obtain ⟨v2, hv2⟩ : ∃ v, w2.alloc (.cells (L2).cs 24) = v := ⟨_, rfl⟩
  rw [hv2] at st2
  have B2 : Blk v2 w2.heap.size 24 (L2).cs := by rw [← hv2]; exact Blk.new w2 _ _
  have C2 := Lib.hid (show ∀ W, Below v2.heap.size v2 W → Blk W w2.heap.size 24 (L2).cs from fun W h => Kept.blk (Kept.of_below [] h) B2 (by simp))
  have hb2' : Below w.heap.size w v2 := by rw [← hv2]; exact bel_al hb2 _
  have H2 := Lib.hid hb2'
  have hv2v : Below v1.heap.size v1 v2 := by rw [← hv2]; exact bel_al hv2b _
  have lx := ld_ls B2
  have D1 := Lib.hid (show ∀ W, Below v2.heap.size v2 W → Blk W w1.heap.size 24 L1.cs from fun W h => C1.out W (bel_tr hv2v h))
  clear hb2 hb2' B2 hv2b B1 hv2v
  go_wp2_with fail
  refine (h3 _).mono ?_
  rintro e w3 ⟨rfl, hb3⟩
  have hv3b := hb3
  replace hb3 := bel_tr H2.out hb3
  have st3 := lst_new L3 w3
  obtain ⟨v3, hv3⟩ : ∃ v, w3.alloc (.cells (L3).cs 24) = v := ⟨_, rfl⟩
  rw [hv3] at st3
  have B3 : Blk v3 w3.heap.size 24 (L3).cs := by rw [← hv3]; exact Blk.new w3 _ _
  have C3 := Lib.hid (show ∀ W, Below v3.heap.size v3 W → Blk W w3.heap.size 24 (L3).cs from fun W h => Kept.blk (Kept.of_below [] h) B3 (by simp))
  have hb3' : Below w.heap.size w v3 := by rw [← hv3]; exact bel_al hb3 _
  have H3 := Lib.hid hb3'
  have hv3v : Below v2.heap.size v2 v3 := by rw [← hv3]; exact bel_al hv3b _
  have E1 := Lib.hid (show ∀ W, Below v3.heap.size v3 W → Blk W w1.heap.size 24 L1.cs from fun W h => D1.out W (bel_tr hv3v h))
  have E2 := Lib.hid (show ∀ W, Below v3.heap.size v3 W → Blk W w2.heap.size 24 L2.cs from fun W h => C2.out W (bel_tr hv3v h))
  have lx := ld_ls (E1.out v3 (Below.refl _ _))
  clear hb3 hb3' B3 hv3b hv3v
  go_wp2_with fail
  refine (h4 _).mono ?_
  rintro e w4 ⟨rfl, hb4⟩
  have lx4 := ld_ls (E1.out w4 hb4)
  go_wp2_with fail
  refine (h5 _).mono ?_
  rintro e w5 ⟨rfl, hb5⟩
  have hb5 := bel_tr hb4 hb5
  have lx5 := ld_ls (E2.out w5 hb5)
  go_wp2_with fail
  refine (h6 _).mono ?_
  rintro e w6 ⟨rfl, hb6⟩
  have hb6 := bel_tr hb5 hb6
  obtain ⟨c0, c1, c2⟩ := ls_cell (C3.out w6 hb6)
  rw [n3] at c0
  go_wp2
  go_ret
  exact ⟨rfl, bel_tr H3.out hb6⟩

set_option maxRecDepth 100000 in
set_option maxHeartbeats 4000000 in
theorem leasetells_walk (l : Ls) (w : World) : Calls Try.prog 3 #[.agg l.cs] w fun e w' => e = .returned (.bool true) ∧ Below w.heap.size w w' := by
  obtain ⟨W1, hW1⟩ : ∃ W1, w.alloc (.cells l.cs 24) = W1 := ⟨_, rfl⟩
  have H1 := Lib.hid (show Below w.heap.size w W1 by rw [← hW1]; exact below_alloc w _)
  have b1 : Blk W1 w.heap.size 24 l.cs := by rw [← hW1]; exact Blk.new w _ _
  have C1 := Lib.hid (show ∀ W, Below W1.heap.size W1 W → Blk W w.heap.size 24 l.cs from fun W h => Kept.blk (Kept.of_below [] h) b1 (by simp))
  clear b1
  have hc := fun w => lcheck_any l w
  have hr := fun w => lright_any l w
  have hh := fun w => lholds_any l w
  have hf := fun w => lfree_any l w
  have d1 := ltU_nat l.n l.h
  have d2 := geU_nat l.n l.p
  simp only [show l.e = if l.ok then 0 else 230 from rfl, show l.holds = (l.ok && decide (l.n < l.h)) from rfl, show l.free = (l.ok && decide (l.p ≤ l.n)) from rfl] at hc hh hf
  generalize decide (l.n < l.h) = x at *
  generalize decide (l.p ≤ l.n) = y at *
  generalize l.ok = k at *
  cases k
  · simp only [Bool.false_and, Bool.true_and, Bool.false_eq_true, ↓reduceIte] at hc hh hf
    go_enter Try.func3, Try.ntmps3
    go_wp2_with fail
    refine (lwakes_any _).mono ?_
    rintro e w2 ⟨rfl, hb2⟩
    have lx2 := ld_ls (C1.out w2 hb2)
    go_wp2_with fail
    refine (hc _).mono ?_
    rintro e w3 ⟨rfl, hb3⟩
    replace hb3 := bel_tr hb2 hb3
    have lx3 := ld_ls (C1.out w3 hb3)
    go_wp2_with fail
    refine (hr _).mono ?_
    rintro e w4 ⟨rfl, hb4⟩
    replace hb4 := bel_tr hb3 hb4
    have lx4 := ld_ls (C1.out w4 hb4)
    go_wp2_with fail
    refine (hh _).mono ?_
    rintro e w5 ⟨rfl, hb5⟩
    replace hb5 := bel_tr hb4 hb5
    have lx5 := ld_ls (C1.out w5 hb5)
    go_wp2_with fail
    refine (hf _).mono ?_
    rintro e w6 ⟨rfl, hb6⟩
    replace hb6 := bel_tr hb5 hb6
    go_wp2
    go_ret
    exact ⟨rfl, bel_tr H1.out hb6⟩
  · simp only [Bool.false_and, Bool.true_and, Bool.false_eq_true, ↓reduceIte] at hc hh hf
    cases x <;> cases y <;>
    · go_enter Try.func3, Try.ntmps3
      go_wp2_with fail
      refine (lwakes_any _).mono ?_
      rintro e w2 ⟨rfl, hb2⟩
      have lx2 := ld_ls (C1.out w2 hb2)
      go_wp2_with fail
      refine (hc _).mono ?_
      rintro e w3 ⟨rfl, hb3⟩
      replace hb3 := bel_tr hb2 hb3
      have lx3 := ld_ls (C1.out w3 hb3)
      go_wp2_with fail
      refine (hr _).mono ?_
      rintro e w4 ⟨rfl, hb4⟩
      replace hb4 := bel_tr hb3 hb4
      have C4 : ∀ W, Below w4.heap.size w4 W → Blk W w.heap.size 24 l.cs := fun W h => C1.out W (bel_tr hb4 h)
      go_wp2
      refine wp_region_linY (fun w' => Below w4.heap.size w4 w') [4, 14] [0, 1, 2, 3, 5, 6, 7, 8, 9, 4, 10, 11, 12, 13, 15, 16, 17, 18, 19, 14, 20, 21, 22] (by kernel_rfl) (by kernel_rfl) ((Below.refl _ _).drew) ?_
      (repeat (refine linX_op (v := ?_) rfl rfl (by rfl) (fun w9 hS9 => ?_) ?_; rotate_left; (focus ((have B9 := C4 w9 hS9; have k9 := ld_ls B9; obtain ⟨c0, c1, c2⟩ := ls_cell B9; (try dsimp only at hS9); go_simp) <;> with_reducible rfl)); (try simp only [Act.put, List.getElem_toArray, List.getElem_cons_zero, List.getElem_cons_succ, List.setIfInBounds_toArray, List.set_cons_zero, List.set_cons_succ])))
      refine linX_call (f := 10) (args := #[.agg l.cs]) rfl rfl (by rfl) rfl rfl (enters_of Try.func10 (by kernel_rfl) rfl) ?_ ?_; (focus (simp [Act.eval]; done))
      refine (hh _).mono ?_
      rintro e w5 ⟨rfl, hb5⟩
      replace hb5 : Below w4.heap.size w4 w5 := ⟨hb5.os, hb5.tape, hb5.output, hb5.size, hb5.block⟩
      refine ⟨_, rfl, hb5, ?_⟩
      (try simp only [Act.put, List.getElem_toArray, List.getElem_cons_zero, List.getElem_cons_succ, List.setIfInBounds_toArray, List.set_cons_zero, List.set_cons_succ])
      (repeat (refine linX_op (v := ?_) rfl rfl (by rfl) (fun w9 hS9 => ?_) ?_; rotate_left; (focus ((have B9 := C4 w9 hS9; have k9 := ld_ls B9; obtain ⟨c0, c1, c2⟩ := ls_cell B9; (try dsimp only at hS9); go_simp) <;> with_reducible rfl)); (try simp only [Act.put, List.getElem_toArray, List.getElem_cons_zero, List.getElem_cons_succ, List.setIfInBounds_toArray, List.set_cons_zero, List.set_cons_succ])))
      refine linX_call (f := 11) (args := #[.agg l.cs]) rfl rfl (by rfl) rfl rfl (enters_of Try.func11 (by kernel_rfl) rfl) ?_ ?_; (focus (simp [Act.eval]; done))
      refine (hf _).mono ?_
      rintro e w6 ⟨rfl, hb6⟩
      replace hb6 : Below w4.heap.size w4 w6 := bel_tr hb5 hb6
      refine ⟨_, rfl, hb6, ?_⟩
      (try simp only [Act.put, List.getElem_toArray, List.getElem_cons_zero, List.getElem_cons_succ, List.setIfInBounds_toArray, List.set_cons_zero, List.set_cons_succ])
      (repeat (refine linX_op (v := ?_) rfl rfl (by rfl) (fun w9 hS9 => ?_) ?_; rotate_left; (focus ((have B9 := C4 w9 hS9; have k9 := ld_ls B9; obtain ⟨c0, c1, c2⟩ := ls_cell B9; (try dsimp only at hS9); go_simp) <;> with_reducible rfl)); (try simp only [Act.put, List.getElem_toArray, List.getElem_cons_zero, List.getElem_cons_succ, List.setIfInBounds_toArray, List.set_cons_zero, List.set_cons_succ])))
      refine linX_nil ?_
      go_wp2
      go_ret
      exact ⟨rfl, bel_tr H1.out (bel_tr hb4 hb6)⟩

end Go.Proofs.Ytgmagnmbbhekjaa
namespace Go.Proofs.Ytgmagnmbbhekjaa
open Go.RowKit
set_option linter.unusedVariables false

/-! ### Pairs of ints that came in -/
def IsActs (w : World) (a : Option Addr) (len : Nat) (K N : Nat → Int) : Prop :=
  len = 0 ∨ ∃ x, a = some x ∧ ∀ i, i < len → w.cell? (x.add (i * 2)) = some (.int .i64 (K i)) ∧ w.cell? (x.add (i * 2 + 1)) = some (.int .i64 (N i)) ∧ (Lit.int .i64 (K i)).wf = true ∧ (Lit.int .i64 (N i)).wf = true
def ActsAt (w : World) (b o len : Nat) (K N : Nat → Int) : Prop :=
  b < w.heap.size ∧ ∀ i, i < len → w.cell? ⟨b, o + i * 2, none⟩ = some (.int .i64 (K i)) ∧ w.cell? ⟨b, o + i * 2 + 1, none⟩ = some (.int .i64 (N i))
theorem IsActs.at {w : World} {a : Option Addr} {len : Nat} {K N : Nat → Int} (h : IsActs w a len K N) (hl : 0 < len) : ∃ b o, a = some ⟨b, o, none⟩ ∧ ActsAt w b o len K N := by
  rcases h with h | ⟨x, rfl, hc⟩
  · omega
  · have h0 := (hc 0 hl).1
    obtain ⟨b, o, sp⟩ := x
    have e0 : (⟨b, o, sp⟩ : Addr).add (0 * 2) = ⟨b, o, sp⟩ := by cases sp <;> simp [Addr.add]
    rw [e0] at h0
    obtain rfl : sp = none := World.cell?_spot h0
    have hbl : b < w.heap.size := World.block_lt_of_cell? w _ h0
    refine ⟨b, o, rfl, hbl, fun i hi => ?_⟩
    obtain ⟨c0, c1, _, _⟩ := hc i hi
    rw [Addr.add_lit] at c0 c1
    exact ⟨c0, by rw [Nat.add_assoc]; exact c1⟩
theorem ActsAt.later {w w' : World} {b o len : Nat} {K N : Nat → Int} (h : ActsAt w b o len K N) {B : Nat} (hb : b < B) (k : Below B w w') : ActsAt w' b o len K N :=
  ⟨Nat.lt_of_lt_of_le h.1 k.size, fun i hi => by
    rw [k.cell (p := ⟨b, _, none⟩) hb, k.cell (p := ⟨b, _, none⟩) hb]; exact h.2 i hi⟩
theorem i_act : (Try.prog.info? 37).map (·.size) = some 2 := by kernel_rfl
theorem load_act_rule (v : Value) : Instr.loadAt 37 v = loadSem 37 v := rfl
theorem store_act_rule (v x : Value) : Instr.storeAt 37 v x = storeSem 37 v x := rfl
theorem ActsAt.load {w : World} {b o len : Nat} {K N : Nat → Int} (h : ActsAt w b o len K N) {i : Nat} (hi : i < len) : (loadSem 37 (.pointer (some ⟨b, o + i * 2, none⟩))).run Try.prog w = .ok (.agg #[.int .i64 (K i), .int .i64 (N i)]) w :=
  run_loadAt_mid (P := Try.prog) w b (o + i * 2) 37 [.int .i64 (K i), .int .i64 (N i)] _ (fun j v hj => by
    match j, hj with
    | 0, hj => simp at hj; subst hj; exact (h.2 i hi).1
    | 1, hj => simp at hj; subst hj; exact (h.2 i hi).2) Try.underlying37 rfl i_act
theorem act_new (k n : Int) (W : World) : (storeSem 37 (.pointer (some ⟨W.heap.size, 0, none⟩)) (.agg #[.int .i64 k, .int .i64 n])).run Try.prog (W.alloc (.cells #[.int .i64 0, .int .i64 0] 37)) = .ok () (W.alloc (.cells #[.int .i64 k, .int .i64 n] 37)) := by
  have h := storeRes_of (P := Try.prog) (ty := 37) (o := 0) (vs := #[.int .i64 k, .int .i64 n]) (Blk.new W 37 #[.int .i64 0, .int .i64 0]) (by simp) i_act (by simp [Value.oneCell'])
  rw [over_all (by simp)] at h
  have e : (W.alloc (.cells #[.int .i64 0, .int .i64 0] 37)).setRow W.heap.size #[.int .i64 k, .int .i64 n] = W.alloc (.cells #[.int .i64 k, .int .i64 n] 37) := by
    exact World.setRow_alloc_new _ _ _ _
  rw [e] at h
  exact h

/-! ### Numbers -/
def mxI (x y : Int) : Int := if y > x then y else x
theorem mxI_rule {P : Program} (w : World) (ts : Array TypeId) (t : TypeId) (x y : Int) : (Builtin.max_ ts t #[.int .i64 x, .int .i64 y]).run P w = .ok (.int .i64 (mxI x y)) w := run_max_int2 w ts t .i64 .i64 x y
theorem mxI_nat (x : Int) : mxI x 0 = ((x.toNat : Nat) : Int) := by unfold mxI; split <;> omega
def rmI (x y : Int) : Int := x.tmod y
def remI (x y : Int) : Sem Value := Op.intDiv .rem .i64 x y
theorem remI_rule (t : TypeId) (a b : Int) : binOp .rem t (.int .i64 a) (.int .i64 b) = remI a b := by simp [remI, binOp]
theorem rmI_run {P : Program} (w : World) (x y : Int) (h : y ≠ 0) : (remI x y).run P w = .ok (.int .i64 (rmI x y)) w := by simp [remI, Op.intDiv, h, rmI]
theorem rmI_nat (x y : Nat) : rmI (x : Int) (y : Int) = ((x % y : Nat) : Int) := by unfold rmI; rw [Int.tmod_eq_emod_of_nonneg (by omega)]; simp
/-- Five more. -/
def fvI (a : Int) : Int := wrap64 (a + 5)
theorem fvI_rule (t : TypeId) (a : Int) : binOp .add t (.int .i64 a) (.int .i64 5) = pure (.int .i64 (fvI a)) := by simp only [fvI]; rw [← IntWalk.i64_left]; simp [binOp, Op.intArith]
theorem kind5 (K : Int) : ∃ q c : Int, ∃ κ : Nat, rmI K 5 = q ∧ fvI q = c ∧ rmI c 5 = (κ : Int) ∧ κ < 5 := by
  refine ⟨_, _, (rmI (fvI (rmI K 5)) 5).toNat, rfl, rfl, ?_, ?_⟩
  · have h1 : -5 < rmI K 5 ∧ rmI K 5 < 5 := by unfold rmI; exact ⟨by have := Int.lt_tmod_of_pos K (show (0 : Int) < 5 by decide); omega, Int.tmod_lt_of_pos K (by decide)⟩
    have h2 : fvI (rmI K 5) = rmI K 5 + 5 := by unfold fvI wrap64; omega
    rw [h2]
    have h3 : 0 ≤ rmI (rmI K 5 + 5) 5 := by
      have e : rmI (rmI K 5 + 5) 5 = (rmI K 5 + 5).tmod 5 := rfl
      rw [e, Int.tmod_eq_emod_of_nonneg (by omega)]; omega
    omega
  · have h1 : -5 < rmI K 5 ∧ rmI K 5 < 5 := by unfold rmI; exact ⟨by have := Int.lt_tmod_of_pos K (show (0 : Int) < 5 by decide); omega, Int.tmod_lt_of_pos K (by decide)⟩
    have h2 : fvI (rmI K 5) = rmI K 5 + 5 := by unfold fvI wrap64; omega
    rw [h2]
    have e : rmI (rmI K 5 + 5) 5 = (rmI K 5 + 5).tmod 5 := rfl
    rw [e, Int.tmod_eq_emod_of_nonneg (by omega)]; omega

/-! ### What is kept -/
def u64v (x : Nat) : Value := .int .u64 (x : Int)
def mcl (g : Nat × Nat) : List Value := [.int .u64 (g.1 : Int), .int .u64 (g.2 : Int)]
def Sep (v u : Value) : Prop := ∀ g, v.ownBlock = some g → u.ownBlock ≠ some g
theorem Sep.symm {v u : Value} (h : Sep v u) : Sep u v := fun g h1 h2 => h g h2 h1
theorem Sep.none (u : Value) : Sep (.slice none 0 0) u := fun g h => by simp [Value.ownBlock] at h
theorem lown_kept {S : List Nat} {w w' : World} {b : Nat} {e : TypeId} {size : Nat} {v : Value} {n : Nat} {xs : List Value} (h : w.ownsRow b e size v n xs) (hk : Kept S w w') (hS : ∀ k, v.ownBlock = some k → k ∉ S) : w'.ownsRow b e size v n xs := by
  rcases h.2 with h9 | ⟨g, cap, cur, h1, h2, h3, h4⟩
  · exact ⟨h.1, .inl h9⟩
  · subst h1
    exact ⟨h.1, .inr ⟨g, cap, cur, rfl, h2, hk.blk h3 (hS g rfl), h4⟩⟩
structure Lm (w : World) (B ga gb : Nat) (la lb : Ls) (va vt vg : Value) (A T : List Nat) (G : List (Nat × Nat)) : Prop where
  a : Blk w ga 24 la.cs
  b : Blk w gb 24 lb.cs
  rA : w.ownsRow B 22 1 va A.length (A.map u64v)
  rT : w.ownsRow B 22 1 vt T.length (T.map u64v)
  rG : w.ownsRow B 39 2 vg G.length (G.flatMap mcl)
  sAT : Sep va vt
  sAG : Sep va vg
  sTG : Sep vt vg
  la : ga < B
  lb : gb < B
  ne : ga ≠ gb
  lB : B ≤ w.heap.size
section
variable {w w' : World} {B ga gb : Nat} {la lb : Ls} {va vt vg : Value} {A T : List Nat} {G : List (Nat × Nat)}
theorem Lm.kept (h : Lm w B ga gb la lb va vt vg A T G) {S : List Nat} (k : Kept S w w') (hS : ∀ i ∈ S, i < w.heap.size → False) : Lm w' B ga gb la lb va vt vg A T G :=
  ⟨h.a.kept k (fun hm => hS _ hm h.a.lt), h.b.kept k (fun hm => hS _ hm h.b.lt), lown_kept h.rA k (fun i hi hm => hS _ hm (h.rA.lt i hi).2), lown_kept h.rT k (fun i hi hm => hS _ hm (h.rT.lt i hi).2), lown_kept h.rG k (fun i hi hm => hS _ hm (h.rG.lt i hi).2), h.sAT, h.sAG, h.sTG, h.la, h.lb, h.ne, Nat.le_trans h.lB k.size⟩
theorem Lm.later (h : Lm w B ga gb la lb va vt vg A T G) (k : Below w.heap.size w w') : Lm w' B ga gb la lb va vt vg A T G := h.kept (Kept.of_below [] k) (by simp)
theorem Lm.setA (h : Lm w B ga gb la lb va vt vg A T G) (l : Ls) : Lm (w.setRow ga l.cs) B ga gb l lb va vt vg A T G := by
  have k : Kept [ga] w (w.setRow ga l.cs) := (Kept.refl [ga] w).setRow (.inl (by simp)) _
  exact ⟨h.a.row _, h.b.kept k (by have := h.ne; simp; omega), lown_kept h.rA k (fun i hi hm => by have := (h.rA.lt i hi).1; have := h.la; simp at hm; omega), lown_kept h.rT k (fun i hi hm => by have := (h.rT.lt i hi).1; have := h.la; simp at hm; omega), lown_kept h.rG k (fun i hi hm => by have := (h.rG.lt i hi).1; have := h.la; simp at hm; omega), h.sAT, h.sAG, h.sTG, h.la, h.lb, h.ne, Nat.le_trans h.lB k.size⟩
theorem Lm.setB (h : Lm w B ga gb la lb va vt vg A T G) (l : Ls) : Lm (w.setRow gb l.cs) B ga gb la l va vt vg A T G := by
  have k : Kept [gb] w (w.setRow gb l.cs) := (Kept.refl [gb] w).setRow (.inl (by simp)) _
  exact ⟨h.a.kept k (by have := h.ne; simp; omega), h.b.row _, lown_kept h.rA k (fun i hi hm => by have := (h.rA.lt i hi).1; have := h.lb; simp at hm; omega), lown_kept h.rT k (fun i hi hm => by have := (h.rT.lt i hi).1; have := h.lb; simp at hm; omega), lown_kept h.rG k (fun i hi hm => by have := (h.rG.lt i hi).1; have := h.lb; simp at hm; omega), h.sAT, h.sAG, h.sTG, h.la, h.lb, h.ne, Nat.le_trans h.lB k.size⟩
theorem grown_kept {row : Option Nat} (hg : w.grownBy w' row) : Kept row.toList w w' := (Kept.refl _ _).grown hg (fun j hj => by rw [hj]; simp)
theorem own_apart {v u : Value} {e : TypeId} {z n : Nat} {xs : List Value} (hs : Sep v u) (hu : w.ownsRow B e z u n xs) {g : Nat} (hug : u.ownBlock = some g) : g ∉ v.ownBlock.toList := fun hm => hs g (by simpa using hm) hug
theorem sep_new {v v' u : Value} {e : TypeId} {z n : Nat} {xs : List Value} (hs : Sep v u) (hu : w.ownsRow B e z u n xs) (h : v'.ownBlock = v.ownBlock ∨ v'.ownBlock = some w.heap.size) : Sep v' u := by
  intro g h1 h2
  rcases h with h | h
  · exact hs g (by rw [← h]; exact h1) h2
  · rw [h] at h1
    have := (hu.lt g h2).2
    injection h1 with h1
    omega
theorem own_ge {v : Value} {e : TypeId} {z n : Nat} {xs : List Value} (hu : w.ownsRow B e z v n xs) {g : Nat} (hg : g < B) : g ∉ v.ownBlock.toList := fun hm => by
  have := (hu.lt g (by simpa using hm)).1
  omega
theorem Lm.appA (h : Lm w B ga gb la lb va vt vg A T G) {va' : Value} {A' : List Nat} (ho : w'.ownsRow B 22 1 va' A'.length (A'.map u64v)) (hg : w.grownBy w' va.ownBlock) (hn : va'.ownBlock = va.ownBlock ∨ va'.ownBlock = some w.heap.size) : Lm w' B ga gb la lb va' vt vg A' T G := by
  have k := grown_kept hg
  exact ⟨h.a.kept k (own_ge h.rA h.la), h.b.kept k (own_ge h.rA h.lb), ho, lown_kept h.rT k (fun i hi => own_apart h.sAT h.rT hi), lown_kept h.rG k (fun i hi => own_apart h.sAG h.rG hi), sep_new h.sAT h.rT hn, sep_new h.sAG h.rG hn, h.sTG, h.la, h.lb, h.ne, Nat.le_trans h.lB k.size⟩
theorem Lm.appT (h : Lm w B ga gb la lb va vt vg A T G) {vt' : Value} {T' : List Nat} (ho : w'.ownsRow B 22 1 vt' T'.length (T'.map u64v)) (hg : w.grownBy w' vt.ownBlock) (hn : vt'.ownBlock = vt.ownBlock ∨ vt'.ownBlock = some w.heap.size) : Lm w' B ga gb la lb va vt' vg A T' G := by
  have k := grown_kept hg
  exact ⟨h.a.kept k (own_ge h.rT h.la), h.b.kept k (own_ge h.rT h.lb), lown_kept h.rA k (fun i hi => own_apart h.sAT.symm h.rA hi), ho, lown_kept h.rG k (fun i hi => own_apart h.sTG h.rG hi), (sep_new h.sAT.symm h.rA hn).symm, h.sAG, sep_new h.sTG h.rG hn, h.la, h.lb, h.ne, Nat.le_trans h.lB k.size⟩
theorem Lm.appG (h : Lm w B ga gb la lb va vt vg A T G) {vg' : Value} {G' : List (Nat × Nat)} (ho : w'.ownsRow B 39 2 vg' G'.length (G'.flatMap mcl)) (hg : w.grownBy w' vg.ownBlock) (hn : vg'.ownBlock = vg.ownBlock ∨ vg'.ownBlock = some w.heap.size) : Lm w' B ga gb la lb va vt vg' A T G' := by
  have k := grown_kept hg
  exact ⟨h.a.kept k (own_ge h.rG h.la), h.b.kept k (own_ge h.rG h.lb), lown_kept h.rA k (fun i hi => own_apart h.sAG.symm h.rA hi), lown_kept h.rT k (fun i hi => own_apart h.sTG.symm h.rT hi), ho, h.sAT, (sep_new h.sAG.symm h.rA hn).symm, (sep_new h.sTG.symm h.rT hn).symm, h.la, h.lb, h.ne, Nat.le_trans h.lB k.size⟩
end
/-! ### Why one alone holds -/
/-- What the law's own lists say of the two clocks; z is 12, or 13 in the midst of a round. -/
structure Oi (la lb : Ls) (A T : List Nat) (G : List (Nat × Nat)) (k z : Nat) : Prop where
  an : la.n ≤ 1000000 + k
  bn : lb.n ≤ 1000000 + k
  ap : la.p = 0
  ah : la.h ≤ la.n + 8
  bh : lb.h = 0
  bp : lb.p ≤ lb.n + 12
  Ak : A.length ≤ k
  Tk : T.length ≤ k
  Tl : T.length = G.length
  Al : ∀ i, i < A.length → A.getD i 0 ≤ la.n
  To : ∀ i, i < G.length → T.getD i 0 ≤ (G.getD i (0, 0)).1
  Gl : ∀ i, i < G.length → (G.getD i (0, 0)).1 ≤ la.n ∧ (G.getD i (0, 0)).2 ≤ lb.n ∧ (G.getD i (0, 0)).2 + 12 ≤ lb.p
  hd : la.h = 0 ∨ ∃ i, i < G.length ∧ la.h = T.getD i 0 + 8
  key : ∀ i, i < G.length → (G.getD i (0, 0)).2 + z ≤ lb.n → (G.getD i (0, 0)).1 + 8 ≤ la.n
theorem Oi.start (f s : Nat) (hf : f < 1000000) (hs : s < 1000000) : Oi ⟨f, 0, 0⟩ ⟨s, 0, 0⟩ [] [] [] 0 12 :=
  ⟨by show f ≤ _; omega, by show s ≤ _; omega, rfl, by show 0 ≤ _; omega, rfl, by show 0 ≤ _; omega, by simp, by simp, rfl, fun i hi => by simp at hi, fun i hi => by simp at hi, fun i hi => by simp at hi, .inl rfl, fun i hi => by simp at hi⟩
section
variable {la lb : Ls} {A T : List Nat} {G : List (Nat × Nat)} {k : Nat}
theorem Oi.stay (h : Oi la lb A T G k 12) : Oi la lb A T G (k + 1) 13 :=
  ⟨by have := h.an; omega, by have := h.bn; omega, h.ap, h.ah, h.bh, h.bp, by have := h.Ak; omega, by have := h.Tk; omega, h.Tl, h.Al, h.To, h.Gl, h.hd, fun i hi h1 => h.key i hi (by omega)⟩
theorem Oi.tickA (h : Oi la lb A T G k 12) : Oi (tickL la) lb A T G (k + 1) 13 :=
  ⟨by have := h.an; show la.n + 1 ≤ _; omega, by have := h.bn; omega, h.ap, by have := h.ah; show la.h ≤ la.n + 1 + 8; omega, h.bh, h.bp, by have := h.Ak; omega, by have := h.Tk; omega, h.Tl, fun i hi => by have := h.Al i hi; show _ ≤ la.n + 1; omega, h.To, fun i hi => by have := h.Gl i hi; exact ⟨by show _ ≤ la.n + 1; omega, this.2⟩, h.hd, fun i hi h1 => by have := h.key i hi (by omega); show _ ≤ la.n + 1; omega⟩
theorem Oi.tickB (h : Oi la lb A T G k 12) : Oi la (tickL lb) A T G (k + 1) 13 :=
  ⟨by have := h.an; omega, by have := h.bn; show lb.n + 1 ≤ _; omega, h.ap, h.ah, h.bh, by have := h.bp; show lb.p ≤ lb.n + 1 + 12; omega, by have := h.Ak; omega, by have := h.Tk; omega, h.Tl, h.Al, h.To, fun i hi => by have := h.Gl i hi; exact ⟨this.1, by show _ ≤ lb.n + 1; omega, this.2.2⟩, h.hd, fun i hi h1 => h.key i hi (by have h2 : _ ≤ lb.n + 1 := h1; omega)⟩
theorem getD_snoc {α : Type} (l : List α) (x d : α) (i : Nat) (hi : i < (l ++ [x]).length) : (i < l.length ∧ (l ++ [x]).getD i d = l.getD i d) ∨ (i = l.length ∧ (l ++ [x]).getD i d = x) := by
  simp at hi
  by_cases h : i < l.length
  · exact .inl ⟨h, by simp [List.getD, List.getElem?_append, h]⟩
  · obtain rfl : i = l.length := by omega
    exact .inr ⟨rfl, by simp [List.getD]⟩
theorem Oi.ask (h : Oi la lb A T G k 12) : Oi la lb (A ++ [la.n]) T G (k + 1) 13 :=
  ⟨by have := h.an; omega, by have := h.bn; omega, h.ap, h.ah, h.bh, h.bp, by have := h.Ak; simp; omega, by have := h.Tk; omega, h.Tl, fun i hi => by
    rcases getD_snoc A la.n 0 i hi with ⟨h1, h2⟩ | ⟨h1, h2⟩
    · rw [h2]; exact h.Al i h1
    · rw [h2]; exact Nat.le_refl _, h.To, h.Gl, h.hd, fun i hi h1 => h.key i hi (by omega)⟩
theorem Oi.grant (h : Oi la lb A T G k 12) {j : Nat} (hj : j < A.length) : Oi la (grantL lb) A (T ++ [A.getD j 0]) (G ++ [(la.n, lb.n)]) (k + 1) 13 := by
  have hT := h.Tl
  have hmx : lb.p ≤ (grantL lb).p ∧ lb.n + 12 ≤ (grantL lb).p ∧ (grantL lb).p ≤ lb.n + 12 := by
    have := h.bp
    show lb.p ≤ max lb.p (lb.n + 12) ∧ lb.n + 12 ≤ max lb.p (lb.n + 12) ∧ max lb.p (lb.n + 12) ≤ lb.n + 12
    omega
  refine ⟨by have := h.an; omega, by have := h.bn; show lb.n ≤ _; omega, h.ap, h.ah, h.bh, hmx.2.2, by have := h.Ak; omega, by have := h.Tk; simp; omega, by simp; exact hT, h.Al, fun i hi => ?_, fun i hi => ?_, ?_, fun i hi h1 => ?_⟩
  · rcases getD_snoc G (la.n, lb.n) (0, 0) i hi with ⟨h1, h2⟩ | ⟨h1, h2⟩
    · rcases getD_snoc T (A.getD j 0) 0 i (by simp; omega) with ⟨h3, h4⟩ | ⟨h3, h4⟩
      · rw [h2, h4]; exact h.To i h1
      · omega
    · rcases getD_snoc T (A.getD j 0) 0 i (by simp; omega) with ⟨h3, h4⟩ | ⟨h3, h4⟩
      · omega
      · rw [h2, h4]; exact h.Al j hj
  · rcases getD_snoc G (la.n, lb.n) (0, 0) i hi with ⟨h1, h2⟩ | ⟨h1, h2⟩
    · rw [h2]
      have := h.Gl i h1
      exact ⟨this.1, this.2.1, by omega⟩
    · rw [h2]
      exact ⟨Nat.le_refl _, Nat.le_refl _, hmx.2.1⟩
  · rcases h.hd with h1 | ⟨i, hi, h1⟩
    · exact .inl h1
    · refine .inr ⟨i, by simp; omega, ?_⟩
      rw [h1]
      rcases getD_snoc T (A.getD j 0) 0 i (by simp; omega) with ⟨h3, h4⟩ | ⟨h3, h4⟩
      · rw [h4]
      · omega
  · rcases getD_snoc G (la.n, lb.n) (0, 0) i hi with ⟨h2, h3⟩ | ⟨h2, h3⟩
    · rw [h3] at h1 ⊢
      have h4 : _ ≤ lb.n := h1
      exact h.key i h2 (by omega)
    · rw [h3] at h1
      have h4 : lb.n + 13 ≤ lb.n := h1
      omega
theorem Oi.told (h : Oi la lb A T G k 12) {j : Nat} (hj : j < T.length) : Oi (grantedL la (T.getD j 0)) lb A T G (k + 1) 13 := by
  have hT := h.Tl
  have h1 := h.To j (by omega)
  have h2 := (h.Gl j (by omega)).1
  refine ⟨by have := h.an; show la.n ≤ _; omega, by have := h.bn; omega, h.ap, ?_, h.bh, h.bp, by have := h.Ak; omega, by have := h.Tk; omega, h.Tl, h.Al, h.To, h.Gl, ?_, fun i hi h3 => h.key i hi (by omega)⟩
  · have := h.ah
    show max la.h (T.getD j 0 + 8) ≤ la.n + 8
    omega
  · show max la.h (T.getD j 0 + 8) = 0 ∨ ∃ i, i < G.length ∧ max la.h (T.getD j 0 + 8) = T.getD i 0 + 8
    by_cases hm : la.h ≤ T.getD j 0 + 8
    · exact .inr ⟨j, by omega, by omega⟩
    · rcases h.hd with h4 | ⟨i, hi, h4⟩
      · omega
      · exact .inr ⟨i, hi, by omega⟩
/-- The clocks have kept within the bound. -/
theorem Oi.within (h : Oi la lb A T G k 13) (hw : ∀ i, i < G.length → ¬ (lb.n - (G.getD i (0, 0)).2 ≤ 12 ∧ la.n - (G.getD i (0, 0)).1 + 4 < lb.n - (G.getD i (0, 0)).2)) : Oi la lb A T G k 12 := by
  refine ⟨h.an, h.bn, h.ap, h.ah, h.bh, h.bp, h.Ak, h.Tk, h.Tl, h.Al, h.To, h.Gl, h.hd, fun i hi h1 => ?_⟩
  have h2 := hw i hi
  have h3 := h.Gl i hi
  by_cases h4 : (G.getD i (0, 0)).2 + 13 ≤ lb.n
  · exact h.key i hi h4
  · omega
theorem Oi.one (h : Oi la lb A T G k 12) : ¬ (la.n < la.h ∧ lb.p ≤ lb.n) := by
  rintro ⟨h1, h2⟩
  rcases h.hd with h3 | ⟨i, hi, h3⟩
  · omega
  · have h4 := h.To i hi
    have h5 := h.Gl i hi
    have h6 := h.key i hi (by omega)
    omega
theorem Oi.okA {z : Nat} (h : Oi la lb A T G k z) (hk : k ≤ 301) : la.ok = true ∧ la.late = 0 := by
  have h1 := h.an
  have h2 := h.ah
  have h3 := h.ap
  have h4 : la.ok = true := by simp [Ls.ok]; omega
  refine ⟨h4, ?_⟩
  unfold Ls.late; rw [h4]; simp; omega
theorem Oi.okB {z : Nat} (h : Oi la lb A T G k z) (hk : k ≤ 301) : lb.ok = true ∧ lb.late = 0 := by
  have h1 := h.bn
  have h2 := h.bh
  have h3 := h.bp
  have h4 : lb.ok = true := by simp [Ls.ok]; omega
  refine ⟨h4, ?_⟩
  unfold Ls.late; rw [h4]; simp; omega
end
theorem own_slice64 {w : World} {B n : Nat} {v : Value} {l : List Nat} (h : w.ownsRow B 22 1 v n (l.map u64v)) (hn : 0 < n) : ∃ g c, v = .slice (some ⟨g, 0, none⟩) n c ∧ ∀ i, i < n → w.cell? ⟨g, i, none⟩ = some (.int .u64 ((l.getD i 0 : Nat) : Int)) := by
  rcases h.2 with ⟨rfl, h0⟩ | ⟨g, c, C, rfl, hB, _⟩
  · omega
  · refine ⟨g, c, rfl, fun i hi => ?_⟩
    rw [h.cellAt i (by omega)]
    have hl := h.1
    simp at hl
    simp [u64v, List.getD, show i < l.length by omega]
theorem own_slicel {w : World} {B n z : Nat} {e : TypeId} {v : Value} {xs : List Value} (h : w.ownsRow B e z v n xs) : ∃ a c, v = .slice a n c := by
  rcases h.2 with ⟨rfl, h0⟩ | ⟨g, c, C, rfl, hB, _⟩
  · exact ⟨_, _, by rw [h0]⟩
  · exact ⟨_, _, rfl⟩
/-! ### Appends -/
theorem i_u64 : (Try.prog.info? 22).map (fun i => (i.zero, i.size, i.bytes)) = some (some (.int .u64 0), 1, 8) := by kernel_rfl
theorem i_mom : (Try.prog.info? 39).map (fun i => (i.zero, i.size, i.bytes)) = some (some (.agg #[.int .u64 0, .int .u64 0]), 2, 16) := by kernel_rfl
theorem linfo_parts {P : Program} {e : TypeId} {z : Value} {s b : Nat} (h : (P.info? e).map (fun i => (i.zero, i.size, i.bytes)) = some (some z, s, b)) : ∃ i, P.info? e = some i ∧ i.zero = some z ∧ i.size = s ∧ i.bytes = b := by
  cases hi : P.info? e with
  | none => rw [hi] at h; cases h
  | some i =>
    rw [hi] at h
    simp at h
    exact ⟨i, rfl, h.1, h.2.1, h.2.2⟩
theorem wpList_append_u64 {w : World} {ops : Array Oper} {rest : List Oper} {o : Oper} {a : Act} {Q : Exit → Act → World → Prop} (hgd : o.guard = none) (s x : Operand)
    (ho : o.op = .call { callee := .builtin .append, args := #[s, x], argTypes := #[34, 34] })
    (B : Nat) (v : Value) (n : Nat) (l : List Nat) (hs : a.eval s = v) (hown : w.ownsRow B 22 1 v n (l.map u64v)) (ad : Addr) (y : Nat) (hx : a.eval x = .slice (some ad) 1 1) (hc : w.cell? ad = some (u64v y)) (hn : n ≤ 1000) (hB : B ≤ w.heap.size)
    (h : ∀ v' w', w'.ownsRow B 22 1 v' (n + 1) ((l ++ [y]).map u64v) → w.grownBy w' v.ownBlock → (v'.ownBlock = v.ownBlock ∨ v'.ownBlock = some w.heap.size) → wpList Try.prog ops Q rest (a.put o.dst v') w') : wpList Try.prog ops Q (o :: rest) a w := by
  obtain ⟨i0, hi, hz0, hz1, hz2⟩ := linfo_parts i_u64
  refine wpList_append_own_at w hgd s x 34 ho B 22 i0 (.int .u64 0) 1 8 Try.underlying34 hi hz0 hz1 hz2 rfl (by decide) v n (l.map u64v) hs hown ad 1 1 [u64v y] hx rfl ?_ (by simp [u64v, Value.oneCell']) (by unfold maxLen; omega) (by omega) hB (fun v' w' h1 h2 _ h4 => h v' w' (by simpa using h1) h2 h4)
  intro j u hj
  match j, hj with
  | 0, hj =>
    simp at hj
    subst hj
    have e : ad.add 0 = ad := by cases ad with | mk b o sp => cases sp <;> simp [Addr.add]
    rw [e]; exact hc
theorem wpList_append_mom {w : World} {ops : Array Oper} {rest : List Oper} {o : Oper} {a : Act} {Q : Exit → Act → World → Prop} (hgd : o.guard = none) (s x : Operand)
    (ho : o.op = .call { callee := .builtin .append, args := #[s, x], argTypes := #[35, 35] })
    (B : Nat) (v : Value) (n : Nat) (l : List (Nat × Nat)) (hs : a.eval s = v) (hown : w.ownsRow B 39 2 v n (l.flatMap mcl)) (g : Nat) (y : Nat × Nat) (hx : a.eval x = .slice (some ⟨g, 0, none⟩) 1 1) (hc : Blk w g 39 (mcl y).toArray) (hn : n ≤ 1000) (hB : B ≤ w.heap.size)
    (h : ∀ v' w', w'.ownsRow B 39 2 v' (n + 1) ((l ++ [y]).flatMap mcl) → w.grownBy w' v.ownBlock → (v'.ownBlock = v.ownBlock ∨ v'.ownBlock = some w.heap.size) → wpList Try.prog ops Q rest (a.put o.dst v') w') : wpList Try.prog ops Q (o :: rest) a w := by
  obtain ⟨i0, hi, hz0, hz1, hz2⟩ := linfo_parts i_mom
  refine wpList_append_own_at w hgd s x 35 ho B 39 i0 (.agg #[.int .u64 0, .int .u64 0]) 2 16 Try.underlying35 hi hz0 hz1 hz2 rfl (by decide) v n (l.flatMap mcl) hs hown ⟨g, 0, none⟩ 1 1 (mcl y) hx rfl ?_ (by simp [mcl, Value.oneCell']) (by unfold maxLen; omega) (by omega) hB (fun v' w' h1 h2 _ h4 => h v' w' (by simpa using h1) h2 h4)
  intro j u hj
  rw [Addr.add_lit, Nat.zero_add, hc.cell]
  simpa using hj
/-- A moment of those that were granted. -/
theorem own_mom {w : World} {B n : Nat} {v : Value} {l : List (Nat × Nat)} (h : w.ownsRow B 39 2 v n (l.flatMap mcl)) (hl : l.length = n) (hn : 0 < n) : ∃ g c, v = .slice (some ⟨g, 0, none⟩) n c ∧ ∀ i, i < n → w.cell? ⟨g, i * 2, none⟩ = some (.int .u64 (((l.getD i (0, 0)).1 : Nat) : Int)) ∧ w.cell? ⟨g, i * 2 + 1, none⟩ = some (.int .u64 (((l.getD i (0, 0)).2 : Nat) : Int)) := by
  rcases h.2 with ⟨rfl, h0⟩ | ⟨g, c, C, rfl, hB, _⟩
  · omega
  · have key : ∀ (l : List (Nat × Nat)) (i : Nat), i < l.length → (l.flatMap mcl)[i * 2]? = some (.int .u64 (((l.getD i (0, 0)).1 : Nat) : Int)) ∧ (l.flatMap mcl)[i * 2 + 1]? = some (.int .u64 (((l.getD i (0, 0)).2 : Nat) : Int)) := by
      intro l
      induction l with
      | nil => intro i hi; simp at hi
      | cons x r ih =>
        intro i hi
        cases i with
        | zero => simp [mcl]
        | succ i =>
          have := ih i (by simpa using hi)
          rw [List.flatMap_cons]
          rw [List.getElem?_append_right (by simp [mcl]; omega), List.getElem?_append_right (by simp [mcl]; omega)]
          have e1 : (i + 1) * 2 - (mcl x).length = i * 2 := by simp [mcl]; omega
          have e2 : (i + 1) * 2 + 1 - (mcl x).length = i * 2 + 1 := by simp [mcl]; omega
          rw [e1, e2]
          simpa using this
    refine ⟨g, c, rfl, fun i hi => ?_⟩
    rw [h.cellAt (i * 2) (by omega), h.cellAt (i * 2 + 1) (by omega)]
    exact key l i (by omega)
theorem i_mom2 : (Try.prog.info? 39).map (·.size) = some 2 := by kernel_rfl
theorem load_mom_rule (v : Value) : Instr.loadAt 39 v = loadSem 39 v := rfl
theorem store_mom_rule (v x : Value) : Instr.storeAt 39 v x = storeSem 39 v x := rfl
theorem ld_mom {w : World} {g o : Nat} {x y : Nat} (h1 : w.cell? ⟨g, o, none⟩ = some (.int .u64 (x : Int))) (h2 : w.cell? ⟨g, o + 1, none⟩ = some (.int .u64 (y : Int))) : (loadSem 39 (.pointer (some ⟨g, o, none⟩))).run Try.prog w = .ok (.agg #[.int .u64 x, .int .u64 y]) w :=
  run_loadAt_mid (P := Try.prog) w g o 39 [.int .u64 x, .int .u64 y] _ (fun j v hj => by
    match j, hj with
    | 0, hj => simp at hj; subst hj; exact h1
    | 1, hj => simp at hj; subst hj; exact h2) Try.underlying39 rfl i_mom2
theorem mom_new (x y : Nat) (W : World) : (storeSem 39 (.pointer (some ⟨W.heap.size, 0, none⟩)) (.agg #[.int .u64 x, .int .u64 y])).run Try.prog (W.alloc (.cells #[.int .u64 0, .int .u64 0] 39)) = .ok () (W.alloc (.cells #[.int .u64 x, .int .u64 y] 39)) := by
  have h := storeRes_of (P := Try.prog) (ty := 39) (o := 0) (vs := #[.int .u64 x, .int .u64 y]) (Blk.new W 39 #[.int .u64 0, .int .u64 0]) (by simp) i_mom2 (by simp [Value.oneCell'])
  rw [over_all (by simp)] at h
  have e : (W.alloc (.cells #[.int .u64 0, .int .u64 0] 39)).setRow W.heap.size #[.int .u64 x, .int .u64 y] = W.alloc (.cells #[.int .u64 x, .int .u64 y] 39) := by
    exact World.setRow_alloc_new _ _ _ _
  rw [e] at h
  exact h
end Go.Proofs.Ytgmagnmbbhekjaa
