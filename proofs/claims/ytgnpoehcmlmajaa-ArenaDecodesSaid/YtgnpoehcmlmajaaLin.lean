/-
  A region that draws its order, walked once in the order of the text: where each operation gives its value in every world that meets S and leaves a world that meets S. Nothing here is a statement of the document.
-/
import Derived.Test.YtgnpoehcmlmajaaDskB
import Derived.RangeFuncNested
import Derived.RangeFuncBound
import Derived.RangeFuncCalls
import Derived.RangeFuncLeaves
import Derived.RangeFuncBox
import Derived.OwnWalkIn
import Derived.TacticsInMore
import Derived.LoopNIn
import Derived.LoopIn
import Derived.Test.YtgnpoehcmlmajaaRows
import Derived.WalkKit
import Derived.Shelf.Abstract
namespace Go.Proofs.Ytgnpoehcmlmajaa
open Go.RowKit
set_option linter.unusedVariables false

section
variable {P : Program}

/-- An operation whose run is known, in a plain list. -/
theorem wpList_run {ops : Array Oper} {rest : List Oper} {o : Oper} {a : Act} {w w' : World} {v : Value} {Q : Exit → Act → World → Prop} (hgd : o.guard = none) (hr : ∀ K : Act → World → Prop, K (a.put o.dst v) w' → o.wp P a w K Q)
    (h : wpList P ops Q rest (a.put o.dst v) w') : wpList P ops Q (o :: rest) a w := wpList_plain hgd fun K hK => hr K (hK _ _ h)

theorem wpListIn_load_blk {F : Fence} {n : Nat} {ops : Array Oper} {rest : List Oper} {op : Oper} {a : Act} {w : World} {Q : Exit → Act → World → Prop} (hgd : op.guard = none) (ty : TypeId) (x : Operand) (ho : op.op = .load ty x)
    (g o : Nat) (hx : a.eval x = .pointer (some ⟨g, o, none⟩)) (vs C : Array Value) (t : TypeId) (h : Blk w g t C) (hv : ∀ j, j < vs.size → C[o + j]? = vs[j]?) (d : TypeDesc)
    (hu : P.underlying ty = some d) (hd : d.isRow = true) (hi : (P.info? ty).map (·.size) = some vs.size)
    (hK : wpListIn F n P ops Q rest (a.put op.dst (.agg vs)) w) : wpListIn F n P ops Q (op :: rest) a w := by
  refine wpListIn_plain hgd fun K hK' => ?_
  have hrun := run_loadVar_mid (P := P) w g o ty vs.toList d (fun j v hj => by
    have hl : j < vs.size := by simpa using (List.getElem?_eq_some_iff.1 hj).1
    rw [h.cell, hv j hl]; simpa using hj) hu hd (by simpa using hi)
  unfold Oper.wpIn
  refine ⟨?_, ?_⟩
  · simp [Oper.about, ho]
  · rw [Oper.semAt_plain F _ _ (by rw [ho]; intro c hc'; cases hc')]
    simp only [execOp, ho, hx, Instr.loadAt, Instr.sureAddr, Sem.run_bind, Sem.run_pure, Result.andThen_ok, hrun]
    exact hK' _ _ hK

theorem wpListIn_store_blk {F : Fence} {n : Nat} {ops : Array Oper} {rest : List Oper} {op : Oper} {a : Act} {w : World} {Q : Exit → Act → World → Prop} (hgd : op.guard = none) (ty : TypeId) (x y : Operand) (ho : op.op = .store ty x y)
    (g o : Nat) (vs C : Array Value) (t : TypeId) (hx : a.eval x = .pointer (some ⟨g, o, none⟩)) (hy : a.eval y = .agg vs) (h : Blk w g t C) (hl : o + vs.size ≤ C.size)
    (hi : (P.info? ty).map (·.size) = some vs.size) (h1 : vs.all (·.oneCell') = true)
    (hK : wpListIn F n P ops Q rest (a.put op.dst undef) (w.setRow g (over C o vs))) : wpListIn F n P ops Q (op :: rest) a w := by
  refine wpListIn_plain hgd fun K hK' => ?_
  have hrun := run_storeVar_mid (P := P) w g o ty vs (fun j hj => ⟨by rw [h.cell, Array.getElem?_eq_getElem (by omega)]; rfl, h.free _⟩) hi h1
  rw [setCells_over h o vs hl] at hrun
  unfold Oper.wpIn
  refine ⟨?_, ?_⟩
  · simp [Oper.about, ho]
  · rw [Oper.semAt_plain F _ _ (by rw [ho]; intro c hc'; cases hc')]
    simp only [execOp, ho, hx, hy, Instr.storeAt, Instr.sureAddr, Sem.run_bind, Sem.run_pure, Result.andThen_ok, hrun]
    exact hK' _ _ hK

/-- A new variable of several cells. -/
theorem wpList_alloc_z {ops : Array Oper} {rest : List Oper} {op : Oper} {a : Act} {w : World} {Q : Exit → Act → World → Prop} (hgd : op.guard = none) (ty : TypeId) (ho : op.op = .alloc ty) (zs : Array Value) (k : Nat)
    (hz : (P.info? ty).map (fun i => (i.zero, i.size)) = some (some (.agg zs), k))
    (hK : wpList P ops Q rest (a.put op.dst (.pointer (some ⟨w.heap.size, 0, none⟩))) (w.alloc (.cells zs ty))) : wpList P ops Q (op :: rest) a w := by
  refine wpList_plain hgd fun K hK' => ?_
  have hrun := (zero_of_info hz).1 w
  unfold Oper.wp
  simp [execOp, ho, hrun, newVar, newRow, newObj, Value.cells, Result.andThen, go_sem]
  exact hK' _ _ hK
theorem wpListIn_alloc_z {F : Fence} {n : Nat} {ops : Array Oper} {rest : List Oper} {op : Oper} {a : Act} {w : World} {Q : Exit → Act → World → Prop} (hgd : op.guard = none) (ty : TypeId) (ho : op.op = .alloc ty) (zs : Array Value) (k : Nat)
    (hz : (P.info? ty).map (fun i => (i.zero, i.size)) = some (some (.agg zs), k))
    (hK : wpListIn F n P ops Q rest (a.put op.dst (.pointer (some ⟨w.heap.size, 0, none⟩))) (w.alloc (.cells zs ty))) : wpListIn F n P ops Q (op :: rest) a w := by
  refine wpListIn_plain hgd fun K hK' => ?_
  have hrun := (zero_of_info hz).1 w
  unfold Oper.wpIn
  refine ⟨?_, ?_⟩
  · simp [Oper.about, ho]
  · rw [Oper.semAt_plain F _ _ (by rw [ho]; intro c hc'; cases hc')]
    simp [execOp, ho, hrun, newVar, newRow, newObj, Value.cells, Result.andThen, go_sem]
    exact hK' _ _ hK

/-- A store that fills the variable that was made last. -/
theorem wpList_store_new {ops : Array Oper} {rest : List Oper} {op : Oper} {a : Act} {w : World} {Q : Exit → Act → World → Prop} (hgd : op.guard = none) (ty : TypeId) (x y : Operand) (ho : op.op = .store ty x y)
    (vs C : Array Value) (t : TypeId) (hx : a.eval x = .pointer (some ⟨w.heap.size, 0, none⟩)) (hy : a.eval y = .agg vs) (hC : C.size = vs.size)
    (hi : (P.info? ty).map (·.size) = some vs.size) (h1 : vs.all (·.oneCell') = true)
    (hK : wpList P ops Q rest (a.put op.dst undef) (w.alloc (.cells vs t))) : wpList P ops Q (op :: rest) a (w.alloc (.cells C t)) := by
  refine wpList_store_blk hgd ty x y ho w.heap.size 0 vs C t hx hy (Blk.new w t C) (by omega) hi h1 ?_
  have e : over C 0 vs = vs := by
    simp only [over, splice, List.take_zero, List.nil_append, Nat.zero_add]
    rw [List.drop_eq_nil_of_le (by simp [hC])]
    simp
  rw [e, World.setRow_alloc_new]
  exact hK
theorem wpListIn_store_new {F : Fence} {n : Nat} {ops : Array Oper} {rest : List Oper} {op : Oper} {a : Act} {w : World} {Q : Exit → Act → World → Prop} (hgd : op.guard = none) (ty : TypeId) (x y : Operand) (ho : op.op = .store ty x y)
    (vs C : Array Value) (t : TypeId) (hx : a.eval x = .pointer (some ⟨w.heap.size, 0, none⟩)) (hy : a.eval y = .agg vs) (hC : C.size = vs.size)
    (hi : (P.info? ty).map (·.size) = some vs.size) (h1 : vs.all (·.oneCell') = true)
    (hK : wpListIn F n P ops Q rest (a.put op.dst undef) (w.alloc (.cells vs t))) : wpListIn F n P ops Q (op :: rest) a (w.alloc (.cells C t)) := by
  refine wpListIn_store_blk hgd ty x y ho w.heap.size 0 vs C t hx hy (Blk.new w t C) (by omega) hi h1 ?_
  have e : over C 0 vs = vs := by
    simp only [over, splice, List.take_zero, List.nil_append, Nat.zero_add]
    rw [List.drop_eq_nil_of_le (by simp [hC])]
    simp
  rw [e, World.setRow_alloc_new]
  exact hK
end

theorem over_all {C vs : Array Value} (h : C.size = vs.size) : over C 0 vs = vs := by
  simp only [over, splice, List.take_zero, List.nil_append, Nat.zero_add]
  rw [List.drop_eq_nil_of_le (by simp [h])]
  simp
theorem Rw.cell0 (r : Rw) : r.cs[0]? = some (.int .i64 (r.s : Int)) := by
  unfold Rw.cs
  rw [Array.getElem?_append_left (by simp)]
  rfl
theorem Rw.cell1 (r : Rw) (j : Nat) : r.cs[1 + j]? = r.b.cs[j]? := by
  unfold Rw.cs
  rw [Array.getElem?_append_right (by simp)]
  congr 1
  simp
/-! ### The types' rows -/
def Rw.zero : Rw := ⟨0, Bk.zero⟩
/-! ### Loads and stores of several cells inside a region that draws its order: under one name each, which the walk does not open -/
def loadSem (ty : TypeId) (v : Value) : Sem Value := Instr.loadAt ty v
def storeSem (ty : TypeId) (v x : Value) : Sem Unit := Instr.storeAt ty v x
theorem loadRes_of {P : Program} {w : World} {ty : TypeId} {g o : Nat} {vs C : Array Value} {t : TypeId} (h : Blk w g t C) (hv : ∀ j, j < vs.size → C[o + j]? = vs[j]?) (d : TypeDesc)
    (hu : P.underlying ty = some d) (hd : d.isRow = true) (hi : (P.info? ty).map (·.size) = some vs.size) : (loadSem ty (.pointer (some ⟨g, o, none⟩))).run P w = .ok (.agg vs) w := by
  have := run_loadAt_mid (P := P) w g o ty vs.toList d (fun j v hj => by
    have hl : j < vs.size := by simpa using (List.getElem?_eq_some_iff.1 hj).1
    rw [h.cell, hv j hl]; simpa using hj) hu hd (by simpa using hi)
  exact this
theorem storeRes_of {P : Program} {w : World} {ty : TypeId} {g o : Nat} {vs C : Array Value} {t : TypeId} (h : Blk w g t C) (hl : o + vs.size ≤ C.size)
    (hi : (P.info? ty).map (·.size) = some vs.size) (h1 : vs.all (·.oneCell') = true) : (storeSem ty (.pointer (some ⟨g, o, none⟩)) (.agg vs)).run P w = .ok () (w.setRow g (over C o vs)) := by
  have hrun := run_storeAt_mid (P := P) w g o ty vs (fun j hj => ⟨by rw [h.cell, Array.getElem?_eq_getElem (by omega)]; rfl, h.free _⟩) hi h1
  rw [setCells_over h o vs hl] at hrun
  exact hrun

/-! ### rows -/
/-! ### The iterator -/

/-- The buffer's block is as it was. -/
def SameBuf (bv : Value) (W W' : World) : Prop := ∀ k, bv.ownBlock = some k → W'.heap[k]? = W.heap[k]?
theorem SameBuf.refl (bv : Value) (W : World) : SameBuf bv W W := fun _ _ => rfl
theorem SameBuf.trans {bv : Value} {A B C : World} (h : SameBuf bv A B) (k : SameBuf bv B C) : SameBuf bv A C := fun i hi => (k i hi).trans (h i hi)

/-- What a round is handed: a place, and the row that stands there. -/
abbrev RowAt (R : List Rw) : Type := { x : Nat × Rw // R[x.1]? = some x.2 }
def encR (R : List Rw) (x : RowAt R) : Array Value := #[.int .i64 (x.1.1 : Int), .agg x.1.2.cs]
def rowAt (R : List Rw) (i : Fin R.length) : RowAt R := ⟨(i.1, R[i.1]'i.2), by simp⟩
/-- The first k rows with their places. -/
def upTo (R : List Rw) (k : Nat) : List (RowAt R) := ((List.finRange R.length).take k).map (rowAt R)
theorem upTo_zero (R : List Rw) : upTo R 0 = [] := by simp [upTo]
theorem upTo_succ {R : List Rw} {k : Nat} (x : RowAt R) (h : x.1.1 = k) : upTo R (k + 1) = upTo R k ++ [x] := by
  subst h
  have hl : x.1.1 < R.length := (List.getElem?_eq_some_iff.1 x.2).1
  unfold upTo
  rw [List.take_succ_eq_append_getElem (by simpa using hl), List.map_append]
  congr 1
  have e : R[x.1.1] = x.1.2 := (List.getElem?_eq_some_iff.1 x.2).2
  simp [rowAt, e]
theorem upTo_length {R : List Rw} {k : Nat} (h : k ≤ R.length) : (upTo R k).length = k := by simp [upTo]; omega
theorem upTo_rows {R : List Rw} {k : Nat} (h : k ≤ R.length) : (upTo R k).map (·.1.2) = R.take k := by
  apply List.ext_getElem
  · simp [upTo]
  · intro i h1 h2
    simp [upTo, rowAt]
theorem upTo_places {R : List Rw} {k : Nat} (h : k ≤ R.length) : (upTo R k).map (·.1.1) = List.range k := by
  apply List.ext_getElem
  · simp [upTo]; omega
  · intro i h1 h2
    simp [upTo, rowAt]

attribute [local go_sem] Oper.semAt_some

theorem same_t {bv : Value} {A B C : World} (h : SameBuf bv A B) (k : SameBuf bv B C) : SameBuf bv A C := h.trans k
theorem same_b {bv : Value} {w : World} (hb : ∀ k, bv.ownBlock = some k → k < w.heap.size) (W : World) (l : Nat) (o o' : Obj) (hl : w.heap.size ≤ l) (h : W.heap[l]? = some o) (_ : o.isCells = false) (_ : o.isWalk = false) : SameBuf bv W (W.putObj l o') := fun k hk =>
  (grownBy_putObj' W l o').block k (by have := hb k hk; have := (Array.getElem?_eq_some_iff.1 h).1; omega) (fun e => by have := hb k hk; injection e; omega)
end Go.Proofs.Ytgnpoehcmlmajaa
namespace Go.Proofs.Ytgnpoehcmlmajaa
set_option linter.unusedVariables false

section
variable {P : Program} {ops : Array Oper} {Q : Exit → Act → World → Prop} {S : World → Prop}

/-- In every world that meets S the operation gives v, and leaves a world that meets S. -/
def GivesIf (P : Program) (ops : Array Oper) (S : World → Prop) (o : Oper) (v : Value) (a : Act) : Prop :=
  (Region.wanted o (yielded ops a.tmps) = true ∧ ∀ w, S w → ((∃ w', (execOp a.eval o).run P w = .ok (.value v) w' ∧ S w') ∨ ∃ f args, (execOp a.eval o).run P w = .ok (.enter f args) w ∧ Calls P f args w fun e w' => e = .returned v ∧ S w')) ∨
  (Region.wanted o (yielded ops a.tmps) = false ∧ v = undef)
theorem GivesIf.of_same {o : Oper} {v : Value} {a a' : Act} (hy : GivesIf P ops S o v a) (he : execOp a'.eval o = execOp a.eval o)
    (hw : Region.wanted o (yielded ops a'.tmps) = Region.wanted o (yielded ops a.tmps)) : GivesIf P ops S o v a' := by
  unfold GivesIf at *
  rw [he, hw]
  exact hy
theorem GivesIf.wpOp {i : Nat} {o : Oper} {v : Value} {a : Act} (hi : ops[i]? = some o) (hy : GivesIf P ops S o v a) {K : Act → World → Prop} {w : World} (hS : S w) (h : ∀ w', S w' → K (a.put o.dst v) w') : wpOp P ops Q i K a w := by
  unfold Go.wpOp
  simp only [hi]
  rcases hy with ⟨hw, hv⟩ | ⟨hw, rfl⟩
  · simp only [hw, if_true]
    refine .inl ?_
    unfold Oper.wp
    rcases hv w hS with ⟨w', h1, h2⟩ | ⟨f, args, h1, h2⟩
    · rw [h1]
      exact h w' h2
    · rw [h1]
      refine Calls.mono h2 ?_
      rintro e w' ⟨rfl, h3⟩
      exact h w' h3
  · simp only [hw, Bool.false_eq_true, if_false]; exact h w hS
/-- The operations, one behind the other in the order of the text. -/
def Lin (P : Program) (ops : Array Oper) (Q : Exit → Act → World → Prop) (S : World → Prop) : List Oper → Act → Prop
  | [], a => ∀ w, S w → Q .normal a w
  | o :: r, a => ∃ v, GivesIf P ops S o v a ∧ Lin P ops Q S r (a.put o.dst v)

theorem Lin.swap {x y : Oper} {r : List Oper} {a : Act} (hx : ∀ cs b, x.op ≠ .select cs b) (hy : ∀ cs b, y.op ≠ .select cs b) (hap : x.apart ops y = true) (h : Lin P ops Q S (x :: y :: r) a) : Lin P ops Q S (y :: x :: r) a := by
  obtain ⟨h1, h2, h3⟩ := Oper.apart_spec hap
  obtain ⟨vx, gx, vy, gy, h⟩ := h
  refine ⟨vy, gy.of_same ?_ ?_, vx, gx.of_same (execOp_put x hx a y.dst vy h3) (wanted_put x a y.dst vy h3), ?_⟩
  · exact (execOp_put y hy a x.dst vx h1).symm
  · exact (wanted_put y a x.dst vx h1).symm
  · rw [← Act.put_comm a vx vy h2]
    exact h
theorem Lin.front {o : Oper} {T2 : List Oper} (ho : ∀ cs b, o.op ≠ .select cs b) : ∀ (T1 : List Oper) (a : Act), (∀ x ∈ T1, (∀ cs b, x.op ≠ .select cs b) ∧ x.apart ops o = true) → Lin P ops Q S (T1 ++ o :: T2) a → Lin P ops Q S (o :: (T1 ++ T2)) a
  | [], _, _, h => h
  | x :: T1, a, hap, h => by
    obtain ⟨v, g, h⟩ := h
    have h2 := Lin.front ho T1 _ (fun y hy => hap y (by simp [hy])) h
    exact Lin.swap (hap x (by simp)).1 ho (hap x (by simp)).2 ⟨v, g, h2⟩

/-- What is not listed yet, in the order of the text. -/
def unl (ops : Array Oper) (listed : Array Bool) (is : List Nat) : List Oper := is.filterMap fun i => if listed.getD i true then none else ops[i]?
/-- Each operation waits for earlier ones alone, and each earlier one that it does not wait for is apart from it. -/
def linOk (ops : Array Oper) : Bool :=
  Region.noSelect ops && (List.range ops.size).all fun j => match ops[j]? with
    | none => true
    | some oj => oj.after.all (fun e => decide (e.on < j)) && (List.range j).all fun i => match ops[i]? with
      | none => true
      | some oi => oj.after.any (fun e => Region.binds .any e && e.on == i) || oi.apart ops oj
theorem linOk_spec (h : linOk ops = true) (j : Nat) (oj : Oper) (hj : ops[j]? = some oj) :
    (∀ e ∈ oj.after, e.on < j) ∧ ∀ i oi, i < j → ops[i]? = some oi → (∃ e ∈ oj.after, Region.binds .any e = true ∧ e.on = i) ∨ oi.apart ops oj = true := by
  simp only [linOk, Bool.and_eq_true, List.all_eq_true, List.mem_range] at h
  have h1 := h.2 j (Array.getElem?_eq_some_iff.1 hj).1
  simp only [hj, Bool.and_eq_true, List.all_eq_true, List.mem_range, Array.all_eq_true_iff_forall_mem, decide_eq_true_eq] at h1
  refine ⟨h1.1, fun i oi hi ho => ?_⟩
  have h2 := h1.2 i hi
  simp only [ho, Bool.or_eq_true] at h2
  rcases h2 with h2 | h2
  · obtain ⟨e, he, hb⟩ := Array.any_eq_true'.1 h2
    simp only [Bool.and_eq_true, beq_iff_eq] at hb
    exact .inl ⟨e, he, hb⟩
  · exact .inr h2
theorem unl_set (listed : Array Bool) (j : Nat) : ∀ (is : List Nat), j ∉ is → unl ops (listed.setIfInBounds j true) is = unl ops listed is
  | [], _ => rfl
  | i :: is, h => by
    have hne : j ≠ i := fun e => h (by simp [e])
    have ih := unl_set listed j is (fun e => h (by simp [e]))
    unfold unl at *
    simp only [List.filterMap_cons]
    rw [getD_set_ne true hne, ih]
theorem unl_app (listed : Array Bool) (is js : List Nat) : unl ops listed (is ++ js) = unl ops listed is ++ unl ops listed js := by simp [unl]
theorem unl_mem {listed : Array Bool} {is : List Nat} {x : Oper} (h : x ∈ unl ops listed is) : ∃ i ∈ is, listed.getD i true = false ∧ ops[i]? = some x := by
  obtain ⟨i, hi, h⟩ := List.mem_filterMap.1 h
  refine ⟨i, hi, ?_⟩
  cases hb : listed.getD i true with
  | true => rw [hb] at h; simp at h
  | false => rw [hb] at h; simpa using h
theorem range_split {j n : Nat} (h : j < n) : List.range n = List.range j ++ j :: List.range' (j + 1) (n - j - 1) := by
  apply List.ext_getElem?
  intro k
  rw [List.getElem?_append, List.length_range]
  by_cases h1 : k < j
  · rw [if_pos h1, List.getElem?_range h1, List.getElem?_range (by omega)]
  · rw [if_neg h1]
    by_cases h2 : k = j
    · subst h2
      rw [Nat.sub_self, List.getElem?_cons_zero, List.getElem?_range h]
    · obtain ⟨q, rfl⟩ : ∃ q, k = j + 1 + q := ⟨k - (j + 1), by omega⟩
      rw [show j + 1 + q - j = q + 1 from by omega, List.getElem?_cons_succ]
      by_cases h3 : j + 1 + q < n
      · rw [List.getElem?_range h3, List.getElem?_range' (by omega)]
        simp
      · rw [List.getElem?_eq_none (by simp; omega), List.getElem?_eq_none (by simp; omega)]

theorem lin_any (hok : linOk ops = true) : ∀ (fuel : Nat) (listed : Array Bool) (a : Act) (w : World), listed.size = ops.size → (unl ops listed (List.range ops.size)).length ≤ fuel → S w → Lin P ops Q S (unl ops listed (List.range ops.size)) a → wpAny P .any ops Q fuel listed a w := by
  have hsel : ∀ (j : Nat) (o : Oper), ops[j]? = some o → ∀ cs b, o.op ≠ .select cs b := fun j o ho cs b => Region.noSelect_spec (by simp only [linOk, Bool.and_eq_true] at hok; exact hok.1) j o cs b ho
  have hnil : ∀ listed : Array Bool, listed.size = ops.size → Region.ready .any ops listed = [] → unl ops listed (List.range ops.size) = [] := by
    intro listed hsz hr
    have key : ∀ j, j < ops.size → listed.getD j true = true := by
      intro j
      induction j using Nat.strongRecOn with
      | ind j ih =>
        intro hj
        cases hb : listed.getD j true with
        | true => rfl
        | false =>
          have hoj : ops[j]? = some ops[j] := Array.getElem?_eq_getElem hj
          have hm : j ∈ Region.ready .any ops listed := mem_ready.2 ⟨hb, _, hoj, fun e he _ => by
            have hlt := (linOk_spec hok j _ hoj).1 e he
            have h9 := ih e.on hlt (by omega)
            have h8 : e.on < listed.size := by omega
            simp [h8] at h9 ⊢
            exact h9⟩
          rw [hr] at hm
          cases hm
    unfold unl
    rw [List.filterMap_eq_nil_iff]
    intro i hi
    rw [key i (List.mem_range.1 hi)]
    simp
  have hpick : ∀ (listed : Array Bool) (j : Nat), listed.size = ops.size → j ∈ Region.ready .any ops listed → ∃ oj T1 T2, ops[j]? = some oj ∧ unl ops listed (List.range ops.size) = T1 ++ oj :: T2 ∧ unl ops (listed.setIfInBounds j true) (List.range ops.size) = T1 ++ T2 ∧ ∀ x ∈ T1, (∀ cs b, x.op ≠ .select cs b) ∧ x.apart ops oj = true := by
    intro listed j hsz hj
    obtain ⟨hun, oj, hoj, hall⟩ := mem_ready.1 hj
    have hlt : j < ops.size := (Array.getElem?_eq_some_iff.1 hoj).1
    have hn1 : j ∉ List.range j := by simp
    have hn2 : j ∉ List.range' (j + 1) (ops.size - j - 1) := fun hm => by have := List.mem_range'_1.1 hm; omega
    refine ⟨oj, unl ops listed (List.range j), unl ops listed (List.range' (j + 1) (ops.size - j - 1)), hoj, ?_, ?_, ?_⟩
    · rw [range_split hlt, unl_app]
      congr 1
      unfold unl
      rw [List.filterMap_cons, hun, hoj]
      simp
    · rw [range_split hlt, unl_app, unl_set _ _ _ hn1]
      congr 1
      have e : unl ops (listed.setIfInBounds j true) (j :: List.range' (j + 1) (ops.size - j - 1)) = unl ops (listed.setIfInBounds j true) (List.range' (j + 1) (ops.size - j - 1)) := by
        have hs : (listed.setIfInBounds j true).getD j true = true := by
          have : j < listed.size := by omega
          simp [this]
        unfold unl
        rw [List.filterMap_cons, hs]
        simp
      rw [e, unl_set _ _ _ hn2]
    · intro x hx
      obtain ⟨i, hi, hui, hxi⟩ := unl_mem hx
      have hij := List.mem_range.1 hi
      refine ⟨hsel i x hxi, ?_⟩
      rcases (linOk_spec hok j oj hoj).2 i x hij hxi with ⟨e, he, hb, rfl⟩ | h9
      · have h8 := hall e he hb
        have h7 : e.on < listed.size := by omega
        simp [h7] at h8 hui
        rw [hui] at h8
        cases h8
      · exact h9
  intro fuel
  induction fuel with
  | zero =>
    intro listed a w hsz hlen hS hL
    have h0 : unl ops listed (List.range ops.size) = [] := List.length_eq_zero_iff.1 (by omega)
    rw [h0] at hL
    refine ⟨?_, hL w hS⟩
    refine List.eq_nil_iff_forall_not_mem.2 (fun j hj => ?_)
    obtain ⟨oj, T1, T2, _, h1, _⟩ := hpick listed j hsz hj
    rw [h0] at h1
    simp at h1
  | succ fuel ih =>
    intro listed a w hsz hlen hS hL
    refine ⟨fun hr => ?_, fun j hj => ?_⟩
    · rw [hnil listed hsz hr] at hL
      exact hL w hS
    · obtain ⟨oj, T1, T2, hoj, h1, h2, h3⟩ := hpick listed j hsz hj
      rw [h1] at hL hlen
      obtain ⟨v, g, hL2⟩ := Lin.front (hsel j oj hoj) T1 a h3 hL
      refine g.wpOp hoj hS (fun w' hS' => ih (listed.setIfInBounds j true) _ w' (by simp [hsz]) ?_ hS' ?_)
      · rw [h2]
        simp at hlen ⊢
        omega
      · rw [h2]
        exact hL2

theorem fm_congr {α β : Type} {f g : α → Option β} : ∀ (l : List α), (∀ i ∈ l, f i = g i) → l.filterMap f = l.filterMap g
  | [], _ => rfl
  | x :: l, h => by rw [List.filterMap_cons, List.filterMap_cons, h x (by simp), fm_congr l (fun i hi => h i (by simp [hi]))]
theorem fm_range {α : Type} : ∀ l : List α, (List.range l.length).filterMap (fun i => l[i]?) = l
  | [] => rfl
  | x :: l => by
    rw [List.length_cons, List.range_succ_eq_map, List.filterMap_cons, List.filterMap_map]
    have := fm_range l
    simpa [Function.comp_def] using this
/-- THE BEGINNING: a region that draws its order, walked in the order of the text. -/
theorem wp_region_lin {id : Nat} {l : List Oper} {a : Act} {w : World} (S : World → Prop) (hm : P.follows .mixedOrders = true) (hok : linOk l.toArray = true) (hS : S w.drew) (h : Lin P l.toArray Q S l a) : (Code.region id l.toArray true).wp P Q a w := by
  refine wp_region_any hm ?_
  have hu : unl l.toArray (Array.replicate l.toArray.size false) (List.range l.toArray.size) = l := by
    have h1 : ∀ i ∈ List.range l.toArray.size, (if (Array.replicate l.toArray.size false).getD i true = true then none else l.toArray[i]?) = l[i]? := by
      intro i hi
      have hlt := List.mem_range.1 hi
      simp at hlt
      simp [hlt]
    unfold unl
    rw [fm_congr _ h1]
    exact fm_range l
  refine lin_any hok _ _ _ _ (by simp) ?_ hS ?_
  · rw [hu]; simp
  · rw [hu]; exact h

theorem lin_nil {a : Act} (h : ∀ w, S w → Q .normal a w) : Lin P ops Q S [] a := h
/-- An operation that gives its value in every world that meets S, and leaves the world as it is. -/
theorem lin_op {o : Oper} {r : List Oper} {a : Act} {v : Value} (hw : Region.wanted o (yielded ops a.tmps) = true) (hy : ∀ w, S w → (execOp a.eval o).run P w = .ok (.value v) w) (h : Lin P ops Q S r (a.put o.dst v)) : Lin P ops Q S (o :: r) a :=
  ⟨v, .inl ⟨hw, fun w hS => .inl ⟨w, hy w hS, hS⟩⟩, h⟩
/-- An operation whose guard is off. -/
theorem lin_off {o : Oper} {r : List Oper} {a : Act} (hw : Region.wanted o (yielded ops a.tmps) = false) (h : Lin P ops Q S r (a.put o.dst undef)) : Lin P ops Q S (o :: r) a :=
  ⟨undef, .inr ⟨hw, rfl⟩, h⟩
/-- A call that gives its value in every world that meets S, and leaves one that meets S. -/
theorem lin_call {o : Oper} {r : List Oper} {a : Act} {v : Value} {f : Nat} {args : Array Value} (hw : Region.wanted o (yielded ops a.tmps) = true) (hy : ∀ w, (execOp a.eval o).run P w = .ok (.enter f args) w) (hc : ∀ w, S w → Calls P f args w fun e w' => e = .returned v ∧ S w') (h : Lin P ops Q S r (a.put o.dst v)) : Lin P ops Q S (o :: r) a :=
  ⟨v, .inl ⟨hw, fun w hS => .inr ⟨f, args, hy w, hc w hS⟩⟩, h⟩
/-- A call of a Go function by its number. -/
theorem lin_fn {o : Oper} {r : List Oper} {a : Act} {v : Value} {f : Nat} {c : Call} {args : Array Value} (hw : Region.wanted o (yielded ops a.tmps) = true) (ho : o.op = .call c) (hc : c.callee = .value (.func f)) (he : ∀ args w, (callFunc f args).run P w = .ok (.enter f args) w)
    (hcl : ∀ w, S w → Calls P f args w fun e w' => e = .returned v ∧ S w') (ha : c.args.map a.eval = args) (h : Lin P ops Q S r (a.put o.dst v)) : Lin P ops Q S (o :: r) a := by
  refine lin_call (f := f) (args := args) hw (fun w => ?_) hcl h
  simp only [execOp, ho, resolve, hc, ha, Act.eval, Deferred.ofValue, invoke, Sem.run_bind, Sem.run_pure, Result.andThen_ok]
  have e1 := he (#[] ++ args ++ #[]) w
  simp only [Array.empty_append, Array.append_empty] at e1 ⊢
  exact e1
end
end Go.Proofs.Ytgnpoehcmlmajaa
