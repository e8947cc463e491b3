/-
  Laws for loads, stores and new variables of several cells, in a plain list of operations and inside a fence; the contracts of disk's rows and of its iterator. Nothing here is a statement of the document.
-/
import Derived.Test.YtdbdmnahgkkjiaaDoorDskA
import Derived.RangeFuncNested
import Derived.RangeFuncBound
import Derived.RangeFuncCalls
import Derived.RangeFuncLeaves
import Derived.RangeFuncBox
import Derived.OwnWalkIn
import Derived.TacticsInMore
import Derived.LoopNIn
import Derived.LoopIn
namespace Go.Proofs.YtdbdmnahgkkjiaaDoor
open Go.RowKit
set_option linter.unusedVariables false

/-- What a disk holds. -/
structure Dk where
  plate : List Bk
  rows : List Rw
  fuse : Option Nat
  flaw : Option Nat
  dead : Bool
  ops : Int

def cdB (o : Option Nat) : Bool := o.isSome
def cdI (o : Option Nat) : Int := ((o.getD 0 : Nat) : Int)

/-- A disk's own cells. -/
def dcs (pb : Nat) (bv : Value) (D : Dk) : Array Value :=
  #[.slice (some ⟨pb, 0, none⟩) D.plate.length D.plate.length, bv, .bool (cdB D.fuse), .int .i64 (cdI D.fuse), .bool (cdB D.flaw), .int .i64 (cdI D.flaw), .bool D.dead, .int .i64 D.ops]

/-- What holds of every disk. -/
structure Dk.Ok (D : Dk) : Prop where
  pos : 1 ≤ D.plate.length
  max : D.plate.length ≤ 2048
  held : D.rows.length ≤ 8
  at_ : ∀ r ∈ D.rows, r.s < D.plate.length
  once : (D.rows.map (·.s)).Nodup
  fuse : ∀ n, D.fuse = some n → n ≤ 9223372036854775807
  flaw : ∀ n, D.flaw = some n → n ≤ 9223372036854775807

/-- The blocks of a disk. -/
def fp (p pb : Nat) (bv : Value) : List Nat := p :: pb :: bv.ownBlock.toList

/-- Only a disk's blocks have changed; its buffer is where it was, or new. -/
structure Goes (w w' : World) (p pb : Nat) (bv bv' : Value) : Prop where
  kept : Kept (fp p pb bv) w w'
  new : ∀ k, bv'.ownBlock = some k → bv.ownBlock = some k ∨ w.heap.size ≤ k

theorem Goes.refl (w : World) (p pb : Nat) (bv : Value) : Goes w w p pb bv bv := ⟨Kept.refl _ _, fun k h => .inl h⟩
theorem Goes.trans {w w' w2 : World} {p pb : Nat} {bv bv' bv2 : Value} (h : Goes w w' p pb bv bv') (k : Goes w' w2 p pb bv' bv2) : Goes w w2 p pb bv bv2 := by
  refine ⟨h.kept.trans2 k.kept (fun i hi => ?_), fun i hi => ?_⟩
  · simp only [fp, List.mem_cons, Option.mem_toList] at hi ⊢
    rcases hi with rfl | rfl | hi
    · exact .inl (.inl rfl)
    · exact .inl (.inr (.inl rfl))
    · rcases h.new i hi with h1 | h1
      · exact .inl (.inr (.inr h1))
      · exact .inr h1
  · rcases k.new i hi with h1 | h1
    · exact h.new i h1
    · exact .inr (Nat.le_trans h.kept.size h1)
theorem Goes.alloc {w w' : World} {p pb : Nat} {bv bv' : Value} (h : Goes w w' p pb bv bv') (o : Obj) : Goes w (w'.alloc o) p pb bv bv' := ⟨h.kept.alloc o, h.new⟩
theorem Goes.drew {w w' : World} {p pb : Nat} {bv bv' : Value} (h : Goes w w' p pb bv bv') : Goes w w'.drew p pb bv bv' := ⟨h.kept.drew, h.new⟩
theorem Goes.later {w w' w2 : World} {p pb : Nat} {bv bv' : Value} (h : Goes w w' p pb bv bv') (k : Below w'.heap.size w' w2) : Goes w w2 p pb bv bv' :=
  ⟨h.kept.trans (Kept.of_below _ k), h.new⟩
theorem Goes.setCell {w w' : World} {p pb : Nat} {bv bv' : Value} (h : Goes w w' p pb bv bv') (i : Nat) (v : Value) : Goes w (w'.setCell ⟨p, i, none⟩ v) p pb bv bv' :=
  ⟨h.kept.setCell (.inl (by simp [fp])) v, h.new⟩

section
variable {w w' : World} {B p pb : Nat} {bv : Value} {D : Dk}
end

/-! ### What only reads -/

/-! ### Countdowns -/

def cdOf (n : Int) : Option Nat := if n < 0 then none else some n.toNat
/-! ### reach -/

/-- Why a sector can't be asked for. -/
def reachE (D : Dk) (i : Int) : Int := if D.dead then 9 else if 0 ≤ i ∧ i < D.plate.length then 0 else 2

end Go.Proofs.YtdbdmnahgkkjiaaDoor
namespace Go.Proofs.YtdbdmnahgkkjiaaDoor
open Go.RowKit
set_option linter.unusedVariables false

section
variable {P : Program}

/-- An operation whose run is known, in a plain list. -/
theorem wpList_run {ops : Array Oper} {rest : List Oper} {o : Oper} {a : Act} {w w' : World} {v : Value} {Q : Exit → Act → World → Prop} (hgd : o.guard = none) (hr : ∀ K : Act → World → Prop, K (a.put o.dst v) w' → o.wp P a w K Q)
    (h : wpList P ops Q rest (a.put o.dst v) w') : wpList P ops Q (o :: rest) a w := wpList_plain hgd fun K hK => hr K (hK _ _ h)

theorem wpListIn_load_blk {F : Fence} {n : Nat} {ops : Array Oper} {rest : List Oper} {op : Oper} {a : Act} {w : World} {Q : Exit → Act → World → Prop} (hgd : op.guard = none) (ty : TypeId) (x : Operand) (ho : op.op = .load ty x)
    (g o : Nat) (hx : a.eval x = .pointer (some ⟨g, o, none⟩)) (vs C : Array Value) (t : TypeId) (h : Blk w g t C) (hv : ∀ j, j < vs.size → C[o + j]? = vs[j]?) (d : TypeDesc)
    (hu : P.underlying ty = some d) (hd : d.isRow = true) (hi : (P.info? ty).map (·.size) = some vs.size)
    (hK : wpListIn F n P ops Q rest (a.put op.dst (.agg vs)) w) : wpListIn F n P ops Q (op :: rest) a w := by
  refine wpListIn_plain hgd fun K hK' => ?_
  have hrun := run_loadVar_mid (P := P) w g o ty vs.toList d (fun j v hj => by
    have hl : j < vs.size := by simpa using (List.getElem?_eq_some_iff.1 hj).1
    rw [h.cell, hv j hl]; simpa using hj) hu hd (by simpa using hi)
  unfold Oper.wpIn
  refine ⟨?_, ?_⟩
  · simp [Oper.about, ho]
  · rw [Oper.semAt_plain F _ _ (by rw [ho]; intro c hc'; cases hc')]
    simp only [execOp, ho, hx, Instr.loadAt, Instr.sureAddr, Sem.run_bind, Sem.run_pure, Result.andThen_ok, hrun]
    exact hK' _ _ hK

theorem wpListIn_store_blk {F : Fence} {n : Nat} {ops : Array Oper} {rest : List Oper} {op : Oper} {a : Act} {w : World} {Q : Exit → Act → World → Prop} (hgd : op.guard = none) (ty : TypeId) (x y : Operand) (ho : op.op = .store ty x y)
    (g o : Nat) (vs C : Array Value) (t : TypeId) (hx : a.eval x = .pointer (some ⟨g, o, none⟩)) (hy : a.eval y = .agg vs) (h : Blk w g t C) (hl : o + vs.size ≤ C.size)
    (hi : (P.info? ty).map (·.size) = some vs.size) (h1 : vs.all (·.oneCell') = true)
    (hK : wpListIn F n P ops Q rest (a.put op.dst undef) (w.setRow g (over C o vs))) : wpListIn F n P ops Q (op :: rest) a w := by
  refine wpListIn_plain hgd fun K hK' => ?_
  have hrun := run_storeVar_mid (P := P) w g o ty vs (fun j hj => ⟨by rw [h.cell, Array.getElem?_eq_getElem (by omega)]; rfl, h.free _⟩) hi h1
  rw [setCells_over h o vs hl] at hrun
  unfold Oper.wpIn
  refine ⟨?_, ?_⟩
  · simp [Oper.about, ho]
  · rw [Oper.semAt_plain F _ _ (by rw [ho]; intro c hc'; cases hc')]
    simp only [execOp, ho, hx, hy, Instr.storeAt, Instr.sureAddr, Sem.run_bind, Sem.run_pure, Result.andThen_ok, hrun]
    exact hK' _ _ hK

/-- A new variable of several cells. -/
theorem wpList_alloc_z {ops : Array Oper} {rest : List Oper} {op : Oper} {a : Act} {w : World} {Q : Exit → Act → World → Prop} (hgd : op.guard = none) (ty : TypeId) (ho : op.op = .alloc ty) (zs : Array Value) (k : Nat)
    (hz : (P.info? ty).map (fun i => (i.zero, i.size)) = some (some (.agg zs), k))
    (hK : wpList P ops Q rest (a.put op.dst (.pointer (some ⟨w.heap.size, 0, none⟩))) (w.alloc (.cells zs ty))) : wpList P ops Q (op :: rest) a w := by
  refine wpList_plain hgd fun K hK' => ?_
  have hrun := (zero_of_info hz).1 w
  unfold Oper.wp
  simp [execOp, ho, hrun, newVar, newRow, newObj, Value.cells, Result.andThen, go_sem]
  exact hK' _ _ hK
theorem wpListIn_alloc_z {F : Fence} {n : Nat} {ops : Array Oper} {rest : List Oper} {op : Oper} {a : Act} {w : World} {Q : Exit → Act → World → Prop} (hgd : op.guard = none) (ty : TypeId) (ho : op.op = .alloc ty) (zs : Array Value) (k : Nat)
    (hz : (P.info? ty).map (fun i => (i.zero, i.size)) = some (some (.agg zs), k))
    (hK : wpListIn F n P ops Q rest (a.put op.dst (.pointer (some ⟨w.heap.size, 0, none⟩))) (w.alloc (.cells zs ty))) : wpListIn F n P ops Q (op :: rest) a w := by
  refine wpListIn_plain hgd fun K hK' => ?_
  have hrun := (zero_of_info hz).1 w
  unfold Oper.wpIn
  refine ⟨?_, ?_⟩
  · simp [Oper.about, ho]
  · rw [Oper.semAt_plain F _ _ (by rw [ho]; intro c hc'; cases hc')]
    simp [execOp, ho, hrun, newVar, newRow, newObj, Value.cells, Result.andThen, go_sem]
    exact hK' _ _ hK

/-- A store that fills the variable that was made last. -/
theorem wpList_store_new {ops : Array Oper} {rest : List Oper} {op : Oper} {a : Act} {w : World} {Q : Exit → Act → World → Prop} (hgd : op.guard = none) (ty : TypeId) (x y : Operand) (ho : op.op = .store ty x y)
    (vs C : Array Value) (t : TypeId) (hx : a.eval x = .pointer (some ⟨w.heap.size, 0, none⟩)) (hy : a.eval y = .agg vs) (hC : C.size = vs.size)
    (hi : (P.info? ty).map (·.size) = some vs.size) (h1 : vs.all (·.oneCell') = true)
    (hK : wpList P ops Q rest (a.put op.dst undef) (w.alloc (.cells vs t))) : wpList P ops Q (op :: rest) a (w.alloc (.cells C t)) := by
  refine wpList_store_blk hgd ty x y ho w.heap.size 0 vs C t hx hy (Blk.new w t C) (by omega) hi h1 ?_
  have e : over C 0 vs = vs := by
    simp only [over, splice, List.take_zero, List.nil_append, Nat.zero_add]
    rw [List.drop_eq_nil_of_le (by simp [hC])]
    simp
  rw [e, World.setRow_alloc_new]
  exact hK
theorem wpListIn_store_new {F : Fence} {n : Nat} {ops : Array Oper} {rest : List Oper} {op : Oper} {a : Act} {w : World} {Q : Exit → Act → World → Prop} (hgd : op.guard = none) (ty : TypeId) (x y : Operand) (ho : op.op = .store ty x y)
    (vs C : Array Value) (t : TypeId) (hx : a.eval x = .pointer (some ⟨w.heap.size, 0, none⟩)) (hy : a.eval y = .agg vs) (hC : C.size = vs.size)
    (hi : (P.info? ty).map (·.size) = some vs.size) (h1 : vs.all (·.oneCell') = true)
    (hK : wpListIn F n P ops Q rest (a.put op.dst undef) (w.alloc (.cells vs t))) : wpListIn F n P ops Q (op :: rest) a (w.alloc (.cells C t)) := by
  refine wpListIn_store_blk hgd ty x y ho w.heap.size 0 vs C t hx hy (Blk.new w t C) (by omega) hi h1 ?_
  have e : over C 0 vs = vs := by
    simp only [over, splice, List.take_zero, List.nil_append, Nat.zero_add]
    rw [List.drop_eq_nil_of_le (by simp [hC])]
    simp
  rw [e, World.setRow_alloc_new]
  exact hK
end

theorem over_all {C vs : Array Value} (h : C.size = vs.size) : over C 0 vs = vs := by
  simp only [over, splice, List.take_zero, List.nil_append, Nat.zero_add]
  rw [List.drop_eq_nil_of_le (by simp [h])]
  simp
theorem Rw.cell0 (r : Rw) : r.cs[0]? = some (.int .i64 (r.s : Int)) := by
  unfold Rw.cs
  rw [Array.getElem?_append_left (by simp)]
  rfl
theorem Rw.cell1 (r : Rw) (j : Nat) : r.cs[1 + j]? = r.b.cs[j]? := by
  unfold Rw.cs
  rw [Array.getElem?_append_right (by simp)]
  congr 1
  simp
/-! ### The types' rows -/
def Rw.zero : Rw := ⟨0, Bk.zero⟩
/-! ### Loads and stores of several cells inside a region that draws its order: under one name each, which the walk does not open -/
def loadSem (ty : TypeId) (v : Value) : Sem Value := Instr.loadAt ty v
def storeSem (ty : TypeId) (v x : Value) : Sem Unit := Instr.storeAt ty v x
theorem loadRes_of {P : Program} {w : World} {ty : TypeId} {g o : Nat} {vs C : Array Value} {t : TypeId} (h : Blk w g t C) (hv : ∀ j, j < vs.size → C[o + j]? = vs[j]?) (d : TypeDesc)
    (hu : P.underlying ty = some d) (hd : d.isRow = true) (hi : (P.info? ty).map (·.size) = some vs.size) : (loadSem ty (.pointer (some ⟨g, o, none⟩))).run P w = .ok (.agg vs) w := by
  have := run_loadAt_mid (P := P) w g o ty vs.toList d (fun j v hj => by
    have hl : j < vs.size := by simpa using (List.getElem?_eq_some_iff.1 hj).1
    rw [h.cell, hv j hl]; simpa using hj) hu hd (by simpa using hi)
  exact this
theorem storeRes_of {P : Program} {w : World} {ty : TypeId} {g o : Nat} {vs C : Array Value} {t : TypeId} (h : Blk w g t C) (hl : o + vs.size ≤ C.size)
    (hi : (P.info? ty).map (·.size) = some vs.size) (h1 : vs.all (·.oneCell') = true) : (storeSem ty (.pointer (some ⟨g, o, none⟩)) (.agg vs)).run P w = .ok () (w.setRow g (over C o vs)) := by
  have hrun := run_storeAt_mid (P := P) w g o ty vs (fun j hj => ⟨by rw [h.cell, Array.getElem?_eq_getElem (by omega)]; rfl, h.free _⟩) hi h1
  rw [setCells_over h o vs hl] at hrun
  exact hrun

/-! ### rows -/
/-! ### The iterator -/

/-- The buffer's block is as it was. -/
def SameBuf (bv : Value) (W W' : World) : Prop := ∀ k, bv.ownBlock = some k → W'.heap[k]? = W.heap[k]?
theorem SameBuf.refl (bv : Value) (W : World) : SameBuf bv W W := fun _ _ => rfl
theorem SameBuf.trans {bv : Value} {A B C : World} (h : SameBuf bv A B) (k : SameBuf bv B C) : SameBuf bv A C := fun i hi => (k i hi).trans (h i hi)

/-- What a round is handed: a place, and the row that stands there. -/
abbrev RowAt (R : List Rw) : Type := { x : Nat × Rw // R[x.1]? = some x.2 }
def encR (R : List Rw) (x : RowAt R) : Array Value := #[.int .i64 (x.1.1 : Int), .agg x.1.2.cs]
def rowAt (R : List Rw) (i : Fin R.length) : RowAt R := ⟨(i.1, R[i.1]'i.2), by simp⟩
/-- The first k rows with their places. -/
def upTo (R : List Rw) (k : Nat) : List (RowAt R) := ((List.finRange R.length).take k).map (rowAt R)
theorem upTo_zero (R : List Rw) : upTo R 0 = [] := by simp [upTo]
theorem upTo_succ {R : List Rw} {k : Nat} (x : RowAt R) (h : x.1.1 = k) : upTo R (k + 1) = upTo R k ++ [x] := by
  subst h
  have hl : x.1.1 < R.length := (List.getElem?_eq_some_iff.1 x.2).1
  unfold upTo
  rw [List.take_succ_eq_append_getElem (by simpa using hl), List.map_append]
  congr 1
  have e : R[x.1.1] = x.1.2 := (List.getElem?_eq_some_iff.1 x.2).2
  simp [rowAt, e]
theorem upTo_length {R : List Rw} {k : Nat} (h : k ≤ R.length) : (upTo R k).length = k := by simp [upTo]; omega
theorem upTo_rows {R : List Rw} {k : Nat} (h : k ≤ R.length) : (upTo R k).map (·.1.2) = R.take k := by
  apply List.ext_getElem
  · simp [upTo]
  · intro i h1 h2
    simp [upTo, rowAt]
theorem upTo_places {R : List Rw} {k : Nat} (h : k ≤ R.length) : (upTo R k).map (·.1.1) = List.range k := by
  apply List.ext_getElem
  · simp [upTo]; omega
  · intro i h1 h2
    simp [upTo, rowAt]

attribute [local go_sem] Oper.semAt_some

theorem same_t {bv : Value} {A B C : World} (h : SameBuf bv A B) (k : SameBuf bv B C) : SameBuf bv A C := h.trans k
theorem same_b {bv : Value} {w : World} (hb : ∀ k, bv.ownBlock = some k → k < w.heap.size) (W : World) (l : Nat) (o o' : Obj) (hl : w.heap.size ≤ l) (h : W.heap[l]? = some o) (_ : o.isCells = false) (_ : o.isWalk = false) : SameBuf bv W (W.putObj l o') := fun k hk =>
  (grownBy_putObj' W l o').block k (by have := hb k hk; have := (Array.getElem?_eq_some_iff.1 h).1; omega) (fun e => by have := hb k hk; injection e; omega)
end Go.Proofs.YtdbdmnahgkkjiaaDoor
