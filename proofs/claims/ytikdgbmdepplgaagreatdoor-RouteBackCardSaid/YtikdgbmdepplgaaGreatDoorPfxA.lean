/-
  Words for addresses and prefixes: rows of sixteen bytes, their bits, what is kept of them. Nothing here is a statement of the document.
-/
import Derived.Test.YtikdgbmdepplgaaGreatDoorDskB
import Derived.RangeFuncNested
import Derived.RangeFuncBound
import Derived.RangeFuncCalls
import Derived.RangeFuncLeaves
import Derived.RangeFuncBox
import Derived.OwnWalkIn
import Derived.TacticsInMore
import Derived.LoopNIn
import Derived.LoopIn
import Derived.Test.YtikdgbmdepplgaaGreatDoorOctH
namespace Go.Proofs.YtikdgbmdepplgaaGreatDoor
open Go.RowKit
set_option linter.unusedVariables false

section
variable {P : Program}

/-- An operation whose run is known, in a plain list. -/
theorem wpList_run {ops : Array Oper} {rest : List Oper} {o : Oper} {a : Act} {w w' : World} {v : Value} {Q : Exit → Act → World → Prop} (hgd : o.guard = none) (hr : ∀ K : Act → World → Prop, K (a.put o.dst v) w' → o.wp P a w K Q)
    (h : wpList P ops Q rest (a.put o.dst v) w') : wpList P ops Q (o :: rest) a w := wpList_plain hgd fun K hK => hr K (hK _ _ h)

theorem wpListIn_load_blk {F : Fence} {n : Nat} {ops : Array Oper} {rest : List Oper} {op : Oper} {a : Act} {w : World} {Q : Exit → Act → World → Prop} (hgd : op.guard = none) (ty : TypeId) (x : Operand) (ho : op.op = .load ty x)
    (g o : Nat) (hx : a.eval x = .pointer (some ⟨g, o, none⟩)) (vs C : Array Value) (t : TypeId) (h : Blk w g t C) (hv : ∀ j, j < vs.size → C[o + j]? = vs[j]?) (d : TypeDesc)
    (hu : P.underlying ty = some d) (hd : d.isRow = true) (hi : (P.info? ty).map (·.size) = some vs.size)
    (hK : wpListIn F n P ops Q rest (a.put op.dst (.agg vs)) w) : wpListIn F n P ops Q (op :: rest) a w := by
  refine wpListIn_plain hgd fun K hK' => ?_
  have hrun := run_loadVar_mid (P := P) w g o ty vs.toList d (fun j v hj => by
    have hl : j < vs.size := by simpa using (List.getElem?_eq_some_iff.1 hj).1
    rw [h.cell, hv j hl]; simpa using hj) hu hd (by simpa using hi)
  unfold Oper.wpIn
  refine ⟨?_, ?_⟩
  · simp [Oper.about, ho]
  · rw [Oper.semAt_plain F _ _ (by rw [ho]; intro c hc'; cases hc')]
    simp only [execOp, ho, hx, Instr.loadAt, Instr.sureAddr, Sem.run_bind, Sem.run_pure, Result.andThen_ok, hrun]
    exact hK' _ _ hK

theorem wpListIn_store_blk {F : Fence} {n : Nat} {ops : Array Oper} {rest : List Oper} {op : Oper} {a : Act} {w : World} {Q : Exit → Act → World → Prop} (hgd : op.guard = none) (ty : TypeId) (x y : Operand) (ho : op.op = .store ty x y)
    (g o : Nat) (vs C : Array Value) (t : TypeId) (hx : a.eval x = .pointer (some ⟨g, o, none⟩)) (hy : a.eval y = .agg vs) (h : Blk w g t C) (hl : o + vs.size ≤ C.size)
    (hi : (P.info? ty).map (·.size) = some vs.size) (h1 : vs.all (·.oneCell') = true)
    (hK : wpListIn F n P ops Q rest (a.put op.dst undef) (w.setRow g (over C o vs))) : wpListIn F n P ops Q (op :: rest) a w := by
  refine wpListIn_plain hgd fun K hK' => ?_
  have hrun := run_storeVar_mid (P := P) w g o ty vs (fun j hj => ⟨by rw [h.cell, Array.getElem?_eq_getElem (by omega)]; rfl, h.free _⟩) hi h1
  rw [setCells_over h o vs hl] at hrun
  unfold Oper.wpIn
  refine ⟨?_, ?_⟩
  · simp [Oper.about, ho]
  · rw [Oper.semAt_plain F _ _ (by rw [ho]; intro c hc'; cases hc')]
    simp only [execOp, ho, hx, hy, Instr.storeAt, Instr.sureAddr, Sem.run_bind, Sem.run_pure, Result.andThen_ok, hrun]
    exact hK' _ _ hK

/-- A new variable of several cells. -/
theorem wpList_alloc_z {ops : Array Oper} {rest : List Oper} {op : Oper} {a : Act} {w : World} {Q : Exit → Act → World → Prop} (hgd : op.guard = none) (ty : TypeId) (ho : op.op = .alloc ty) (zs : Array Value) (k : Nat)
    (hz : (P.info? ty).map (fun i => (i.zero, i.size)) = some (some (.agg zs), k))
    (hK : wpList P ops Q rest (a.put op.dst (.pointer (some ⟨w.heap.size, 0, none⟩))) (w.alloc (.cells zs ty))) : wpList P ops Q (op :: rest) a w := by
  refine wpList_plain hgd fun K hK' => ?_
  have hrun := (zero_of_info hz).1 w
  unfold Oper.wp
  simp [execOp, ho, hrun, newVar, newRow, newObj, Value.cells, Result.andThen, go_sem]
  exact hK' _ _ hK
theorem wpListIn_alloc_z {F : Fence} {n : Nat} {ops : Array Oper} {rest : List Oper} {op : Oper} {a : Act} {w : World} {Q : Exit → Act → World → Prop} (hgd : op.guard = none) (ty : TypeId) (ho : op.op = .alloc ty) (zs : Array Value) (k : Nat)
    (hz : (P.info? ty).map (fun i => (i.zero, i.size)) = some (some (.agg zs), k))
    (hK : wpListIn F n P ops Q rest (a.put op.dst (.pointer (some ⟨w.heap.size, 0, none⟩))) (w.alloc (.cells zs ty))) : wpListIn F n P ops Q (op :: rest) a w := by
  refine wpListIn_plain hgd fun K hK' => ?_
  have hrun := (zero_of_info hz).1 w
  unfold Oper.wpIn
  refine ⟨?_, ?_⟩
  · simp [Oper.about, ho]
  · rw [Oper.semAt_plain F _ _ (by rw [ho]; intro c hc'; cases hc')]
    simp [execOp, ho, hrun, newVar, newRow, newObj, Value.cells, Result.andThen, go_sem]
    exact hK' _ _ hK

/-- A store that fills the variable that was made last. -/
theorem wpList_store_new {ops : Array Oper} {rest : List Oper} {op : Oper} {a : Act} {w : World} {Q : Exit → Act → World → Prop} (hgd : op.guard = none) (ty : TypeId) (x y : Operand) (ho : op.op = .store ty x y)
    (vs C : Array Value) (t : TypeId) (hx : a.eval x = .pointer (some ⟨w.heap.size, 0, none⟩)) (hy : a.eval y = .agg vs) (hC : C.size = vs.size)
    (hi : (P.info? ty).map (·.size) = some vs.size) (h1 : vs.all (·.oneCell') = true)
    (hK : wpList P ops Q rest (a.put op.dst undef) (w.alloc (.cells vs t))) : wpList P ops Q (op :: rest) a (w.alloc (.cells C t)) := by
  refine wpList_store_blk hgd ty x y ho w.heap.size 0 vs C t hx hy (Blk.new w t C) (by omega) hi h1 ?_
  have e : over C 0 vs = vs := by
    simp only [over, splice, List.take_zero, List.nil_append, Nat.zero_add]
    rw [List.drop_eq_nil_of_le (by simp [hC])]
    simp
  rw [e, World.setRow_alloc_new]
  exact hK
theorem wpListIn_store_new {F : Fence} {n : Nat} {ops : Array Oper} {rest : List Oper} {op : Oper} {a : Act} {w : World} {Q : Exit → Act → World → Prop} (hgd : op.guard = none) (ty : TypeId) (x y : Operand) (ho : op.op = .store ty x y)
    (vs C : Array Value) (t : TypeId) (hx : a.eval x = .pointer (some ⟨w.heap.size, 0, none⟩)) (hy : a.eval y = .agg vs) (hC : C.size = vs.size)
    (hi : (P.info? ty).map (·.size) = some vs.size) (h1 : vs.all (·.oneCell') = true)
    (hK : wpListIn F n P ops Q rest (a.put op.dst undef) (w.alloc (.cells vs t))) : wpListIn F n P ops Q (op :: rest) a (w.alloc (.cells C t)) := by
  refine wpListIn_store_blk hgd ty x y ho w.heap.size 0 vs C t hx hy (Blk.new w t C) (by omega) hi h1 ?_
  have e : over C 0 vs = vs := by
    simp only [over, splice, List.take_zero, List.nil_append, Nat.zero_add]
    rw [List.drop_eq_nil_of_le (by simp [hC])]
    simp
  rw [e, World.setRow_alloc_new]
  exact hK
end

theorem over_all {C vs : Array Value} (h : C.size = vs.size) : over C 0 vs = vs := by
  simp only [over, splice, List.take_zero, List.nil_append, Nat.zero_add]
  rw [List.drop_eq_nil_of_le (by simp [h])]
  simp
theorem Rw.cell0 (r : Rw) : r.cs[0]? = some (.int .i64 (r.s : Int)) := by
  unfold Rw.cs
  rw [Array.getElem?_append_left (by simp)]
  rfl
theorem Rw.cell1 (r : Rw) (j : Nat) : r.cs[1 + j]? = r.b.cs[j]? := by
  unfold Rw.cs
  rw [Array.getElem?_append_right (by simp)]
  congr 1
  simp
/-! ### The types' rows -/
def Rw.zero : Rw := ⟨0, Bk.zero⟩
/-! ### Loads and stores of several cells inside a region that draws its order: under one name each, which the walk does not open -/
def loadSem (ty : TypeId) (v : Value) : Sem Value := Instr.loadAt ty v
def storeSem (ty : TypeId) (v x : Value) : Sem Unit := Instr.storeAt ty v x
theorem loadRes_of {P : Program} {w : World} {ty : TypeId} {g o : Nat} {vs C : Array Value} {t : TypeId} (h : Blk w g t C) (hv : ∀ j, j < vs.size → C[o + j]? = vs[j]?) (d : TypeDesc)
    (hu : P.underlying ty = some d) (hd : d.isRow = true) (hi : (P.info? ty).map (·.size) = some vs.size) : (loadSem ty (.pointer (some ⟨g, o, none⟩))).run P w = .ok (.agg vs) w := by
  have := run_loadAt_mid (P := P) w g o ty vs.toList d (fun j v hj => by
    have hl : j < vs.size := by simpa using (List.getElem?_eq_some_iff.1 hj).1
    rw [h.cell, hv j hl]; simpa using hj) hu hd (by simpa using hi)
  exact this
theorem storeRes_of {P : Program} {w : World} {ty : TypeId} {g o : Nat} {vs C : Array Value} {t : TypeId} (h : Blk w g t C) (hl : o + vs.size ≤ C.size)
    (hi : (P.info? ty).map (·.size) = some vs.size) (h1 : vs.all (·.oneCell') = true) : (storeSem ty (.pointer (some ⟨g, o, none⟩)) (.agg vs)).run P w = .ok () (w.setRow g (over C o vs)) := by
  have hrun := run_storeAt_mid (P := P) w g o ty vs (fun j hj => ⟨by rw [h.cell, Array.getElem?_eq_getElem (by omega)]; rfl, h.free _⟩) hi h1
  rw [setCells_over h o vs hl] at hrun
  exact hrun

/-! ### rows -/
/-! ### The iterator -/

/-- The buffer's block is as it was. -/
def SameBuf (bv : Value) (W W' : World) : Prop := ∀ k, bv.ownBlock = some k → W'.heap[k]? = W.heap[k]?
theorem SameBuf.refl (bv : Value) (W : World) : SameBuf bv W W := fun _ _ => rfl
theorem SameBuf.trans {bv : Value} {A B C : World} (h : SameBuf bv A B) (k : SameBuf bv B C) : SameBuf bv A C := fun i hi => (k i hi).trans (h i hi)

/-- What a round is handed: a place, and the row that stands there. -/
abbrev RowAt (R : List Rw) : Type := { x : Nat × Rw // R[x.1]? = some x.2 }
def encR (R : List Rw) (x : RowAt R) : Array Value := #[.int .i64 (x.1.1 : Int), .agg x.1.2.cs]
def rowAt (R : List Rw) (i : Fin R.length) : RowAt R := ⟨(i.1, R[i.1]'i.2), by simp⟩
/-- The first k rows with their places. -/
def upTo (R : List Rw) (k : Nat) : List (RowAt R) := ((List.finRange R.length).take k).map (rowAt R)
theorem upTo_zero (R : List Rw) : upTo R 0 = [] := by simp [upTo]
theorem upTo_succ {R : List Rw} {k : Nat} (x : RowAt R) (h : x.1.1 = k) : upTo R (k + 1) = upTo R k ++ [x] := by
  subst h
  have hl : x.1.1 < R.length := (List.getElem?_eq_some_iff.1 x.2).1
  unfold upTo
  rw [List.take_succ_eq_append_getElem (by simpa using hl), List.map_append]
  congr 1
  have e : R[x.1.1] = x.1.2 := (List.getElem?_eq_some_iff.1 x.2).2
  simp [rowAt, e]
theorem upTo_length {R : List Rw} {k : Nat} (h : k ≤ R.length) : (upTo R k).length = k := by simp [upTo]; omega
theorem upTo_rows {R : List Rw} {k : Nat} (h : k ≤ R.length) : (upTo R k).map (·.1.2) = R.take k := by
  apply List.ext_getElem
  · simp [upTo]
  · intro i h1 h2
    simp [upTo, rowAt]
theorem upTo_places {R : List Rw} {k : Nat} (h : k ≤ R.length) : (upTo R k).map (·.1.1) = List.range k := by
  apply List.ext_getElem
  · simp [upTo]; omega
  · intro i h1 h2
    simp [upTo, rowAt]

attribute [local go_sem] Oper.semAt_some

theorem same_t {bv : Value} {A B C : World} (h : SameBuf bv A B) (k : SameBuf bv B C) : SameBuf bv A C := h.trans k
theorem same_b {bv : Value} {w : World} (hb : ∀ k, bv.ownBlock = some k → k < w.heap.size) (W : World) (l : Nat) (o o' : Obj) (hl : w.heap.size ≤ l) (h : W.heap[l]? = some o) (_ : o.isCells = false) (_ : o.isWalk = false) : SameBuf bv W (W.putObj l o') := fun k hk =>
  (grownBy_putObj' W l o').block k (by have := hb k hk; have := (Array.getElem?_eq_some_iff.1 h).1; omega) (fun e => by have := hb k hk; injection e; omega)
end Go.Proofs.YtikdgbmdepplgaaGreatDoor
namespace Go.Proofs.YtikdgbmdepplgaaGreatDoor
open Go.RowKit
set_option linter.unusedVariables false
set_option maxRecDepth 100000

/-- Sixteen bytes. -/
structure B16 where
  l : List Nat
  len : l.length = 16
  bys : Bys l
theorem bys_zero (n : Nat) : Bys (List.replicate n 0) := fun m hm => by rw [List.eq_of_mem_replicate hm]; omega
def B16.zero : B16 := ⟨List.replicate 16 0, rfl, bys_zero 16⟩
def B16.cs (b : B16) : Array Value := (b.l.map byc).toArray
def B16.at (b : B16) (i : Nat) : Nat := b.l.getD i 0
theorem B16.same {a b : B16} (h : a.l = b.l) : a = b := by
  obtain ⟨l, _, _⟩ := a
  obtain ⟨m, _, _⟩ := b
  cases h
  rfl
theorem B16.size (b : B16) : b.cs.size = 16 := by simp [B16.cs, b.len]
theorem B16.lt (b : B16) (i : Nat) : b.at i < 256 := b.bys.at i
theorem B16.one (b : B16) : b.cs.all (·.oneCell') = true := by
  rw [Array.all_eq_true_iff_forall_mem]
  intro v hv
  exact byc_one b.l v (by simpa [B16.cs] using hv)
theorem B16.get (b : B16) (i : Nat) (h : i < 16) : b.cs[i]? = some (.int .u8 (b.at i : Int)) := by
  have : i < b.l.length := by rw [b.len]; exact h
  simp [B16.cs, B16.at, byc, this]
theorem B16.ext_at {a b : B16} (h : ∀ i, i < 16 → a.at i = b.at i) : a = b := by
  apply B16.same
  apply List.ext_getElem (by rw [a.len, b.len])
  intro i h1 h2
  have := h i (by rw [a.len] at h1; exact h1)
  simpa [B16.at, h1, h2] using this

/-- Bit i of the bytes; bit 0 is the highest one of the first. -/
def bt (b : B16) (i : Nat) : Bool := (b.at (i / 8)).testBit (7 - i % 8)
theorem bt_ext {a b : B16} (h : ∀ i, i < 128 → bt a i = bt b i) : a = b := by
  apply B16.ext_at
  intro i hi
  apply Nat.eq_of_testBit_eq
  intro j
  by_cases hj : j < 8
  · have := h (8 * i + (7 - j)) (by omega)
    unfold bt at this
    rw [show (8 * i + (7 - j)) / 8 = i from by omega, show 7 - (8 * i + (7 - j)) % 8 = j from by omega] at this
    exact this
  · have h2 : 256 ≤ 2 ^ j := by
      have := Nat.pow_le_pow_right (n := 2) (by omega) (show 8 ≤ j by omega)
      simpa using this
    rw [Nat.testBit_lt_two_pow (Nat.lt_of_lt_of_le (a.lt i) h2), Nat.testBit_lt_two_pow (Nat.lt_of_lt_of_le (b.lt i) h2)]

/-- The first s bits of a byte. -/
def keepN (x s : Nat) : Nat := x / 2 ^ (8 - s) * 2 ^ (8 - s)
theorem keepN_le (x s : Nat) : keepN x s ≤ x := Nat.div_mul_le_self _ _
theorem keepN_bit (x s j : Nat) : (keepN x s).testBit j = (decide (8 - s ≤ j) && x.testBit j) := by
  unfold keepN
  rw [← Nat.shiftRight_eq_div_pow, ← Nat.shiftLeft_eq, Nat.testBit_shiftLeft, Nat.testBit_shiftRight]
  by_cases h : 8 - s ≤ j
  · rw [show 8 - s + (j - (8 - s)) = j from by omega]
  · simp [h]
def stayN (n i : Nat) : Nat := min (n - 8 * i) 8
/-- The first n bits of the bytes; noughts from there on. -/
def keptB (b : B16) (n : Nat) : B16 :=
  ⟨(List.range 16).map fun i => keepN (b.at i) (stayN n i), by simp, fun m hm => by
    obtain ⟨i, _, rfl⟩ := List.mem_map.1 hm
    exact Nat.lt_of_le_of_lt (keepN_le _ _) (b.lt i)⟩
theorem keptB_at (b : B16) (n i : Nat) (h : i < 16) : (keptB b n).at i = keepN (b.at i) (stayN n i) := by
  simp [keptB, B16.at, h]
theorem bt_kept (b : B16) (n i : Nat) (h : i < 128) : bt (keptB b n) i = (decide (i < n) && bt b i) := by
  unfold bt
  rw [keptB_at b n (i / 8) (by omega), keepN_bit]
  unfold stayN
  congr 1
  rw [Bool.eq_iff_iff]
  simp only [decide_eq_true_eq]
  omega
/-- From bit n on all are noughts. -/
def clear (b : B16) (n : Nat) : Prop := ∀ i, n ≤ i → i < 128 → bt b i = false
theorem kept_iff (b : B16) (n : Nat) : keptB b n = b ↔ clear b n := by
  constructor
  · intro h i h1 h2
    have := bt_kept b n i h2
    rw [h] at this
    have h3 : decide (i < n) = false := by simp; omega
    rw [h3] at this
    simpa using this
  · intro h
    apply bt_ext
    intro i hi
    rw [bt_kept b n i hi]
    by_cases hn : i < n
    · simp [hn]
    · rw [h i (by omega) hi]; simp
theorem kept_clear (b : B16) (n : Nat) : clear (keptB b n) n := by
  intro i h1 h2
  rw [bt_kept b n i h2]
  have h3 : decide (i < n) = false := by simp; omega
  rw [h3]; rfl
theorem clear_mono {b : B16} {n m : Nat} (h : clear b n) (hm : n ≤ m) : clear b m := fun i h1 h2 => h i (by omega) h2
theorem clear_all (b : B16) {n : Nat} (h : 128 ≤ n) : clear b n := fun i h1 h2 => by omega
theorem kept_all (b : B16) {n : Nat} (h : 128 ≤ n) : keptB b n = b := (kept_iff b n).2 (clear_all b h)

/-- An address, a prefix. -/
structure Ad where
  v : Int
  b : B16
structure Px where
  a : Ad
  n : Int
def Ad.cs (a : Ad) : Array Value := #[.int .i64 a.v] ++ a.b.cs
def Px.cs (p : Px) : Array Value := p.a.cs ++ #[.int .i64 p.n]
def Ad.zero : Ad := ⟨0, B16.zero⟩
def Px.zero : Px := ⟨Ad.zero, 0⟩
theorem Ad.size (a : Ad) : a.cs.size = 17 := by simp [Ad.cs, a.b.size]
theorem Px.size (p : Px) : p.cs.size = 18 := by simp [Px.cs, p.a.size]
theorem Ad.one (a : Ad) : a.cs.all (·.oneCell') = true := by
  have := a.b.one
  rw [Array.all_eq_true_iff_forall_mem] at this ⊢
  intro v hv
  rcases Array.mem_append.1 hv with h | h
  · obtain rfl : v = Value.int .i64 a.v := by simpa using h
    rfl
  · exact this v h
theorem Px.one (p : Px) : p.cs.all (·.oneCell') = true := by
  have := p.a.one
  rw [Array.all_eq_true_iff_forall_mem] at this ⊢
  intro v hv
  rcases Array.mem_append.1 hv with h | h
  · exact this v h
  · obtain rfl : v = Value.int .i64 p.n := by simpa using h
    rfl
theorem Ad.c0 (a : Ad) : a.cs[0]? = some (.int .i64 a.v) := by
  unfold Ad.cs
  rw [Array.getElem?_append_left (by simp)]
  rfl
theorem Ad.c1 (a : Ad) (j : Nat) : a.cs[1 + j]? = a.b.cs[j]? := by
  unfold Ad.cs
  rw [Array.getElem?_append_right (by simp)]
  congr 1
  simp
theorem Px.ca (p : Px) (j : Nat) (h : j < 17) : p.cs[j]? = p.a.cs[j]? := by
  unfold Px.cs
  rw [Array.getElem?_append_left (by rw [Ad.size]; exact h)]
theorem Px.cn (p : Px) : p.cs[17]? = some (.int .i64 p.n) := by
  unfold Px.cs
  rw [Array.getElem?_append_right (by rw [Ad.size]; omega)]
  simp [Ad.size]
theorem Px.cb (p : Px) (j : Nat) (h : j < 16) : p.cs[1 + j]? = p.a.b.cs[j]? := (p.ca _ (by omega)).trans (p.a.c1 j)

/-- How many bits an address of a version has. -/
def wid (v : Int) : Nat := if v = 4 then 32 else if v = 6 then 128 else 0
theorem wid_le (v : Int) : wid v ≤ 128 := by
  unfold wid
  split
  · omega
  · split <;> omega
def okA (a : Ad) : Prop := wid a.v ≠ 0 ∧ clear a.b (wid a.v)
def okP (p : Px) : Prop := okA p.a ∧ 0 ≤ p.n ∧ p.n ≤ (wid p.a.v : Int) ∧ clear p.a.b p.n.toNat
noncomputable instance (a : Ad) : Decidable (okA a) := Classical.propDecidable _
noncomputable instance (p : Px) : Decidable (okP p) := Classical.propDecidable _
/-- The errors of CheckAddr, of Check. -/
noncomputable def eA (a : Ad) : Int := if okA a then 0 else 150
noncomputable def eP (p : Px) : Int := if okP p then 0 else 151
theorem eA_ok {a : Ad} (h : okA a) : eA a = 0 := if_pos h
theorem eA_no {a : Ad} (h : ¬ okA a) : eA a = 150 := if_neg h
theorem eP_ok {p : Px} (h : okP p) : eP p = 0 := if_pos h
theorem eP_no {p : Px} (h : ¬ okP p) : eP p = 151 := if_neg h

/-! ### The types' rows; loads, stores, equalities under names of their own -/
theorem z_b16 : (Tryz.prog.info? 42).map (fun i => (i.zero, i.size)) = some (some (.agg B16.zero.cs), 16) := by kernel_rfl
theorem z_ad : (Tryz.prog.info? 44).map (fun i => (i.zero, i.size)) = some (some (.agg Ad.zero.cs), 17) := by kernel_rfl
theorem z_px : (Tryz.prog.info? 46).map (fun i => (i.zero, i.size)) = some (some (.agg Px.zero.cs), 18) := by kernel_rfl
theorem s_b16 (b : B16) : (Tryz.prog.info? 42).map (·.size) = some b.cs.size := by rw [b.size]; exact (zero_of_info z_b16).2
theorem s_ad (a : Ad) : (Tryz.prog.info? 44).map (·.size) = some a.cs.size := by rw [a.size]; exact (zero_of_info z_ad).2
theorem s_px (p : Px) : (Tryz.prog.info? 46).map (·.size) = some p.cs.size := by rw [p.size]; exact (zero_of_info z_px).2
theorem load_b16_rule (v : Value) : Instr.loadAt 42 v = loadSem 42 v := rfl
theorem store_b16_rule (v x : Value) : Instr.storeAt 42 v x = storeSem 42 v x := rfl
theorem load_ad_rule (v : Value) : Instr.loadAt 44 v = loadSem 44 v := rfl
theorem store_ad_rule (v x : Value) : Instr.storeAt 44 v x = storeSem 44 v x := rfl
theorem load_px_rule (v : Value) : Instr.loadAt 46 v = loadSem 46 v := rfl
theorem store_px_rule (v x : Value) : Instr.storeAt 46 v x = storeSem 46 v x := rfl
def eqSem (t : TypeId) (a b : Value) : Sem Bool := Op.equalIn 10000 t a b
theorem eq_b16_rule (a b : Value) : Op.equalIn 10000 42 a b = eqSem 42 a b := rfl
theorem eq_ad_rule (a b : Value) : Op.equalIn 10000 44 a b = eqSem 44 a b := rfl
theorem eq_px_rule (a b : Value) : Op.equalIn 10000 46 a b = eqSem 46 a b := rfl

noncomputable instance : DecidableEq B16 := fun _ _ => Classical.propDecidable _
noncomputable instance : DecidableEq Ad := fun _ _ => Classical.propDecidable _
noncomputable instance : DecidableEq Px := fun _ _ => Classical.propDecidable _

theorem equal_b16 (d : Nat) (a b : B16) (w : World) : (Op.equalIn (d + 2) 42 (.agg a.cs) (.agg b.cs)).run Tryz.prog w = .ok (decide (a = b)) w := by
  rw [show d + 2 = (d + 1) + 1 from rfl, Op.equalIn]
  have hu := run_underlying (P := Tryz.prog) Tryz.underlying42 w
  have hn : (sizeOf 5).run Tryz.prog w = .ok 1 w := by kernel_rfl
  simp only [Sem.run_bind, hu, Result.andThen_ok, hn]
  have hagg : (isAgg 5).run Tryz.prog w = .ok false w := by kernel_rfl
  have hpart : ∀ (c : B16) i, i < 16 → (part 5 c.cs (i * 1)).run Tryz.prog w = .ok (.int .u8 (c.at i : Int)) w := by
    intro c i hi
    have hc := c.get i hi
    unfold part
    simp only [Sem.run_bind, hagg, Result.andThen_ok, Nat.mul_one, hc]
    rfl
  have he : ∀ x y : Nat, (Op.equalIn (d + 1) 5 (.int .u8 (x : Int)) (.int .u8 (y : Int))).run Tryz.prog w = .ok (decide (x = y)) w := by
    intro x y
    have := run_equalIn_int (P := Tryz.prog) (w := w) d 5 .u8 .u8 (x : Int) (y : Int) Tryz.underlying5
    rw [this]
    congr 1
    rw [Bool.eq_iff_iff, beq_iff_eq, decide_eq_true_eq]
    omega
  have hloop : ∀ l : List Nat, (∀ i ∈ l, i < 16) → Sem.run Tryz.prog (forIn l ((none : Option Bool), ()) fun i __s => do
      let x ← part 5 a.cs (i * 1)
      let y ← part 5 b.cs (i * 1)
      let z ← Op.equalIn (d + 1) 5 x y
      if (!z) = true then pure (ForInStep.done (some false, ())) else pure (ForInStep.yield (none, ()))) w = .ok (if (∀ i ∈ l, a.at i = b.at i) then (none, ()) else (some false, ())) w := by
    intro l
    induction l with
    | nil => intro _; simp
    | cons i l ih =>
      intro h
      rw [List.forIn_cons]
      simp only [Sem.run_bind, hpart a i (h i (by simp)), hpart b i (h i (by simp)), he, Result.andThen_ok]
      by_cases hx : a.at i = b.at i
      · have hd : (!decide (a.at i = b.at i)) = false := by simp [hx]
        simp only [hd, Bool.false_eq_true, if_false, Sem.run_pure, Result.andThen_ok]
        rw [ih (fun j hj => h j (by simp [hj]))]
        simp [hx]
      · have hd : (!decide (a.at i = b.at i)) = true := by simp [hx]
        simp only [hd, if_true, Sem.run_pure, Result.andThen_ok]
        have : ¬ (∀ j ∈ i :: l, a.at j = b.at j) := fun h9 => hx (h9 i (by simp))
        rw [if_neg this]
  simp only [Std.Legacy.Range.forIn_eq_forIn_range', Std.Legacy.Range.size, Nat.sub_zero, Nat.add_sub_cancel, Nat.div_one]
  rw [hloop _ (by intro i hi; have := List.mem_range'_1.1 hi; omega)]
  by_cases hab : a = b
  · subst hab
    simp
  · have : ¬ (∀ i ∈ List.range' 0 16, a.at i = b.at i) := fun h9 => hab (B16.ext_at fun i hi => h9 i (List.mem_range'_1.2 ⟨by omega, by omega⟩))
    rw [if_neg this]
    simp [hab]
theorem equal_int (d : Nat) (x y : Int) (w : World) : (Op.equalIn (d + 1) 3 (.int .i64 x) (.int .i64 y)).run Tryz.prog w = .ok (decide (x = y)) w := by
  have := run_equalIn_int (P := Tryz.prog) (w := w) d 3 .i64 .i64 x y Tryz.underlying3
  rw [this]
  congr 1
theorem Ad.same {a b : Ad} : a = b ↔ a.v = b.v ∧ a.b = b.b := by
  obtain ⟨v, x⟩ := a
  obtain ⟨u, y⟩ := b
  simp
theorem Px.same {p q : Px} : p = q ↔ p.a = q.a ∧ p.n = q.n := by
  obtain ⟨v, x⟩ := p
  obtain ⟨u, y⟩ := q
  simp
theorem part_v (a : Ad) (w : World) : (part 3 a.cs 0).run Tryz.prog w = .ok (.int .i64 a.v) w := by
  have hagg : (isAgg 3).run Tryz.prog w = .ok false w := by kernel_rfl
  unfold part
  simp only [Sem.run_bind, hagg, Result.andThen_ok, a.c0]
  rfl
theorem part_b (a : Ad) (w : World) : (part 42 a.cs 1).run Tryz.prog w = .ok (.agg a.b.cs) w := by
  have hagg : (isAgg 42).run Tryz.prog w = .ok true w := by kernel_rfl
  have hn : (sizeOf 42).run Tryz.prog w = .ok 16 w := by kernel_rfl
  have e : a.cs.extract 1 (1 + 16) = a.b.cs := by
    apply Array.ext_getElem?
    intro j
    rw [Array.getElem?_extract, a.size]
    by_cases hj : j < 16
    · rw [if_pos (by omega), a.c1]
    · rw [if_neg (by omega), Array.getElem?_eq_none (by rw [B16.size]; omega)]
  unfold part
  simp only [Sem.run_bind, hagg, hn, Result.andThen_ok, if_true, a.size, e]
  first | rfl | (simp; rfl) | simp
theorem part_a (p : Px) (w : World) : (part 44 p.cs 0).run Tryz.prog w = .ok (.agg p.a.cs) w := by
  have hagg : (isAgg 44).run Tryz.prog w = .ok true w := by kernel_rfl
  have hn : (sizeOf 44).run Tryz.prog w = .ok 17 w := by kernel_rfl
  have e : p.cs.extract 0 (0 + 17) = p.a.cs := by
    apply Array.ext_getElem?
    intro j
    rw [Array.getElem?_extract, p.size]
    by_cases hj : j < 17
    · rw [if_pos (by omega), Nat.zero_add, p.ca j hj]
    · rw [if_neg (by omega), Array.getElem?_eq_none (by rw [Ad.size]; omega)]
  unfold part
  simp only [Sem.run_bind, hagg, hn, Result.andThen_ok, if_true, p.size, e]
  first | rfl | (simp; rfl) | simp
theorem part_n (p : Px) (w : World) : (part 3 p.cs 17).run Tryz.prog w = .ok (.int .i64 p.n) w := by
  have hagg : (isAgg 3).run Tryz.prog w = .ok false w := by kernel_rfl
  unfold part
  simp only [Sem.run_bind, hagg, Result.andThen_ok, p.cn]
  rfl
theorem stood_ad : Tryz.prog.stoodInHeld 44 = false := by kernel_rfl
theorem stood_px : Tryz.prog.stoodInHeld 46 = false := by kernel_rfl
theorem run_prog (w : World) : (program).run Tryz.prog w = .ok Tryz.prog w := rfl
theorem equal_ad (d : Nat) (a b : Ad) (w : World) : (Op.equalIn (d + 3) 44 (.agg a.cs) (.agg b.cs)).run Tryz.prog w = .ok (decide (a = b)) w := by
  rw [show d + 3 = (d + 2) + 1 from rfl, Op.equalIn]
  have hu := run_underlying (P := Tryz.prog) Tryz.underlying44 w
  have h2 := fun x y => equal_int (d + 1) x y w
  have h3 := fun x y => equal_b16 d x y w
  simp only [Sem.run_bind, hu, Result.andThen_ok, run_prog, stood_ad]
  simp only [Bool.false_eq_true, if_false, List.forIn_toArray, List.forIn_cons, List.forIn_nil, Sem.run_bind, Sem.run_pure, Result.andThen_ok]
  simp only [show ("Version" ≠ "_") = True from by simp, show ("Bytes" ≠ "_") = True from by simp, if_true, Sem.run_bind, Result.andThen_ok, part_v, part_b, h2, h3]
  by_cases hv : a.v = b.v
  · have hd : (!decide (a.v = b.v)) = false := by simp [hv]
    simp only [hd, Bool.false_eq_true, if_false, Sem.run_pure, Sem.run_bind, Result.andThen_ok, part_b, h3]
    by_cases hb : a.b = b.b
    · have hd2 : (!decide (a.b = b.b)) = false := by simp [hb]
      have he : decide (a = b) = true := decide_eq_true (Ad.same.2 ⟨hv, hb⟩)
      simp only [hd2, Bool.false_eq_true, if_false, Sem.run_pure, Result.andThen_ok, he]
    · have hd2 : (!decide (a.b = b.b)) = true := by simp [hb]
      have he : decide (a = b) = false := decide_eq_false (fun h => hb (Ad.same.1 h).2)
      simp only [hd2, if_true, Sem.run_pure, Result.andThen_ok, he]
  · have hd : (!decide (a.v = b.v)) = true := by simp [hv]
    have he : decide (a = b) = false := decide_eq_false (fun h => hv (Ad.same.1 h).1)
    simp only [hd, if_true, Sem.run_pure, Result.andThen_ok, he]
theorem equal_px (d : Nat) (p q : Px) (w : World) : (Op.equalIn (d + 4) 46 (.agg p.cs) (.agg q.cs)).run Tryz.prog w = .ok (decide (p = q)) w := by
  rw [show d + 4 = (d + 3) + 1 from rfl, Op.equalIn]
  have hu := run_underlying (P := Tryz.prog) Tryz.underlying46 w
  have h2 := fun x y => equal_int (d + 2) x y w
  have h3 := fun x y => equal_ad d x y w
  simp only [Sem.run_bind, hu, Result.andThen_ok, run_prog, stood_px]
  simp only [Bool.false_eq_true, if_false, List.forIn_toArray, List.forIn_cons, List.forIn_nil, Sem.run_bind, Sem.run_pure, Result.andThen_ok]
  simp only [show ("Addr" ≠ "_") = True from by simp, show ("Bits" ≠ "_") = True from by simp, if_true, Sem.run_bind, Result.andThen_ok, part_a, part_n, h2, h3]
  by_cases hv : p.a = q.a
  · have hd : (!decide (p.a = q.a)) = false := by simp [hv]
    simp only [hd, Bool.false_eq_true, if_false, Sem.run_pure, Sem.run_bind, Result.andThen_ok, part_n, h2]
    by_cases hb : p.n = q.n
    · have hd2 : (!decide (p.n = q.n)) = false := by simp [hb]
      have he : decide (p = q) = true := decide_eq_true (Px.same.2 ⟨hv, hb⟩)
      simp only [hd2, Bool.false_eq_true, if_false, Sem.run_pure, Result.andThen_ok, he]
    · have hd2 : (!decide (p.n = q.n)) = true := by simp [hb]
      have he : decide (p = q) = false := decide_eq_false (fun h => hb (Px.same.1 h).2)
      simp only [hd2, if_true, Sem.run_pure, Result.andThen_ok, he]
  · have hd : (!decide (p.a = q.a)) = true := by simp [hv]
    have he : decide (p = q) = false := decide_eq_false (fun h => hv (Px.same.1 h).1)
    simp only [hd, if_true, Sem.run_pure, Result.andThen_ok, he]
theorem eqB (a b : B16) (w : World) : (eqSem 42 (.agg a.cs) (.agg b.cs)).run Tryz.prog w = .ok (decide (a = b)) w := by
  unfold eqSem
  obtain ⟨d, hd⟩ : ∃ d, d + 2 = 10000 := ⟨9998, rfl⟩
  rw [← hd]
  exact equal_b16 d a b w
theorem eqA (a b : Ad) (w : World) : (eqSem 44 (.agg a.cs) (.agg b.cs)).run Tryz.prog w = .ok (decide (a = b)) w := by
  unfold eqSem
  obtain ⟨d, hd⟩ : ∃ d, d + 3 = 10000 := ⟨9997, rfl⟩
  rw [← hd]
  exact equal_ad d a b w
theorem eqP (a b : Px) (w : World) : (eqSem 46 (.agg a.cs) (.agg b.cs)).run Tryz.prog w = .ok (decide (a = b)) w := by
  unfold eqSem
  obtain ⟨d, hd⟩ : ∃ d, d + 4 = 10000 := ⟨9996, rfl⟩
  rw [← hd]
  exact equal_px d a b w
end Go.Proofs.YtikdgbmdepplgaaGreatDoor
