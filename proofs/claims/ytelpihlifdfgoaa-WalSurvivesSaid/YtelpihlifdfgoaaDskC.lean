/-
  Laws for loads, stores and new variables of several cells, in a plain list of operations and inside a fence; the contracts of disk's rows and of its iterator. Nothing here is a statement of the document.
-/
import Derived.Test.YtelpihlifdfgoaaRows
import Derived.WalkKit
import Derived.ProofKit
import Derived.Lib.Hide
import Derived.Outline
import Derived.Deep.MidRow
import Derived.Deep.WholeRow
import Derived.Laws.AppendOwn
import Derived.Laws.CopyOwn
import Derived.Deep.QuietTactic
import Derived.BigQuiet
import Derived.Laws.OwnMore
import Derived.RangeFuncNested
import Derived.RangeFuncBound
import Derived.RangeFuncCalls
import Derived.RangeFuncLeaves
import Derived.RangeFuncBox
import Derived.OwnWalkIn
import Derived.TacticsInMore
import Derived.LoopNIn
import Derived.LoopIn
namespace Go.Proofs.Ytelpihlifdfgoaa
open Go.RowKit
set_option linter.unusedVariables false

/-! ### Memory -/

/-- Only blocks of S have changed; new ones may have been made. -/
structure Kept (S : List Nat) (w w' : World) : Prop where
  os : w'.os = w.os
  tape : w'.tape = w.tape
  output : w'.output = w.output
  size : w.heap.size ≤ w'.heap.size
  block : ∀ k, k < w.heap.size → k ∉ S → w'.heap[k]? = w.heap[k]?

theorem Kept.refl (S : List Nat) (w : World) : Kept S w w := ⟨rfl, rfl, rfl, Nat.le_refl _, fun _ _ _ => rfl⟩
theorem Kept.trans {S : List Nat} {a b c : World} (h : Kept S a b) (k : Kept S b c) : Kept S a c :=
  ⟨k.os.trans h.os, k.tape.trans h.tape, k.output.trans h.output, Nat.le_trans h.size k.size, fun i hi hn => (k.block i (Nat.lt_of_lt_of_le hi h.size) hn).trans (h.block i hi hn)⟩
/-- The second step may have changed blocks that the first one made. -/
theorem Kept.trans2 {S T : List Nat} {a b c : World} (h : Kept S a b) (k : Kept T b c) (hT : ∀ i ∈ T, i ∈ S ∨ a.heap.size ≤ i) : Kept S a c :=
  ⟨k.os.trans h.os, k.tape.trans h.tape, k.output.trans h.output, Nat.le_trans h.size k.size, fun i hi hn =>
    (k.block i (Nat.lt_of_lt_of_le hi h.size) (fun hm => by rcases hT i hm with h1 | h1; exact hn h1; omega)).trans (h.block i hi hn)⟩
theorem Kept.more {S T : List Nat} {a b : World} (h : Kept S a b) (hT : ∀ i ∈ S, i ∈ T) : Kept T a b :=
  ⟨h.os, h.tape, h.output, h.size, fun i hi hn => h.block i hi (fun hm => hn (hT i hm))⟩
theorem Kept.drew {S : List Nat} {a b : World} (h : Kept S a b) : Kept S a b.drew := ⟨h.os, h.tape, h.output, h.size, h.block⟩
theorem Kept.drewN {S : List Nat} {a b : World} (h : Kept S a b) (n : Nat) : Kept S a (b.drewN n) := ⟨h.os, h.tape, h.output, h.size, h.block⟩
theorem Kept.alloc {S : List Nat} {a b : World} (h : Kept S a b) (o : Obj) : Kept S a (b.alloc o) :=
  h.trans ⟨rfl, rfl, rfl, by simp, fun k hk _ => Below.heap_alloc _ _ _ hk⟩
theorem Kept.setCell {S : List Nat} {a b : World} (h : Kept S a b) {p : Addr} (hp : p.block ∈ S ∨ a.heap.size ≤ p.block) (v : Value) : Kept S a (b.setCell p v) :=
  h.trans2 (T := [p.block]) ⟨rfl, rfl, rfl, by simp [World.setCell], fun k hk hn => Below.heap_setCell _ _ _ _ (by simpa using hn)⟩ (by simpa using hp)
theorem Kept.setRow {S : List Nat} {a b : World} (h : Kept S a b) {g : Nat} (hp : g ∈ S ∨ a.heap.size ≤ g) (cs : Array Value) : Kept S a (b.setRow g cs) :=
  h.trans2 (T := [g]) ⟨rfl, rfl, rfl, by simp, fun k hk hn => setRow_other b g k cs (by simpa using hn)⟩ (by simpa using hp)
theorem Kept.grown {S : List Nat} {a b c : World} {row : Option Nat} (h : Kept S a b) (hg : b.grownBy c row) (hr : ∀ k, row = some k → k ∈ S ∨ a.heap.size ≤ k) : Kept S a c :=
  h.trans2 (T := row.toList) ⟨hg.os, hg.tape, hg.output, hg.size, fun k hk hn => hg.block k hk (fun e => hn (by simp [← e]))⟩ (by intro i hi; exact hr i (by simpa using hi))
theorem Kept.of_below {a b : World} (S : List Nat) (h : Below a.heap.size a b) : Kept S a b := ⟨h.os, h.tape, h.output, h.size, fun k hk _ => h.block k hk⟩
theorem Kept.below {S : List Nat} {a b : World} {B : Nat} (h : Kept S a b) (hS : ∀ k ∈ S, B ≤ k) (hB : B ≤ a.heap.size) : Below B a b :=
  ⟨h.os, h.tape, h.output, h.size, fun k hk => h.block k (by omega) (fun hm => by have := hS k hm; omega)⟩
theorem Kept.blk {S : List Nat} {a b : World} (h : Kept S a b) {g : Nat} {o : Obj} (hg : a.heap[g]? = some o) (hn : g ∉ S) : b.heap[g]? = some o :=
  (h.block g (Array.getElem?_eq_some_iff.1 hg).1 hn).trans hg

/-- Block g holds just these cells. -/
def Blk (w : World) (g : Nat) (t : TypeId) (cs : Array Value) : Prop := w.heap[g]? = some (.cells cs t (0, 0))
theorem Blk.lt {w : World} {g : Nat} {t : TypeId} {cs : Array Value} (h : Blk w g t cs) : g < w.heap.size := (Array.getElem?_eq_some_iff.1 h).1
theorem Blk.cell {w : World} {g : Nat} {t : TypeId} {cs : Array Value} (h : Blk w g t cs) (i : Nat) : w.cell? ⟨g, i, none⟩ = cs[i]? := cell_of_row w g i cs t (0, 0) h
theorem Blk.free {w : World} {g : Nat} {t : TypeId} {cs : Array Value} (h : Blk w g t cs) (i : Nat) : w.frozen? ⟨g, i, none⟩ = false := frozen_of_row w g i cs t h
theorem Blk.new (w : World) (t : TypeId) (cs : Array Value) : Blk (w.alloc (.cells cs t)) w.heap.size t cs := heap_alloc_new w _
theorem Blk.alloc {w : World} {g : Nat} {t : TypeId} {cs : Array Value} (h : Blk w g t cs) (o : Obj) : Blk (w.alloc o) g t cs := (Below.heap_alloc w o g h.lt).trans h
theorem Blk.drew {w : World} {g : Nat} {t : TypeId} {cs : Array Value} (h : Blk w g t cs) : Blk w.drew g t cs := h
theorem Blk.set {w : World} {g : Nat} {t : TypeId} {cs : Array Value} (h : Blk w g t cs) (i : Nat) (v : Value) : Blk (w.setCell ⟨g, i, none⟩ v) g t (cs.setIfInBounds i v) := heap_setCell_same w g i cs t v h
theorem Blk.far {w : World} {g : Nat} {t : TypeId} {cs : Array Value} (h : Blk w g t cs) {p : Addr} (hp : g ≠ p.block) (v : Value) : Blk (w.setCell p v) g t cs := (Below.heap_setCell w p v g hp).trans h
theorem Blk.row {w : World} {g : Nat} {t : TypeId} {cs : Array Value} (h : Blk w g t cs) (cs' : Array Value) : Blk (w.setRow g cs') g t cs' := setRow_heap w g cs cs' t _ h
theorem Blk.kept {w w' : World} {g : Nat} {t : TypeId} {cs : Array Value} {S : List Nat} (h : Blk w g t cs) (k : Kept S w w') (hn : g ∉ S) : Blk w' g t cs := k.blk h hn
theorem Blk.ne {w : World} {g g' : Nat} {t t' : TypeId} {cs cs' : Array Value} (h : Blk w g t cs) (h' : Blk w g' t' cs') (ht : t ≠ t') : g ≠ g' := by
  rintro rfl
  unfold Blk at h h'
  rw [h] at h'
  injection h' with h'
  injection h' with _ e
  exact ht e

/-- Cells laid over others from a place on. -/
def over (C : Array Value) (o : Nat) (vs : Array Value) : Array Value := (splice C.toList o vs.toList).toArray
theorem size_over {C : Array Value} {o : Nat} {vs : Array Value} (h : o + vs.size ≤ C.size) : (over C o vs).size = C.size := by
  have := length_splice C.toList o vs.toList (by simpa using h)
  simpa [over] using this
theorem splice_get {α : Type} {L : List α} {o : Nat} {cs : List α} (h : o + cs.length ≤ L.length) (i : Nat) : (splice L o cs)[i]? = if i < o then L[i]? else if i < o + cs.length then cs[i - o]? else L[i]? := by
  unfold splice
  by_cases h1 : i < o
  · rw [if_pos h1, List.getElem?_append_left (by simp; omega), List.getElem?_take, if_pos h1]
  · have e : (L.take o).length = o := by simp; omega
    rw [if_neg h1, List.getElem?_append_right (by omega), e]
    by_cases h2 : i < o + cs.length
    · rw [if_pos h2, List.getElem?_append_left (by omega)]
    · rw [if_neg h2, List.getElem?_append_right (by omega), List.getElem?_drop]
      congr 1
      omega
theorem over_get {C vs : Array Value} {o : Nat} (h : o + vs.size ≤ C.size) (i : Nat) : (over C o vs)[i]? = if i < o then C[i]? else if i < o + vs.size then vs[i - o]? else C[i]? := by
  have e : (over C o vs)[i]? = (splice C.toList o vs.toList)[i]? := by simp [over]
  rw [e, splice_get (by simpa using h)]
  simp
theorem setCells_row {g : Nat} {t : TypeId} (vs : List Value) : ∀ (o : Nat) (w : World) (C : Array Value), Blk w g t C → o + vs.length ≤ C.size → w.setCells g o vs = w.setRow g (splice C.toList o vs).toArray := by
  induction vs with
  | nil =>
    intro o w C h _
    have e : (splice C.toList o []).toArray = C := by simp [splice]
    rw [e]
    show w = w.setRow g C
    unfold Blk at h
    have hlt := (Array.getElem?_eq_some_iff.1 h).1
    have hw : (w.setRow g C).heap = w.heap := by
      apply Array.ext_getElem?
      intro i
      by_cases hi : i = g
      · subst hi; rw [setRow_heap w i C C t _ h, h]
      · exact setRow_other w g i C hi
    cases w
    simp only [World.setRow] at hw ⊢
    simp only [hw]
  | cons v r ih =>
    intro o w C h hl
    simp only [List.length_cons] at hl
    rw [World.setCells, ih (o + 1) _ _ (h.set o v) (by simp; omega), setCell_eq_setRow w g o C t (0, 0) v h]
    have e1 : ((w.setRow g (C.setIfInBounds o v)).setRow g (splice (C.setIfInBounds o v).toList (o + 1) r).toArray) = w.setRow g (splice (C.setIfInBounds o v).toList (o + 1) r).toArray := by
      simp only [World.setRow]
      congr 1
      apply Array.ext_getElem?
      intro i
      simp only [Array.getElem?_modify]
      by_cases hi : g = i
      · subst hi
        unfold Blk at h
        simp [h]
      · simp [hi]
    rw [e1]
    congr 2
    apply List.ext_getElem?
    intro i
    rw [splice_get (by simp; omega), splice_get (by simp; omega)]
    simp only [List.length_cons, Array.toList_setIfInBounds]
    by_cases h1 : i < o
    · rw [if_pos (by omega), if_pos h1, List.getElem?_set_ne (by omega)]
    · rw [if_neg h1]
      by_cases h2 : i = o
      · subst h2
        rw [if_pos (by omega), if_pos (by omega), Nat.sub_self]
        have : i < C.size := by omega
        simp [this]
      · rw [if_neg (by omega), List.getElem?_set_ne (by omega)]
        obtain ⟨j, rfl⟩ : ∃ j, i = o + 1 + j := ⟨i - (o + 1), by omega⟩
        rw [show o + 1 + j - (o + 1) = j from by omega, show o + 1 + j - o = j + 1 from by omega, List.getElem?_cons_succ]
        by_cases h3 : j < r.length
        · rw [if_pos (by omega), if_pos (by omega)]
        · rw [if_neg (by omega), if_neg (by omega)]
theorem setCells_over {w : World} {g : Nat} {t : TypeId} {C : Array Value} (h : Blk w g t C) (o : Nat) (vs : Array Value) (hl : o + vs.size ≤ C.size) : w.setCells g o vs.toList = w.setRow g (over C o vs) :=
  setCells_row vs.toList o w C h (by simpa using hl)

section
variable {P : Program}
/-- A load of several cells out of a block that is known. -/
theorem wpList_load_blk {ops : Array Oper} {rest : List Oper} {op : Oper} {a : Act} {w : World} {Q : Exit → Act → World → Prop} (hgd : op.guard = none) (ty : TypeId) (x : Operand) (ho : op.op = .load ty x)
    (g o : Nat) (hx : a.eval x = .pointer (some ⟨g, o, none⟩)) (vs C : Array Value) (t : TypeId) (h : Blk w g t C) (hv : ∀ j, j < vs.size → C[o + j]? = vs[j]?) (d : TypeDesc)
    (hu : P.underlying ty = some d) (hd : d.isRow = true) (hi : (P.info? ty).map (·.size) = some vs.size)
    (hK : wpList P ops Q rest (a.put op.dst (.agg vs)) w) : wpList P ops Q (op :: rest) a w :=
  wpList_load_mid hgd ty x ho g o hx vs.toList d (fun j v hj => by
    have hl : j < vs.size := by simpa using (List.getElem?_eq_some_iff.1 hj).1
    rw [h.cell, hv j hl]; simpa using hj) hu hd (by simpa using hi) hK
/-- A store of several cells into a block that is known. -/
theorem wpList_store_blk {ops : Array Oper} {rest : List Oper} {op : Oper} {a : Act} {w : World} {Q : Exit → Act → World → Prop} (hgd : op.guard = none) (ty : TypeId) (x y : Operand) (ho : op.op = .store ty x y)
    (g o : Nat) (vs C : Array Value) (t : TypeId) (hx : a.eval x = .pointer (some ⟨g, o, none⟩)) (hy : a.eval y = .agg vs) (h : Blk w g t C) (hl : o + vs.size ≤ C.size)
    (hi : (P.info? ty).map (·.size) = some vs.size) (h1 : vs.all (·.oneCell') = true)
    (hK : wpList P ops Q rest (a.put op.dst undef) (w.setRow g (over C o vs))) : wpList P ops Q (op :: rest) a w := by
  refine wpList_store_mid hgd ty x y ho g o vs hx hy (fun j hj => ⟨?_, h.free _⟩) hi h1 ?_
  · rw [h.cell, Array.getElem?_eq_getElem (by omega)]; rfl
  · rw [setCells_over h o vs hl]; exact hK
end

/-! ### Blocks, rows, disks -/

/-- A block: 64 numbers. -/
structure Bk where
  l : List Int
  len : l.length = 64
def Bk.zero : Bk := ⟨List.replicate 64 0, rfl⟩
def Bk.cs (b : Bk) : Array Value := (b.l.map (Value.int .u8)).toArray
theorem Bk.size (b : Bk) : b.cs.size = 64 := by simp [Bk.cs, b.len]
theorem Bk.one (b : Bk) : b.cs.all (·.oneCell') = true := by
  rw [Array.all_eq_true_iff_forall_mem]
  intro v hv
  simp only [Bk.cs, List.mem_toArray, List.mem_map] at hv
  obtain ⟨n, _, rfl⟩ := hv
  rfl
theorem Bk.inj {a b : Bk} (h : a.cs = b.cs) : a = b := by
  obtain ⟨l, hl⟩ := a
  obtain ⟨m, hm⟩ := b
  have : l = m := by
    have h2 : l.map (Value.int .u8) = m.map (Value.int .u8) := by simpa [Bk.cs] using h
    exact (List.map_inj_right (fun x y e => by injection e)).1 h2
  subst this; rfl

/-- A row of a buffer: a sector and a block. -/
structure Rw where
  s : Nat
  b : Bk
def Rw.cs (r : Rw) : Array Value := #[Value.int .i64 (r.s : Int)] ++ r.b.cs
theorem Rw.size (r : Rw) : r.cs.size = 65 := by simp [Rw.cs, r.b.size]
theorem Rw.one (r : Rw) : r.cs.all (·.oneCell') = true := by
  have := r.b.one
  rw [Array.all_eq_true_iff_forall_mem] at this ⊢
  intro v hv
  rcases Array.mem_append.1 hv with h | h
  · obtain rfl : v = Value.int .i64 (r.s : Int) := by simpa using h
    rfl
  · exact this v h

/-- Blocks, one behind the other, as cells; rows likewise. -/
def pcs (l : List Bk) : List Value := l.flatMap fun b => b.cs.toList
def rcs (l : List Rw) : List Value := l.flatMap fun r => r.cs.toList
theorem pcs_length (l : List Bk) : (pcs l).length = l.length * 64 := by
  induction l with
  | nil => rfl
  | cons b l ih => simp only [pcs, List.flatMap_cons, List.length_append, List.length_cons] at ih ⊢; rw [ih]; have := b.size; simp; omega
theorem rcs_length (l : List Rw) : (rcs l).length = l.length * 65 := by
  induction l with
  | nil => rfl
  | cons b l ih => simp only [rcs, List.flatMap_cons, List.length_append, List.length_cons] at ih ⊢; rw [ih]; have := b.size; simp; omega
theorem pcs_one (l : List Bk) : ∀ v ∈ pcs l, v.oneCell' = true := by
  intro v hv
  obtain ⟨b, _, hb⟩ := List.mem_flatMap.1 hv
  exact Array.all_eq_true_iff_forall_mem.1 b.one v (by simpa using hb)
theorem rcs_one (l : List Rw) : ∀ v ∈ rcs l, v.oneCell' = true := by
  intro v hv
  obtain ⟨b, _, hb⟩ := List.mem_flatMap.1 hv
  exact Array.all_eq_true_iff_forall_mem.1 b.one v (by simpa using hb)
theorem flat_get {α : Type} {f : α → Array Value} {n : Nat} (hf : ∀ x, (f x).size = n) : ∀ (l : List α) (k : Nat) (x : α), l[k]? = some x → ∀ j, j < n → (l.flatMap fun y => (f y).toList)[k * n + j]? = (f x)[j]? := by
  intro l
  induction l with
  | nil => intro k x h; simp at h
  | cons y l ih =>
    intro k x h j hj
    rw [List.flatMap_cons]
    cases k with
    | zero =>
      simp only [List.getElem?_cons_zero, Option.some.injEq] at h
      subst h
      rw [List.getElem?_append_left (by simp [hf]; omega)]
      simp
    | succ k =>
      rw [List.getElem?_append_right (by simp [hf]; rw [Nat.add_mul]; omega)]
      simp only [List.getElem?_cons_succ] at h
      have := ih k x h j hj
      simp only [Array.length_toList, hf]
      rw [show (k + 1) * n + j - n = k * n + j from by rw [Nat.add_mul]; omega]
      exact this
theorem pcs_get {l : List Bk} {k : Nat} {b : Bk} (h : l[k]? = some b) {j : Nat} (hj : j < 64) : (pcs l)[k * 64 + j]? = b.cs[j]? := flat_get Bk.size l k b h j hj
theorem rcs_get {l : List Rw} {k : Nat} {r : Rw} (h : l[k]? = some r) {j : Nat} (hj : j < 65) : (rcs l)[k * 65 + j]? = r.cs[j]? := flat_get Rw.size l k r h j hj
theorem flat_set {α : Type} {f : α → Array Value} {n : Nat} (hf : ∀ x, (f x).size = n) : ∀ (l : List α) (k : Nat) (x : α), k < l.length → splice (l.flatMap fun y => (f y).toList) (k * n) (f x).toList = (l.set k x).flatMap fun y => (f y).toList := by
  intro l
  induction l with
  | nil => intro k x h; simp at h
  | cons y l ih =>
    intro k x h
    cases k with
    | zero =>
      simp [splice, List.set_cons_zero, List.flatMap_cons, hf]
    | succ k =>
      have := ih k x (by simpa using h)
      rw [List.set_cons_succ, List.flatMap_cons, List.flatMap_cons, ← this]
      have e : (k + 1) * n = (f y).toList.length + k * n := by simp [hf]; rw [Nat.add_mul]; omega
      rw [e]
      simp only [splice, Nat.add_assoc, List.take_append, List.drop_append]
      simp [List.take_of_length_le, List.drop_eq_nil_of_le, Nat.add_assoc]
theorem pcs_set {l : List Bk} {k : Nat} (b : Bk) (h : k < l.length) : splice (pcs l) (k * 64) b.cs.toList = pcs (l.set k b) := flat_set Bk.size l k b h
theorem rcs_set {l : List Rw} {k : Nat} (r : Rw) (h : k < l.length) : splice (rcs l) (k * 65) r.cs.toList = rcs (l.set k r) := flat_set Rw.size l k r h
theorem rcs_append (l m : List Rw) : rcs (l ++ m) = rcs l ++ rcs m := by simp [rcs]
theorem rcs_one_row (r : Rw) : rcs [r] = r.cs.toList := by simp [rcs]
theorem rcs_drop (l : List Rw) (k : Nat) : (rcs l).drop (k * 65) = rcs (l.drop k) := by
  induction l generalizing k with
  | nil => simp [rcs]
  | cons r l ih =>
    cases k with
    | zero => simp
    | succ k =>
      have e : (k + 1) * 65 = r.cs.toList.length + k * 65 := by have := r.size; simp [this]; omega
      rw [List.drop_succ_cons, ← ih k]
      show (r.cs.toList ++ rcs l).drop _ = _
      rw [e, List.drop_append]
      simp
end Go.Proofs.Ytelpihlifdfgoaa
namespace Go.Proofs.Ytelpihlifdfgoaa
open Go.RowKit
set_option linter.unusedVariables false

/-- What a disk holds. -/
structure Dk where
  plate : List Bk
  rows : List Rw
  fuse : Option Nat
  flaw : Option Nat
  dead : Bool
  ops : Int

def cdB (o : Option Nat) : Bool := o.isSome
def cdI (o : Option Nat) : Int := ((o.getD 0 : Nat) : Int)

/-- A disk's own cells. -/
def dcs (pb : Nat) (bv : Value) (D : Dk) : Array Value :=
  #[.slice (some ⟨pb, 0, none⟩) D.plate.length D.plate.length, bv, .bool (cdB D.fuse), .int .i64 (cdI D.fuse), .bool (cdB D.flaw), .int .i64 (cdI D.flaw), .bool D.dead, .int .i64 D.ops]

/-- What holds of every disk. -/
structure Dk.Ok (D : Dk) : Prop where
  pos : 1 ≤ D.plate.length
  max : D.plate.length ≤ 2048
  held : D.rows.length ≤ 8
  at_ : ∀ r ∈ D.rows, r.s < D.plate.length
  once : (D.rows.map (·.s)).Nodup
  fuse : ∀ n, D.fuse = some n → n ≤ 9223372036854775807
  flaw : ∀ n, D.flaw = some n → n ≤ 9223372036854775807

/-- At block p lies a disk that holds D; pb is its plate's block, bv its buffer; none of it lies below B. -/
structure Dsk (w : World) (B p pb : Nat) (bv : Value) (D : Dk) : Prop where
  cells : Blk w p 75 (dcs pb bv D)
  plate : Blk w pb 81 (pcs D.plate).toArray
  buf : w.ownsRow B 83 65 bv D.rows.length (rcs D.rows)
  hp : B ≤ p
  hpb : B ≤ pb
  ok : D.Ok

/-- The blocks of a disk. -/
def fp (p pb : Nat) (bv : Value) : List Nat := p :: pb :: bv.ownBlock.toList

/-- Only a disk's blocks have changed; its buffer is where it was, or new. -/
structure Goes (w w' : World) (p pb : Nat) (bv bv' : Value) : Prop where
  kept : Kept (fp p pb bv) w w'
  new : ∀ k, bv'.ownBlock = some k → bv.ownBlock = some k ∨ w.heap.size ≤ k

theorem Goes.refl (w : World) (p pb : Nat) (bv : Value) : Goes w w p pb bv bv := ⟨Kept.refl _ _, fun k h => .inl h⟩
theorem Goes.trans {w w' w2 : World} {p pb : Nat} {bv bv' bv2 : Value} (h : Goes w w' p pb bv bv') (k : Goes w' w2 p pb bv' bv2) : Goes w w2 p pb bv bv2 := by
  refine ⟨h.kept.trans2 k.kept (fun i hi => ?_), fun i hi => ?_⟩
  · simp only [fp, List.mem_cons, Option.mem_toList] at hi ⊢
    rcases hi with rfl | rfl | hi
    · exact .inl (.inl rfl)
    · exact .inl (.inr (.inl rfl))
    · rcases h.new i hi with h1 | h1
      · exact .inl (.inr (.inr h1))
      · exact .inr h1
  · rcases k.new i hi with h1 | h1
    · exact h.new i h1
    · exact .inr (Nat.le_trans h.kept.size h1)
theorem Goes.alloc {w w' : World} {p pb : Nat} {bv bv' : Value} (h : Goes w w' p pb bv bv') (o : Obj) : Goes w (w'.alloc o) p pb bv bv' := ⟨h.kept.alloc o, h.new⟩
theorem Goes.drew {w w' : World} {p pb : Nat} {bv bv' : Value} (h : Goes w w' p pb bv bv') : Goes w w'.drew p pb bv bv' := ⟨h.kept.drew, h.new⟩
theorem Goes.later {w w' w2 : World} {p pb : Nat} {bv bv' : Value} (h : Goes w w' p pb bv bv') (k : Below w'.heap.size w' w2) : Goes w w2 p pb bv bv' :=
  ⟨h.kept.trans (Kept.of_below _ k), h.new⟩
theorem Goes.setCell {w w' : World} {p pb : Nat} {bv bv' : Value} (h : Goes w w' p pb bv bv') (i : Nat) (v : Value) : Goes w (w'.setCell ⟨p, i, none⟩ v) p pb bv bv' :=
  ⟨h.kept.setCell (.inl (by simp [fp])) v, h.new⟩

section
variable {w w' : World} {B p pb : Nat} {bv : Value} {D : Dk}
theorem Dsk.c0 (h : Dsk w B p pb bv D) : w.cell? ⟨p, 0, none⟩ = some (.slice (some ⟨pb, 0, none⟩) D.plate.length D.plate.length) := h.cells.cell 0
theorem Dsk.c1 (h : Dsk w B p pb bv D) : w.cell? ⟨p, 1, none⟩ = some bv := h.cells.cell 1
theorem Dsk.c2 (h : Dsk w B p pb bv D) : w.cell? ⟨p, 2, none⟩ = some (.bool (cdB D.fuse)) := h.cells.cell 2
theorem Dsk.c3 (h : Dsk w B p pb bv D) : w.cell? ⟨p, 3, none⟩ = some (.int .i64 (cdI D.fuse)) := h.cells.cell 3
theorem Dsk.c4 (h : Dsk w B p pb bv D) : w.cell? ⟨p, 4, none⟩ = some (.bool (cdB D.flaw)) := h.cells.cell 4
theorem Dsk.c5 (h : Dsk w B p pb bv D) : w.cell? ⟨p, 5, none⟩ = some (.int .i64 (cdI D.flaw)) := h.cells.cell 5
theorem Dsk.c6 (h : Dsk w B p pb bv D) : w.cell? ⟨p, 6, none⟩ = some (.bool D.dead) := h.cells.cell 6
theorem Dsk.c7 (h : Dsk w B p pb bv D) : w.cell? ⟨p, 7, none⟩ = some (.int .i64 D.ops) := h.cells.cell 7
theorem Dsk.lt (h : Dsk w B p pb bv D) : p < w.heap.size := h.cells.lt
theorem Dsk.ne (h : Dsk w B p pb bv D) : p ≠ pb := h.cells.ne h.plate (by decide)
/-- The buffer's block is neither the disk's own, nor the plate's. -/
theorem Dsk.far (h : Dsk w B p pb bv D) : ∀ k, bv.ownBlock = some k → k ≠ p ∧ k ≠ pb ∧ B ≤ k ∧ k < w.heap.size := by
  intro k hk
  have hl := h.buf.lt k hk
  rcases h.buf.2 with ⟨rfl, _⟩ | ⟨g, cap, cur, rfl, _, hg, _⟩
  · simp [Value.ownBlock] at hk
  · obtain rfl : g = k := by simpa [Value.ownBlock] using hk
    have hb : Blk w g 83 cur := hg
    exact ⟨hb.ne h.cells (by decide), hb.ne h.plate (by decide), hl.1, hl.2⟩
/-- Whatever has changed elsewhere. -/
theorem Dsk.apart (h : Dsk w B p pb bv D) {S : List Nat} (k : Kept S w w') (hS : ∀ i ∈ S, i ∉ fp p pb bv) : Dsk w' B p pb bv D := by
  refine ⟨h.cells.kept k (fun hm => hS _ hm (by simp [fp])), h.plate.kept k (fun hm => hS _ hm (by simp [fp])), ?_, h.hp, h.hpb, h.ok⟩
  rcases h.buf.2 with ⟨rfl, h0⟩ | ⟨g, cap, cur, rfl, hB, hg, r⟩
  · exact ⟨h.buf.1, .inl ⟨rfl, h0⟩⟩
  · exact ⟨h.buf.1, .inr ⟨g, cap, cur, rfl, hB, Blk.kept (cs := cur) hg k (fun hm => hS _ hm (by simp [fp, Value.ownBlock])), r⟩⟩
theorem Dsk.later (h : Dsk w B p pb bv D) (k : Below w.heap.size w w') : Dsk w' B p pb bv D := h.apart (Kept.of_below [] k) (by simp)
theorem Dsk.alloc (h : Dsk w B p pb bv D) (o : Obj) : Dsk (w.alloc o) B p pb bv D := h.later ((Below.refl _ _).alloc (Nat.le_refl _) _)
theorem Dsk.drew (h : Dsk w B p pb bv D) : Dsk w.drew B p pb bv D := h.later (Below.refl _ _).drew
/-- A field of the disk's own cells is turned. -/
theorem Dsk.turn (h : Dsk w B p pb bv D) (i : Nat) (v : Value) (D' : Dk) (hc : (dcs pb bv D).setIfInBounds i v = dcs pb bv D') (h1 : D'.plate = D.plate) (h2 : D'.rows = D.rows) (ok : D'.Ok) : Dsk (w.setCell ⟨p, i, none⟩ v) B p pb bv D' := by
  have hg : w.grownBy (w.setCell ⟨p, i, none⟩ v) (some p) := ⟨rfl, rfl, rfl, by simp [World.setCell], fun k _ hk => Below.heap_setCell _ _ _ _ (fun e => hk (by rw [e]))⟩
  refine ⟨?_, ?_, ?_, h.hp, h.hpb, ok⟩
  · rw [← hc]; exact h.cells.set i v
  · rw [h1]; exact h.plate.far (p := ⟨p, i, none⟩) h.ne.symm v
  · rw [h2]
    refine h.buf.kept hg ?_
    cases e : bv.ownBlock with
    | none => exact .inl rfl
    | some k => exact .inr (fun e2 => (h.far k e).1 (by injection e2))
theorem Goes.below {bv' : Value} (h : Goes w w' p pb bv bv') (hD : Dsk w B p pb bv D) (hB : B ≤ w.heap.size) : Below B w w' :=
  h.kept.below (fun k hk => by
    simp only [fp, List.mem_cons, Option.mem_toList] at hk
    rcases hk with rfl | rfl | hk
    · exact hD.hp
    · exact hD.hpb
    · exact (hD.far k hk).2.2.1) hB
end

/-! ### What only reads -/

set_option maxHeartbeats 400000 in
theorem power_nil (w : World) : Calls Try.prog 31 #[.pointer none] w fun e w' => e = .returned (.int .i64 1) ∧ w = w' := by
  go_enter Try.func31, Try.ntmps31
  go_wp2
  go_ret
  exact ⟨rfl, rfl⟩
set_option maxHeartbeats 400000 in
theorem power_any {w : World} {B p pb : Nat} {bv : Value} {D : Dk} (h : Dsk w B p pb bv D) :
    Calls Try.prog 31 #[.pointer (some ⟨p, 0, none⟩)] w fun e w' => e = .returned (.int .i64 (if D.dead then 9 else 0)) ∧ w = w' := by
  have c := h.c6
  clear h
  cases hd : D.dead <;> rw [hd] at c
  all_goals
    go_enter Try.func31, Try.ntmps31
    go_wp2
    go_ret
    exact ⟨rfl, rfl⟩
set_option maxHeartbeats 400000 in
theorem len_nil (w : World) : Calls Try.prog 62 #[.pointer none] w fun e w' => e = .returned (.int .i64 0) ∧ w = w' := by
  go_enter Try.func62, Try.ntmps62
  go_wp2
  go_ret
  exact ⟨rfl, rfl⟩
set_option maxHeartbeats 400000 in
theorem len_any {w : World} {B p pb : Nat} {bv : Value} {D : Dk} (h : Dsk w B p pb bv D) :
    Calls Try.prog 62 #[.pointer (some ⟨p, 0, none⟩)] w fun e w' => e = .returned (.int .i64 (D.plate.length : Int)) ∧ w = w' := by
  have c := h.c0
  clear h
  go_enter Try.func62, Try.ntmps62
  go_wp2
  go_ret
  exact ⟨rfl, rfl⟩
set_option maxHeartbeats 400000 in
theorem ops_nil (w : World) : Calls Try.prog 21 #[.pointer none] w fun e w' => e = .returned (.int .i64 0) ∧ w = w' := by
  go_enter Try.func21, Try.ntmps21
  go_wp2
  go_ret
  exact ⟨rfl, rfl⟩
set_option maxHeartbeats 400000 in
theorem ops_any {w : World} {B p pb : Nat} {bv : Value} {D : Dk} (h : Dsk w B p pb bv D) :
    Calls Try.prog 21 #[.pointer (some ⟨p, 0, none⟩)] w fun e w' => e = .returned (.int .i64 D.ops) ∧ w = w' := by
  have c := h.c7
  clear h
  go_enter Try.func21, Try.ntmps21
  go_wp2
  go_ret
  exact ⟨rfl, rfl⟩

/-! ### Countdowns -/

set_option maxHeartbeats 400000 in
theorem comes_any (o : Option Nat) (w : World) :
    Calls Try.prog 85 #[.agg #[.bool (cdB o), .int .i64 (cdI o)]] w fun e w' => e = .returned (.bool (decide (o = some 0))) ∧ w.alloc (.cells #[.bool (cdB o), .int .i64 (cdI o)] 70) = w' := by
  rcases o with _ | _ | n
  · have e1 : cdB none = false := rfl
    have e2 : cdI none = 0 := rfl
    rw [e1, e2]
    go_enter Try.func85, Try.ntmps85
    go_wp2
    go_ret
    exact ⟨rfl, rfl⟩
  · have e1 : cdB (some 0) = true := rfl
    have e2 : cdI (some 0) = 0 := rfl
    rw [e1, e2]
    go_enter Try.func85, Try.ntmps85
    go_wp2
    go_ret
    exact ⟨rfl, rfl⟩
  · have e1 : cdB (some (n + 1)) = true := rfl
    have e2 : cdI (some (n + 1)) = (n : Int) + 1 := rfl
    rw [e1, e2]
    have hb : (((n : Int) + 1) == 0) = false := by rw [beq_eq_false_iff_ne]; omega
    go_enter Try.func85, Try.ntmps85
    go_wp2
    go_ret
    exact ⟨by simp, rfl⟩

set_option maxHeartbeats 400000 in
theorem pass_none {w : World} {p i : Nat} (h : w.cell? ⟨p, i, none⟩ = some (.bool false)) :
    Calls Try.prog 86 #[.pointer (some ⟨p, i, none⟩)] w fun e w' => e = .returned (.tuple #[]) ∧ w = w' := by
  go_enter Try.func86, Try.ntmps86
  go_wp2
  go_end0
  exact ⟨rfl, rfl⟩
set_option maxHeartbeats 400000 in
theorem pass_some {w : World} {p i n : Nat} (h : w.cell? ⟨p, i, none⟩ = some (.bool true)) (h1 : w.cell? ⟨p, i + 1, none⟩ = some (.int .i64 ((n : Int) + 1))) (hf : w.frozen? ⟨p, i + 1, none⟩ = false) (hn : (n : Int) + 1 ≤ 9223372036854775807) :
    Calls Try.prog 86 #[.pointer (some ⟨p, i, none⟩)] w fun e w' => e = .returned (.tuple #[]) ∧ w.setCell ⟨p, i + 1, none⟩ (.int .i64 (n : Int)) = w' := by
  go_enter Try.func86, Try.ntmps86
  go_wp2
  go_end0
  exact ⟨rfl, rfl⟩

def cdOf (n : Int) : Option Nat := if n < 0 then none else some n.toNat
set_option maxHeartbeats 400000 in
theorem countFrom_any (n : Int) (w : World) :
    Calls Try.prog 32 #[.int .i64 n] w fun e w' => e = .returned (.agg #[.bool (cdB (cdOf n)), .int .i64 (cdI (cdOf n))]) ∧ Below w.heap.size w w' := by
  by_cases hn : n < 0
  · have e : cdOf n = none := by simp [cdOf, hn]
    rw [e]
    have hd : decide (n < 0) = true := by simpa using hn
    go_enter Try.func32, Try.ntmps32
    go_wp2
    exact bodyPost_ret (v := .agg #[.bool false, .int .i64 0]) (by simp [results, Try.results32, go_sem]) rfl ⟨rfl, (Below.refl _ _).alloc (Nat.le_refl _) _⟩
  · have e : cdOf n = some n.toNat := by simp [cdOf, hn]
    have e2 : cdI (some n.toNat) = n := by simp [cdI]; omega
    rw [e, e2]
    have hd : decide (n < 0) = false := by simpa using hn
    go_enter Try.func32, Try.ntmps32
    go_wp2
    exact bodyPost_ret (v := .agg #[.bool true, .int .i64 n]) (by simp [results, Try.results32, go_sem]) rfl ⟨rfl, (Below.refl _ _).alloc (Nat.le_refl _) _⟩

/-! ### reach -/

/-- Why a sector can't be asked for. -/
def reachE (D : Dk) (i : Int) : Int := if D.dead then 9 else if 0 ≤ i ∧ i < D.plate.length then 0 else 2

set_option maxHeartbeats 400000 in
theorem reach_nil (i : Int) (w : World) : Calls Try.prog 69 #[.pointer none, .int .i64 i] w fun e w' => e = .returned (.int .i64 1) ∧ w = w' := by
  go_enter Try.func69, Try.ntmps69
  go_wp2_with (go_at_call 31; refine (power_nil _).mono ?_; rintro e w' ⟨rfl, rfl⟩)
  go_ret
  exact ⟨rfl, rfl⟩
set_option maxHeartbeats 400000 in
theorem reach_any {w : World} {B p pb : Nat} {bv : Value} {D : Dk} (h : Dsk w B p pb bv D) (i : Int) :
    Calls Try.prog 69 #[.pointer (some ⟨p, 0, none⟩), .int .i64 i] w fun e w' => e = .returned (.int .i64 (reachE D i)) ∧ w = w' := by
  have c := h.c0
  have hp := power_any h
  unfold reachE
  cases hd : D.dead
  · rw [hd] at hp
    by_cases h1 : i < 0
    · have hb : decide (i < 0) = true := by simpa using h1
      have hR : (if (false : Bool) = true then (9 : Int) else if 0 ≤ i ∧ i < D.plate.length then 0 else 2) = 2 := by rw [if_neg (by simp), if_neg (by omega)]
      rw [hR]
      go_enter Try.func69, Try.ntmps69
      go_wp2_with (go_at_call 31; refine hp.mono ?_; rintro e w' ⟨rfl, rfl⟩)
      go_ret
      exact ⟨rfl, rfl⟩
    · have hb : decide (i < 0) = false := by simpa using h1
      by_cases h2 : i < D.plate.length
      · have hb2 : decide ((D.plate.length : Int) ≤ i) = false := by simpa using h2
        have hR : (if (false : Bool) = true then (9 : Int) else if 0 ≤ i ∧ i < D.plate.length then 0 else 2) = 0 := by rw [if_neg (by simp), if_pos (by omega)]
        rw [hR]
        go_enter Try.func69, Try.ntmps69
        go_wp2_with (go_at_call 31; refine hp.mono ?_; rintro e w' ⟨rfl, rfl⟩)
        go_ret
        exact ⟨rfl, rfl⟩
      · have hb2 : decide ((D.plate.length : Int) ≤ i) = true := by simpa using h2
        have hR : (if (false : Bool) = true then (9 : Int) else if 0 ≤ i ∧ i < D.plate.length then 0 else 2) = 2 := by rw [if_neg (by simp), if_neg (by omega)]
        rw [hR]
        go_enter Try.func69, Try.ntmps69
        go_wp2_with (go_at_call 31; refine hp.mono ?_; rintro e w' ⟨rfl, rfl⟩)
        go_ret
        exact ⟨rfl, rfl⟩
  · rw [hd] at hp
    go_enter Try.func69, Try.ntmps69
    go_wp2_with (go_at_call 31; refine hp.mono ?_; rintro e w' ⟨rfl, rfl⟩)
    go_ret
    exact ⟨rfl, rfl⟩
end Go.Proofs.Ytelpihlifdfgoaa
namespace Go.Proofs.Ytelpihlifdfgoaa
open Go.RowKit
set_option linter.unusedVariables false

section
variable {P : Program}

/-- An operation whose run is known, in a plain list. -/
theorem wpList_run {ops : Array Oper} {rest : List Oper} {o : Oper} {a : Act} {w w' : World} {v : Value} {Q : Exit → Act → World → Prop} (hgd : o.guard = none) (hr : ∀ K : Act → World → Prop, K (a.put o.dst v) w' → o.wp P a w K Q)
    (h : wpList P ops Q rest (a.put o.dst v) w') : wpList P ops Q (o :: rest) a w := wpList_plain hgd fun K hK => hr K (hK _ _ h)

theorem wpListIn_load_blk {F : Fence} {n : Nat} {ops : Array Oper} {rest : List Oper} {op : Oper} {a : Act} {w : World} {Q : Exit → Act → World → Prop} (hgd : op.guard = none) (ty : TypeId) (x : Operand) (ho : op.op = .load ty x)
    (g o : Nat) (hx : a.eval x = .pointer (some ⟨g, o, none⟩)) (vs C : Array Value) (t : TypeId) (h : Blk w g t C) (hv : ∀ j, j < vs.size → C[o + j]? = vs[j]?) (d : TypeDesc)
    (hu : P.underlying ty = some d) (hd : d.isRow = true) (hi : (P.info? ty).map (·.size) = some vs.size)
    (hK : wpListIn F n P ops Q rest (a.put op.dst (.agg vs)) w) : wpListIn F n P ops Q (op :: rest) a w := by
  refine wpListIn_plain hgd fun K hK' => ?_
  have hrun := run_loadVar_mid (P := P) w g o ty vs.toList d (fun j v hj => by
    have hl : j < vs.size := by simpa using (List.getElem?_eq_some_iff.1 hj).1
    rw [h.cell, hv j hl]; simpa using hj) hu hd (by simpa using hi)
  unfold Oper.wpIn
  refine ⟨?_, ?_⟩
  · simp [Oper.about, ho]
  · rw [Oper.semAt_plain F _ _ (by rw [ho]; intro c hc'; cases hc')]
    simp only [execOp, ho, hx, Instr.loadAt, Instr.sureAddr, Sem.run_bind, Sem.run_pure, Result.andThen_ok, hrun]
    exact hK' _ _ hK

theorem wpListIn_store_blk {F : Fence} {n : Nat} {ops : Array Oper} {rest : List Oper} {op : Oper} {a : Act} {w : World} {Q : Exit → Act → World → Prop} (hgd : op.guard = none) (ty : TypeId) (x y : Operand) (ho : op.op = .store ty x y)
    (g o : Nat) (vs C : Array Value) (t : TypeId) (hx : a.eval x = .pointer (some ⟨g, o, none⟩)) (hy : a.eval y = .agg vs) (h : Blk w g t C) (hl : o + vs.size ≤ C.size)
    (hi : (P.info? ty).map (·.size) = some vs.size) (h1 : vs.all (·.oneCell') = true)
    (hK : wpListIn F n P ops Q rest (a.put op.dst undef) (w.setRow g (over C o vs))) : wpListIn F n P ops Q (op :: rest) a w := by
  refine wpListIn_plain hgd fun K hK' => ?_
  have hrun := run_storeVar_mid (P := P) w g o ty vs (fun j hj => ⟨by rw [h.cell, Array.getElem?_eq_getElem (by omega)]; rfl, h.free _⟩) hi h1
  rw [setCells_over h o vs hl] at hrun
  unfold Oper.wpIn
  refine ⟨?_, ?_⟩
  · simp [Oper.about, ho]
  · rw [Oper.semAt_plain F _ _ (by rw [ho]; intro c hc'; cases hc')]
    simp only [execOp, ho, hx, hy, Instr.storeAt, Instr.sureAddr, Sem.run_bind, Sem.run_pure, Result.andThen_ok, hrun]
    exact hK' _ _ hK

/-- A new variable of several cells. -/
theorem wpList_alloc_z {ops : Array Oper} {rest : List Oper} {op : Oper} {a : Act} {w : World} {Q : Exit → Act → World → Prop} (hgd : op.guard = none) (ty : TypeId) (ho : op.op = .alloc ty) (zs : Array Value) (k : Nat)
    (hz : (P.info? ty).map (fun i => (i.zero, i.size)) = some (some (.agg zs), k))
    (hK : wpList P ops Q rest (a.put op.dst (.pointer (some ⟨w.heap.size, 0, none⟩))) (w.alloc (.cells zs ty))) : wpList P ops Q (op :: rest) a w := by
  refine wpList_plain hgd fun K hK' => ?_
  have hrun := (zero_of_info hz).1 w
  unfold Oper.wp
  simp [execOp, ho, hrun, newVar, newRow, newObj, Value.cells, Result.andThen, go_sem]
  exact hK' _ _ hK
theorem wpListIn_alloc_z {F : Fence} {n : Nat} {ops : Array Oper} {rest : List Oper} {op : Oper} {a : Act} {w : World} {Q : Exit → Act → World → Prop} (hgd : op.guard = none) (ty : TypeId) (ho : op.op = .alloc ty) (zs : Array Value) (k : Nat)
    (hz : (P.info? ty).map (fun i => (i.zero, i.size)) = some (some (.agg zs), k))
    (hK : wpListIn F n P ops Q rest (a.put op.dst (.pointer (some ⟨w.heap.size, 0, none⟩))) (w.alloc (.cells zs ty))) : wpListIn F n P ops Q (op :: rest) a w := by
  refine wpListIn_plain hgd fun K hK' => ?_
  have hrun := (zero_of_info hz).1 w
  unfold Oper.wpIn
  refine ⟨?_, ?_⟩
  · simp [Oper.about, ho]
  · rw [Oper.semAt_plain F _ _ (by rw [ho]; intro c hc'; cases hc')]
    simp [execOp, ho, hrun, newVar, newRow, newObj, Value.cells, Result.andThen, go_sem]
    exact hK' _ _ hK

/-- A store that fills the variable that was made last. -/
theorem wpList_store_new {ops : Array Oper} {rest : List Oper} {op : Oper} {a : Act} {w : World} {Q : Exit → Act → World → Prop} (hgd : op.guard = none) (ty : TypeId) (x y : Operand) (ho : op.op = .store ty x y)
    (vs C : Array Value) (t : TypeId) (hx : a.eval x = .pointer (some ⟨w.heap.size, 0, none⟩)) (hy : a.eval y = .agg vs) (hC : C.size = vs.size)
    (hi : (P.info? ty).map (·.size) = some vs.size) (h1 : vs.all (·.oneCell') = true)
    (hK : wpList P ops Q rest (a.put op.dst undef) (w.alloc (.cells vs t))) : wpList P ops Q (op :: rest) a (w.alloc (.cells C t)) := by
  refine wpList_store_blk hgd ty x y ho w.heap.size 0 vs C t hx hy (Blk.new w t C) (by omega) hi h1 ?_
  have e : over C 0 vs = vs := by
    simp only [over, splice, List.take_zero, List.nil_append, Nat.zero_add]
    rw [List.drop_eq_nil_of_le (by simp [hC])]
    simp
  rw [e, World.setRow_alloc_new]
  exact hK
theorem wpListIn_store_new {F : Fence} {n : Nat} {ops : Array Oper} {rest : List Oper} {op : Oper} {a : Act} {w : World} {Q : Exit → Act → World → Prop} (hgd : op.guard = none) (ty : TypeId) (x y : Operand) (ho : op.op = .store ty x y)
    (vs C : Array Value) (t : TypeId) (hx : a.eval x = .pointer (some ⟨w.heap.size, 0, none⟩)) (hy : a.eval y = .agg vs) (hC : C.size = vs.size)
    (hi : (P.info? ty).map (·.size) = some vs.size) (h1 : vs.all (·.oneCell') = true)
    (hK : wpListIn F n P ops Q rest (a.put op.dst undef) (w.alloc (.cells vs t))) : wpListIn F n P ops Q (op :: rest) a (w.alloc (.cells C t)) := by
  refine wpListIn_store_blk hgd ty x y ho w.heap.size 0 vs C t hx hy (Blk.new w t C) (by omega) hi h1 ?_
  have e : over C 0 vs = vs := by
    simp only [over, splice, List.take_zero, List.nil_append, Nat.zero_add]
    rw [List.drop_eq_nil_of_le (by simp [hC])]
    simp
  rw [e, World.setRow_alloc_new]
  exact hK
end

theorem over_all {C vs : Array Value} (h : C.size = vs.size) : over C 0 vs = vs := by
  simp only [over, splice, List.take_zero, List.nil_append, Nat.zero_add]
  rw [List.drop_eq_nil_of_le (by simp [h])]
  simp
theorem Rw.cell0 (r : Rw) : r.cs[0]? = some (.int .i64 (r.s : Int)) := by
  unfold Rw.cs
  rw [Array.getElem?_append_left (by simp)]
  rfl
theorem Rw.cell1 (r : Rw) (j : Nat) : r.cs[1 + j]? = r.b.cs[j]? := by
  unfold Rw.cs
  rw [Array.getElem?_append_right (by simp)]
  congr 1
  simp
/-! ### The types' rows -/
def Rw.zero : Rw := ⟨0, Bk.zero⟩
theorem z_row : (Try.prog.info? 83).map (fun i => (i.zero, i.size)) = some (some (.agg Rw.zero.cs), 65) := by kernel_rfl
theorem z_blk : (Try.prog.info? 81).map (fun i => (i.zero, i.size)) = some (some (.agg Bk.zero.cs), 64) := by kernel_rfl
theorem s_row (r : Rw) : (Try.prog.info? 83).map (·.size) = some r.cs.size := by rw [r.size]; exact (zero_of_info z_row).2
theorem s_blk (b : Bk) : (Try.prog.info? 81).map (·.size) = some b.cs.size := by rw [b.size]; exact (zero_of_info z_blk).2

/-! ### Loads and stores of several cells inside a region that draws its order: under one name each, which the walk does not open -/
def loadSem (ty : TypeId) (v : Value) : Sem Value := Instr.loadAt ty v
def storeSem (ty : TypeId) (v x : Value) : Sem Unit := Instr.storeAt ty v x
theorem load_blk_rule (v : Value) : Instr.loadAt 81 v = loadSem 81 v := rfl
theorem store_blk_rule (v x : Value) : Instr.storeAt 81 v x = storeSem 81 v x := rfl
theorem load_row_rule (v : Value) : Instr.loadAt 83 v = loadSem 83 v := rfl
theorem store_row_rule (v x : Value) : Instr.storeAt 83 v x = storeSem 83 v x := rfl
theorem loadRes_of {P : Program} {w : World} {ty : TypeId} {g o : Nat} {vs C : Array Value} {t : TypeId} (h : Blk w g t C) (hv : ∀ j, j < vs.size → C[o + j]? = vs[j]?) (d : TypeDesc)
    (hu : P.underlying ty = some d) (hd : d.isRow = true) (hi : (P.info? ty).map (·.size) = some vs.size) : (loadSem ty (.pointer (some ⟨g, o, none⟩))).run P w = .ok (.agg vs) w := by
  have := run_loadAt_mid (P := P) w g o ty vs.toList d (fun j v hj => by
    have hl : j < vs.size := by simpa using (List.getElem?_eq_some_iff.1 hj).1
    rw [h.cell, hv j hl]; simpa using hj) hu hd (by simpa using hi)
  exact this
theorem storeRes_of {P : Program} {w : World} {ty : TypeId} {g o : Nat} {vs C : Array Value} {t : TypeId} (h : Blk w g t C) (hl : o + vs.size ≤ C.size)
    (hi : (P.info? ty).map (·.size) = some vs.size) (h1 : vs.all (·.oneCell') = true) : (storeSem ty (.pointer (some ⟨g, o, none⟩)) (.agg vs)).run P w = .ok () (w.setRow g (over C o vs)) := by
  have hrun := run_storeAt_mid (P := P) w g o ty vs (fun j hj => ⟨by rw [h.cell, Array.getElem?_eq_getElem (by omega)]; rfl, h.free _⟩) hi h1
  rw [setCells_over h o vs hl] at hrun
  exact hrun

/-! ### rows -/
set_option maxHeartbeats 400000 in
theorem rows_any (p : Option Addr) (w : World) :
    Calls Try.prog 34 #[.pointer p] w fun e w' => e = .returned (.func (.func 53) #[] #[.pointer (some ⟨w.heap.size, 0, none⟩)]) ∧ w.alloc (.cells #[.pointer p] 27) = w' := by
  have hmf : ∀ (fn : Fn) (first cap : Array Value) (w : World), (Instr.makeFunc fn first cap).run Try.prog w = .ok (.func fn first cap) w := fun _ _ _ _ => rfl
  go_enter Try.func34, Try.ntmps34
  go_wp2
  go_ret
  exact ⟨rfl, rfl⟩

/-! ### The iterator -/

/-- The buffer's block is as it was. -/
def SameBuf (bv : Value) (W W' : World) : Prop := ∀ k, bv.ownBlock = some k → W'.heap[k]? = W.heap[k]?
theorem SameBuf.refl (bv : Value) (W : World) : SameBuf bv W W := fun _ _ => rfl
theorem SameBuf.trans {bv : Value} {A B C : World} (h : SameBuf bv A B) (k : SameBuf bv B C) : SameBuf bv A C := fun i hi => (k i hi).trans (h i hi)

/-- What a round is handed: a place, and the row that stands there. -/
abbrev RowAt (R : List Rw) : Type := { x : Nat × Rw // R[x.1]? = some x.2 }
def encR (R : List Rw) (x : RowAt R) : Array Value := #[.int .i64 (x.1.1 : Int), .agg x.1.2.cs]
def rowAt (R : List Rw) (i : Fin R.length) : RowAt R := ⟨(i.1, R[i.1]'i.2), by simp⟩
/-- The first k rows with their places. -/
def upTo (R : List Rw) (k : Nat) : List (RowAt R) := ((List.finRange R.length).take k).map (rowAt R)
theorem upTo_zero (R : List Rw) : upTo R 0 = [] := by simp [upTo]
theorem upTo_succ {R : List Rw} {k : Nat} (x : RowAt R) (h : x.1.1 = k) : upTo R (k + 1) = upTo R k ++ [x] := by
  subst h
  have hl : x.1.1 < R.length := (List.getElem?_eq_some_iff.1 x.2).1
  unfold upTo
  rw [List.take_succ_eq_append_getElem (by simpa using hl), List.map_append]
  congr 1
  have e : R[x.1.1] = x.1.2 := (List.getElem?_eq_some_iff.1 x.2).2
  simp [rowAt, e]
theorem upTo_length {R : List Rw} {k : Nat} (h : k ≤ R.length) : (upTo R k).length = k := by simp [upTo]; omega
theorem upTo_rows {R : List Rw} {k : Nat} (h : k ≤ R.length) : (upTo R k).map (·.1.2) = R.take k := by
  apply List.ext_getElem
  · simp [upTo]
  · intro i h1 h2
    simp [upTo, rowAt]
theorem upTo_places {R : List Rw} {k : Nat} (h : k ≤ R.length) : (upTo R k).map (·.1.1) = List.range k := by
  apply List.ext_getElem
  · simp [upTo]; omega
  · intro i h1 h2
    simp [upTo, rowAt]

attribute [local go_sem] Oper.semAt_some

theorem row_cells {w : World} {B g cap len : Nat} {R : List Rw} (h : w.ownsRow B 83 65 (.slice (some ⟨g, 0, none⟩) len cap) len (rcs R)) : ∃ C, Blk w g 83 C ∧ C.size = cap * 65 ∧ len ≤ cap ∧ cap ≤ maxLen ∧ ∀ j, j < len * 65 → C[j]? = (rcs R)[j]? := by
  rcases h.2 with ⟨h', _⟩ | ⟨g', cap', cur, h', _, hg, hnc, hm, hs, ht⟩
  · simp at h'
  · simp only [Value.slice.injEq, Option.some.injEq, Addr.mk.injEq, and_true, true_and] at h'
    obtain ⟨rfl, rfl⟩ := h'
    refine ⟨cur, hg, hs, hnc, hm, fun j hj => ?_⟩
    rw [← ht, List.getElem?_take, if_pos hj, Array.getElem?_toList]

set_option maxRecDepth 100000 in
set_option maxHeartbeats 2000000 in
theorem rows1_in (l Bs p g cap len : Nat) (R : List Rw) (J Jx : List (RowAt R) → World → Prop) (W : World) (C : Array Value) (hlen : R.length = len) (hheld : len ≤ 8) (hcap : len ≤ cap) (hcm : cap ≤ 9223372036854775807)
    (hC : Blk W g 83 C) (hCR : ∀ j, j < len * 65 → C[j]? = (rcs R)[j]?)
    (hc1 : W.cell? ⟨p, 1, none⟩ = some (.slice (some ⟨g, 0, none⟩) len cap)) (hBs : W.cell? ⟨Bs, 0, none⟩ = some (.pointer (some ⟨p, 0, none⟩))) (hJ : AbidesFrom W.heap.size J)
    (hY : ∀ pre x W1, J pre W1 → pre.length < len → YieldAt Fence.wide 8 Try.prog l (encR R x) W1 fun e W' =>
      (e = .returned (.bool true) ∧ J (pre ++ [x]) W' ∧ W'.heap[g]? = W1.heap[g]?) ∨ (e = .returned (.bool false) ∧ Jx (pre ++ [x]) W'))
    (h0 : J [] W) :
    CallsIn Fence.wide 9 Try.prog 53 #[.func (.yield l) #[] #[], .pointer (some ⟨Bs, 0, none⟩)] W fun e W' => (∃ v, e = .returned v) ∧
      (J (upTo R len) W' ∨ ∃ k, k < len ∧ Jx (upTo R (k + 1)) W') := by
  have hn : (1 : Nat) ≤ 8 := by omega
  have HL := Lib.hid hlen
  have HC := Lib.hid hCR
  clear hlen hCR
  have hgb := hC.lt
  refine callsIn_of_wp Try.func53 rfl trivial ?_ rfl
  simp only [Try.ntmps53, List.size_toArray, List.length_cons, List.length_nil, Nat.reduceAdd, Nat.reduceSub, Array.replicate_succ, Array.replicate_zero, List.push_toArray, List.append_toArray, List.nil_append, List.cons_append]
  gi_wp2
  gi_loopw [10] (fun i wr => ∃ k : Nat, k ≤ len ∧ i = .int .i64 k ∧ J (upTo R k) wr ∧ Blk wr g 83 C ∧ 0 ≤ wr.heap.size) (fun i _ => len - (intOf i).toNat)
  case atStart => exact ⟨0, Nat.zero_le _, rfl, by rw [upTo_zero]; exact h0, hC, Nat.zero_le _⟩
  case round =>
    obtain ⟨k, hk, rfl, hJs, hCw, hsz⟩ := hrel
    by_cases hlt : k < len
    · obtain ⟨x, hx⟩ : ∃ x : RowAt R, x.1.1 = k := ⟨rowAt R ⟨k, by rw [HL.out]; exact hlt⟩, rfl⟩
      have hJ1 : J (upTo R k) (wr.alloc (.cells x.1.2.cs 83)) := hJ _ _ _ none hJs (World.grownBy_alloc _ _ _) (fun r h => by cases h)
      have hv : ∀ j, j < x.1.2.cs.size → C[k * 65 + j]? = x.1.2.cs[j]? := by
        intro j hj
        rw [Rw.size] at hj
        have hx2 := x.2
        rw [hx] at hx2
        rw [HC.out _ (by omega), rcs_get hx2 hj]
      obtain ⟨fn, tmps, assign, body, hy, hR⟩ := hY _ x _ hJ1 (by rw [upTo_length (by rw [HL.out]; omega)]; exact hlt)
      have HX := Lib.hid hx
      have HV := Lib.hid hv
      clear hv
      unfold encR at hy
      rw [hx] at hy
      clear hx
      generalize hrw : x.1.2 = r at *
      have HRW := Lib.hid hrw
      clear hrw
      have hbx := Blk.new wr 83 r.cs
      have hcl : (k : Int) * 65 = ((k * 65 : Nat) : Int) := by omega
      have hz : Rw.zero.cs.size = r.cs.size := by rw [Rw.size, Rw.size]
      have HZ := Lib.hid hz
      have h00 : ∀ j, j < r.cs.size → r.cs[0 + j]? = r.cs[j]? := fun j _ => by rw [Nat.zero_add]
      have H0 := Lib.hid h00
      clear hz h00
      gi_wp2_with (first | (with_reducible refine wpListIn_load_blk rfl 83 (.tmp 13) rfl g (k * 65) rfl r.cs C _ hCw HV.out _ Try.underlying83 rfl (s_row r) ?_) | (with_reducible refine wpListIn_alloc_z rfl 83 rfl Rw.zero.cs 65 z_row ?_) | (with_reducible refine wpListIn_store_new rfl 83 (.tmp 4) (.tmp 14) rfl r.cs Rw.zero.cs _ rfl rfl HZ.out (s_row r) r.one ?_) | (with_reducible refine wpListIn_load_blk rfl 83 (.tmp 4) rfl wr.heap.size 0 rfl r.cs r.cs _ hbx H0.out _ Try.underlying83 rfl (s_row r) ?_))
      refine hR.mono ?_
      rintro e W3 (⟨rfl, hJ3, hk3⟩ | ⟨rfl, hJx3⟩)
      · have hC3 : Blk W3 g 83 C := hk3.trans ((hCw.alloc _ : Blk _ _ _ _))
        gi_wp2
        go_roundw
        case rel => exact ⟨k + 1, by omega, by go_num, by rw [upTo_succ x HX.out]; exact hJ3, hC3, Nat.zero_le _⟩
        case measure => simp [intOf]; omega
      · gi_wp2
        refine bodyPost_ret (results_none rfl _ _ _) rfl ?_
        exact ⟨⟨_, rfl⟩, .inr ⟨k, by omega, by rw [upTo_succ x HX.out]; exact hJx3⟩⟩
    · obtain rfl : k = len := by omega
      gi_wp2
      go_end0
      exact ⟨⟨_, rfl⟩, .inl hJs⟩

set_option maxRecDepth 100000 in
set_option maxHeartbeats 1000000 in
theorem rows1_nil (l Bs p : Nat) (J : List Unit → World → Prop) (W : World)
    (hc1 : W.cell? ⟨p, 1, none⟩ = some (.slice none 0 0)) (hBs : W.cell? ⟨Bs, 0, none⟩ = some (.pointer (some ⟨p, 0, none⟩))) (h0 : J [] W) :
    CallsIn Fence.wide 9 Try.prog 53 #[.func (.yield l) #[] #[], .pointer (some ⟨Bs, 0, none⟩)] W fun e W' => (∃ v, e = .returned v) ∧ J [] W' := by
  refine callsIn_of_wp Try.func53 rfl trivial ?_ rfl
  simp only [Try.ntmps53, List.size_toArray, List.length_cons, List.length_nil, Nat.reduceAdd, Nat.reduceSub, Array.replicate_succ, Array.replicate_zero, List.push_toArray, List.append_toArray, List.nil_append, List.cons_append]
  gi_wp2
  gi_loopw [10] (fun i wr => i = .int .i64 0 ∧ J [] wr) (fun _ _ => 0)
  case atStart => exact ⟨rfl, h0⟩
  case round =>
    obtain ⟨rfl, hJs⟩ := hrel
    gi_wp2
    go_end0
    exact ⟨⟨_, rfl⟩, hJs⟩

/-- The iterator's contract: all rows with their places, in order; or the first of them. -/
theorem rows1_stops {w : World} {B p pb Bs : Nat} {bv : Value} {D : Dk} (hD : Dsk w B p pb bv D) (hBs : w.cell? ⟨Bs, 0, none⟩ = some (.pointer (some ⟨p, 0, none⟩))) :
    SeqStopsK Fence.wide 9 Try.prog 53 #[.pointer (some ⟨Bs, 0, none⟩)] (encR D.rows) (SameBuf bv) (fun ys => ys = upTo D.rows D.rows.length) (fun pre => ∃ k, k < D.rows.length ∧ pre = upTo D.rows (k + 1)) D.rows.length w := by
  intro l J Jx W hW hJ hJx hY h0
  have hD' := hD.later hW
  have hBs' : W.cell? ⟨Bs, 0, none⟩ = some (.pointer (some ⟨p, 0, none⟩)) := (hW.cell (p := ⟨Bs, 0, none⟩) (World.block_lt_of_cell? w _ hBs)).trans hBs
  have hheld := hD.ok.held
  rcases hD'.buf.2 with ⟨rfl, hn⟩ | ⟨g, cap, cur, rfl, hb, hg, hl, hm, hs, ht⟩
  · have e : upTo D.rows D.rows.length = [] := by rw [hn]; exact upTo_zero _
    refine (rows1_nil l Bs p (fun _ W => J [] W) W hD'.c1 hBs' h0).mono fun e' W' ⟨he, hj⟩ => ⟨he, .inl ⟨_, rfl, by rw [e]; exact hj⟩⟩
  · obtain ⟨C, hC, hsz, hcap, hcm, hget⟩ := row_cells hD'.buf
    refine (rows1_in l Bs p g cap D.rows.length D.rows J Jx W C rfl hheld hcap (by unfold maxLen at hcm; omega) hC hget hD'.c1 hBs' hJ (fun pre x W1 h1 h2 => YieldAt.mono (hY pre x W1 h1 h2) ?_) h0).mono ?_
    · rintro e W' (⟨he, hj, hk⟩ | ⟨he, hj⟩)
      · exact .inl ⟨he, hj, hk g rfl⟩
      · exact .inr ⟨he, hj⟩
    · rintro e W' ⟨he, hj | ⟨k, hk, hj⟩⟩
      · exact ⟨he, .inl ⟨_, rfl, hj⟩⟩
      · exact ⟨he, .inr ⟨_, ⟨k, hk, rfl⟩, hj⟩⟩
theorem same_t {bv : Value} {A B C : World} (h : SameBuf bv A B) (k : SameBuf bv B C) : SameBuf bv A C := h.trans k
theorem same_b {bv : Value} {w : World} (hb : ∀ k, bv.ownBlock = some k → k < w.heap.size) (W : World) (l : Nat) (o o' : Obj) (hl : w.heap.size ≤ l) (h : W.heap[l]? = some o) (_ : o.isCells = false) (_ : o.isWalk = false) : SameBuf bv W (W.putObj l o') := fun k hk =>
  (grownBy_putObj' W l o').block k (by have := hb k hk; have := (Array.getElem?_eq_some_iff.1 h).1; omega) (fun e => by have := hb k hk; injection e; omega)
end Go.Proofs.Ytelpihlifdfgoaa
