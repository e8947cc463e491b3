/-
  Words for rows of bytes, and the contracts of octet.Bit and of the reference's Bit, Same, Both, over one translation. Nothing here is a statement of the document.
-/
import Derived.Test.YtkoenconjldojaaRows
import Derived.WalkKit
import Derived.ProofKit
import Derived.Lib.Hide
import Derived.Outline
import Derived.Deep.MidRow
import Derived.Deep.WholeRow
import Derived.Laws.AppendOwn
import Derived.Laws.CopyOwn
import Derived.Deep.QuietTactic
import Derived.BigQuiet
import Derived.Laws.OwnMore
import Derived.RangeFuncNested
import Derived.RangeFuncBound
import Derived.RangeFuncCalls
import Derived.RangeFuncLeaves
import Derived.RangeFuncBox
import Derived.OwnWalkIn
import Derived.TacticsInMore
import Derived.LoopNIn
import Derived.LoopIn
import Derived.Laws.BitsAllLaws
namespace Go.Proofs.Ytkoenconjldojaa
open Go.RowKit
set_option linter.unusedVariables false

/-! ### Memory -/

/-- Only blocks of S have changed; new ones may have been made. -/
structure Kept (S : List Nat) (w w' : World) : Prop where
  os : w'.os = w.os
  tape : w'.tape = w.tape
  output : w'.output = w.output
  size : w.heap.size ≤ w'.heap.size
  block : ∀ k, k < w.heap.size → k ∉ S → w'.heap[k]? = w.heap[k]?

theorem Kept.refl (S : List Nat) (w : World) : Kept S w w := ⟨rfl, rfl, rfl, Nat.le_refl _, fun _ _ _ => rfl⟩
theorem Kept.trans {S : List Nat} {a b c : World} (h : Kept S a b) (k : Kept S b c) : Kept S a c :=
  ⟨k.os.trans h.os, k.tape.trans h.tape, k.output.trans h.output, Nat.le_trans h.size k.size, fun i hi hn => (k.block i (Nat.lt_of_lt_of_le hi h.size) hn).trans (h.block i hi hn)⟩
/-- The second step may have changed blocks that the first one made. -/
theorem Kept.trans2 {S T : List Nat} {a b c : World} (h : Kept S a b) (k : Kept T b c) (hT : ∀ i ∈ T, i ∈ S ∨ a.heap.size ≤ i) : Kept S a c :=
  ⟨k.os.trans h.os, k.tape.trans h.tape, k.output.trans h.output, Nat.le_trans h.size k.size, fun i hi hn =>
    (k.block i (Nat.lt_of_lt_of_le hi h.size) (fun hm => by rcases hT i hm with h1 | h1; exact hn h1; omega)).trans (h.block i hi hn)⟩
theorem Kept.more {S T : List Nat} {a b : World} (h : Kept S a b) (hT : ∀ i ∈ S, i ∈ T) : Kept T a b :=
  ⟨h.os, h.tape, h.output, h.size, fun i hi hn => h.block i hi (fun hm => hn (hT i hm))⟩
theorem Kept.drew {S : List Nat} {a b : World} (h : Kept S a b) : Kept S a b.drew := ⟨h.os, h.tape, h.output, h.size, h.block⟩
theorem Kept.drewN {S : List Nat} {a b : World} (h : Kept S a b) (n : Nat) : Kept S a (b.drewN n) := ⟨h.os, h.tape, h.output, h.size, h.block⟩
theorem Kept.alloc {S : List Nat} {a b : World} (h : Kept S a b) (o : Obj) : Kept S a (b.alloc o) :=
  h.trans ⟨rfl, rfl, rfl, by simp, fun k hk _ => Below.heap_alloc _ _ _ hk⟩
theorem Kept.setCell {S : List Nat} {a b : World} (h : Kept S a b) {p : Addr} (hp : p.block ∈ S ∨ a.heap.size ≤ p.block) (v : Value) : Kept S a (b.setCell p v) :=
  h.trans2 (T := [p.block]) ⟨rfl, rfl, rfl, by simp [World.setCell], fun k hk hn => Below.heap_setCell _ _ _ _ (by simpa using hn)⟩ (by simpa using hp)
theorem Kept.setRow {S : List Nat} {a b : World} (h : Kept S a b) {g : Nat} (hp : g ∈ S ∨ a.heap.size ≤ g) (cs : Array Value) : Kept S a (b.setRow g cs) :=
  h.trans2 (T := [g]) ⟨rfl, rfl, rfl, by simp, fun k hk hn => setRow_other b g k cs (by simpa using hn)⟩ (by simpa using hp)
theorem Kept.grown {S : List Nat} {a b c : World} {row : Option Nat} (h : Kept S a b) (hg : b.grownBy c row) (hr : ∀ k, row = some k → k ∈ S ∨ a.heap.size ≤ k) : Kept S a c :=
  h.trans2 (T := row.toList) ⟨hg.os, hg.tape, hg.output, hg.size, fun k hk hn => hg.block k hk (fun e => hn (by simp [← e]))⟩ (by intro i hi; exact hr i (by simpa using hi))
theorem Kept.of_below {a b : World} (S : List Nat) (h : Below a.heap.size a b) : Kept S a b := ⟨h.os, h.tape, h.output, h.size, fun k hk _ => h.block k hk⟩
theorem Kept.below {S : List Nat} {a b : World} {B : Nat} (h : Kept S a b) (hS : ∀ k ∈ S, B ≤ k) (hB : B ≤ a.heap.size) : Below B a b :=
  ⟨h.os, h.tape, h.output, h.size, fun k hk => h.block k (by omega) (fun hm => by have := hS k hm; omega)⟩
theorem Kept.blk {S : List Nat} {a b : World} (h : Kept S a b) {g : Nat} {o : Obj} (hg : a.heap[g]? = some o) (hn : g ∉ S) : b.heap[g]? = some o :=
  (h.block g (Array.getElem?_eq_some_iff.1 hg).1 hn).trans hg

/-- Block g holds just these cells. -/
def Blk (w : World) (g : Nat) (t : TypeId) (cs : Array Value) : Prop := w.heap[g]? = some (.cells cs t (0, 0))
theorem Blk.lt {w : World} {g : Nat} {t : TypeId} {cs : Array Value} (h : Blk w g t cs) : g < w.heap.size := (Array.getElem?_eq_some_iff.1 h).1
theorem Blk.cell {w : World} {g : Nat} {t : TypeId} {cs : Array Value} (h : Blk w g t cs) (i : Nat) : w.cell? ⟨g, i, none⟩ = cs[i]? := cell_of_row w g i cs t (0, 0) h
theorem Blk.free {w : World} {g : Nat} {t : TypeId} {cs : Array Value} (h : Blk w g t cs) (i : Nat) : w.frozen? ⟨g, i, none⟩ = false := frozen_of_row w g i cs t h
theorem Blk.new (w : World) (t : TypeId) (cs : Array Value) : Blk (w.alloc (.cells cs t)) w.heap.size t cs := heap_alloc_new w _
theorem Blk.alloc {w : World} {g : Nat} {t : TypeId} {cs : Array Value} (h : Blk w g t cs) (o : Obj) : Blk (w.alloc o) g t cs := (Below.heap_alloc w o g h.lt).trans h
theorem Blk.drew {w : World} {g : Nat} {t : TypeId} {cs : Array Value} (h : Blk w g t cs) : Blk w.drew g t cs := h
theorem Blk.set {w : World} {g : Nat} {t : TypeId} {cs : Array Value} (h : Blk w g t cs) (i : Nat) (v : Value) : Blk (w.setCell ⟨g, i, none⟩ v) g t (cs.setIfInBounds i v) := heap_setCell_same w g i cs t v h
theorem Blk.far {w : World} {g : Nat} {t : TypeId} {cs : Array Value} (h : Blk w g t cs) {p : Addr} (hp : g ≠ p.block) (v : Value) : Blk (w.setCell p v) g t cs := (Below.heap_setCell w p v g hp).trans h
theorem Blk.row {w : World} {g : Nat} {t : TypeId} {cs : Array Value} (h : Blk w g t cs) (cs' : Array Value) : Blk (w.setRow g cs') g t cs' := setRow_heap w g cs cs' t _ h
theorem Blk.kept {w w' : World} {g : Nat} {t : TypeId} {cs : Array Value} {S : List Nat} (h : Blk w g t cs) (k : Kept S w w') (hn : g ∉ S) : Blk w' g t cs := k.blk h hn
theorem Blk.ne {w : World} {g g' : Nat} {t t' : TypeId} {cs cs' : Array Value} (h : Blk w g t cs) (h' : Blk w g' t' cs') (ht : t ≠ t') : g ≠ g' := by
  rintro rfl
  unfold Blk at h h'
  rw [h] at h'
  injection h' with h'
  injection h' with _ e
  exact ht e

/-- Cells laid over others from a place on. -/
def over (C : Array Value) (o : Nat) (vs : Array Value) : Array Value := (splice C.toList o vs.toList).toArray
theorem size_over {C : Array Value} {o : Nat} {vs : Array Value} (h : o + vs.size ≤ C.size) : (over C o vs).size = C.size := by
  have := length_splice C.toList o vs.toList (by simpa using h)
  simpa [over] using this
theorem splice_get {α : Type} {L : List α} {o : Nat} {cs : List α} (h : o + cs.length ≤ L.length) (i : Nat) : (splice L o cs)[i]? = if i < o then L[i]? else if i < o + cs.length then cs[i - o]? else L[i]? := by
  unfold splice
  by_cases h1 : i < o
  · rw [if_pos h1, List.getElem?_append_left (by simp; omega), List.getElem?_take, if_pos h1]
  · have e : (L.take o).length = o := by simp; omega
    rw [if_neg h1, List.getElem?_append_right (by omega), e]
    by_cases h2 : i < o + cs.length
    · rw [if_pos h2, List.getElem?_append_left (by omega)]
    · rw [if_neg h2, List.getElem?_append_right (by omega), List.getElem?_drop]
      congr 1
      omega
theorem over_get {C vs : Array Value} {o : Nat} (h : o + vs.size ≤ C.size) (i : Nat) : (over C o vs)[i]? = if i < o then C[i]? else if i < o + vs.size then vs[i - o]? else C[i]? := by
  have e : (over C o vs)[i]? = (splice C.toList o vs.toList)[i]? := by simp [over]
  rw [e, splice_get (by simpa using h)]
  simp
theorem setCells_row {g : Nat} {t : TypeId} (vs : List Value) : ∀ (o : Nat) (w : World) (C : Array Value), Blk w g t C → o + vs.length ≤ C.size → w.setCells g o vs = w.setRow g (splice C.toList o vs).toArray := by
  induction vs with
  | nil =>
    intro o w C h _
    have e : (splice C.toList o []).toArray = C := by simp [splice]
    rw [e]
    show w = w.setRow g C
    unfold Blk at h
    have hlt := (Array.getElem?_eq_some_iff.1 h).1
    have hw : (w.setRow g C).heap = w.heap := by
      apply Array.ext_getElem?
      intro i
      by_cases hi : i = g
      · subst hi; rw [setRow_heap w i C C t _ h, h]
      · exact setRow_other w g i C hi
    cases w
    simp only [World.setRow] at hw ⊢
    simp only [hw]
  | cons v r ih =>
    intro o w C h hl
    simp only [List.length_cons] at hl
    rw [World.setCells, ih (o + 1) _ _ (h.set o v) (by simp; omega), setCell_eq_setRow w g o C t (0, 0) v h]
    have e1 : ((w.setRow g (C.setIfInBounds o v)).setRow g (splice (C.setIfInBounds o v).toList (o + 1) r).toArray) = w.setRow g (splice (C.setIfInBounds o v).toList (o + 1) r).toArray := by
      simp only [World.setRow]
      congr 1
      apply Array.ext_getElem?
      intro i
      simp only [Array.getElem?_modify]
      by_cases hi : g = i
      · subst hi
        unfold Blk at h
        simp [h]
      · simp [hi]
    rw [e1]
    congr 2
    apply List.ext_getElem?
    intro i
    rw [splice_get (by simp; omega), splice_get (by simp; omega)]
    simp only [List.length_cons, Array.toList_setIfInBounds]
    by_cases h1 : i < o
    · rw [if_pos (by omega), if_pos h1, List.getElem?_set_ne (by omega)]
    · rw [if_neg h1]
      by_cases h2 : i = o
      · subst h2
        rw [if_pos (by omega), if_pos (by omega), Nat.sub_self]
        have : i < C.size := by omega
        simp [this]
      · rw [if_neg (by omega), List.getElem?_set_ne (by omega)]
        obtain ⟨j, rfl⟩ : ∃ j, i = o + 1 + j := ⟨i - (o + 1), by omega⟩
        rw [show o + 1 + j - (o + 1) = j from by omega, show o + 1 + j - o = j + 1 from by omega, List.getElem?_cons_succ]
        by_cases h3 : j < r.length
        · rw [if_pos (by omega), if_pos (by omega)]
        · rw [if_neg (by omega), if_neg (by omega)]
theorem setCells_over {w : World} {g : Nat} {t : TypeId} {C : Array Value} (h : Blk w g t C) (o : Nat) (vs : Array Value) (hl : o + vs.size ≤ C.size) : w.setCells g o vs.toList = w.setRow g (over C o vs) :=
  setCells_row vs.toList o w C h (by simpa using hl)

section
variable {P : Program}
/-- A load of several cells out of a block that is known. -/
theorem wpList_load_blk {ops : Array Oper} {rest : List Oper} {op : Oper} {a : Act} {w : World} {Q : Exit → Act → World → Prop} (hgd : op.guard = none) (ty : TypeId) (x : Operand) (ho : op.op = .load ty x)
    (g o : Nat) (hx : a.eval x = .pointer (some ⟨g, o, none⟩)) (vs C : Array Value) (t : TypeId) (h : Blk w g t C) (hv : ∀ j, j < vs.size → C[o + j]? = vs[j]?) (d : TypeDesc)
    (hu : P.underlying ty = some d) (hd : d.isRow = true) (hi : (P.info? ty).map (·.size) = some vs.size)
    (hK : wpList P ops Q rest (a.put op.dst (.agg vs)) w) : wpList P ops Q (op :: rest) a w :=
  wpList_load_mid hgd ty x ho g o hx vs.toList d (fun j v hj => by
    have hl : j < vs.size := by simpa using (List.getElem?_eq_some_iff.1 hj).1
    rw [h.cell, hv j hl]; simpa using hj) hu hd (by simpa using hi) hK
/-- A store of several cells into a block that is known. -/
theorem wpList_store_blk {ops : Array Oper} {rest : List Oper} {op : Oper} {a : Act} {w : World} {Q : Exit → Act → World → Prop} (hgd : op.guard = none) (ty : TypeId) (x y : Operand) (ho : op.op = .store ty x y)
    (g o : Nat) (vs C : Array Value) (t : TypeId) (hx : a.eval x = .pointer (some ⟨g, o, none⟩)) (hy : a.eval y = .agg vs) (h : Blk w g t C) (hl : o + vs.size ≤ C.size)
    (hi : (P.info? ty).map (·.size) = some vs.size) (h1 : vs.all (·.oneCell') = true)
    (hK : wpList P ops Q rest (a.put op.dst undef) (w.setRow g (over C o vs))) : wpList P ops Q (op :: rest) a w := by
  refine wpList_store_mid hgd ty x y ho g o vs hx hy (fun j hj => ⟨?_, h.free _⟩) hi h1 ?_
  · rw [h.cell, Array.getElem?_eq_getElem (by omega)]; rfl
  · rw [setCells_over h o vs hl]; exact hK
end

/-! ### Blocks, rows, disks -/

/-- A block: 64 numbers. -/
structure Bk where
  l : List Int
  len : l.length = 64
def Bk.zero : Bk := ⟨List.replicate 64 0, rfl⟩
def Bk.cs (b : Bk) : Array Value := (b.l.map (Value.int .u8)).toArray
theorem Bk.size (b : Bk) : b.cs.size = 64 := by simp [Bk.cs, b.len]
theorem Bk.one (b : Bk) : b.cs.all (·.oneCell') = true := by
  rw [Array.all_eq_true_iff_forall_mem]
  intro v hv
  simp only [Bk.cs, List.mem_toArray, List.mem_map] at hv
  obtain ⟨n, _, rfl⟩ := hv
  rfl
theorem Bk.inj {a b : Bk} (h : a.cs = b.cs) : a = b := by
  obtain ⟨l, hl⟩ := a
  obtain ⟨m, hm⟩ := b
  have : l = m := by
    have h2 : l.map (Value.int .u8) = m.map (Value.int .u8) := by simpa [Bk.cs] using h
    exact (List.map_inj_right (fun x y e => by injection e)).1 h2
  subst this; rfl

/-- A row of a buffer: a sector and a block. -/
structure Rw where
  s : Nat
  b : Bk
def Rw.cs (r : Rw) : Array Value := #[Value.int .i64 (r.s : Int)] ++ r.b.cs
theorem Rw.size (r : Rw) : r.cs.size = 65 := by simp [Rw.cs, r.b.size]
theorem Rw.one (r : Rw) : r.cs.all (·.oneCell') = true := by
  have := r.b.one
  rw [Array.all_eq_true_iff_forall_mem] at this ⊢
  intro v hv
  rcases Array.mem_append.1 hv with h | h
  · obtain rfl : v = Value.int .i64 (r.s : Int) := by simpa using h
    rfl
  · exact this v h

/-- Blocks, one behind the other, as cells; rows likewise. -/
def pcs (l : List Bk) : List Value := l.flatMap fun b => b.cs.toList
def rcs (l : List Rw) : List Value := l.flatMap fun r => r.cs.toList
theorem pcs_length (l : List Bk) : (pcs l).length = l.length * 64 := by
  induction l with
  | nil => rfl
  | cons b l ih => simp only [pcs, List.flatMap_cons, List.length_append, List.length_cons] at ih ⊢; rw [ih]; have := b.size; simp; omega
theorem rcs_length (l : List Rw) : (rcs l).length = l.length * 65 := by
  induction l with
  | nil => rfl
  | cons b l ih => simp only [rcs, List.flatMap_cons, List.length_append, List.length_cons] at ih ⊢; rw [ih]; have := b.size; simp; omega
theorem pcs_one (l : List Bk) : ∀ v ∈ pcs l, v.oneCell' = true := by
  intro v hv
  obtain ⟨b, _, hb⟩ := List.mem_flatMap.1 hv
  exact Array.all_eq_true_iff_forall_mem.1 b.one v (by simpa using hb)
theorem rcs_one (l : List Rw) : ∀ v ∈ rcs l, v.oneCell' = true := by
  intro v hv
  obtain ⟨b, _, hb⟩ := List.mem_flatMap.1 hv
  exact Array.all_eq_true_iff_forall_mem.1 b.one v (by simpa using hb)
theorem flat_get {α : Type} {f : α → Array Value} {n : Nat} (hf : ∀ x, (f x).size = n) : ∀ (l : List α) (k : Nat) (x : α), l[k]? = some x → ∀ j, j < n → (l.flatMap fun y => (f y).toList)[k * n + j]? = (f x)[j]? := by
  intro l
  induction l with
  | nil => intro k x h; simp at h
  | cons y l ih =>
    intro k x h j hj
    rw [List.flatMap_cons]
    cases k with
    | zero =>
      simp only [List.getElem?_cons_zero, Option.some.injEq] at h
      subst h
      rw [List.getElem?_append_left (by simp [hf]; omega)]
      simp
    | succ k =>
      rw [List.getElem?_append_right (by simp [hf]; rw [Nat.add_mul]; omega)]
      simp only [List.getElem?_cons_succ] at h
      have := ih k x h j hj
      simp only [Array.length_toList, hf]
      rw [show (k + 1) * n + j - n = k * n + j from by rw [Nat.add_mul]; omega]
      exact this
theorem pcs_get {l : List Bk} {k : Nat} {b : Bk} (h : l[k]? = some b) {j : Nat} (hj : j < 64) : (pcs l)[k * 64 + j]? = b.cs[j]? := flat_get Bk.size l k b h j hj
theorem rcs_get {l : List Rw} {k : Nat} {r : Rw} (h : l[k]? = some r) {j : Nat} (hj : j < 65) : (rcs l)[k * 65 + j]? = r.cs[j]? := flat_get Rw.size l k r h j hj
theorem flat_set {α : Type} {f : α → Array Value} {n : Nat} (hf : ∀ x, (f x).size = n) : ∀ (l : List α) (k : Nat) (x : α), k < l.length → splice (l.flatMap fun y => (f y).toList) (k * n) (f x).toList = (l.set k x).flatMap fun y => (f y).toList := by
  intro l
  induction l with
  | nil => intro k x h; simp at h
  | cons y l ih =>
    intro k x h
    cases k with
    | zero =>
      simp [splice, List.set_cons_zero, List.flatMap_cons, hf]
    | succ k =>
      have := ih k x (by simpa using h)
      rw [List.set_cons_succ, List.flatMap_cons, List.flatMap_cons, ← this]
      have e : (k + 1) * n = (f y).toList.length + k * n := by simp [hf]; rw [Nat.add_mul]; omega
      rw [e]
      simp only [splice, Nat.add_assoc, List.take_append, List.drop_append]
      simp [List.take_of_length_le, List.drop_eq_nil_of_le, Nat.add_assoc]
theorem pcs_set {l : List Bk} {k : Nat} (b : Bk) (h : k < l.length) : splice (pcs l) (k * 64) b.cs.toList = pcs (l.set k b) := flat_set Bk.size l k b h
theorem rcs_set {l : List Rw} {k : Nat} (r : Rw) (h : k < l.length) : splice (rcs l) (k * 65) r.cs.toList = rcs (l.set k r) := flat_set Rw.size l k r h
theorem rcs_append (l m : List Rw) : rcs (l ++ m) = rcs l ++ rcs m := by simp [rcs]
theorem rcs_one_row (r : Rw) : rcs [r] = r.cs.toList := by simp [rcs]
theorem rcs_drop (l : List Rw) (k : Nat) : (rcs l).drop (k * 65) = rcs (l.drop k) := by
  induction l generalizing k with
  | nil => simp [rcs]
  | cons r l ih =>
    cases k with
    | zero => simp
    | succ k =>
      have e : (k + 1) * 65 = r.cs.toList.length + k * 65 := by have := r.size; simp [this]; omega
      rw [List.drop_succ_cons, ← ih k]
      show (r.cs.toList ++ rcs l).drop _ = _
      rw [e, List.drop_append]
      simp
end Go.Proofs.Ytkoenconjldojaa
namespace Go.Proofs.Ytkoenconjldojaa
open Go.RowKit
set_option linter.unusedVariables false

/-- What a disk holds. -/
structure Dk where
  plate : List Bk
  rows : List Rw
  fuse : Option Nat
  flaw : Option Nat
  dead : Bool
  ops : Int

def cdB (o : Option Nat) : Bool := o.isSome
def cdI (o : Option Nat) : Int := ((o.getD 0 : Nat) : Int)

/-- A disk's own cells. -/
def dcs (pb : Nat) (bv : Value) (D : Dk) : Array Value :=
  #[.slice (some ⟨pb, 0, none⟩) D.plate.length D.plate.length, bv, .bool (cdB D.fuse), .int .i64 (cdI D.fuse), .bool (cdB D.flaw), .int .i64 (cdI D.flaw), .bool D.dead, .int .i64 D.ops]

/-- What holds of every disk. -/
structure Dk.Ok (D : Dk) : Prop where
  pos : 1 ≤ D.plate.length
  max : D.plate.length ≤ 2048
  held : D.rows.length ≤ 8
  at_ : ∀ r ∈ D.rows, r.s < D.plate.length
  once : (D.rows.map (·.s)).Nodup
  fuse : ∀ n, D.fuse = some n → n ≤ 9223372036854775807
  flaw : ∀ n, D.flaw = some n → n ≤ 9223372036854775807

/-- The blocks of a disk. -/
def fp (p pb : Nat) (bv : Value) : List Nat := p :: pb :: bv.ownBlock.toList

/-- Only a disk's blocks have changed; its buffer is where it was, or new. -/
structure Goes (w w' : World) (p pb : Nat) (bv bv' : Value) : Prop where
  kept : Kept (fp p pb bv) w w'
  new : ∀ k, bv'.ownBlock = some k → bv.ownBlock = some k ∨ w.heap.size ≤ k

theorem Goes.refl (w : World) (p pb : Nat) (bv : Value) : Goes w w p pb bv bv := ⟨Kept.refl _ _, fun k h => .inl h⟩
theorem Goes.trans {w w' w2 : World} {p pb : Nat} {bv bv' bv2 : Value} (h : Goes w w' p pb bv bv') (k : Goes w' w2 p pb bv' bv2) : Goes w w2 p pb bv bv2 := by
  refine ⟨h.kept.trans2 k.kept (fun i hi => ?_), fun i hi => ?_⟩
  · simp only [fp, List.mem_cons, Option.mem_toList] at hi ⊢
    rcases hi with rfl | rfl | hi
    · exact .inl (.inl rfl)
    · exact .inl (.inr (.inl rfl))
    · rcases h.new i hi with h1 | h1
      · exact .inl (.inr (.inr h1))
      · exact .inr h1
  · rcases k.new i hi with h1 | h1
    · exact h.new i h1
    · exact .inr (Nat.le_trans h.kept.size h1)
theorem Goes.alloc {w w' : World} {p pb : Nat} {bv bv' : Value} (h : Goes w w' p pb bv bv') (o : Obj) : Goes w (w'.alloc o) p pb bv bv' := ⟨h.kept.alloc o, h.new⟩
theorem Goes.drew {w w' : World} {p pb : Nat} {bv bv' : Value} (h : Goes w w' p pb bv bv') : Goes w w'.drew p pb bv bv' := ⟨h.kept.drew, h.new⟩
theorem Goes.later {w w' w2 : World} {p pb : Nat} {bv bv' : Value} (h : Goes w w' p pb bv bv') (k : Below w'.heap.size w' w2) : Goes w w2 p pb bv bv' :=
  ⟨h.kept.trans (Kept.of_below _ k), h.new⟩
theorem Goes.setCell {w w' : World} {p pb : Nat} {bv bv' : Value} (h : Goes w w' p pb bv bv') (i : Nat) (v : Value) : Goes w (w'.setCell ⟨p, i, none⟩ v) p pb bv bv' :=
  ⟨h.kept.setCell (.inl (by simp [fp])) v, h.new⟩

section
variable {w w' : World} {B p pb : Nat} {bv : Value} {D : Dk}
end

/-! ### What only reads -/

/-! ### Countdowns -/

def cdOf (n : Int) : Option Nat := if n < 0 then none else some n.toNat
/-! ### reach -/

/-- Why a sector can't be asked for. -/
def reachE (D : Dk) (i : Int) : Int := if D.dead then 9 else if 0 ≤ i ∧ i < D.plate.length then 0 else 2

end Go.Proofs.Ytkoenconjldojaa
namespace Go.Proofs.Ytkoenconjldojaa
open Go.RowKit
set_option linter.unusedVariables false

section
variable {P : Program}

/-- An operation whose run is known, in a plain list. -/
theorem wpList_run {ops : Array Oper} {rest : List Oper} {o : Oper} {a : Act} {w w' : World} {v : Value} {Q : Exit → Act → World → Prop} (hgd : o.guard = none) (hr : ∀ K : Act → World → Prop, K (a.put o.dst v) w' → o.wp P a w K Q)
    (h : wpList P ops Q rest (a.put o.dst v) w') : wpList P ops Q (o :: rest) a w := wpList_plain hgd fun K hK => hr K (hK _ _ h)

theorem wpListIn_load_blk {F : Fence} {n : Nat} {ops : Array Oper} {rest : List Oper} {op : Oper} {a : Act} {w : World} {Q : Exit → Act → World → Prop} (hgd : op.guard = none) (ty : TypeId) (x : Operand) (ho : op.op = .load ty x)
    (g o : Nat) (hx : a.eval x = .pointer (some ⟨g, o, none⟩)) (vs C : Array Value) (t : TypeId) (h : Blk w g t C) (hv : ∀ j, j < vs.size → C[o + j]? = vs[j]?) (d : TypeDesc)
    (hu : P.underlying ty = some d) (hd : d.isRow = true) (hi : (P.info? ty).map (·.size) = some vs.size)
    (hK : wpListIn F n P ops Q rest (a.put op.dst (.agg vs)) w) : wpListIn F n P ops Q (op :: rest) a w := by
  refine wpListIn_plain hgd fun K hK' => ?_
  have hrun := run_loadVar_mid (P := P) w g o ty vs.toList d (fun j v hj => by
    have hl : j < vs.size := by simpa using (List.getElem?_eq_some_iff.1 hj).1
    rw [h.cell, hv j hl]; simpa using hj) hu hd (by simpa using hi)
  unfold Oper.wpIn
  refine ⟨?_, ?_⟩
  · simp [Oper.about, ho]
  · rw [Oper.semAt_plain F _ _ (by rw [ho]; intro c hc'; cases hc')]
    simp only [execOp, ho, hx, Instr.loadAt, Instr.sureAddr, Sem.run_bind, Sem.run_pure, Result.andThen_ok, hrun]
    exact hK' _ _ hK

theorem wpListIn_store_blk {F : Fence} {n : Nat} {ops : Array Oper} {rest : List Oper} {op : Oper} {a : Act} {w : World} {Q : Exit → Act → World → Prop} (hgd : op.guard = none) (ty : TypeId) (x y : Operand) (ho : op.op = .store ty x y)
    (g o : Nat) (vs C : Array Value) (t : TypeId) (hx : a.eval x = .pointer (some ⟨g, o, none⟩)) (hy : a.eval y = .agg vs) (h : Blk w g t C) (hl : o + vs.size ≤ C.size)
    (hi : (P.info? ty).map (·.size) = some vs.size) (h1 : vs.all (·.oneCell') = true)
    (hK : wpListIn F n P ops Q rest (a.put op.dst undef) (w.setRow g (over C o vs))) : wpListIn F n P ops Q (op :: rest) a w := by
  refine wpListIn_plain hgd fun K hK' => ?_
  have hrun := run_storeVar_mid (P := P) w g o ty vs (fun j hj => ⟨by rw [h.cell, Array.getElem?_eq_getElem (by omega)]; rfl, h.free _⟩) hi h1
  rw [setCells_over h o vs hl] at hrun
  unfold Oper.wpIn
  refine ⟨?_, ?_⟩
  · simp [Oper.about, ho]
  · rw [Oper.semAt_plain F _ _ (by rw [ho]; intro c hc'; cases hc')]
    simp only [execOp, ho, hx, hy, Instr.storeAt, Instr.sureAddr, Sem.run_bind, Sem.run_pure, Result.andThen_ok, hrun]
    exact hK' _ _ hK

/-- A new variable of several cells. -/
theorem wpList_alloc_z {ops : Array Oper} {rest : List Oper} {op : Oper} {a : Act} {w : World} {Q : Exit → Act → World → Prop} (hgd : op.guard = none) (ty : TypeId) (ho : op.op = .alloc ty) (zs : Array Value) (k : Nat)
    (hz : (P.info? ty).map (fun i => (i.zero, i.size)) = some (some (.agg zs), k))
    (hK : wpList P ops Q rest (a.put op.dst (.pointer (some ⟨w.heap.size, 0, none⟩))) (w.alloc (.cells zs ty))) : wpList P ops Q (op :: rest) a w := by
  refine wpList_plain hgd fun K hK' => ?_
  have hrun := (zero_of_info hz).1 w
  unfold Oper.wp
  simp [execOp, ho, hrun, newVar, newRow, newObj, Value.cells, Result.andThen, go_sem]
  exact hK' _ _ hK
theorem wpListIn_alloc_z {F : Fence} {n : Nat} {ops : Array Oper} {rest : List Oper} {op : Oper} {a : Act} {w : World} {Q : Exit → Act → World → Prop} (hgd : op.guard = none) (ty : TypeId) (ho : op.op = .alloc ty) (zs : Array Value) (k : Nat)
    (hz : (P.info? ty).map (fun i => (i.zero, i.size)) = some (some (.agg zs), k))
    (hK : wpListIn F n P ops Q rest (a.put op.dst (.pointer (some ⟨w.heap.size, 0, none⟩))) (w.alloc (.cells zs ty))) : wpListIn F n P ops Q (op :: rest) a w := by
  refine wpListIn_plain hgd fun K hK' => ?_
  have hrun := (zero_of_info hz).1 w
  unfold Oper.wpIn
  refine ⟨?_, ?_⟩
  · simp [Oper.about, ho]
  · rw [Oper.semAt_plain F _ _ (by rw [ho]; intro c hc'; cases hc')]
    simp [execOp, ho, hrun, newVar, newRow, newObj, Value.cells, Result.andThen, go_sem]
    exact hK' _ _ hK

/-- A store that fills the variable that was made last. -/
theorem wpList_store_new {ops : Array Oper} {rest : List Oper} {op : Oper} {a : Act} {w : World} {Q : Exit → Act → World → Prop} (hgd : op.guard = none) (ty : TypeId) (x y : Operand) (ho : op.op = .store ty x y)
    (vs C : Array Value) (t : TypeId) (hx : a.eval x = .pointer (some ⟨w.heap.size, 0, none⟩)) (hy : a.eval y = .agg vs) (hC : C.size = vs.size)
    (hi : (P.info? ty).map (·.size) = some vs.size) (h1 : vs.all (·.oneCell') = true)
    (hK : wpList P ops Q rest (a.put op.dst undef) (w.alloc (.cells vs t))) : wpList P ops Q (op :: rest) a (w.alloc (.cells C t)) := by
  refine wpList_store_blk hgd ty x y ho w.heap.size 0 vs C t hx hy (Blk.new w t C) (by omega) hi h1 ?_
  have e : over C 0 vs = vs := by
    simp only [over, splice, List.take_zero, List.nil_append, Nat.zero_add]
    rw [List.drop_eq_nil_of_le (by simp [hC])]
    simp
  rw [e, World.setRow_alloc_new]
  exact hK
theorem wpListIn_store_new {F : Fence} {n : Nat} {ops : Array Oper} {rest : List Oper} {op : Oper} {a : Act} {w : World} {Q : Exit → Act → World → Prop} (hgd : op.guard = none) (ty : TypeId) (x y : Operand) (ho : op.op = .store ty x y)
    (vs C : Array Value) (t : TypeId) (hx : a.eval x = .pointer (some ⟨w.heap.size, 0, none⟩)) (hy : a.eval y = .agg vs) (hC : C.size = vs.size)
    (hi : (P.info? ty).map (·.size) = some vs.size) (h1 : vs.all (·.oneCell') = true)
    (hK : wpListIn F n P ops Q rest (a.put op.dst undef) (w.alloc (.cells vs t))) : wpListIn F n P ops Q (op :: rest) a (w.alloc (.cells C t)) := by
  refine wpListIn_store_blk hgd ty x y ho w.heap.size 0 vs C t hx hy (Blk.new w t C) (by omega) hi h1 ?_
  have e : over C 0 vs = vs := by
    simp only [over, splice, List.take_zero, List.nil_append, Nat.zero_add]
    rw [List.drop_eq_nil_of_le (by simp [hC])]
    simp
  rw [e, World.setRow_alloc_new]
  exact hK
end

theorem over_all {C vs : Array Value} (h : C.size = vs.size) : over C 0 vs = vs := by
  simp only [over, splice, List.take_zero, List.nil_append, Nat.zero_add]
  rw [List.drop_eq_nil_of_le (by simp [h])]
  simp
theorem Rw.cell0 (r : Rw) : r.cs[0]? = some (.int .i64 (r.s : Int)) := by
  unfold Rw.cs
  rw [Array.getElem?_append_left (by simp)]
  rfl
theorem Rw.cell1 (r : Rw) (j : Nat) : r.cs[1 + j]? = r.b.cs[j]? := by
  unfold Rw.cs
  rw [Array.getElem?_append_right (by simp)]
  congr 1
  simp
/-! ### The types' rows -/
def Rw.zero : Rw := ⟨0, Bk.zero⟩
/-! ### Loads and stores of several cells inside a region that draws its order: under one name each, which the walk does not open -/
def loadSem (ty : TypeId) (v : Value) : Sem Value := Instr.loadAt ty v
def storeSem (ty : TypeId) (v x : Value) : Sem Unit := Instr.storeAt ty v x
theorem loadRes_of {P : Program} {w : World} {ty : TypeId} {g o : Nat} {vs C : Array Value} {t : TypeId} (h : Blk w g t C) (hv : ∀ j, j < vs.size → C[o + j]? = vs[j]?) (d : TypeDesc)
    (hu : P.underlying ty = some d) (hd : d.isRow = true) (hi : (P.info? ty).map (·.size) = some vs.size) : (loadSem ty (.pointer (some ⟨g, o, none⟩))).run P w = .ok (.agg vs) w := by
  have := run_loadAt_mid (P := P) w g o ty vs.toList d (fun j v hj => by
    have hl : j < vs.size := by simpa using (List.getElem?_eq_some_iff.1 hj).1
    rw [h.cell, hv j hl]; simpa using hj) hu hd (by simpa using hi)
  exact this
theorem storeRes_of {P : Program} {w : World} {ty : TypeId} {g o : Nat} {vs C : Array Value} {t : TypeId} (h : Blk w g t C) (hl : o + vs.size ≤ C.size)
    (hi : (P.info? ty).map (·.size) = some vs.size) (h1 : vs.all (·.oneCell') = true) : (storeSem ty (.pointer (some ⟨g, o, none⟩)) (.agg vs)).run P w = .ok () (w.setRow g (over C o vs)) := by
  have hrun := run_storeAt_mid (P := P) w g o ty vs (fun j hj => ⟨by rw [h.cell, Array.getElem?_eq_getElem (by omega)]; rfl, h.free _⟩) hi h1
  rw [setCells_over h o vs hl] at hrun
  exact hrun

/-! ### rows -/
/-! ### The iterator -/

/-- The buffer's block is as it was. -/
def SameBuf (bv : Value) (W W' : World) : Prop := ∀ k, bv.ownBlock = some k → W'.heap[k]? = W.heap[k]?
theorem SameBuf.refl (bv : Value) (W : World) : SameBuf bv W W := fun _ _ => rfl
theorem SameBuf.trans {bv : Value} {A B C : World} (h : SameBuf bv A B) (k : SameBuf bv B C) : SameBuf bv A C := fun i hi => (k i hi).trans (h i hi)

/-- What a round is handed: a place, and the row that stands there. -/
abbrev RowAt (R : List Rw) : Type := { x : Nat × Rw // R[x.1]? = some x.2 }
def encR (R : List Rw) (x : RowAt R) : Array Value := #[.int .i64 (x.1.1 : Int), .agg x.1.2.cs]
def rowAt (R : List Rw) (i : Fin R.length) : RowAt R := ⟨(i.1, R[i.1]'i.2), by simp⟩
/-- The first k rows with their places. -/
def upTo (R : List Rw) (k : Nat) : List (RowAt R) := ((List.finRange R.length).take k).map (rowAt R)
theorem upTo_zero (R : List Rw) : upTo R 0 = [] := by simp [upTo]
theorem upTo_succ {R : List Rw} {k : Nat} (x : RowAt R) (h : x.1.1 = k) : upTo R (k + 1) = upTo R k ++ [x] := by
  subst h
  have hl : x.1.1 < R.length := (List.getElem?_eq_some_iff.1 x.2).1
  unfold upTo
  rw [List.take_succ_eq_append_getElem (by simpa using hl), List.map_append]
  congr 1
  have e : R[x.1.1] = x.1.2 := (List.getElem?_eq_some_iff.1 x.2).2
  simp [rowAt, e]
theorem upTo_length {R : List Rw} {k : Nat} (h : k ≤ R.length) : (upTo R k).length = k := by simp [upTo]; omega
theorem upTo_rows {R : List Rw} {k : Nat} (h : k ≤ R.length) : (upTo R k).map (·.1.2) = R.take k := by
  apply List.ext_getElem
  · simp [upTo]
  · intro i h1 h2
    simp [upTo, rowAt]
theorem upTo_places {R : List Rw} {k : Nat} (h : k ≤ R.length) : (upTo R k).map (·.1.1) = List.range k := by
  apply List.ext_getElem
  · simp [upTo]; omega
  · intro i h1 h2
    simp [upTo, rowAt]

attribute [local go_sem] Oper.semAt_some

theorem same_t {bv : Value} {A B C : World} (h : SameBuf bv A B) (k : SameBuf bv B C) : SameBuf bv A C := h.trans k
theorem same_b {bv : Value} {w : World} (hb : ∀ k, bv.ownBlock = some k → k < w.heap.size) (W : World) (l : Nat) (o o' : Obj) (hl : w.heap.size ≤ l) (h : W.heap[l]? = some o) (_ : o.isCells = false) (_ : o.isWalk = false) : SameBuf bv W (W.putObj l o') := fun k hk =>
  (grownBy_putObj' W l o').block k (by have := hb k hk; have := (Array.getElem?_eq_some_iff.1 h).1; omega) (fun e => by have := hb k hk; injection e; omega)
end Go.Proofs.Ytkoenconjldojaa
namespace Go.Proofs.Ytkoenconjldojaa
open Go.RowKit
set_option linter.unusedVariables false

/-- Numbers that are bytes. -/
def Bys (l : List Nat) : Prop := ∀ n ∈ l, n < 256

/-- At this address these bytes lie; of none no cell is asked. -/
def Lies (w : World) (a : Option Addr) (l : List Nat) : Prop :=
  l = [] ∨ ∃ b off, a = some ⟨b, off, none⟩ ∧ b < w.heap.size ∧ ∀ i, i < l.length → w.cell? ⟨b, off + i, none⟩ = some (.int .u8 ((l.getD i 0 : Nat) : Int))

theorem Bys.at {l : List Nat} (h : Bys l) (i : Nat) : l.getD i 0 < 256 := by
  by_cases hi : i < l.length
  · have : l.getD i 0 = l[i] := by simp [hi]
    rw [this]; exact h _ (List.getElem_mem hi)
  · have : l.getD i 0 = 0 := by simp [List.getElem?_eq_none (by omega : l.length ≤ i)]
    omega

theorem Lies.below {B : Nat} {w w' : World} {a : Option Addr} {l : List Nat} (h : Lies w a l) (hb : Below B w w') (ha : ∀ x, a = some x → x.block < B) : Lies w' a l := by
  rcases h with h | ⟨b, off, rfl, hlt, hc⟩
  · exact .inl h
  · exact .inr ⟨b, off, rfl, Nat.lt_of_lt_of_le hlt hb.size, fun i hi => (hb.cell (p := ⟨b, off + i, none⟩) (ha ⟨b, off, none⟩ rfl)).trans (hc i hi)⟩

/-- Is the bit k of these bytes, as they go on the wire, 1? -/
def bitB (l : List Nat) (k : Int) : Bool :=
  decide (0 ≤ k) && (decide (k.toNat / 8 < l.length) && (l.getD (l.length - 1 - k.toNat / 8) 0 / 2 ^ (k.toNat % 8) % 2 == 1))

theorem bitB_neg {l : List Nat} {k : Int} (h : k < 0) : bitB l k = false := by
  have : decide (0 ≤ k) = false := by simp; omega
  rw [bitB, this]; rfl
theorem bitB_none {l : List Nat} {k : Int} (h : l.length ≤ k.toNat / 8) : bitB l k = false := by
  have : decide (k.toNat / 8 < l.length) = false := by simp; omega
  rw [bitB, this]; simp
theorem bitB_some {l : List Nat} {k : Nat} (h : k / 8 < l.length) : bitB l (k : Int) = (l.getD (l.length - 1 - k / 8) 0 / 2 ^ (k % 8) % 2 == 1) := by
  have h0 : decide ((0 : Int) ≤ (k : Int)) = true := by simp
  have h1 : decide ((k : Int).toNat / 8 < l.length) = true := by simpa using h
  rw [bitB, h0, h1]; simp

theorem mask_u8 (x i : Nat) (hx : x < 256) : (bits .and .u8 ((x : Int) / 2 ^ i) 1 == 1) = (x / 2 ^ i % 2 == 1) := by
  have hd : x / 2 ^ i < 256 := Nat.lt_of_le_of_lt (Nat.div_le_self _ _) hx
  have e := u8_and_nat (x / 2 ^ i) 1 hd (by omega)
  have e2 : ((x / 2 ^ i : Nat) : Int) = (x : Int) / 2 ^ i := by simp
  rw [e2] at e
  have e1 : ((1 : Nat) : Int) = 1 := rfl
  rw [e1] at e
  rw [e, Nat.and_one_is_mod]
  rw [Bool.eq_iff_iff]; simp; omega

end Go.Proofs.Ytkoenconjldojaa
