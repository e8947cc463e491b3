/-
  Words for a disk: blocks of 64 bytes, rows of the buffer, what a disk holds; and memory in which only some blocks have changed. Nothing here is a statement of the document.
-/
import Derived.Test.YtfnagfmbhcaphaaDoorRows
import Derived.WalkKit
import Derived.ProofKit
import Derived.Lib.Hide
import Derived.Outline
import Derived.Deep.MidRow
import Derived.Deep.WholeRow
import Derived.Laws.AppendOwn
import Derived.Laws.CopyOwn
import Derived.Deep.QuietTactic
import Derived.BigQuiet
import Derived.Laws.OwnMore
namespace Go.Proofs.YtfnagfmbhcaphaaDoor
open Go.RowKit
set_option linter.unusedVariables false

/-! ### Memory -/

/-- Only blocks of S have changed; new ones may have been made. -/
structure Kept (S : List Nat) (w w' : World) : Prop where
  os : w'.os = w.os
  tape : w'.tape = w.tape
  output : w'.output = w.output
  size : w.heap.size ≤ w'.heap.size
  block : ∀ k, k < w.heap.size → k ∉ S → w'.heap[k]? = w.heap[k]?

theorem Kept.refl (S : List Nat) (w : World) : Kept S w w := ⟨rfl, rfl, rfl, Nat.le_refl _, fun _ _ _ => rfl⟩
theorem Kept.trans {S : List Nat} {a b c : World} (h : Kept S a b) (k : Kept S b c) : Kept S a c :=
  ⟨k.os.trans h.os, k.tape.trans h.tape, k.output.trans h.output, Nat.le_trans h.size k.size, fun i hi hn => (k.block i (Nat.lt_of_lt_of_le hi h.size) hn).trans (h.block i hi hn)⟩
/-- The second step may have changed blocks that the first one made. -/
theorem Kept.trans2 {S T : List Nat} {a b c : World} (h : Kept S a b) (k : Kept T b c) (hT : ∀ i ∈ T, i ∈ S ∨ a.heap.size ≤ i) : Kept S a c :=
  ⟨k.os.trans h.os, k.tape.trans h.tape, k.output.trans h.output, Nat.le_trans h.size k.size, fun i hi hn =>
    (k.block i (Nat.lt_of_lt_of_le hi h.size) (fun hm => by rcases hT i hm with h1 | h1; exact hn h1; omega)).trans (h.block i hi hn)⟩
theorem Kept.more {S T : List Nat} {a b : World} (h : Kept S a b) (hT : ∀ i ∈ S, i ∈ T) : Kept T a b :=
  ⟨h.os, h.tape, h.output, h.size, fun i hi hn => h.block i hi (fun hm => hn (hT i hm))⟩
theorem Kept.drew {S : List Nat} {a b : World} (h : Kept S a b) : Kept S a b.drew := ⟨h.os, h.tape, h.output, h.size, h.block⟩
theorem Kept.drewN {S : List Nat} {a b : World} (h : Kept S a b) (n : Nat) : Kept S a (b.drewN n) := ⟨h.os, h.tape, h.output, h.size, h.block⟩
theorem Kept.alloc {S : List Nat} {a b : World} (h : Kept S a b) (o : Obj) : Kept S a (b.alloc o) :=
  h.trans ⟨rfl, rfl, rfl, by simp, fun k hk _ => Below.heap_alloc _ _ _ hk⟩
theorem Kept.setCell {S : List Nat} {a b : World} (h : Kept S a b) {p : Addr} (hp : p.block ∈ S ∨ a.heap.size ≤ p.block) (v : Value) : Kept S a (b.setCell p v) :=
  h.trans2 (T := [p.block]) ⟨rfl, rfl, rfl, by simp [World.setCell], fun k hk hn => Below.heap_setCell _ _ _ _ (by simpa using hn)⟩ (by simpa using hp)
theorem Kept.setRow {S : List Nat} {a b : World} (h : Kept S a b) {g : Nat} (hp : g ∈ S ∨ a.heap.size ≤ g) (cs : Array Value) : Kept S a (b.setRow g cs) :=
  h.trans2 (T := [g]) ⟨rfl, rfl, rfl, by simp, fun k hk hn => setRow_other b g k cs (by simpa using hn)⟩ (by simpa using hp)
theorem Kept.grown {S : List Nat} {a b c : World} {row : Option Nat} (h : Kept S a b) (hg : b.grownBy c row) (hr : ∀ k, row = some k → k ∈ S ∨ a.heap.size ≤ k) : Kept S a c :=
  h.trans2 (T := row.toList) ⟨hg.os, hg.tape, hg.output, hg.size, fun k hk hn => hg.block k hk (fun e => hn (by simp [← e]))⟩ (by intro i hi; exact hr i (by simpa using hi))
theorem Kept.of_below {a b : World} (S : List Nat) (h : Below a.heap.size a b) : Kept S a b := ⟨h.os, h.tape, h.output, h.size, fun k hk _ => h.block k hk⟩
theorem Kept.below {S : List Nat} {a b : World} {B : Nat} (h : Kept S a b) (hS : ∀ k ∈ S, B ≤ k) (hB : B ≤ a.heap.size) : Below B a b :=
  ⟨h.os, h.tape, h.output, h.size, fun k hk => h.block k (by omega) (fun hm => by have := hS k hm; omega)⟩
theorem Kept.blk {S : List Nat} {a b : World} (h : Kept S a b) {g : Nat} {o : Obj} (hg : a.heap[g]? = some o) (hn : g ∉ S) : b.heap[g]? = some o :=
  (h.block g (Array.getElem?_eq_some_iff.1 hg).1 hn).trans hg

/-- Block g holds just these cells. -/
def Blk (w : World) (g : Nat) (t : TypeId) (cs : Array Value) : Prop := w.heap[g]? = some (.cells cs t (0, 0))
theorem Blk.lt {w : World} {g : Nat} {t : TypeId} {cs : Array Value} (h : Blk w g t cs) : g < w.heap.size := (Array.getElem?_eq_some_iff.1 h).1
theorem Blk.cell {w : World} {g : Nat} {t : TypeId} {cs : Array Value} (h : Blk w g t cs) (i : Nat) : w.cell? ⟨g, i, none⟩ = cs[i]? := cell_of_row w g i cs t (0, 0) h
theorem Blk.free {w : World} {g : Nat} {t : TypeId} {cs : Array Value} (h : Blk w g t cs) (i : Nat) : w.frozen? ⟨g, i, none⟩ = false := frozen_of_row w g i cs t h
theorem Blk.new (w : World) (t : TypeId) (cs : Array Value) : Blk (w.alloc (.cells cs t)) w.heap.size t cs := heap_alloc_new w _
theorem Blk.alloc {w : World} {g : Nat} {t : TypeId} {cs : Array Value} (h : Blk w g t cs) (o : Obj) : Blk (w.alloc o) g t cs := (Below.heap_alloc w o g h.lt).trans h
theorem Blk.drew {w : World} {g : Nat} {t : TypeId} {cs : Array Value} (h : Blk w g t cs) : Blk w.drew g t cs := h
theorem Blk.set {w : World} {g : Nat} {t : TypeId} {cs : Array Value} (h : Blk w g t cs) (i : Nat) (v : Value) : Blk (w.setCell ⟨g, i, none⟩ v) g t (cs.setIfInBounds i v) := heap_setCell_same w g i cs t v h
theorem Blk.far {w : World} {g : Nat} {t : TypeId} {cs : Array Value} (h : Blk w g t cs) {p : Addr} (hp : g ≠ p.block) (v : Value) : Blk (w.setCell p v) g t cs := (Below.heap_setCell w p v g hp).trans h
theorem Blk.row {w : World} {g : Nat} {t : TypeId} {cs : Array Value} (h : Blk w g t cs) (cs' : Array Value) : Blk (w.setRow g cs') g t cs' := setRow_heap w g cs cs' t _ h
theorem Blk.kept {w w' : World} {g : Nat} {t : TypeId} {cs : Array Value} {S : List Nat} (h : Blk w g t cs) (k : Kept S w w') (hn : g ∉ S) : Blk w' g t cs := k.blk h hn
theorem Blk.ne {w : World} {g g' : Nat} {t t' : TypeId} {cs cs' : Array Value} (h : Blk w g t cs) (h' : Blk w g' t' cs') (ht : t ≠ t') : g ≠ g' := by
  rintro rfl
  unfold Blk at h h'
  rw [h] at h'
  injection h' with h'
  injection h' with _ e
  exact ht e

/-- Cells laid over others from a place on. -/
def over (C : Array Value) (o : Nat) (vs : Array Value) : Array Value := (splice C.toList o vs.toList).toArray
theorem size_over {C : Array Value} {o : Nat} {vs : Array Value} (h : o + vs.size ≤ C.size) : (over C o vs).size = C.size := by
  have := length_splice C.toList o vs.toList (by simpa using h)
  simpa [over] using this
theorem splice_get {α : Type} {L : List α} {o : Nat} {cs : List α} (h : o + cs.length ≤ L.length) (i : Nat) : (splice L o cs)[i]? = if i < o then L[i]? else if i < o + cs.length then cs[i - o]? else L[i]? := by
  unfold splice
  by_cases h1 : i < o
  · rw [if_pos h1, List.getElem?_append_left (by simp; omega), List.getElem?_take, if_pos h1]
  · have e : (L.take o).length = o := by simp; omega
    rw [if_neg h1, List.getElem?_append_right (by omega), e]
    by_cases h2 : i < o + cs.length
    · rw [if_pos h2, List.getElem?_append_left (by omega)]
    · rw [if_neg h2, List.getElem?_append_right (by omega), List.getElem?_drop]
      congr 1
      omega
theorem over_get {C vs : Array Value} {o : Nat} (h : o + vs.size ≤ C.size) (i : Nat) : (over C o vs)[i]? = if i < o then C[i]? else if i < o + vs.size then vs[i - o]? else C[i]? := by
  have e : (over C o vs)[i]? = (splice C.toList o vs.toList)[i]? := by simp [over]
  rw [e, splice_get (by simpa using h)]
  simp
theorem setCells_row {g : Nat} {t : TypeId} (vs : List Value) : ∀ (o : Nat) (w : World) (C : Array Value), Blk w g t C → o + vs.length ≤ C.size → w.setCells g o vs = w.setRow g (splice C.toList o vs).toArray := by
  induction vs with
  | nil =>
    intro o w C h _
    have e : (splice C.toList o []).toArray = C := by simp [splice]
    rw [e]
    show w = w.setRow g C
    unfold Blk at h
    have hlt := (Array.getElem?_eq_some_iff.1 h).1
    have hw : (w.setRow g C).heap = w.heap := by
      apply Array.ext_getElem?
      intro i
      by_cases hi : i = g
      · subst hi; rw [setRow_heap w i C C t _ h, h]
      · exact setRow_other w g i C hi
    cases w
    simp only [World.setRow] at hw ⊢
    simp only [hw]
  | cons v r ih =>
    intro o w C h hl
    simp only [List.length_cons] at hl
    rw [World.setCells, ih (o + 1) _ _ (h.set o v) (by simp; omega), setCell_eq_setRow w g o C t (0, 0) v h]
    have e1 : ((w.setRow g (C.setIfInBounds o v)).setRow g (splice (C.setIfInBounds o v).toList (o + 1) r).toArray) = w.setRow g (splice (C.setIfInBounds o v).toList (o + 1) r).toArray := by
      simp only [World.setRow]
      congr 1
      apply Array.ext_getElem?
      intro i
      simp only [Array.getElem?_modify]
      by_cases hi : g = i
      · subst hi
        unfold Blk at h
        simp [h]
      · simp [hi]
    rw [e1]
    congr 2
    apply List.ext_getElem?
    intro i
    rw [splice_get (by simp; omega), splice_get (by simp; omega)]
    simp only [List.length_cons, Array.toList_setIfInBounds]
    by_cases h1 : i < o
    · rw [if_pos (by omega), if_pos h1, List.getElem?_set_ne (by omega)]
    · rw [if_neg h1]
      by_cases h2 : i = o
      · subst h2
        rw [if_pos (by omega), if_pos (by omega), Nat.sub_self]
        have : i < C.size := by omega
        simp [this]
      · rw [if_neg (by omega), List.getElem?_set_ne (by omega)]
        obtain ⟨j, rfl⟩ : ∃ j, i = o + 1 + j := ⟨i - (o + 1), by omega⟩
        rw [show o + 1 + j - (o + 1) = j from by omega, show o + 1 + j - o = j + 1 from by omega, List.getElem?_cons_succ]
        by_cases h3 : j < r.length
        · rw [if_pos (by omega), if_pos (by omega)]
        · rw [if_neg (by omega), if_neg (by omega)]
theorem setCells_over {w : World} {g : Nat} {t : TypeId} {C : Array Value} (h : Blk w g t C) (o : Nat) (vs : Array Value) (hl : o + vs.size ≤ C.size) : w.setCells g o vs.toList = w.setRow g (over C o vs) :=
  setCells_row vs.toList o w C h (by simpa using hl)

section
variable {P : Program}
/-- A load of several cells out of a block that is known. -/
theorem wpList_load_blk {ops : Array Oper} {rest : List Oper} {op : Oper} {a : Act} {w : World} {Q : Exit → Act → World → Prop} (hgd : op.guard = none) (ty : TypeId) (x : Operand) (ho : op.op = .load ty x)
    (g o : Nat) (hx : a.eval x = .pointer (some ⟨g, o, none⟩)) (vs C : Array Value) (t : TypeId) (h : Blk w g t C) (hv : ∀ j, j < vs.size → C[o + j]? = vs[j]?) (d : TypeDesc)
    (hu : P.underlying ty = some d) (hd : d.isRow = true) (hi : (P.info? ty).map (·.size) = some vs.size)
    (hK : wpList P ops Q rest (a.put op.dst (.agg vs)) w) : wpList P ops Q (op :: rest) a w :=
  wpList_load_mid hgd ty x ho g o hx vs.toList d (fun j v hj => by
    have hl : j < vs.size := by simpa using (List.getElem?_eq_some_iff.1 hj).1
    rw [h.cell, hv j hl]; simpa using hj) hu hd (by simpa using hi) hK
/-- A store of several cells into a block that is known. -/
theorem wpList_store_blk {ops : Array Oper} {rest : List Oper} {op : Oper} {a : Act} {w : World} {Q : Exit → Act → World → Prop} (hgd : op.guard = none) (ty : TypeId) (x y : Operand) (ho : op.op = .store ty x y)
    (g o : Nat) (vs C : Array Value) (t : TypeId) (hx : a.eval x = .pointer (some ⟨g, o, none⟩)) (hy : a.eval y = .agg vs) (h : Blk w g t C) (hl : o + vs.size ≤ C.size)
    (hi : (P.info? ty).map (·.size) = some vs.size) (h1 : vs.all (·.oneCell') = true)
    (hK : wpList P ops Q rest (a.put op.dst undef) (w.setRow g (over C o vs))) : wpList P ops Q (op :: rest) a w := by
  refine wpList_store_mid hgd ty x y ho g o vs hx hy (fun j hj => ⟨?_, h.free _⟩) hi h1 ?_
  · rw [h.cell, Array.getElem?_eq_getElem (by omega)]; rfl
  · rw [setCells_over h o vs hl]; exact hK
end

/-! ### Blocks, rows, disks -/

/-- A block: 64 numbers. -/
structure Bk where
  l : List Int
  len : l.length = 64
def Bk.zero : Bk := ⟨List.replicate 64 0, rfl⟩
def Bk.cs (b : Bk) : Array Value := (b.l.map (Value.int .u8)).toArray
theorem Bk.size (b : Bk) : b.cs.size = 64 := by simp [Bk.cs, b.len]
theorem Bk.one (b : Bk) : b.cs.all (·.oneCell') = true := by
  rw [Array.all_eq_true_iff_forall_mem]
  intro v hv
  simp only [Bk.cs, List.mem_toArray, List.mem_map] at hv
  obtain ⟨n, _, rfl⟩ := hv
  rfl
theorem Bk.inj {a b : Bk} (h : a.cs = b.cs) : a = b := by
  obtain ⟨l, hl⟩ := a
  obtain ⟨m, hm⟩ := b
  have : l = m := by
    have h2 : l.map (Value.int .u8) = m.map (Value.int .u8) := by simpa [Bk.cs] using h
    exact (List.map_inj_right (fun x y e => by injection e)).1 h2
  subst this; rfl

/-- A row of a buffer: a sector and a block. -/
structure Rw where
  s : Nat
  b : Bk
def Rw.cs (r : Rw) : Array Value := #[Value.int .i64 (r.s : Int)] ++ r.b.cs
theorem Rw.size (r : Rw) : r.cs.size = 65 := by simp [Rw.cs, r.b.size]
theorem Rw.one (r : Rw) : r.cs.all (·.oneCell') = true := by
  have := r.b.one
  rw [Array.all_eq_true_iff_forall_mem] at this ⊢
  intro v hv
  rcases Array.mem_append.1 hv with h | h
  · obtain rfl : v = Value.int .i64 (r.s : Int) := by simpa using h
    rfl
  · exact this v h

/-- Blocks, one behind the other, as cells; rows likewise. -/
def pcs (l : List Bk) : List Value := l.flatMap fun b => b.cs.toList
def rcs (l : List Rw) : List Value := l.flatMap fun r => r.cs.toList
theorem pcs_length (l : List Bk) : (pcs l).length = l.length * 64 := by
  induction l with
  | nil => rfl
  | cons b l ih => simp only [pcs, List.flatMap_cons, List.length_append, List.length_cons] at ih ⊢; rw [ih]; have := b.size; simp; omega
theorem rcs_length (l : List Rw) : (rcs l).length = l.length * 65 := by
  induction l with
  | nil => rfl
  | cons b l ih => simp only [rcs, List.flatMap_cons, List.length_append, List.length_cons] at ih ⊢; rw [ih]; have := b.size; simp; omega
theorem pcs_one (l : List Bk) : ∀ v ∈ pcs l, v.oneCell' = true := by
  intro v hv
  obtain ⟨b, _, hb⟩ := List.mem_flatMap.1 hv
  exact Array.all_eq_true_iff_forall_mem.1 b.one v (by simpa using hb)
theorem rcs_one (l : List Rw) : ∀ v ∈ rcs l, v.oneCell' = true := by
  intro v hv
  obtain ⟨b, _, hb⟩ := List.mem_flatMap.1 hv
  exact Array.all_eq_true_iff_forall_mem.1 b.one v (by simpa using hb)
theorem flat_get {α : Type} {f : α → Array Value} {n : Nat} (hf : ∀ x, (f x).size = n) : ∀ (l : List α) (k : Nat) (x : α), l[k]? = some x → ∀ j, j < n → (l.flatMap fun y => (f y).toList)[k * n + j]? = (f x)[j]? := by
  intro l
  induction l with
  | nil => intro k x h; simp at h
  | cons y l ih =>
    intro k x h j hj
    rw [List.flatMap_cons]
    cases k with
    | zero =>
      simp only [List.getElem?_cons_zero, Option.some.injEq] at h
      subst h
      rw [List.getElem?_append_left (by simp [hf]; omega)]
      simp
    | succ k =>
      rw [List.getElem?_append_right (by simp [hf]; rw [Nat.add_mul]; omega)]
      simp only [List.getElem?_cons_succ] at h
      have := ih k x h j hj
      simp only [Array.length_toList, hf]
      rw [show (k + 1) * n + j - n = k * n + j from by rw [Nat.add_mul]; omega]
      exact this
theorem pcs_get {l : List Bk} {k : Nat} {b : Bk} (h : l[k]? = some b) {j : Nat} (hj : j < 64) : (pcs l)[k * 64 + j]? = b.cs[j]? := flat_get Bk.size l k b h j hj
theorem rcs_get {l : List Rw} {k : Nat} {r : Rw} (h : l[k]? = some r) {j : Nat} (hj : j < 65) : (rcs l)[k * 65 + j]? = r.cs[j]? := flat_get Rw.size l k r h j hj
theorem flat_set {α : Type} {f : α → Array Value} {n : Nat} (hf : ∀ x, (f x).size = n) : ∀ (l : List α) (k : Nat) (x : α), k < l.length → splice (l.flatMap fun y => (f y).toList) (k * n) (f x).toList = (l.set k x).flatMap fun y => (f y).toList := by
  intro l
  induction l with
  | nil => intro k x h; simp at h
  | cons y l ih =>
    intro k x h
    cases k with
    | zero =>
      simp [splice, List.set_cons_zero, List.flatMap_cons, hf]
    | succ k =>
      have := ih k x (by simpa using h)
      rw [List.set_cons_succ, List.flatMap_cons, List.flatMap_cons, ← this]
      have e : (k + 1) * n = (f y).toList.length + k * n := by simp [hf]; rw [Nat.add_mul]; omega
      rw [e]
      simp only [splice, Nat.add_assoc, List.take_append, List.drop_append]
      simp [List.take_of_length_le, List.drop_eq_nil_of_le, Nat.add_assoc]
theorem pcs_set {l : List Bk} {k : Nat} (b : Bk) (h : k < l.length) : splice (pcs l) (k * 64) b.cs.toList = pcs (l.set k b) := flat_set Bk.size l k b h
theorem rcs_set {l : List Rw} {k : Nat} (r : Rw) (h : k < l.length) : splice (rcs l) (k * 65) r.cs.toList = rcs (l.set k r) := flat_set Rw.size l k r h
theorem rcs_append (l m : List Rw) : rcs (l ++ m) = rcs l ++ rcs m := by simp [rcs]
theorem rcs_one_row (r : Rw) : rcs [r] = r.cs.toList := by simp [rcs]
theorem rcs_drop (l : List Rw) (k : Nat) : (rcs l).drop (k * 65) = rcs (l.drop k) := by
  induction l generalizing k with
  | nil => simp [rcs]
  | cons r l ih =>
    cases k with
    | zero => simp
    | succ k =>
      have e : (k + 1) * 65 = r.cs.toList.length + k * 65 := by have := r.size; simp [this]; omega
      rw [List.drop_succ_cons, ← ih k]
      show (r.cs.toList ++ rcs l).drop _ = _
      rw [e, List.drop_append]
      simp
end Go.Proofs.YtfnagfmbhcaphaaDoor
