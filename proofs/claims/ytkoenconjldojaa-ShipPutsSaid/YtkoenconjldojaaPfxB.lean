/-
  The contracts of prefix.Width, within, filled, kept and of the reference's Width and at. Nothing here is a statement of the document.
-/
import Derived.Test.YtkoenconjldojaaOctA
import Derived.Laws.CopyOwn
import Derived.OneCell
import Derived.OpenShut
import Derived.ShutString
import Derived.ChangeOld
import Derived.Deep.QuietTactic
import Derived.BigQuiet
import Derived.BigRegion
import Derived.Laws.Rows
namespace Go.Proofs.Ytkoenconjldojaa
open Go.RowKit
set_option linter.unusedVariables false

/-- A byte as a cell. -/
def byc (n : Nat) : Value := .int .u8 (n : Int)

/-- Block g is a row of a call's own that holds just these bytes. -/
def Own (w : World) (g : Nat) (l : List Nat) : Prop := w.heap[g]? = some (.cells (l.map byc).toArray 5 (0, 0))

theorem Own.lt {w : World} {g : Nat} {l : List Nat} (h : Own w g l) : g < w.heap.size := lt_of_block h

theorem Own.cell {w : World} {g : Nat} {l : List Nat} (h : Own w g l) {i : Nat} (hi : i < l.length) : w.cell? ⟨g, i, none⟩ = some (.int .u8 ((l.getD i 0 : Nat) : Int)) := by
  unfold Own at h
  simp [World.cell?, h, byc, hi]

theorem Own.free {w : World} {g : Nat} {l : List Nat} (h : Own w g l) (i : Nat) : w.frozen? ⟨g, i, none⟩ = false := by
  unfold Own at h
  simp [World.frozen?, h]

theorem Own.set {w : World} {g : Nat} {l : List Nat} (h : Own w g l) {i : Nat} (n : Nat) : Own (w.setCell ⟨g, i, none⟩ (.int .u8 (n : Int))) g (l.set i n) := by
  unfold Own at h ⊢
  have hg := (Array.getElem?_eq_some_iff.1 h).1
  simp only [World.setCell, Array.getElem?_modify, h]
  simp [List.map_set, byc]

theorem Own.kept {B : Nat} {w w' : World} {g : Nat} {l : List Nat} (h : Own w g l) (hb : Below B w w') (hg : g < B) : Own w' g l := (hb.block g hg).trans h

theorem Own.kept' {w w' : World} {g : Nat} {l : List Nat} (h : Own w g l) (hb : Below w.heap.size w w') : Own w' g l := h.kept hb h.lt

theorem Own.drew {w : World} {g : Nat} {l : List Nat} (h : Own w g l) : Own w.drew g l := h

theorem Own.lies {w : World} {g : Nat} {l : List Nat} (h : Own w g l) : Lies w (some ⟨g, 0, none⟩) l :=
  .inr ⟨g, 0, rfl, h.lt, fun i hi => by rw [Nat.zero_add]; exact h.cell hi⟩

theorem Own.liesAt {w : World} {g : Nat} {l : List Nat} (h : Own w g l) (o : Nat) : Lies w (some ⟨g, o, none⟩) (l.drop o) :=
  .inr ⟨g, o, rfl, h.lt, fun i hi => by
    rw [List.length_drop] at hi
    rw [h.cell (i := o + i) (by omega)]; simp [List.getElem?_drop]⟩

theorem made_bytes (n : Nat) : madeCells (Value.int .u8 0).cells n = ((List.replicate n 0).map byc).toArray := by
  apply Array.ext
  · simp [madeCells]
  · intro i h1 h2
    simp [madeCells, byc, Value.cells, Nat.mod_one]

theorem splice_bytes (l : List Nat) (n : Nat) : splice ((List.replicate (l.length + n) 0).map byc) 0 (l.map byc) = (l ++ List.replicate n 0).map byc := by
  simp [splice]

theorem byc_one (l : List Nat) : ∀ v ∈ l.map byc, v.oneCell' = true := by
  intro v hv
  obtain ⟨n, _, rfl⟩ := List.mem_map.1 hv
  rfl

theorem Lies.cells {w : World} {a : Option Addr} {l : List Nat} (h : Lies w a l) (h0 : 0 < l.length) : ∃ ad, a = some ad ∧ ∀ j v, (l.map byc)[j]? = some v → w.cell? (ad.add j) = some v := by
  rcases h with rfl | ⟨b, off, rfl, _, hc⟩
  · simp at h0
  · refine ⟨_, rfl, fun j v hj => ?_⟩
    have hlt : j < l.length := by
      have := (List.getElem?_eq_some_iff.1 hj).1
      simpa using this
    rw [Addr.add_lit, hc j hlt, ← hj]
    simp [byc, hlt]

theorem Lies.alloc {w : World} {a : Option Addr} {l : List Nat} (h : Lies w a l) (o : Obj) : Lies (w.alloc o) a l := by
  rcases h with rfl | ⟨b, off, rfl, hb, hc⟩
  · exact .inl rfl
  · exact .inr ⟨b, off, rfl, by simp; omega, fun i hi => (World.cell?_alloc_past _ _ _ hb).trans (hc i hi)⟩

theorem Lies.kept {w w' : World} {a : Option Addr} {l : List Nat} (h : Lies w a l) (hb : Below w.heap.size w w') : Lies w' a l := by
  rcases h with rfl | ⟨b, off, rfl, hlt, hc⟩
  · exact .inl rfl
  · exact .inr ⟨b, off, rfl, Nat.lt_of_lt_of_le hlt hb.size, fun i hi => (hb.cell (p := ⟨b, off + i, none⟩) hlt).trans (hc i hi)⟩

/-! ### The bytes of a number -/

/-- The bytes of a number, n of them, the highest first. -/
def highB (x n : Nat) : List Nat := (List.range n).map fun j => x / 2 ^ (8 * (n - 1 - j)) % 256

/-- Of these bytes the last k; ahead of them noughts. -/
def highK (x n k : Nat) : List Nat := (List.range n).map fun j => if n - k ≤ j then x / 2 ^ (8 * (n - 1 - j)) % 256 else 0

theorem highK_zero (x n : Nat) : highK x n 0 = List.replicate n 0 := by
  apply List.ext_getElem
  · simp [highK]
  · intro i h1 h2
    simp [highK] at h1 ⊢
    intro h; omega
theorem highK_all (x n : Nat) : highK x n n = highB x n := by simp [highK, highB]
theorem highK_succ (x n k : Nat) (hk : k < n) : highK x n (k + 1) = (highK x n k).set (n - 1 - k) (x / 2 ^ (8 * k) % 256) := by
  apply List.ext_getElem
  · simp [highK]
  · intro i h1 h2
    simp [highK] at h1
    rw [List.getElem_set]
    simp only [highK, List.getElem_map, List.getElem_range]
    by_cases h : n - 1 - k = i
    · subst h
      have e : n - 1 - (n - 1 - k) = k := by omega
      rw [if_pos (by omega), if_pos rfl, e]
    · rw [if_neg h]
      by_cases h3 : n - k ≤ i
      · rw [if_pos (by omega), if_pos h3]
      · rw [if_neg (by omega), if_neg h3]
theorem length_highK (x n k : Nat) : (highK x n k).length = n := by simp [highK]
theorem length_highB (x n : Nat) : (highB x n).length = n := by simp [highB]
theorem highB_bys (x n : Nat) : Bys (highB x n) := by
  intro m hm
  obtain ⟨j, _, rfl⟩ := List.mem_map.1 hm
  exact Nat.mod_lt _ (by omega)

theorem put_step (l : List Nat) (x n k : Nat) (hk : k < n) : (l ++ highK x n k).set (l.length + n - 1 - k) (x / 2 ^ (8 * k) % 256) = l ++ highK x n (k + 1) := by
  rw [highK_succ x n k hk, List.set_append_right _ _ (by omega)]
  congr 2
  omega

theorem put_world {w wr : World} {l : List Nat} {len n x k : Nat} (hOw : Own wr w.heap.size (l ++ highK x n k)) (hBw : Below w.heap.size w wr) (hl : l.length = len) (hlt : k < n) :
    Own (wr.setCell ⟨w.heap.size, len + n - 1 - k, none⟩ (.int .u8 ((x : Int) / 2 ^ (8 * k) % 256))) w.heap.size (l ++ highK x n (k + 1)) ∧
      Below w.heap.size w (wr.setCell ⟨w.heap.size, len + n - 1 - k, none⟩ (.int .u8 ((x : Int) / 2 ^ (8 * k) % 256))) := by
  have e : ((x : Int) / 2 ^ (8 * k) % 256) = ((x / 2 ^ (8 * k) % 256 : Nat) : Int) := by simp
  rw [e, ← put_step l x n k hlt, hl]
  exact ⟨hOw.set _, hBw.setCell (Nat.le_refl _) _⟩

theorem Try.info5 : (Try.prog.info? 5).map (fun i => (i.zero, i.size, i.bytes)) = some (some (.int .u8 0), 1, 1) := by kernel_rfl
theorem Try.size5 : (Try.prog.info? 5).map (·.size) = some 1 := by kernel_rfl

end Go.Proofs.Ytkoenconjldojaa
namespace Go.Proofs.Ytkoenconjldojaa
open Go.RowKit
set_option linter.unusedVariables false

/-- Where the rest begins when j of n bytes are off: Go does not point behind a row's end. -/
def spotR (n j : Nat) : Nat := if j = n then n - 1 else j

/-- What is still to come, as a value. -/
def restV (g n j : Nat) : Value := .slice (some ⟨g, spotR n j, none⟩) (n - j) (n - j)

end Go.Proofs.Ytkoenconjldojaa
namespace Go.Proofs.Ytkoenconjldojaa
open Go.RowKit
set_option linter.unusedVariables false

/-- The number that bytes make, the highest first, on top of what was there, by its lowest 64 bits. -/
def pile (v : Nat) (l : List Nat) : Nat := l.foldl (fun v b => v * 256 % 18446744073709551616 + b) v

theorem or_low (v b : Nat) (hb : b < 256) : v * 256 % 18446744073709551616 ||| b = v * 256 % 18446744073709551616 + b :=
  nat_join 8 _ _ (by omega) hb

/-- Two worlds that differ at blocks p and x at most. -/
structure Two (p x : Nat) (w w' : World) : Prop where
  os : w'.os = w.os
  tape : w'.tape = w.tape
  output : w'.output = w.output
  size : w'.heap.size = w.heap.size
  block : ∀ k, k ≠ p → k ≠ x → w'.heap[k]? = w.heap[k]?

theorem Two.refl (p x : Nat) (w : World) : Two p x w w := ⟨rfl, rfl, rfl, rfl, fun _ _ _ => rfl⟩
theorem Two.trans {p x : Nat} {a b c : World} (h : Two p x a b) (k : Two p x b c) : Two p x a c :=
  ⟨k.os.trans h.os, k.tape.trans h.tape, k.output.trans h.output, k.size.trans h.size, fun i h1 h2 => (k.block i h1 h2).trans (h.block i h1 h2)⟩
theorem Two.setCell {p x : Nat} {a b : World} (h : Two p x a b) {q : Addr} (hq : q.block = p ∨ q.block = x) (v : Value) : Two p x a (b.setCell q v) :=
  h.trans ⟨rfl, rfl, rfl, by simp [World.setCell], fun k h1 h2 => Below.heap_setCell _ _ _ _ (by rcases hq with rfl | rfl <;> assumption)⟩

/-- What taking n bytes off leaves: where the reader stands, and its error. -/
def offTo (len j : Nat) (err n : Int) : Nat × Int :=
  if err ≠ 0 then (j, err) else if n < 0 then (j, 2) else if ((len - j : Nat) : Int) < n then (j, 7) else (j + n.toNat, 0)

/-- What comes off. -/
def came (L : List Nat) (j : Nat) (err n : Int) : List Nat :=
  if err ≠ 0 then [] else if n < 0 then [] else if ((L.length - j : Nat) : Int) < n then [] else (L.drop j).take n.toNat

theorem pile_snoc (v : Nat) (l : List Nat) (b : Nat) : pile v (l ++ [b]) = pile v l * 256 % 18446744073709551616 + b := by simp [pile]
theorem pile_le (v : Nat) (l : List Nat) (hl : Bys l) (hv : v ≤ 18446744073709551615) : pile v l ≤ 18446744073709551615 := by
  induction l generalizing v with
  | nil => exact hv
  | cons b l ih =>
    have hb : b < 256 := hl b (by simp)
    exact ih _ (fun n hn => hl n (by simp [hn])) (by show v * 256 % 18446744073709551616 + b ≤ 18446744073709551615; omega)
theorem take_more (L : List Nat) (j k : Nat) (h : j + k < L.length) : (L.drop j).take (k + 1) = (L.drop j).take k ++ [L.getD (j + k) 0] := by
  rw [List.take_add_one]
  simp [List.getElem?_drop, h]

/-! ### number, and the numbers of 8 to 64 bits -/

theorem Two.grown {p x : Nat} {w w1 w' : World} (hA : w.grownBy w1 none) (h : Two p x w1 w') (hx : w.heap.size ≤ x) : w.grownBy w' (some p) :=
  ⟨h.os.trans hA.os, h.tape.trans hA.tape, h.output.trans hA.output, by have := hA.size; have := h.size; omega,
    fun k hk hp => (h.block k (fun e => hp (by rw [e])) (Nat.ne_of_lt (Nat.lt_of_lt_of_le hk hx))).trans (hA.block k hk (by simp))⟩

theorem grown_set {w w1 : World} {p : Nat} (hA : w.grownBy w1 none) (i : Nat) (v : Value) : w.grownBy (w1.setCell ⟨p, i, none⟩ v) (some p) :=
  ⟨hA.os, hA.tape, hA.output, by have := hA.size; simpa [World.setCell] using this,
    fun k hk hp => (Below.heap_setCell _ _ _ _ (fun e => hp (by rw [e]))).trans (hA.block k hk (by simp))⟩

end Go.Proofs.Ytkoenconjldojaa
namespace Go.Proofs.Ytkoenconjldojaa
open Go.RowKit
set_option linter.unusedVariables false

theorem bys3 : Bys [5, 0, 1] := by intro n hn; simp at hn; omega
theorem bys10 : Bys [1, 0] := by intro n hn; simp at hn; omega

end Go.Proofs.Ytkoenconjldojaa
namespace Go.Proofs.Ytkoenconjldojaa
open Go.RowKit
set_option linter.unusedVariables false

/-- WHAT THE WALK IS TOLD OF A SLICE OF INTEGERS THAT CAME IN: it is nil; or it leads to a row of 'cap' cells, the numbers 'zs' (the first 'len' are its elements, the rest its spare room), each fitting its kind. -/
def IsRow (k : IntKind) (w : World) (a : Option Addr) (len cap : Nat) (zs : List Int) : Prop :=
  (a = none ∧ len = 0 ∧ cap = 0 ∧ zs = []) ∨
  ∃ x, a = some x ∧ len ≤ cap ∧ cap ≤ maxLen ∧ zs.length = cap ∧ (∀ i, i < zs.length → w.cell? (x.add i) = some (.int k (zs.getD i 0))) ∧ ∀ n ∈ zs, (Lit.int k n).wf = true

/-- Numbers that lie at an address, of one kind. -/
def Nums (k : IntKind) (w : World) (a : Option Addr) (zs : List Int) : Prop :=
  zs = [] ∨ ∃ b off, a = some ⟨b, off, none⟩ ∧ b < w.heap.size ∧ ∀ i, i < zs.length → w.cell? ⟨b, off + i, none⟩ = some (.int k (zs.getD i 0))

theorem Nums.kept {k : IntKind} {w w' : World} {a : Option Addr} {zs : List Int} (h : Nums k w a zs) (hb : Below w.heap.size w w') : Nums k w' a zs := by
  rcases h with rfl | ⟨b, off, rfl, hlt, hc⟩
  · exact .inl rfl
  · exact .inr ⟨b, off, rfl, Nat.lt_of_lt_of_le hlt hb.size, fun i hi => (hb.cell (p := ⟨b, off + i, none⟩) hlt).trans (hc i hi)⟩

theorem IsRow.nums {k : IntKind} {w : World} {a : Option Addr} {len cap : Nat} {zs : List Int} (h : IsRow k w a len cap zs) :
    ∃ ys : List Int, ys.length = len ∧ len ≤ 9223372036854775807 ∧ Nums k w a ys ∧ ∀ n ∈ ys, (Lit.int k n).wf = true := by
  rcases h with ⟨rfl, rfl, rfl, rfl⟩ | ⟨x, rfl, hl, hm, hz, hc, hw⟩
  · exact ⟨[], rfl, by omega, .inl rfl, by simp⟩
  · refine ⟨zs.take len, by simp; omega, by unfold maxLen at hm; omega, ?_, fun n hn => hw n (List.mem_of_mem_take hn)⟩
    by_cases h0 : len = 0
    · subst h0; exact .inl (by simp)
    · have hc0 := hc 0 (by omega)
      obtain ⟨b, off, spot⟩ := x
      have hspot : spot = none := by simpa [Addr.add] using World.cell?_spot hc0
      subst hspot
      have hlt := World.block_lt_of_cell? w _ hc0
      refine .inr ⟨b, off, rfl, hlt, fun i hi => ?_⟩
      have hi2 : i < len := by simpa using (Nat.lt_of_lt_of_le hi (List.length_take_le _ _))
      have := hc i (by omega)
      rw [Addr.add_lit] at this
      rw [this]
      simp [hi2]

theorem IsRow.bytes {w : World} {a : Option Addr} {len cap : Nat} {zs : List Int} (h : IsRow .u8 w a len cap zs) :
    ∃ l : List Nat, l.length = len ∧ len ≤ 9223372036854775807 ∧ Lies w a l ∧ Bys l := by
  obtain ⟨ys, hl, hm, hN, hw⟩ := h.nums
  have hr : ∀ n ∈ ys, 0 ≤ n ∧ n ≤ 255 := fun n hn => bounds_u8 (hw n hn)
  refine ⟨ys.map Int.toNat, by simpa using hl, hm, ?_, ?_⟩
  · rcases hN with rfl | ⟨b, off, rfl, hlt, hc⟩
    · exact .inl rfl
    · refine .inr ⟨b, off, rfl, hlt, fun i hi => ?_⟩
      have hi2 : i < ys.length := by simpa using hi
      have hb := hr _ (List.getElem_mem hi2)
      rw [hc i hi2]
      simp [hi2]
      omega
  · intro n hn
    obtain ⟨m, hm, rfl⟩ := List.mem_map.1 hn
    have := hr m hm
    omega
end Go.Proofs.Ytkoenconjldojaa
namespace Go.Proofs.Ytkoenconjldojaa
open Go.RowKit
set_option linter.unusedVariables false

/-- What 'Both' has made when k bytes are laid. -/
def bothK (l m : List Nat) (k : Nat) : List Nat := (l ++ m).take k ++ List.replicate (l.length + m.length - k) 0

theorem bothK_zero (l m : List Nat) : bothK l m 0 = List.replicate (l.length + m.length) 0 := by simp [bothK]
theorem bothK_all (l m : List Nat) : bothK l m (l.length + m.length) = l ++ m := by
  rw [bothK, List.take_of_length_le (by simp)]; simp
theorem length_bothK (l m : List Nat) (k : Nat) (h : k ≤ l.length + m.length) : (bothK l m k).length = l.length + m.length := by
  simp [bothK]; omega
theorem bothK_succ (l m : List Nat) (k : Nat) (h : k < l.length + m.length) : bothK l m (k + 1) = (bothK l m k).set k ((l ++ m).getD k 0) := by
  have hk : k < (l ++ m).length := by simpa using h
  unfold bothK
  have e : l.length + m.length - k = (l.length + m.length - (k + 1)) + 1 := by omega
  rw [e, List.replicate_succ, List.take_add_one, List.getElem?_eq_getElem hk]
  have hl : ((l ++ m).take k).length = k := by simp at hk ⊢; omega
  rw [List.set_append_right _ _ (by omega), hl, Nat.sub_self, List.set_cons_zero, List.getD_eq_getElem?_getD, List.getElem?_eq_getElem hk]
  simp only [Option.toList_some, Option.getD_some, List.append_assoc, List.singleton_append]

theorem both_world {w wr : World} {l m : List Nat} {k v : Nat} (hOw : Own wr w.heap.size (bothK l m k)) (hBw : Below w.heap.size w wr) (hlt : k < l.length + m.length) (hv : (l ++ m).getD k 0 = v) :
    Own (wr.setCell ⟨w.heap.size, k, none⟩ (.int .u8 (v : Int))) w.heap.size (bothK l m (k + 1)) ∧ Below w.heap.size w (wr.setCell ⟨w.heap.size, k, none⟩ (.int .u8 (v : Int))) := by
  rw [bothK_succ l m k hlt, hv]
  exact ⟨hOw.set _, hBw.setCell (Nat.le_refl _) _⟩

/-- Draws alone. -/
def Drawn (w w' : World) : Prop := ∃ n, w' = w.drewN n
theorem Drawn.below {w w' : World} (h : Drawn w w') (B : Nat) : Below B w w' := by
  obtain ⟨n, rfl⟩ := h
  exact ⟨rfl, rfl, rfl, Nat.le_refl _, fun _ _ => rfl⟩

theorem same_all (l m : List Nat) (h : l.length = m.length) (ha : ∀ j, j < l.length → l.getD j 0 = m.getD j 0) : (l == m) = true := by
  rw [beq_iff_eq]
  apply List.ext_getElem h
  intro j h1 h2
  have := ha j h1
  simpa [h1, h2] using this
theorem same_not (l m : List Nat) (k : Nat) (ha : l.getD k 0 ≠ m.getD k 0) : (l == m) = false := by
  rw [beq_eq_false_iff_ne]
  rintro rfl
  exact ha rfl
theorem same_len (l m : List Nat) (h : l.length ≠ m.length) : (l == m) = false := by
  rw [beq_eq_false_iff_ne]
  rintro rfl
  exact h rfl

end Go.Proofs.Ytkoenconjldojaa
namespace Go.Proofs.Ytkoenconjldojaa
open Go.RowKit
set_option linter.unusedVariables false
set_option maxRecDepth 100000

/-- Sixteen bytes. -/
structure B16 where
  l : List Nat
  len : l.length = 16
  bys : Bys l
theorem bys_zero (n : Nat) : Bys (List.replicate n 0) := fun m hm => by rw [List.eq_of_mem_replicate hm]; omega
def B16.zero : B16 := ⟨List.replicate 16 0, rfl, bys_zero 16⟩
def B16.cs (b : B16) : Array Value := (b.l.map byc).toArray
def B16.at (b : B16) (i : Nat) : Nat := b.l.getD i 0
theorem B16.same {a b : B16} (h : a.l = b.l) : a = b := by
  obtain ⟨l, _, _⟩ := a
  obtain ⟨m, _, _⟩ := b
  cases h
  rfl
theorem B16.size (b : B16) : b.cs.size = 16 := by simp [B16.cs, b.len]
theorem B16.lt (b : B16) (i : Nat) : b.at i < 256 := b.bys.at i
theorem B16.one (b : B16) : b.cs.all (·.oneCell') = true := by
  rw [Array.all_eq_true_iff_forall_mem]
  intro v hv
  exact byc_one b.l v (by simpa [B16.cs] using hv)
theorem B16.get (b : B16) (i : Nat) (h : i < 16) : b.cs[i]? = some (.int .u8 (b.at i : Int)) := by
  have : i < b.l.length := by rw [b.len]; exact h
  simp [B16.cs, B16.at, byc, this]
theorem B16.ext_at {a b : B16} (h : ∀ i, i < 16 → a.at i = b.at i) : a = b := by
  apply B16.same
  apply List.ext_getElem (by rw [a.len, b.len])
  intro i h1 h2
  have := h i (by rw [a.len] at h1; exact h1)
  simpa [B16.at, h1, h2] using this

/-- Bit i of the bytes; bit 0 is the highest one of the first. -/
def bt (b : B16) (i : Nat) : Bool := (b.at (i / 8)).testBit (7 - i % 8)
theorem bt_ext {a b : B16} (h : ∀ i, i < 128 → bt a i = bt b i) : a = b := by
  apply B16.ext_at
  intro i hi
  apply Nat.eq_of_testBit_eq
  intro j
  by_cases hj : j < 8
  · have := h (8 * i + (7 - j)) (by omega)
    unfold bt at this
    rw [show (8 * i + (7 - j)) / 8 = i from by omega, show 7 - (8 * i + (7 - j)) % 8 = j from by omega] at this
    exact this
  · have h2 : 256 ≤ 2 ^ j := by
      have := Nat.pow_le_pow_right (n := 2) (by omega) (show 8 ≤ j by omega)
      simpa using this
    rw [Nat.testBit_lt_two_pow (Nat.lt_of_lt_of_le (a.lt i) h2), Nat.testBit_lt_two_pow (Nat.lt_of_lt_of_le (b.lt i) h2)]

/-- The first s bits of a byte. -/
def keepN (x s : Nat) : Nat := x / 2 ^ (8 - s) * 2 ^ (8 - s)
theorem keepN_le (x s : Nat) : keepN x s ≤ x := Nat.div_mul_le_self _ _
theorem keepN_bit (x s j : Nat) : (keepN x s).testBit j = (decide (8 - s ≤ j) && x.testBit j) := by
  unfold keepN
  rw [← Nat.shiftRight_eq_div_pow, ← Nat.shiftLeft_eq, Nat.testBit_shiftLeft, Nat.testBit_shiftRight]
  by_cases h : 8 - s ≤ j
  · rw [show 8 - s + (j - (8 - s)) = j from by omega]
  · simp [h]
def stayN (n i : Nat) : Nat := min (n - 8 * i) 8
/-- The first n bits of the bytes; noughts from there on. -/
def keptB (b : B16) (n : Nat) : B16 :=
  ⟨(List.range 16).map fun i => keepN (b.at i) (stayN n i), by simp, fun m hm => by
    obtain ⟨i, _, rfl⟩ := List.mem_map.1 hm
    exact Nat.lt_of_le_of_lt (keepN_le _ _) (b.lt i)⟩
theorem keptB_at (b : B16) (n i : Nat) (h : i < 16) : (keptB b n).at i = keepN (b.at i) (stayN n i) := by
  simp [keptB, B16.at, h]
theorem bt_kept (b : B16) (n i : Nat) (h : i < 128) : bt (keptB b n) i = (decide (i < n) && bt b i) := by
  unfold bt
  rw [keptB_at b n (i / 8) (by omega), keepN_bit]
  unfold stayN
  congr 1
  rw [Bool.eq_iff_iff]
  simp only [decide_eq_true_eq]
  omega
/-- From bit n on all are noughts. -/
def clear (b : B16) (n : Nat) : Prop := ∀ i, n ≤ i → i < 128 → bt b i = false
theorem kept_iff (b : B16) (n : Nat) : keptB b n = b ↔ clear b n := by
  constructor
  · intro h i h1 h2
    have := bt_kept b n i h2
    rw [h] at this
    have h3 : decide (i < n) = false := by simp; omega
    rw [h3] at this
    simpa using this
  · intro h
    apply bt_ext
    intro i hi
    rw [bt_kept b n i hi]
    by_cases hn : i < n
    · simp [hn]
    · rw [h i (by omega) hi]; simp
theorem kept_clear (b : B16) (n : Nat) : clear (keptB b n) n := by
  intro i h1 h2
  rw [bt_kept b n i h2]
  have h3 : decide (i < n) = false := by simp; omega
  rw [h3]; rfl
theorem clear_mono {b : B16} {n m : Nat} (h : clear b n) (hm : n ≤ m) : clear b m := fun i h1 h2 => h i (by omega) h2
theorem clear_all (b : B16) {n : Nat} (h : 128 ≤ n) : clear b n := fun i h1 h2 => by omega
theorem kept_all (b : B16) {n : Nat} (h : 128 ≤ n) : keptB b n = b := (kept_iff b n).2 (clear_all b h)

/-- An address, a prefix. -/
structure Ad where
  v : Int
  b : B16
structure Px where
  a : Ad
  n : Int
def Ad.cs (a : Ad) : Array Value := #[.int .i64 a.v] ++ a.b.cs
def Px.cs (p : Px) : Array Value := p.a.cs ++ #[.int .i64 p.n]
def Ad.zero : Ad := ⟨0, B16.zero⟩
def Px.zero : Px := ⟨Ad.zero, 0⟩
theorem Ad.size (a : Ad) : a.cs.size = 17 := by simp [Ad.cs, a.b.size]
theorem Px.size (p : Px) : p.cs.size = 18 := by simp [Px.cs, p.a.size]
theorem Ad.one (a : Ad) : a.cs.all (·.oneCell') = true := by
  have := a.b.one
  rw [Array.all_eq_true_iff_forall_mem] at this ⊢
  intro v hv
  rcases Array.mem_append.1 hv with h | h
  · obtain rfl : v = Value.int .i64 a.v := by simpa using h
    rfl
  · exact this v h
theorem Px.one (p : Px) : p.cs.all (·.oneCell') = true := by
  have := p.a.one
  rw [Array.all_eq_true_iff_forall_mem] at this ⊢
  intro v hv
  rcases Array.mem_append.1 hv with h | h
  · exact this v h
  · obtain rfl : v = Value.int .i64 p.n := by simpa using h
    rfl
theorem Ad.c0 (a : Ad) : a.cs[0]? = some (.int .i64 a.v) := by
  unfold Ad.cs
  rw [Array.getElem?_append_left (by simp)]
  rfl
theorem Ad.c1 (a : Ad) (j : Nat) : a.cs[1 + j]? = a.b.cs[j]? := by
  unfold Ad.cs
  rw [Array.getElem?_append_right (by simp)]
  congr 1
  simp
theorem Px.ca (p : Px) (j : Nat) (h : j < 17) : p.cs[j]? = p.a.cs[j]? := by
  unfold Px.cs
  rw [Array.getElem?_append_left (by rw [Ad.size]; exact h)]
theorem Px.cn (p : Px) : p.cs[17]? = some (.int .i64 p.n) := by
  unfold Px.cs
  rw [Array.getElem?_append_right (by rw [Ad.size]; omega)]
  simp [Ad.size]
theorem Px.cb (p : Px) (j : Nat) (h : j < 16) : p.cs[1 + j]? = p.a.b.cs[j]? := (p.ca _ (by omega)).trans (p.a.c1 j)

/-- How many bits an address of a version has. -/
def wid (v : Int) : Nat := if v = 4 then 32 else if v = 6 then 128 else 0
theorem wid_le (v : Int) : wid v ≤ 128 := by
  unfold wid
  split
  · omega
  · split <;> omega
def okA (a : Ad) : Prop := wid a.v ≠ 0 ∧ clear a.b (wid a.v)
def okP (p : Px) : Prop := okA p.a ∧ 0 ≤ p.n ∧ p.n ≤ (wid p.a.v : Int) ∧ clear p.a.b p.n.toNat
noncomputable instance (a : Ad) : Decidable (okA a) := Classical.propDecidable _
noncomputable instance (p : Px) : Decidable (okP p) := Classical.propDecidable _
/-- The errors of CheckAddr, of Check. -/
noncomputable def eA (a : Ad) : Int := if okA a then 0 else 150
noncomputable def eP (p : Px) : Int := if okP p then 0 else 151
theorem eA_ok {a : Ad} (h : okA a) : eA a = 0 := if_pos h
theorem eA_no {a : Ad} (h : ¬ okA a) : eA a = 150 := if_neg h
theorem eP_ok {p : Px} (h : okP p) : eP p = 0 := if_pos h
theorem eP_no {p : Px} (h : ¬ okP p) : eP p = 151 := if_neg h

/-! ### The types' rows; loads, stores, equalities under names of their own -/
theorem z_b16 : (Try.prog.info? 55).map (fun i => (i.zero, i.size)) = some (some (.agg B16.zero.cs), 16) := by kernel_rfl
theorem z_ad : (Try.prog.info? 57).map (fun i => (i.zero, i.size)) = some (some (.agg Ad.zero.cs), 17) := by kernel_rfl
theorem z_px : (Try.prog.info? 59).map (fun i => (i.zero, i.size)) = some (some (.agg Px.zero.cs), 18) := by kernel_rfl
theorem s_b16 (b : B16) : (Try.prog.info? 55).map (·.size) = some b.cs.size := by rw [b.size]; exact (zero_of_info z_b16).2
theorem s_ad (a : Ad) : (Try.prog.info? 57).map (·.size) = some a.cs.size := by rw [a.size]; exact (zero_of_info z_ad).2
theorem s_px (p : Px) : (Try.prog.info? 59).map (·.size) = some p.cs.size := by rw [p.size]; exact (zero_of_info z_px).2
theorem load_b16_rule (v : Value) : Instr.loadAt 55 v = loadSem 55 v := rfl
theorem store_b16_rule (v x : Value) : Instr.storeAt 55 v x = storeSem 55 v x := rfl
theorem load_ad_rule (v : Value) : Instr.loadAt 57 v = loadSem 57 v := rfl
theorem store_ad_rule (v x : Value) : Instr.storeAt 57 v x = storeSem 57 v x := rfl
theorem load_px_rule (v : Value) : Instr.loadAt 59 v = loadSem 59 v := rfl
theorem store_px_rule (v x : Value) : Instr.storeAt 59 v x = storeSem 59 v x := rfl
def eqSem (t : TypeId) (a b : Value) : Sem Bool := Op.equalIn 10000 t a b
theorem eq_b16_rule (a b : Value) : Op.equalIn 10000 55 a b = eqSem 55 a b := rfl
theorem eq_ad_rule (a b : Value) : Op.equalIn 10000 57 a b = eqSem 57 a b := rfl
theorem eq_px_rule (a b : Value) : Op.equalIn 10000 59 a b = eqSem 59 a b := rfl

noncomputable instance : DecidableEq B16 := fun _ _ => Classical.propDecidable _
noncomputable instance : DecidableEq Ad := fun _ _ => Classical.propDecidable _
noncomputable instance : DecidableEq Px := fun _ _ => Classical.propDecidable _

theorem equal_b16 (d : Nat) (a b : B16) (w : World) : (Op.equalIn (d + 2) 55 (.agg a.cs) (.agg b.cs)).run Try.prog w = .ok (decide (a = b)) w := by
  rw [show d + 2 = (d + 1) + 1 from rfl, Op.equalIn]
  have hu := run_underlying (P := Try.prog) Try.underlying55 w
  have hn : (sizeOf 5).run Try.prog w = .ok 1 w := by kernel_rfl
  simp only [Sem.run_bind, hu, Result.andThen_ok, hn]
  have hagg : (isAgg 5).run Try.prog w = .ok false w := by kernel_rfl
  have hpart : ∀ (c : B16) i, i < 16 → (part 5 c.cs (i * 1)).run Try.prog w = .ok (.int .u8 (c.at i : Int)) w := by
    intro c i hi
    have hc := c.get i hi
    unfold part
    simp only [Sem.run_bind, hagg, Result.andThen_ok, Nat.mul_one, hc]
    rfl
  have he : ∀ x y : Nat, (Op.equalIn (d + 1) 5 (.int .u8 (x : Int)) (.int .u8 (y : Int))).run Try.prog w = .ok (decide (x = y)) w := by
    intro x y
    have := run_equalIn_int (P := Try.prog) (w := w) d 5 .u8 .u8 (x : Int) (y : Int) Try.underlying5
    rw [this]
    congr 1
    rw [Bool.eq_iff_iff, beq_iff_eq, decide_eq_true_eq]
    omega
  have hloop : ∀ l : List Nat, (∀ i ∈ l, i < 16) → Sem.run Try.prog (forIn l ((none : Option Bool), ()) fun i __s => do
      let x ← part 5 a.cs (i * 1)
      let y ← part 5 b.cs (i * 1)
      let z ← Op.equalIn (d + 1) 5 x y
      if (!z) = true then pure (ForInStep.done (some false, ())) else pure (ForInStep.yield (none, ()))) w = .ok (if (∀ i ∈ l, a.at i = b.at i) then (none, ()) else (some false, ())) w := by
    intro l
    induction l with
    | nil => intro _; simp
    | cons i l ih =>
      intro h
      rw [List.forIn_cons]
      simp only [Sem.run_bind, hpart a i (h i (by simp)), hpart b i (h i (by simp)), he, Result.andThen_ok]
      by_cases hx : a.at i = b.at i
      · have hd : (!decide (a.at i = b.at i)) = false := by simp [hx]
        simp only [hd, Bool.false_eq_true, if_false, Sem.run_pure, Result.andThen_ok]
        rw [ih (fun j hj => h j (by simp [hj]))]
        simp [hx]
      · have hd : (!decide (a.at i = b.at i)) = true := by simp [hx]
        simp only [hd, if_true, Sem.run_pure, Result.andThen_ok]
        have : ¬ (∀ j ∈ i :: l, a.at j = b.at j) := fun h9 => hx (h9 i (by simp))
        rw [if_neg this]
  simp only [Std.Legacy.Range.forIn_eq_forIn_range', Std.Legacy.Range.size, Nat.sub_zero, Nat.add_sub_cancel, Nat.div_one]
  rw [hloop _ (by intro i hi; have := List.mem_range'_1.1 hi; omega)]
  by_cases hab : a = b
  · subst hab
    simp
  · have : ¬ (∀ i ∈ List.range' 0 16, a.at i = b.at i) := fun h9 => hab (B16.ext_at fun i hi => h9 i (List.mem_range'_1.2 ⟨by omega, by omega⟩))
    rw [if_neg this]
    simp [hab]
theorem equal_int (d : Nat) (x y : Int) (w : World) : (Op.equalIn (d + 1) 3 (.int .i64 x) (.int .i64 y)).run Try.prog w = .ok (decide (x = y)) w := by
  have := run_equalIn_int (P := Try.prog) (w := w) d 3 .i64 .i64 x y Try.underlying3
  rw [this]
  congr 1
theorem Ad.same {a b : Ad} : a = b ↔ a.v = b.v ∧ a.b = b.b := by
  obtain ⟨v, x⟩ := a
  obtain ⟨u, y⟩ := b
  simp
theorem Px.same {p q : Px} : p = q ↔ p.a = q.a ∧ p.n = q.n := by
  obtain ⟨v, x⟩ := p
  obtain ⟨u, y⟩ := q
  simp
theorem part_v (a : Ad) (w : World) : (part 3 a.cs 0).run Try.prog w = .ok (.int .i64 a.v) w := by
  have hagg : (isAgg 3).run Try.prog w = .ok false w := by kernel_rfl
  unfold part
  simp only [Sem.run_bind, hagg, Result.andThen_ok, a.c0]
  rfl
theorem part_b (a : Ad) (w : World) : (part 55 a.cs 1).run Try.prog w = .ok (.agg a.b.cs) w := by
  have hagg : (isAgg 55).run Try.prog w = .ok true w := by kernel_rfl
  have hn : (sizeOf 55).run Try.prog w = .ok 16 w := by kernel_rfl
  have e : a.cs.extract 1 (1 + 16) = a.b.cs := by
    apply Array.ext_getElem?
    intro j
    rw [Array.getElem?_extract, a.size]
    by_cases hj : j < 16
    · rw [if_pos (by omega), a.c1]
    · rw [if_neg (by omega), Array.getElem?_eq_none (by rw [B16.size]; omega)]
  unfold part
  simp only [Sem.run_bind, hagg, hn, Result.andThen_ok, if_true, a.size, e]
  first | rfl | (simp; rfl) | simp
theorem part_a (p : Px) (w : World) : (part 57 p.cs 0).run Try.prog w = .ok (.agg p.a.cs) w := by
  have hagg : (isAgg 57).run Try.prog w = .ok true w := by kernel_rfl
  have hn : (sizeOf 57).run Try.prog w = .ok 17 w := by kernel_rfl
  have e : p.cs.extract 0 (0 + 17) = p.a.cs := by
    apply Array.ext_getElem?
    intro j
    rw [Array.getElem?_extract, p.size]
    by_cases hj : j < 17
    · rw [if_pos (by omega), Nat.zero_add, p.ca j hj]
    · rw [if_neg (by omega), Array.getElem?_eq_none (by rw [Ad.size]; omega)]
  unfold part
  simp only [Sem.run_bind, hagg, hn, Result.andThen_ok, if_true, p.size, e]
  first | rfl | (simp; rfl) | simp
theorem part_n (p : Px) (w : World) : (part 3 p.cs 17).run Try.prog w = .ok (.int .i64 p.n) w := by
  have hagg : (isAgg 3).run Try.prog w = .ok false w := by kernel_rfl
  unfold part
  simp only [Sem.run_bind, hagg, Result.andThen_ok, p.cn]
  rfl
theorem stood_ad : Try.prog.stoodInHeld 57 = false := by kernel_rfl
theorem stood_px : Try.prog.stoodInHeld 59 = false := by kernel_rfl
theorem run_prog (w : World) : (program).run Try.prog w = .ok Try.prog w := rfl
theorem equal_ad (d : Nat) (a b : Ad) (w : World) : (Op.equalIn (d + 3) 57 (.agg a.cs) (.agg b.cs)).run Try.prog w = .ok (decide (a = b)) w := by
  rw [show d + 3 = (d + 2) + 1 from rfl, Op.equalIn]
  have hu := run_underlying (P := Try.prog) Try.underlying57 w
  have h2 := fun x y => equal_int (d + 1) x y w
  have h3 := fun x y => equal_b16 d x y w
  simp only [Sem.run_bind, hu, Result.andThen_ok, run_prog, stood_ad]
  simp only [Bool.false_eq_true, if_false, List.forIn_toArray, List.forIn_cons, List.forIn_nil, Sem.run_bind, Sem.run_pure, Result.andThen_ok]
  simp only [show ("Version" ≠ "_") = True from by simp, show ("Bytes" ≠ "_") = True from by simp, if_true, Sem.run_bind, Result.andThen_ok, part_v, part_b, h2, h3]
  by_cases hv : a.v = b.v
  · have hd : (!decide (a.v = b.v)) = false := by simp [hv]
    simp only [hd, Bool.false_eq_true, if_false, Sem.run_pure, Sem.run_bind, Result.andThen_ok, part_b, h3]
    by_cases hb : a.b = b.b
    · have hd2 : (!decide (a.b = b.b)) = false := by simp [hb]
      have he : decide (a = b) = true := decide_eq_true (Ad.same.2 ⟨hv, hb⟩)
      simp only [hd2, Bool.false_eq_true, if_false, Sem.run_pure, Result.andThen_ok, he]
    · have hd2 : (!decide (a.b = b.b)) = true := by simp [hb]
      have he : decide (a = b) = false := decide_eq_false (fun h => hb (Ad.same.1 h).2)
      simp only [hd2, if_true, Sem.run_pure, Result.andThen_ok, he]
  · have hd : (!decide (a.v = b.v)) = true := by simp [hv]
    have he : decide (a = b) = false := decide_eq_false (fun h => hv (Ad.same.1 h).1)
    simp only [hd, if_true, Sem.run_pure, Result.andThen_ok, he]
theorem equal_px (d : Nat) (p q : Px) (w : World) : (Op.equalIn (d + 4) 59 (.agg p.cs) (.agg q.cs)).run Try.prog w = .ok (decide (p = q)) w := by
  rw [show d + 4 = (d + 3) + 1 from rfl, Op.equalIn]
  have hu := run_underlying (P := Try.prog) Try.underlying59 w
  have h2 := fun x y => equal_int (d + 2) x y w
  have h3 := fun x y => equal_ad d x y w
  simp only [Sem.run_bind, hu, Result.andThen_ok, run_prog, stood_px]
  simp only [Bool.false_eq_true, if_false, List.forIn_toArray, List.forIn_cons, List.forIn_nil, Sem.run_bind, Sem.run_pure, Result.andThen_ok]
  simp only [show ("Addr" ≠ "_") = True from by simp, show ("Bits" ≠ "_") = True from by simp, if_true, Sem.run_bind, Result.andThen_ok, part_a, part_n, h2, h3]
  by_cases hv : p.a = q.a
  · have hd : (!decide (p.a = q.a)) = false := by simp [hv]
    simp only [hd, Bool.false_eq_true, if_false, Sem.run_pure, Sem.run_bind, Result.andThen_ok, part_n, h2]
    by_cases hb : p.n = q.n
    · have hd2 : (!decide (p.n = q.n)) = false := by simp [hb]
      have he : decide (p = q) = true := decide_eq_true (Px.same.2 ⟨hv, hb⟩)
      simp only [hd2, Bool.false_eq_true, if_false, Sem.run_pure, Result.andThen_ok, he]
    · have hd2 : (!decide (p.n = q.n)) = true := by simp [hb]
      have he : decide (p = q) = false := decide_eq_false (fun h => hb (Px.same.1 h).2)
      simp only [hd2, if_true, Sem.run_pure, Result.andThen_ok, he]
  · have hd : (!decide (p.a = q.a)) = true := by simp [hv]
    have he : decide (p = q) = false := decide_eq_false (fun h => hv (Px.same.1 h).1)
    simp only [hd, if_true, Sem.run_pure, Result.andThen_ok, he]
theorem eqB (a b : B16) (w : World) : (eqSem 55 (.agg a.cs) (.agg b.cs)).run Try.prog w = .ok (decide (a = b)) w := by
  unfold eqSem
  obtain ⟨d, hd⟩ : ∃ d, d + 2 = 10000 := ⟨9998, rfl⟩
  rw [← hd]
  exact equal_b16 d a b w
theorem eqA (a b : Ad) (w : World) : (eqSem 57 (.agg a.cs) (.agg b.cs)).run Try.prog w = .ok (decide (a = b)) w := by
  unfold eqSem
  obtain ⟨d, hd⟩ : ∃ d, d + 3 = 10000 := ⟨9997, rfl⟩
  rw [← hd]
  exact equal_ad d a b w
theorem eqP (a b : Px) (w : World) : (eqSem 59 (.agg a.cs) (.agg b.cs)).run Try.prog w = .ok (decide (a = b)) w := by
  unfold eqSem
  obtain ⟨d, hd⟩ : ∃ d, d + 4 = 10000 := ⟨9996, rfl⟩
  rw [← hd]
  exact equal_px d a b w
end Go.Proofs.Ytkoenconjldojaa
namespace Go.Proofs.Ytkoenconjldojaa
open Go.RowKit
set_option linter.unusedVariables false
set_option maxRecDepth 100000

theorem bel_trans {w a b : World} (h : Below w.heap.size w a) (k : Below a.heap.size a b) : Below w.heap.size w b := h.trans (k.mono h.size)
theorem bel_drew {w a : World} {B : Nat} (h : Below B w a) : Below B w a.drew := ⟨h.os, h.tape, h.output, h.size, h.block⟩

theorem cell_lt {w : World} {p : Addr} {v : Value} (h : w.cell? p = some v) : p.block < w.heap.size := by
  obtain ⟨b, o, s⟩ := p
  rcases Nat.lt_or_ge b w.heap.size with h1 | h1
  · exact h1
  · unfold World.cell? at h
    rw [Array.getElem?_eq_none h1] at h
    cases s <;> simp at h
theorem td (n k : Nat) : ((n : Int)).tdiv (k : Int) = ((n / k : Nat) : Int) := by rw [Int.tdiv_eq_ediv_of_nonneg (by omega)]; simp
theorem tm (n k : Nat) : ((n : Int)).tmod (k : Int) = ((n % k : Nat) : Int) := by rw [Int.tmod_eq_emod_of_nonneg (by omega)]; simp
/-- What the package's own row of widths holds. -/
def Wid (w : World) : Prop := ∀ j : Nat, j < 7 → w.cell? ⟨0, j, none⟩ = some (.int .i64 ((wid (j : Int) : Nat) : Int))
theorem Wid.later {w w' : World} (h : Wid w) (k : Below w.heap.size w w') : Wid w' := fun j hj => (k.cell (p := ⟨0, j, none⟩) (cell_lt (h j hj))).trans (h j hj)
theorem Wid.drew {w : World} (h : Wid w) : Wid w.drew := h

/-- How many bytes so many bits fill. -/
def fill8 (n : Nat) : Nat := (n + 7) / 8
/-- A bit as a number. -/
def btI (b : B16) (i : Nat) : Int := ((bt b i).toNat : Int)
theorem bit_num (x k : Nat) : x / 2 ^ k % 2 = (x.testBit k).toNat := by
  rw [Nat.testBit_eq_decide_div_mod_eq]
  by_cases h : x / 2 ^ k % 2 = 1
  · simp [h]
  · have : x / 2 ^ k % 2 = 0 := by omega
    simp [this]
theorem btI_num (b : B16) (i : Nat) : ((b.at (i / 8) : Int) / 2 ^ (7 - i % 8)).tmod 2 = btI b i := by
  unfold btI bt
  rw [← bit_num]
  have : ((b.at (i / 8) : Int) / 2 ^ (7 - i % 8)) = ((b.at (i / 8) / 2 ^ (7 - i % 8) : Nat) : Int) := by simp
  rw [this]
  exact tm _ 2
/-! ### kept -/
/-- The first k bytes are kept to their first bits, the others stand as they were. -/
def keptK (b : B16) (n k : Nat) : B16 :=
  ⟨(List.range 16).map fun i => if i < k then keepN (b.at i) (stayN n i) else b.at i, by simp, fun m hm => by
    obtain ⟨i, _, rfl⟩ := List.mem_map.1 hm
    split
    · exact Nat.lt_of_le_of_lt (keepN_le _ _) (b.lt i)
    · exact b.lt i⟩
theorem keptK_at (b : B16) (n k i : Nat) (h : i < 16) : (keptK b n k).at i = if i < k then keepN (b.at i) (stayN n i) else b.at i := by
  simp [keptK, B16.at, h]
theorem keptK_zero (b : B16) (n : Nat) : keptK b n 0 = b := B16.ext_at fun i hi => by rw [keptK_at _ _ _ _ hi]; simp
theorem keptK_all (b : B16) (n : Nat) : keptK b n 16 = keptB b n := B16.ext_at fun i hi => by rw [keptK_at _ _ _ _ hi, keptB_at _ _ _ hi, if_pos hi]
theorem B16.set_cs (a b : B16) (k x : Nat) (h : ∀ i, i < 16 → b.at i = if i = k then x else a.at i) : a.cs.setIfInBounds k (.int .u8 (x : Int)) = b.cs := by
  apply Array.ext_getElem?
  intro i
  by_cases hi : i < 16
  · rw [b.get i hi, h i hi, Array.getElem?_setIfInBounds]
    by_cases hk : k = i
    · subst hk
      rw [if_pos rfl, if_pos (by rw [B16.size]; exact hi), if_pos rfl]
    · rw [if_neg hk, a.get i hi, if_neg (fun e => hk e.symm)]
  · rw [Array.getElem?_eq_none (by simp [B16.size]; omega), Array.getElem?_eq_none (by rw [B16.size]; omega)]
theorem keep_and : ∀ x, x < 256 → ∀ t, t ≤ 8 → x &&& (255 * 2 ^ t % 256) = x / 2 ^ t * 2 ^ t := by decide +kernel
theorem keep_num (x s : Nat) (hx : x < 256) (hs : s ≤ 8) : bits .and .u8 (x : Int) (255 * 2 ^ (8 - s) % 256) = ((keepN x s : Nat) : Int) := by
  have h := u8_and_nat x (255 * 2 ^ (8 - s) % 256) hx (Nat.mod_lt _ (by omega))
  rw [keep_and x hx (8 - s) (by omega)] at h
  unfold keepN
  rw [← h]
  congr 1

attribute [local go_sem ↓] load_b16_rule store_b16_rule
theorem same_bel {w w' : World} (h : w = w') : Below w.heap.size w w' := h ▸ Below.refl _ _
end Go.Proofs.Ytkoenconjldojaa
