/-
  The contracts of cmp.Compare at two kinds and of bytes.Compare; rows of bytes in order. Nothing here is a statement of the document.
-/
import Derived.Test.YtclkfmblogkakaaDoorRows
import Derived.WalkKit
import Derived.ProofKit
import Derived.Lib.Hide
import Derived.Outline
import Derived.Laws.BitsAllLaws
import Derived.Laws.CopyOwn
import Derived.OneCell
import Derived.OpenShut
import Derived.ShutString
import Derived.ChangeOld
import Derived.Deep.QuietTactic
import Derived.BigQuiet
import Derived.BigRegion
import Derived.Laws.BytesArg
import Derived.Lib.Bytes
import Derived.Lib.BytesEntry
import Derived.Laws.Externs
namespace Go.Proofs.YtclkfmblogkakaaDoor
open Go.RowKit
set_option linter.unusedVariables false

/-- Numbers that are bytes. -/
def Bys (l : List Nat) : Prop := ∀ n ∈ l, n < 256

/-- At this address these bytes lie; of none no cell is asked. -/
def Lies (w : World) (a : Option Addr) (l : List Nat) : Prop :=
  l = [] ∨ ∃ b off, a = some ⟨b, off, none⟩ ∧ b < w.heap.size ∧ ∀ i, i < l.length → w.cell? ⟨b, off + i, none⟩ = some (.int .u8 ((l.getD i 0 : Nat) : Int))

theorem Bys.at {l : List Nat} (h : Bys l) (i : Nat) : l.getD i 0 < 256 := by
  by_cases hi : i < l.length
  · have : l.getD i 0 = l[i] := by simp [hi]
    rw [this]; exact h _ (List.getElem_mem hi)
  · have : l.getD i 0 = 0 := by simp [List.getElem?_eq_none (by omega : l.length ≤ i)]
    omega

theorem Lies.below {B : Nat} {w w' : World} {a : Option Addr} {l : List Nat} (h : Lies w a l) (hb : Below B w w') (ha : ∀ x, a = some x → x.block < B) : Lies w' a l := by
  rcases h with h | ⟨b, off, rfl, hlt, hc⟩
  · exact .inl h
  · exact .inr ⟨b, off, rfl, Nat.lt_of_lt_of_le hlt hb.size, fun i hi => (hb.cell (p := ⟨b, off + i, none⟩) (ha ⟨b, off, none⟩ rfl)).trans (hc i hi)⟩

/-- Is the bit k of these bytes, as they go on the wire, 1? -/
def bitB (l : List Nat) (k : Int) : Bool :=
  decide (0 ≤ k) && (decide (k.toNat / 8 < l.length) && (l.getD (l.length - 1 - k.toNat / 8) 0 / 2 ^ (k.toNat % 8) % 2 == 1))

theorem bitB_neg {l : List Nat} {k : Int} (h : k < 0) : bitB l k = false := by
  have : decide (0 ≤ k) = false := by simp; omega
  rw [bitB, this]; rfl
theorem bitB_none {l : List Nat} {k : Int} (h : l.length ≤ k.toNat / 8) : bitB l k = false := by
  have : decide (k.toNat / 8 < l.length) = false := by simp; omega
  rw [bitB, this]; simp
theorem bitB_some {l : List Nat} {k : Nat} (h : k / 8 < l.length) : bitB l (k : Int) = (l.getD (l.length - 1 - k / 8) 0 / 2 ^ (k % 8) % 2 == 1) := by
  have h0 : decide ((0 : Int) ≤ (k : Int)) = true := by simp
  have h1 : decide ((k : Int).toNat / 8 < l.length) = true := by simpa using h
  rw [bitB, h0, h1]; simp

theorem mask_u8 (x i : Nat) (hx : x < 256) : (bits .and .u8 ((x : Int) / 2 ^ i) 1 == 1) = (x / 2 ^ i % 2 == 1) := by
  have hd : x / 2 ^ i < 256 := Nat.lt_of_le_of_lt (Nat.div_le_self _ _) hx
  have e := u8_and_nat (x / 2 ^ i) 1 hd (by omega)
  have e2 : ((x / 2 ^ i : Nat) : Int) = (x : Int) / 2 ^ i := by simp
  rw [e2] at e
  have e1 : ((1 : Nat) : Int) = 1 := rfl
  rw [e1] at e
  rw [e, Nat.and_one_is_mod]
  rw [Bool.eq_iff_iff]; simp; omega

end Go.Proofs.YtclkfmblogkakaaDoor
namespace Go.Proofs.YtclkfmblogkakaaDoor
open Go.RowKit
set_option linter.unusedVariables false

/-- A byte as a cell. -/
def byc (n : Nat) : Value := .int .u8 (n : Int)

/-- Block g is a row of a call's own that holds just these bytes. -/
def Own (w : World) (g : Nat) (l : List Nat) : Prop := w.heap[g]? = some (.cells (l.map byc).toArray 5 (0, 0))

theorem Own.lt {w : World} {g : Nat} {l : List Nat} (h : Own w g l) : g < w.heap.size := lt_of_block h

theorem Own.cell {w : World} {g : Nat} {l : List Nat} (h : Own w g l) {i : Nat} (hi : i < l.length) : w.cell? ⟨g, i, none⟩ = some (.int .u8 ((l.getD i 0 : Nat) : Int)) := by
  unfold Own at h
  simp [World.cell?, h, byc, hi]

theorem Own.free {w : World} {g : Nat} {l : List Nat} (h : Own w g l) (i : Nat) : w.frozen? ⟨g, i, none⟩ = false := by
  unfold Own at h
  simp [World.frozen?, h]

theorem Own.set {w : World} {g : Nat} {l : List Nat} (h : Own w g l) {i : Nat} (n : Nat) : Own (w.setCell ⟨g, i, none⟩ (.int .u8 (n : Int))) g (l.set i n) := by
  unfold Own at h ⊢
  have hg := (Array.getElem?_eq_some_iff.1 h).1
  simp only [World.setCell, Array.getElem?_modify, h]
  simp [List.map_set, byc]

theorem Own.kept {B : Nat} {w w' : World} {g : Nat} {l : List Nat} (h : Own w g l) (hb : Below B w w') (hg : g < B) : Own w' g l := (hb.block g hg).trans h

theorem Own.kept' {w w' : World} {g : Nat} {l : List Nat} (h : Own w g l) (hb : Below w.heap.size w w') : Own w' g l := h.kept hb h.lt

theorem Own.drew {w : World} {g : Nat} {l : List Nat} (h : Own w g l) : Own w.drew g l := h

theorem Own.lies {w : World} {g : Nat} {l : List Nat} (h : Own w g l) : Lies w (some ⟨g, 0, none⟩) l :=
  .inr ⟨g, 0, rfl, h.lt, fun i hi => by rw [Nat.zero_add]; exact h.cell hi⟩

theorem Own.liesAt {w : World} {g : Nat} {l : List Nat} (h : Own w g l) (o : Nat) : Lies w (some ⟨g, o, none⟩) (l.drop o) :=
  .inr ⟨g, o, rfl, h.lt, fun i hi => by
    rw [List.length_drop] at hi
    rw [h.cell (i := o + i) (by omega)]; simp [List.getElem?_drop]⟩

theorem made_bytes (n : Nat) : madeCells (Value.int .u8 0).cells n = ((List.replicate n 0).map byc).toArray := by
  apply Array.ext
  · simp [madeCells]
  · intro i h1 h2
    simp [madeCells, byc, Value.cells, Nat.mod_one]

theorem splice_bytes (l : List Nat) (n : Nat) : splice ((List.replicate (l.length + n) 0).map byc) 0 (l.map byc) = (l ++ List.replicate n 0).map byc := by
  simp [splice]

theorem byc_one (l : List Nat) : ∀ v ∈ l.map byc, v.oneCell' = true := by
  intro v hv
  obtain ⟨n, _, rfl⟩ := List.mem_map.1 hv
  rfl

theorem Lies.cells {w : World} {a : Option Addr} {l : List Nat} (h : Lies w a l) (h0 : 0 < l.length) : ∃ ad, a = some ad ∧ ∀ j v, (l.map byc)[j]? = some v → w.cell? (ad.add j) = some v := by
  rcases h with rfl | ⟨b, off, rfl, _, hc⟩
  · simp at h0
  · refine ⟨_, rfl, fun j v hj => ?_⟩
    have hlt : j < l.length := by
      have := (List.getElem?_eq_some_iff.1 hj).1
      simpa using this
    rw [Addr.add_lit, hc j hlt, ← hj]
    simp [byc, hlt]

theorem Lies.alloc {w : World} {a : Option Addr} {l : List Nat} (h : Lies w a l) (o : Obj) : Lies (w.alloc o) a l := by
  rcases h with rfl | ⟨b, off, rfl, hb, hc⟩
  · exact .inl rfl
  · exact .inr ⟨b, off, rfl, by simp; omega, fun i hi => (World.cell?_alloc_past _ _ _ hb).trans (hc i hi)⟩

theorem Lies.kept {w w' : World} {a : Option Addr} {l : List Nat} (h : Lies w a l) (hb : Below w.heap.size w w') : Lies w' a l := by
  rcases h with rfl | ⟨b, off, rfl, hlt, hc⟩
  · exact .inl rfl
  · exact .inr ⟨b, off, rfl, Nat.lt_of_lt_of_le hlt hb.size, fun i hi => (hb.cell (p := ⟨b, off + i, none⟩) hlt).trans (hc i hi)⟩

/-! ### The bytes of a number -/

/-- The bytes of a number, n of them, the highest first. -/
def highB (x n : Nat) : List Nat := (List.range n).map fun j => x / 2 ^ (8 * (n - 1 - j)) % 256

/-- Of these bytes the last k; ahead of them noughts. -/
def highK (x n k : Nat) : List Nat := (List.range n).map fun j => if n - k ≤ j then x / 2 ^ (8 * (n - 1 - j)) % 256 else 0

theorem highK_zero (x n : Nat) : highK x n 0 = List.replicate n 0 := by
  apply List.ext_getElem
  · simp [highK]
  · intro i h1 h2
    simp [highK] at h1 ⊢
    intro h; omega
theorem highK_all (x n : Nat) : highK x n n = highB x n := by simp [highK, highB]
theorem highK_succ (x n k : Nat) (hk : k < n) : highK x n (k + 1) = (highK x n k).set (n - 1 - k) (x / 2 ^ (8 * k) % 256) := by
  apply List.ext_getElem
  · simp [highK]
  · intro i h1 h2
    simp [highK] at h1
    rw [List.getElem_set]
    simp only [highK, List.getElem_map, List.getElem_range]
    by_cases h : n - 1 - k = i
    · subst h
      have e : n - 1 - (n - 1 - k) = k := by omega
      rw [if_pos (by omega), if_pos rfl, e]
    · rw [if_neg h]
      by_cases h3 : n - k ≤ i
      · rw [if_pos (by omega), if_pos h3]
      · rw [if_neg (by omega), if_neg h3]
theorem length_highK (x n k : Nat) : (highK x n k).length = n := by simp [highK]
theorem length_highB (x n : Nat) : (highB x n).length = n := by simp [highB]
theorem highB_bys (x n : Nat) : Bys (highB x n) := by
  intro m hm
  obtain ⟨j, _, rfl⟩ := List.mem_map.1 hm
  exact Nat.mod_lt _ (by omega)

theorem put_step (l : List Nat) (x n k : Nat) (hk : k < n) : (l ++ highK x n k).set (l.length + n - 1 - k) (x / 2 ^ (8 * k) % 256) = l ++ highK x n (k + 1) := by
  rw [highK_succ x n k hk, List.set_append_right _ _ (by omega)]
  congr 2
  omega

theorem put_world {w wr : World} {l : List Nat} {len n x k : Nat} (hOw : Own wr w.heap.size (l ++ highK x n k)) (hBw : Below w.heap.size w wr) (hl : l.length = len) (hlt : k < n) :
    Own (wr.setCell ⟨w.heap.size, len + n - 1 - k, none⟩ (.int .u8 ((x : Int) / 2 ^ (8 * k) % 256))) w.heap.size (l ++ highK x n (k + 1)) ∧
      Below w.heap.size w (wr.setCell ⟨w.heap.size, len + n - 1 - k, none⟩ (.int .u8 ((x : Int) / 2 ^ (8 * k) % 256))) := by
  have e : ((x : Int) / 2 ^ (8 * k) % 256) = ((x / 2 ^ (8 * k) % 256 : Nat) : Int) := by simp
  rw [e, ← put_step l x n k hlt, hl]
  exact ⟨hOw.set _, hBw.setCell (Nat.le_refl _) _⟩

theorem Tryd.info5 : (Tryd.prog.info? 5).map (fun i => (i.zero, i.size, i.bytes)) = some (some (.int .u8 0), 1, 1) := by kernel_rfl
theorem Tryd.size5 : (Tryd.prog.info? 5).map (·.size) = some 1 := by kernel_rfl

end Go.Proofs.YtclkfmblogkakaaDoor
namespace Go.Proofs.YtclkfmblogkakaaDoor
open Go.RowKit
set_option linter.unusedVariables false

/-- Where the rest begins when j of n bytes are off: Go does not point behind a row's end. -/
def spotR (n j : Nat) : Nat := if j = n then n - 1 else j

/-- What is still to come, as a value. -/
def restV (g n j : Nat) : Value := .slice (some ⟨g, spotR n j, none⟩) (n - j) (n - j)

end Go.Proofs.YtclkfmblogkakaaDoor
namespace Go.Proofs.YtclkfmblogkakaaDoor
open Go.RowKit
set_option linter.unusedVariables false

/-- The number that bytes make, the highest first, on top of what was there, by its lowest 64 bits. -/
def pile (v : Nat) (l : List Nat) : Nat := l.foldl (fun v b => v * 256 % 18446744073709551616 + b) v

theorem or_low (v b : Nat) (hb : b < 256) : v * 256 % 18446744073709551616 ||| b = v * 256 % 18446744073709551616 + b :=
  nat_join 8 _ _ (by omega) hb

/-- Two worlds that differ at blocks p and x at most. -/
structure Two (p x : Nat) (w w' : World) : Prop where
  os : w'.os = w.os
  tape : w'.tape = w.tape
  output : w'.output = w.output
  size : w'.heap.size = w.heap.size
  block : ∀ k, k ≠ p → k ≠ x → w'.heap[k]? = w.heap[k]?

theorem Two.refl (p x : Nat) (w : World) : Two p x w w := ⟨rfl, rfl, rfl, rfl, fun _ _ _ => rfl⟩
theorem Two.trans {p x : Nat} {a b c : World} (h : Two p x a b) (k : Two p x b c) : Two p x a c :=
  ⟨k.os.trans h.os, k.tape.trans h.tape, k.output.trans h.output, k.size.trans h.size, fun i h1 h2 => (k.block i h1 h2).trans (h.block i h1 h2)⟩
theorem Two.setCell {p x : Nat} {a b : World} (h : Two p x a b) {q : Addr} (hq : q.block = p ∨ q.block = x) (v : Value) : Two p x a (b.setCell q v) :=
  h.trans ⟨rfl, rfl, rfl, by simp [World.setCell], fun k h1 h2 => Below.heap_setCell _ _ _ _ (by rcases hq with rfl | rfl <;> assumption)⟩

/-- What taking n bytes off leaves: where the reader stands, and its error. -/
def offTo (len j : Nat) (err n : Int) : Nat × Int :=
  if err ≠ 0 then (j, err) else if n < 0 then (j, 2) else if ((len - j : Nat) : Int) < n then (j, 7) else (j + n.toNat, 0)

/-- What comes off. -/
def came (L : List Nat) (j : Nat) (err n : Int) : List Nat :=
  if err ≠ 0 then [] else if n < 0 then [] else if ((L.length - j : Nat) : Int) < n then [] else (L.drop j).take n.toNat

theorem pile_snoc (v : Nat) (l : List Nat) (b : Nat) : pile v (l ++ [b]) = pile v l * 256 % 18446744073709551616 + b := by simp [pile]
theorem pile_le (v : Nat) (l : List Nat) (hl : Bys l) (hv : v ≤ 18446744073709551615) : pile v l ≤ 18446744073709551615 := by
  induction l generalizing v with
  | nil => exact hv
  | cons b l ih =>
    have hb : b < 256 := hl b (by simp)
    exact ih _ (fun n hn => hl n (by simp [hn])) (by show v * 256 % 18446744073709551616 + b ≤ 18446744073709551615; omega)
theorem take_more (L : List Nat) (j k : Nat) (h : j + k < L.length) : (L.drop j).take (k + 1) = (L.drop j).take k ++ [L.getD (j + k) 0] := by
  rw [List.take_add_one]
  simp [List.getElem?_drop, h]

/-! ### number, and the numbers of 8 to 64 bits -/

theorem Two.grown {p x : Nat} {w w1 w' : World} (hA : w.grownBy w1 none) (h : Two p x w1 w') (hx : w.heap.size ≤ x) : w.grownBy w' (some p) :=
  ⟨h.os.trans hA.os, h.tape.trans hA.tape, h.output.trans hA.output, by have := hA.size; have := h.size; omega,
    fun k hk hp => (h.block k (fun e => hp (by rw [e])) (Nat.ne_of_lt (Nat.lt_of_lt_of_le hk hx))).trans (hA.block k hk (by simp))⟩

theorem grown_set {w w1 : World} {p : Nat} (hA : w.grownBy w1 none) (i : Nat) (v : Value) : w.grownBy (w1.setCell ⟨p, i, none⟩ v) (some p) :=
  ⟨hA.os, hA.tape, hA.output, by have := hA.size; simpa [World.setCell] using this,
    fun k hk hp => (Below.heap_setCell _ _ _ _ (fun e => hp (by rw [e]))).trans (hA.block k hk (by simp))⟩

end Go.Proofs.YtclkfmblogkakaaDoor
namespace Go.Proofs.YtclkfmblogkakaaDoor
open Go.RowKit
set_option linter.unusedVariables false

theorem bys3 : Bys [5, 0, 1] := by intro n hn; simp at hn; omega
theorem bys10 : Bys [1, 0] := by intro n hn; simp at hn; omega

end Go.Proofs.YtclkfmblogkakaaDoor
namespace Go.Proofs.YtclkfmblogkakaaDoor
open Go.RowKit
set_option linter.unusedVariables false

/-- WHAT THE WALK IS TOLD OF A SLICE OF INTEGERS THAT CAME IN: it is nil; or it leads to a row of 'cap' cells, the numbers 'zs' (the first 'len' are its elements, the rest its spare room), each fitting its kind. -/
def IsRow (k : IntKind) (w : World) (a : Option Addr) (len cap : Nat) (zs : List Int) : Prop :=
  (a = none ∧ len = 0 ∧ cap = 0 ∧ zs = []) ∨
  ∃ x, a = some x ∧ len ≤ cap ∧ cap ≤ maxLen ∧ zs.length = cap ∧ (∀ i, i < zs.length → w.cell? (x.add i) = some (.int k (zs.getD i 0))) ∧ ∀ n ∈ zs, (Lit.int k n).wf = true

/-- Numbers that lie at an address, of one kind. -/
def Nums (k : IntKind) (w : World) (a : Option Addr) (zs : List Int) : Prop :=
  zs = [] ∨ ∃ b off, a = some ⟨b, off, none⟩ ∧ b < w.heap.size ∧ ∀ i, i < zs.length → w.cell? ⟨b, off + i, none⟩ = some (.int k (zs.getD i 0))

theorem Nums.kept {k : IntKind} {w w' : World} {a : Option Addr} {zs : List Int} (h : Nums k w a zs) (hb : Below w.heap.size w w') : Nums k w' a zs := by
  rcases h with rfl | ⟨b, off, rfl, hlt, hc⟩
  · exact .inl rfl
  · exact .inr ⟨b, off, rfl, Nat.lt_of_lt_of_le hlt hb.size, fun i hi => (hb.cell (p := ⟨b, off + i, none⟩) hlt).trans (hc i hi)⟩

theorem IsRow.nums {k : IntKind} {w : World} {a : Option Addr} {len cap : Nat} {zs : List Int} (h : IsRow k w a len cap zs) :
    ∃ ys : List Int, ys.length = len ∧ len ≤ 9223372036854775807 ∧ Nums k w a ys ∧ ∀ n ∈ ys, (Lit.int k n).wf = true := by
  rcases h with ⟨rfl, rfl, rfl, rfl⟩ | ⟨x, rfl, hl, hm, hz, hc, hw⟩
  · exact ⟨[], rfl, by omega, .inl rfl, by simp⟩
  · refine ⟨zs.take len, by simp; omega, by unfold maxLen at hm; omega, ?_, fun n hn => hw n (List.mem_of_mem_take hn)⟩
    by_cases h0 : len = 0
    · subst h0; exact .inl (by simp)
    · have hc0 := hc 0 (by omega)
      obtain ⟨b, off, spot⟩ := x
      have hspot : spot = none := by simpa [Addr.add] using World.cell?_spot hc0
      subst hspot
      have hlt := World.block_lt_of_cell? w _ hc0
      refine .inr ⟨b, off, rfl, hlt, fun i hi => ?_⟩
      have hi2 : i < len := by simpa using (Nat.lt_of_lt_of_le hi (List.length_take_le _ _))
      have := hc i (by omega)
      rw [Addr.add_lit] at this
      rw [this]
      simp [hi2]

theorem IsRow.bytes {w : World} {a : Option Addr} {len cap : Nat} {zs : List Int} (h : IsRow .u8 w a len cap zs) :
    ∃ l : List Nat, l.length = len ∧ len ≤ 9223372036854775807 ∧ Lies w a l ∧ Bys l := by
  obtain ⟨ys, hl, hm, hN, hw⟩ := h.nums
  have hr : ∀ n ∈ ys, 0 ≤ n ∧ n ≤ 255 := fun n hn => bounds_u8 (hw n hn)
  refine ⟨ys.map Int.toNat, by simpa using hl, hm, ?_, ?_⟩
  · rcases hN with rfl | ⟨b, off, rfl, hlt, hc⟩
    · exact .inl rfl
    · refine .inr ⟨b, off, rfl, hlt, fun i hi => ?_⟩
      have hi2 : i < ys.length := by simpa using hi
      have hb := hr _ (List.getElem_mem hi2)
      rw [hc i hi2]
      simp [hi2]
      omega
  · intro n hn
    obtain ⟨m, hm, rfl⟩ := List.mem_map.1 hn
    have := hr m hm
    omega
end Go.Proofs.YtclkfmblogkakaaDoor
namespace Go.Proofs.YtclkfmblogkakaaDoor
open Go.RowKit
set_option linter.unusedVariables false

/-- What 'Both' has made when k bytes are laid. -/
def bothK (l m : List Nat) (k : Nat) : List Nat := (l ++ m).take k ++ List.replicate (l.length + m.length - k) 0

theorem bothK_zero (l m : List Nat) : bothK l m 0 = List.replicate (l.length + m.length) 0 := by simp [bothK]
theorem bothK_all (l m : List Nat) : bothK l m (l.length + m.length) = l ++ m := by
  rw [bothK, List.take_of_length_le (by simp)]; simp
theorem length_bothK (l m : List Nat) (k : Nat) (h : k ≤ l.length + m.length) : (bothK l m k).length = l.length + m.length := by
  simp [bothK]; omega
theorem bothK_succ (l m : List Nat) (k : Nat) (h : k < l.length + m.length) : bothK l m (k + 1) = (bothK l m k).set k ((l ++ m).getD k 0) := by
  have hk : k < (l ++ m).length := by simpa using h
  unfold bothK
  have e : l.length + m.length - k = (l.length + m.length - (k + 1)) + 1 := by omega
  rw [e, List.replicate_succ, List.take_add_one, List.getElem?_eq_getElem hk]
  have hl : ((l ++ m).take k).length = k := by simp at hk ⊢; omega
  rw [List.set_append_right _ _ (by omega), hl, Nat.sub_self, List.set_cons_zero, List.getD_eq_getElem?_getD, List.getElem?_eq_getElem hk]
  simp only [Option.toList_some, Option.getD_some, List.append_assoc, List.singleton_append]

theorem both_world {w wr : World} {l m : List Nat} {k v : Nat} (hOw : Own wr w.heap.size (bothK l m k)) (hBw : Below w.heap.size w wr) (hlt : k < l.length + m.length) (hv : (l ++ m).getD k 0 = v) :
    Own (wr.setCell ⟨w.heap.size, k, none⟩ (.int .u8 (v : Int))) w.heap.size (bothK l m (k + 1)) ∧ Below w.heap.size w (wr.setCell ⟨w.heap.size, k, none⟩ (.int .u8 (v : Int))) := by
  rw [bothK_succ l m k hlt, hv]
  exact ⟨hOw.set _, hBw.setCell (Nat.le_refl _) _⟩

set_option maxRecDepth 100000 in
set_option maxHeartbeats 1600000 in
theorem both_any (a b : Option Addr) (len cap len2 cap2 : Nat) (l m : List Nat) (w : World) (hl : l.length = len) (hm : m.length = len2) (hlm : len ≤ 140737488300000) (hmm : len2 ≤ 140737488300000)
    (hL : Lies w a l) (hM : Lies w b m) :
    Calls Tryd.prog 57 #[.slice a len cap, .slice b len2 cap2] w fun e w' =>
      e = .returned (.slice (some ⟨w.heap.size, 0, none⟩) (len + len2) (len + len2)) ∧ Own w' w.heap.size (l ++ m) ∧ Below w.heap.size w w' := by
  obtain ⟨i0, hi, hz0, hz1, hz2⟩ := info_parts Tryd.info5
  have hmk := run_make (P := Tryd.prog) w 49 5 i0 (.int .u8 0) Tryd.underlying49 hi hz0 .i64 .i64 ((len : Int) + (len2 : Int)) ((len : Int) + (len2 : Int)) (by omega) (by omega) (by rw [hz2]; omega) (by omega)
  rw [hz1, show ((len : Int) + (len2 : Int)).toNat = len + len2 from by omega, Nat.mul_one, made_bytes] at hmk
  have hO1 : Own (w.alloc (.cells ((List.replicate (len + len2) 0).map byc).toArray 5)) w.heap.size (bothK l m 0) := by
    rw [bothK_zero, hl, hm]; exact heap_alloc_new w _
  have hb1 : Below w.heap.size w (w.alloc (.cells ((List.replicate (len + len2) 0).map byc).toArray 5)) := (Below.refl _ _).alloc (Nat.le_refl _) _
  have HN := Lib.hid hl
  have HM := Lib.hid hm
  clear hl hm hi hz0 hz1 hz2
  generalize w.alloc (.cells ((List.replicate (len + len2) 0).map byc).toArray 5) = w1 at *
  go_enter Tryd.func57, Tryd.ntmps57
  go_wp2
  go_loopw [6] (fun i wr => ∃ k : Nat, k ≤ len + len2 ∧ i = .int .i64 k ∧ Own wr w.heap.size (bothK l m k) ∧ Below w.heap.size w wr) (fun i _ => len + len2 - (intOf i).toNat)
  case atStart => exact ⟨0, Nat.zero_le _, rfl, hO1, hb1⟩
  case round =>
    obtain ⟨k, hk, rfl, hOw, hBw⟩ := hrel
    by_cases hlt : k < len + len2
    · have hc := hOw.cell (i := k) (by rw [length_bothK _ _ _ (by rw [HN.out, HM.out]; omega), HN.out, HM.out]; omega)
      have hf := hOw.free k
      have hL2 := hL.kept hBw
      have hM2 := hM.kept hBw
      by_cases h1 : k < len
      · rcases hL2 with h0 | ⟨g, off, rfl, hlg, hcc⟩
        · have := HN.out; rw [h0] at this; simp at this; omega
        · have hcx := hcc k (by rw [HN.out]; exact h1)
          obtain ⟨v, hv⟩ : ∃ v, l.getD k 0 = v := ⟨_, rfl⟩
          have hv2 : (l ++ m).getD k 0 = v := by rw [List.getD_eq_getElem?_getD, List.getElem?_append_left (by rw [HN.out]; exact h1), ← List.getD_eq_getElem?_getD]; exact hv
          rw [hv] at hcx
          have R := both_world hOw hBw (by rw [HN.out, HM.out]; exact hlt) hv2
          have HR := Lib.hid R
          clear R hcc hL hM hM2 hOw hBw hv hv2 hO1 hb1
          go_wp2
          go_roundw
          case rel => exact ⟨k + 1, by omega, by go_num, HR.out.1, HR.out.2⟩
          case measure => simp [intOf]; omega
      · rcases hM2 with h0 | ⟨g, off, rfl, hlg, hcc⟩
        · have := HM.out; rw [h0] at this; simp at this; omega
        · have hcx := hcc (k - len) (by rw [HM.out]; omega)
          obtain ⟨v, hv⟩ : ∃ v, m.getD (k - len) 0 = v := ⟨_, rfl⟩
          have hv2 : (l ++ m).getD k 0 = v := by rw [List.getD_eq_getElem?_getD, List.getElem?_append_right (by rw [HN.out]; omega), ← List.getD_eq_getElem?_getD, HN.out]; exact hv
          rw [hv] at hcx
          have R := both_world hOw hBw (by rw [HN.out, HM.out]; exact hlt) hv2
          have HR := Lib.hid R
          clear R hcc hL hM hL2 hOw hBw hv hv2 hO1 hb1
          go_wp2
          go_roundw
          case rel => exact ⟨k + 1, by omega, by go_num, HR.out.1, HR.out.2⟩
          case measure => simp [intOf]; omega
    · obtain rfl : k = len + len2 := by omega
      have e := bothK_all l m
      rw [HN.out, HM.out] at e
      rw [e] at hOw
      clear e
      go_wp2
      go_ret
      exact ⟨rfl, hOw, hBw⟩

/-- Draws alone. -/
def Drawn (w w' : World) : Prop := ∃ n, w' = w.drewN n
theorem Drawn.below {w w' : World} (h : Drawn w w') (B : Nat) : Below B w w' := by
  obtain ⟨n, rfl⟩ := h
  exact ⟨rfl, rfl, rfl, Nat.le_refl _, fun _ _ => rfl⟩

theorem same_all (l m : List Nat) (h : l.length = m.length) (ha : ∀ j, j < l.length → l.getD j 0 = m.getD j 0) : (l == m) = true := by
  rw [beq_iff_eq]
  apply List.ext_getElem h
  intro j h1 h2
  have := ha j h1
  simpa [h1, h2] using this
theorem same_not (l m : List Nat) (k : Nat) (ha : l.getD k 0 ≠ m.getD k 0) : (l == m) = false := by
  rw [beq_eq_false_iff_ne]
  rintro rfl
  exact ha rfl
theorem same_len (l m : List Nat) (h : l.length ≠ m.length) : (l == m) = false := by
  rw [beq_eq_false_iff_ne]
  rintro rfl
  exact h rfl

set_option maxHeartbeats 1600000 in
theorem same_any (a b : Option Addr) (len cap len2 cap2 : Nat) (l m : List Nat) (w : World) (hl : l.length = len) (hm : m.length = len2) (hlm : len ≤ 9223372036854775807) (hmm : len2 ≤ 9223372036854775807)
    (hL : Lies w a l) (hM : Lies w b m) :
    Calls Tryd.prog 26 #[.slice a len cap, .slice b len2 cap2] w fun e w' => e = .returned (.bool (l == m)) ∧ Drawn w w' := by
  by_cases hll : len = len2
  · subst hll
    have HN := Lib.hid hl
    have HM := Lib.hid hm
    clear hl hm
    go_enter Tryd.func26, Tryd.ntmps26
    go_wp2
    go_loopw [5] (fun i wr => ∃ k : Nat, k ≤ len ∧ i = .int .i64 k ∧ Hid (∀ j, j < k → l.getD j 0 = m.getD j 0) ∧ Drawn w wr) (fun i _ => len - (intOf i).toNat)
    case atStart => exact ⟨0, Nat.zero_le _, rfl, fun j hj => by omega, 0, rfl⟩
    case round =>
      obtain ⟨k, hk, rfl, hA, hD⟩ := hrel
      by_cases hlt : k < len
      · rcases hL with h0 | ⟨g, off, rfl, hlg, hcl⟩
        · have := HN.out; rw [h0] at this; simp at this; omega
        · rcases hM with h0 | ⟨g2, off2, rfl, hlg2, hcm⟩
          · have := HM.out; rw [h0] at this; simp at this; omega
          · have hx := hcl k (by rw [HN.out]; exact hlt)
            have hy := hcm k (by rw [HM.out]; exact hlt)
            obtain ⟨nq, rfl⟩ := hD
            obtain ⟨x, ex⟩ : ∃ x, l.getD k 0 = x := ⟨_, rfl⟩
            obtain ⟨y, ey⟩ : ∃ y, m.getD k 0 = y := ⟨_, rfl⟩
            rw [ex] at hx
            rw [ey] at hy
            have EX := Lib.hid ex
            have EY := Lib.hid ey
            have hlt0 : (k : Int) < (len : Int) := by omega
            clear hcl hcm ex ey
            by_cases hxy : x = y
            · subst hxy
              have HA2 := Lib.hid (show ∀ j, j < k + 1 → l.getD j 0 = m.getD j 0 from fun j hj => by
                by_cases hjk : j = k
                · subst hjk; rw [EX.out, EY.out]
                · exact hA.out j (by omega))
              go_wp2
              go_quiet (fail)
              go_wp2
              go_roundw
              case rel => exact ⟨k + 1, by omega, by go_num, HA2.out, _, rfl⟩
              case measure => simp [intOf]; omega
            · have hne : ((x : Int) != (y : Int)) = true := by rw [bne_iff_ne]; omega
              have hne2 : ((x : Int) == (y : Int)) = false := by rw [beq_eq_false_iff_ne]; omega
              have HF := Lib.hid (same_not l m k (by rw [EX.out, EY.out]; exact hxy))
              go_wp2
              go_quiet (fail)
              go_wp2
              go_ret
              exact ⟨by rw [HF.out]; rfl, _, World.drewN_drewN _ _ _⟩
      · obtain rfl : k = len := by omega
        have HF := Lib.hid (same_all l m (by rw [HN.out, HM.out]) (by rw [HN.out]; exact hA.out))
        go_wp2
        go_ret
        exact ⟨by rw [HF.out]; rfl, hD⟩
  · have HF := Lib.hid (same_len l m (by rw [hl, hm]; exact hll))
    have hne : ((len : Int) != (len2 : Int)) = true := by rw [bne_iff_ne]; omega
    have hne2 : (len != len2) = true := by rw [bne_iff_ne]; omega
    clear hl hm
    go_enter Tryd.func26, Tryd.ntmps26
    go_wp2
    go_ret
    exact ⟨by rw [HF.out]; rfl, 0, rfl⟩
end Go.Proofs.YtclkfmblogkakaaDoor
namespace Go.Proofs.YtclkfmblogkakaaDoor
open Go.RowKit
set_option linter.unusedVariables false

/-- Bytes as the model's numbers. -/
def intsOf (l : List Nat) : List Int := l.map Int.ofNat
theorem length_intsOf (l : List Nat) : (intsOf l).length = l.length := by simp [intsOf]
theorem getD_intsOf (l : List Nat) (i : Nat) (h : i < l.length) : (intsOf l).getD i 0 = ((l.getD i 0 : Nat) : Int) := by
  simp [intsOf, h]
/-- Bytes as a string. -/
def strOf (l : List Nat) : ByteArray := strOfNums (intsOf l)

theorem strOf_list (l : List Nat) : (strOf l).toList = l.map UInt8.ofNat := by
  rw [Lib.toList_data, strOf, strOfNums_data, intsOf, List.map_map]
  rfl

theorem strOf_inj {l m : List Nat} (hl : Bys l) (hm : Bys m) (h2 : l.map UInt8.ofNat = m.map UInt8.ofNat) : l = m := by
  have hlen : l.length = m.length := by simpa using congrArg List.length h2
  apply List.ext_getElem hlen
  intro j h1 h3
  have e : (l.map UInt8.ofNat)[j]'(by simpa using h1) = (m.map UInt8.ofNat)[j]'(by simpa using h3) := by simp only [h2]
  simp only [List.getElem_map] at e
  have e2 := congrArg UInt8.toNat e
  have a1 := hl _ (List.getElem_mem h1)
  have a2 := hm _ (List.getElem_mem h3)
  rw [UInt8.toNat_ofNat', UInt8.toNat_ofNat'] at e2
  omega

theorem strOf_beq {l m : List Nat} (hl : Bys l) (hm : Bys m) : ((strOf l).toList == (strOf m).toList) = (l == m) := by
  rw [strOf_list, strOf_list]
  by_cases h : l = m
  · subst h; simp
  · have h2 : l.map UInt8.ofNat ≠ m.map UInt8.ofNat := fun e => h (strOf_inj hl hm e)
    rw [beq_eq_false_iff_ne.2 h, beq_eq_false_iff_ne.2 h2]

theorem conv_bytes {w : World} {a : Option Addr} {l : List Nat} {len : Nat} (cap : Nat) (h : Lies w a l) (hl : l.length = len) :
    (convert 49 9 (.slice a len cap)).run Tryd.prog w = .ok (.string (strOf l)) w := by
  rcases h with rfl | ⟨b, off, rfl, _, hc⟩
  · obtain rfl : 0 = len := hl
    rw [run_convert_bytes_string w 49 9 5 _ 0 cap Tryd.underlying49 Tryd.underlying5 Tryd.underlying9]
    cases a <;> simp [Conv.bytesToString, loadCells]
    all_goals rfl
  · exact run_convert_bytes_arg w 49 5 Tryd.underlying49 Tryd.underlying5 b off len cap (intsOf l) (by rw [length_intsOf]; exact hl) (fun i hi => by
      rw [hc i (by omega), getD_intsOf l i (by omega)]) 9 Tryd.underlying9

end Go.Proofs.YtclkfmblogkakaaDoor
namespace Go.Proofs.YtclkfmblogkakaaDoor
open Go.RowKit
set_option linter.unusedVariables false

/-- Which of two numbers comes first. -/
def cmpN (x y : Nat) : Int := if x < y then -1 else if y < x then 1 else 0

/-- Which of two rows of bytes comes first. -/
def cmpB : List Nat → List Nat → Int
  | [], [] => 0
  | [], _ :: _ => -1
  | _ :: _, [] => 1
  | a :: l, b :: m => if a < b then -1 else if b < a then 1 else cmpB l m

theorem compare_bytes : ∀ (l m : List Nat), Bys l → Bys m → Lib.compareBytes (l.map UInt8.ofNat) (m.map UInt8.ofNat) = cmpB l m
  | [], [], _, _ => rfl
  | [], _ :: _, _, _ => rfl
  | _ :: _, [], _, _ => rfl
  | a :: l, b :: m, hl, hm => by
    have ih := compare_bytes l m (fun n h => hl n (by simp [h])) (fun n h => hm n (by simp [h]))
    have ha : a < 256 := hl a (by simp)
    have hb : b < 256 := hm b (by simp)
    have e1 : (UInt8.ofNat a < UInt8.ofNat b) ↔ a < b := by
      rw [UInt8.lt_iff_toNat_lt, UInt8.toNat_ofNat', UInt8.toNat_ofNat']; omega
    have e2 : (UInt8.ofNat b < UInt8.ofNat a) ↔ b < a := by
      rw [UInt8.lt_iff_toNat_lt, UInt8.toNat_ofNat', UInt8.toNat_ofNat']; omega
    simp only [List.map_cons, Lib.compareBytes, cmpB, e1, e2, ih]

theorem load_bytes {w : World} {ao : Option Addr} {l : List Nat} (h : Lies w ao l) (cap : Nat) :
    (Extern.Bytes.bytesOf (.slice ao l.length cap)).run Tryd.prog w = .ok (strOf l) w := by
  rcases h with rfl | ⟨b, off, rfl, _, hc⟩
  · cases ao <;> rfl
  · have h := Lib.run_loadBytesX (P := Tryd.prog) w (intsOf l) ⟨b, off, none⟩ ByteArray.empty (fun j x hj => by
      have hjl : j < l.length := by
        have := (List.getElem?_eq_some_iff.1 hj).1
        simpa [intsOf] using this
      rw [Addr.add_lit, hc j hjl]
      have : (intsOf l)[j]? = some ((l.getD j 0 : Nat) : Int) := by simp [intsOf, hjl]
      rw [this] at hj
      cases hj
      rfl)
    rw [length_intsOf] at h
    refine h.trans ?_
    congr 1
    show ByteArray.mk (#[] ++ _) = _
    simp [strOf, strOfNums, Lib.bytesOf]

set_option maxHeartbeats 400000 in
theorem bcompare_any (a b : Option Addr) (len cap len2 cap2 : Nat) (l m : List Nat) (w : World) (hl : l.length = len) (hm : m.length = len2) (hB : Bys l) (hC : Bys m) (hL : Lies w a l) (hM : Lies w b m) :
    Calls Tryd.prog 83 #[.slice a len cap, .slice b len2 cap2] w fun e w' => e = .returned (.int .i64 (cmpB l m)) ∧ w = w' := by
  have hrun : (callFunc 101 #[.slice a len cap, .slice b len2 cap2]).run Tryd.prog w = .ok (.value (.int .i64 (cmpB l m))) w := by
    subst hl
    subst hm
    rw [run_callFunc_extern Tryd.func101 (by kernel_rfl) (by kernel_rfl) (by kernel_rfl) (e := Extern.BytealgCompare.compare) (by kernel_rfl)]
    change (Sem.run Tryd.prog (do pure (goInt (Extern.BytealgCompare.cmp (← Extern.Bytes.bytesOf (.slice a l.length cap)) (← Extern.Bytes.bytesOf (.slice b m.length cap2))))) w).andThen _ = _
    simp only [Sem.run_bind, load_bytes hL, load_bytes hM, Result.andThen, Sem.run_pure]
    rw [Lib.cmp_eq, ← Lib.toList_data, ← Lib.toList_data, strOf_list, strOf_list, compare_bytes l m hB hC]
    rfl
  clear hl hm
  go_enter Tryd.func83, Tryd.ntmps83
  go_wp2
  go_ret
  exact ⟨rfl, rfl⟩

theorem cmpB_append : ∀ (l m p q : List Nat), l.length = m.length → cmpB (l ++ p) (m ++ q) = if cmpB l m = 0 then cmpB p q else cmpB l m
  | [], [], p, q, _ => by simp [cmpB]
  | [], _ :: _, _, _, h => by simp at h
  | _ :: _, [], _, _, h => by simp at h
  | a :: l, b :: m, p, q, h => by
    have ih := cmpB_append l m p q (by simpa using h)
    simp only [List.cons_append, cmpB]
    by_cases h1 : a < b
    · simp [h1]
    · by_cases h2 : b < a
      · simp [h1, h2]
      · simp [h1, h2, ih]

theorem cmpB_zero : ∀ (l m : List Nat), (l == m) = (cmpB l m == 0)
  | [], [] => rfl
  | [], _ :: _ => rfl
  | _ :: _, [] => rfl
  | a :: l, b :: m => by
    have ih := cmpB_zero l m
    simp only [cmpB, List.cons_beq_cons]
    by_cases h1 : a < b
    · have : (a == b) = false := by simp; omega
      simp [h1, this]
    · by_cases h2 : b < a
      · have : (a == b) = false := by simp; omega
        simp [h1, h2, this]
      · have : (a == b) = true := by simp; omega
        simp only [h1, h2, this, ih, if_false, Bool.true_and]

theorem highB_cons (x n : Nat) : highB x (n + 1) = (x / 2 ^ (8 * n) % 256) :: highB x n := by
  apply List.ext_getElem
  · simp [highB]
  · intro j h1 h2
    have hj : j < n + 1 := by simpa [highB] using h1
    cases j with
    | zero => simp [highB]
    | succ j =>
      simp only [highB, List.getElem_map, List.getElem_range, List.getElem_cons_succ]
      rw [show n + 1 - 1 - (j + 1) = n - 1 - j from by omega]

theorem cmpB_high (a b : Nat) : ∀ n, cmpB (highB a n) (highB b n) = cmpN (a % 2 ^ (8 * n)) (b % 2 ^ (8 * n))
  | 0 => by simp [highB, cmpB, cmpN, Nat.mod_one]
  | n + 1 => by
    have ih := cmpB_high a b n
    rw [highB_cons, highB_cons]
    simp only [cmpB, ih]
    have e : 2 ^ (8 * (n + 1)) = 2 ^ (8 * n) * 256 := by rw [show 8 * (n + 1) = 8 * n + 8 from by omega, Nat.pow_add]
    have ea := Nat.mod_mul (x := a) (a := 2 ^ (8 * n)) (b := 256)
    have eb := Nat.mod_mul (x := b) (a := 2 ^ (8 * n)) (b := 256)
    rw [e, ea, eb]
    have la : a % 2 ^ (8 * n) < 2 ^ (8 * n) := Nat.mod_lt _ (Nat.two_pow_pos _)
    have lb : b % 2 ^ (8 * n) < 2 ^ (8 * n) := Nat.mod_lt _ (Nat.two_pow_pos _)
    generalize a % 2 ^ (8 * n) = p at *
    generalize b % 2 ^ (8 * n) = q at *
    generalize a / 2 ^ (8 * n) % 256 = x at *
    generalize b / 2 ^ (8 * n) % 256 = y at *
    generalize 2 ^ (8 * n) = t at *
    unfold cmpN
    by_cases h1 : x < y
    · have h2 : p + t * x < q + t * y := by
        have : t * x + t ≤ t * y := by
          have := Nat.mul_le_mul_left t (show x + 1 ≤ y from h1)
          rw [Nat.mul_add, Nat.mul_one] at this
          exact this
        omega
      simp [h1, h2]
    · by_cases h2 : y < x
      · have h3 : q + t * y < p + t * x := by
          have : t * y + t ≤ t * x := by
            have := Nat.mul_le_mul_left t (show y + 1 ≤ x from h2)
            rw [Nat.mul_add, Nat.mul_one] at this
            exact this
          omega
        have h4 : ¬ p + t * x < q + t * y := by omega
        simp [h1, h2, h3, h4]
      · obtain rfl : x = y := by omega
        simp
end Go.Proofs.YtclkfmblogkakaaDoor
