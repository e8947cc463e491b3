/-
  Rows of bytes of a call's own, and the contracts of octet.put, Put16, Put32, Put64. Nothing here is a statement of the document.
-/
import Derived.Test.YtfnagfmbhcaphaaDoorOctA
import Derived.Laws.CopyOwn
import Derived.OneCell
namespace Go.Proofs.YtfnagfmbhcaphaaDoor
open Go.RowKit
set_option linter.unusedVariables false

/-- A byte as a cell. -/
def byc (n : Nat) : Value := .int .u8 (n : Int)

/-- Block g is a row of a call's own that holds just these bytes. -/
def Own (w : World) (g : Nat) (l : List Nat) : Prop := w.heap[g]? = some (.cells (l.map byc).toArray 5 (0, 0))

theorem Own.lt {w : World} {g : Nat} {l : List Nat} (h : Own w g l) : g < w.heap.size := lt_of_block h

theorem Own.cell {w : World} {g : Nat} {l : List Nat} (h : Own w g l) {i : Nat} (hi : i < l.length) : w.cell? ⟨g, i, none⟩ = some (.int .u8 ((l.getD i 0 : Nat) : Int)) := by
  unfold Own at h
  simp [World.cell?, h, byc, hi]

theorem Own.free {w : World} {g : Nat} {l : List Nat} (h : Own w g l) (i : Nat) : w.frozen? ⟨g, i, none⟩ = false := by
  unfold Own at h
  simp [World.frozen?, h]

theorem Own.set {w : World} {g : Nat} {l : List Nat} (h : Own w g l) {i : Nat} (n : Nat) : Own (w.setCell ⟨g, i, none⟩ (.int .u8 (n : Int))) g (l.set i n) := by
  unfold Own at h ⊢
  have hg := (Array.getElem?_eq_some_iff.1 h).1
  simp only [World.setCell, Array.getElem?_modify, h]
  simp [List.map_set, byc]

theorem Own.kept {B : Nat} {w w' : World} {g : Nat} {l : List Nat} (h : Own w g l) (hb : Below B w w') (hg : g < B) : Own w' g l := (hb.block g hg).trans h

theorem Own.kept' {w w' : World} {g : Nat} {l : List Nat} (h : Own w g l) (hb : Below w.heap.size w w') : Own w' g l := h.kept hb h.lt

theorem Own.drew {w : World} {g : Nat} {l : List Nat} (h : Own w g l) : Own w.drew g l := h

theorem Own.lies {w : World} {g : Nat} {l : List Nat} (h : Own w g l) : Lies w (some ⟨g, 0, none⟩) l :=
  .inr ⟨g, 0, rfl, h.lt, fun i hi => by rw [Nat.zero_add]; exact h.cell hi⟩

theorem Own.liesAt {w : World} {g : Nat} {l : List Nat} (h : Own w g l) (o : Nat) : Lies w (some ⟨g, o, none⟩) (l.drop o) :=
  .inr ⟨g, o, rfl, h.lt, fun i hi => by
    rw [List.length_drop] at hi
    rw [h.cell (i := o + i) (by omega)]; simp [List.getElem?_drop]⟩

theorem made_bytes (n : Nat) : madeCells (Value.int .u8 0).cells n = ((List.replicate n 0).map byc).toArray := by
  apply Array.ext
  · simp [madeCells]
  · intro i h1 h2
    simp [madeCells, byc, Value.cells, Nat.mod_one]

theorem splice_bytes (l : List Nat) (n : Nat) : splice ((List.replicate (l.length + n) 0).map byc) 0 (l.map byc) = (l ++ List.replicate n 0).map byc := by
  simp [splice]

theorem byc_one (l : List Nat) : ∀ v ∈ l.map byc, v.oneCell' = true := by
  intro v hv
  obtain ⟨n, _, rfl⟩ := List.mem_map.1 hv
  rfl

theorem Lies.cells {w : World} {a : Option Addr} {l : List Nat} (h : Lies w a l) (h0 : 0 < l.length) : ∃ ad, a = some ad ∧ ∀ j v, (l.map byc)[j]? = some v → w.cell? (ad.add j) = some v := by
  rcases h with rfl | ⟨b, off, rfl, _, hc⟩
  · simp at h0
  · refine ⟨_, rfl, fun j v hj => ?_⟩
    have hlt : j < l.length := by
      have := (List.getElem?_eq_some_iff.1 hj).1
      simpa using this
    rw [Addr.add_lit, hc j hlt, ← hj]
    simp [byc, hlt]

theorem Lies.alloc {w : World} {a : Option Addr} {l : List Nat} (h : Lies w a l) (o : Obj) : Lies (w.alloc o) a l := by
  rcases h with rfl | ⟨b, off, rfl, hb, hc⟩
  · exact .inl rfl
  · exact .inr ⟨b, off, rfl, by simp; omega, fun i hi => (World.cell?_alloc_past _ _ _ hb).trans (hc i hi)⟩

theorem Lies.kept {w w' : World} {a : Option Addr} {l : List Nat} (h : Lies w a l) (hb : Below w.heap.size w w') : Lies w' a l := by
  rcases h with rfl | ⟨b, off, rfl, hlt, hc⟩
  · exact .inl rfl
  · exact .inr ⟨b, off, rfl, Nat.lt_of_lt_of_le hlt hb.size, fun i hi => (hb.cell (p := ⟨b, off + i, none⟩) hlt).trans (hc i hi)⟩

/-! ### The bytes of a number -/

/-- The bytes of a number, n of them, the highest first. -/
def highB (x n : Nat) : List Nat := (List.range n).map fun j => x / 2 ^ (8 * (n - 1 - j)) % 256

/-- Of these bytes the last k; ahead of them noughts. -/
def highK (x n k : Nat) : List Nat := (List.range n).map fun j => if n - k ≤ j then x / 2 ^ (8 * (n - 1 - j)) % 256 else 0

theorem highK_zero (x n : Nat) : highK x n 0 = List.replicate n 0 := by
  apply List.ext_getElem
  · simp [highK]
  · intro i h1 h2
    simp [highK] at h1 ⊢
    intro h; omega
theorem highK_all (x n : Nat) : highK x n n = highB x n := by simp [highK, highB]
theorem highK_succ (x n k : Nat) (hk : k < n) : highK x n (k + 1) = (highK x n k).set (n - 1 - k) (x / 2 ^ (8 * k) % 256) := by
  apply List.ext_getElem
  · simp [highK]
  · intro i h1 h2
    simp [highK] at h1
    rw [List.getElem_set]
    simp only [highK, List.getElem_map, List.getElem_range]
    by_cases h : n - 1 - k = i
    · subst h
      have e : n - 1 - (n - 1 - k) = k := by omega
      rw [if_pos (by omega), if_pos rfl, e]
    · rw [if_neg h]
      by_cases h3 : n - k ≤ i
      · rw [if_pos (by omega), if_pos h3]
      · rw [if_neg (by omega), if_neg h3]
theorem length_highK (x n k : Nat) : (highK x n k).length = n := by simp [highK]
theorem length_highB (x n : Nat) : (highB x n).length = n := by simp [highB]
theorem highB_bys (x n : Nat) : Bys (highB x n) := by
  intro m hm
  obtain ⟨j, _, rfl⟩ := List.mem_map.1 hm
  exact Nat.mod_lt _ (by omega)

theorem put_step (l : List Nat) (x n k : Nat) (hk : k < n) : (l ++ highK x n k).set (l.length + n - 1 - k) (x / 2 ^ (8 * k) % 256) = l ++ highK x n (k + 1) := by
  rw [highK_succ x n k hk, List.set_append_right _ _ (by omega)]
  congr 2
  omega

theorem put_world {w wr : World} {l : List Nat} {len n x k : Nat} (hOw : Own wr w.heap.size (l ++ highK x n k)) (hBw : Below w.heap.size w wr) (hl : l.length = len) (hlt : k < n) :
    Own (wr.setCell ⟨w.heap.size, len + n - 1 - k, none⟩ (.int .u8 ((x : Int) / 2 ^ (8 * k) % 256))) w.heap.size (l ++ highK x n (k + 1)) ∧
      Below w.heap.size w (wr.setCell ⟨w.heap.size, len + n - 1 - k, none⟩ (.int .u8 ((x : Int) / 2 ^ (8 * k) % 256))) := by
  have e : ((x : Int) / 2 ^ (8 * k) % 256) = ((x / 2 ^ (8 * k) % 256 : Nat) : Int) := by simp
  rw [e, ← put_step l x n k hlt, hl]
  exact ⟨hOw.set _, hBw.setCell (Nat.le_refl _) _⟩

theorem Tryd.info5 : (Tryd.prog.info? 5).map (fun i => (i.zero, i.size, i.bytes)) = some (some (.int .u8 0), 1, 1) := by kernel_rfl
theorem Tryd.size5 : (Tryd.prog.info? 5).map (·.size) = some 1 := by kernel_rfl

end Go.Proofs.YtfnagfmbhcaphaaDoor
