/-
  The contracts of octet's reader: Read, Err, Left, next. Nothing here is a statement of the document.
-/
import Derived.Test.YtfnagfmbhcaphaaDoorOctB
namespace Go.Proofs.YtfnagfmbhcaphaaDoor
open Go.RowKit
set_option linter.unusedVariables false

/-- Where the rest begins when j of n bytes are off: Go does not point behind a row's end. -/
def spotR (n j : Nat) : Nat := if j = n then n - 1 else j

/-- What is still to come, as a value. -/
def restV (g n j : Nat) : Value := .slice (some ⟨g, spotR n j, none⟩) (n - j) (n - j)

/-- At block p a reader lies, of the row g that holds L; j bytes are off; its error is err. -/
structure Rd (w : World) (p g : Nat) (L : List Nat) (j : Nat) (err : Int) : Prop where
  own : Own w g L
  ne : g ≠ p
  le : j ≤ L.length
  cells : w.heap[p]? = some (.cells #[restV g L.length j, .int .i64 err] 127 (0, 0))

theorem Rd.cell0 {w : World} {p g j : Nat} {L : List Nat} {err : Int} (h : Rd w p g L j err) : w.cell? ⟨p, 0, none⟩ = some (restV g L.length j) := by
  have := h.cells; simp [World.cell?, this]
theorem Rd.cell1 {w : World} {p g j : Nat} {L : List Nat} {err : Int} (h : Rd w p g L j err) : w.cell? ⟨p, 1, none⟩ = some (.int .i64 err) := by
  have := h.cells; simp [World.cell?, this]
theorem Rd.free {w : World} {p g j : Nat} {L : List Nat} {err : Int} (h : Rd w p g L j err) (i : Nat) : w.frozen? ⟨p, i, none⟩ = false := by
  have := h.cells; simp [World.frozen?, this]
theorem Rd.lt {w : World} {p g j : Nat} {L : List Nat} {err : Int} (h : Rd w p g L j err) : p < w.heap.size := lt_of_block h.cells
theorem Rd.kept {w w' : World} {p g j : Nat} {L : List Nat} {err : Int} (h : Rd w p g L j err) (hp : w'.heap[p]? = w.heap[p]?) (hg : w'.heap[g]? = w.heap[g]?) : Rd w' p g L j err :=
  ⟨hg.trans h.own, h.ne, h.le, hp.trans h.cells⟩
theorem Rd.below {w w' : World} {p g j : Nat} {L : List Nat} {err : Int} (h : Rd w p g L j err) (hb : Below w.heap.size w w') : Rd w' p g L j err :=
  h.kept (hb.block p h.lt) (hb.block g h.own.lt)
theorem Rd.off {w : World} {p g j : Nat} {L : List Nat} {err : Int} (h : Rd w p g L j err) (hj : j < L.length) : Rd (w.setCell ⟨p, 0, none⟩ (restV g L.length (j + 1))) p g L (j + 1) err := by
  have hc := h.cells
  have hp := h.lt
  refine ⟨(Below.heap_setCell _ _ _ _ h.ne).trans h.own, h.ne, hj, ?_⟩
  simp [World.setCell, Array.getElem?_modify, hc]
theorem Rd.err {w : World} {p g j : Nat} {L : List Nat} {err : Int} (h : Rd w p g L j err) (e : Int) : Rd (w.setCell ⟨p, 1, none⟩ (.int .i64 e)) p g L j e := by
  have hc := h.cells
  have hp := h.lt
  refine ⟨(Below.heap_setCell _ _ _ _ h.ne).trans h.own, h.ne, h.le, ?_⟩
  simp [World.setCell, Array.getElem?_modify, hc]

set_option maxHeartbeats 800000 in
theorem read_any (a : Option Addr) (len cap : Nat) (l : List Nat) (w : World) (hl : l.length = len) (hlm : len ≤ 281474976710000) (hL : Lies w a l) :
    Calls Tryd.prog 87 #[.slice a len cap] w fun e w' =>
      ∃ p, e = .returned (.pointer (some ⟨p, 0, none⟩)) ∧ w.heap.size < p ∧ Rd w' p w.heap.size l 0 0 ∧ Below w.heap.size w w' := by
  obtain ⟨i0, hi, hz0, hz1, hz2⟩ := info_parts Tryd.info5
  have hmk := run_make (P := Tryd.prog) w 55 5 i0 (.int .u8 0) Tryd.underlying55 hi hz0 .i64 .i64 (len : Int) (len : Int) (by omega) (by omega) (by rw [hz2]; omega) (by omega)
  rw [hz1, show (len : Int).toNat = len from by omega, Nat.mul_one, made_bytes] at hmk
  have HN := Lib.hid hl
  clear hl hi hz0 hz1 hz2
  have hb1 : Below w.heap.size w (w.alloc (.cells ((List.replicate len 0).map byc).toArray 5)) := (Below.refl _ _).alloc (Nat.le_refl _) _
  generalize hZ : (List.replicate len 0).map byc = Z at *
  have HZ := Lib.hid hZ
  clear hZ
  obtain ⟨cs, hcs⟩ : ∃ cs, cs = l.map byc := ⟨_, rfl⟩
  have HC := Lib.hid hcs
  clear hcs
  go_enter Tryd.func87, Tryd.ntmps87
  go_wp2_with (with_reducible refine wpList_copy_splice rfl (.tmp 7) (.tmp 8) 55 55 rfl 5 Tryd.underlying55 Tryd.size5 (some ⟨w.heap.size, 0, none⟩) a len len len cap rfl rfl w.heap.size 0 Z 5 ?h1 cs ?h2 ?h3 ?h4 ?h5 w.heap.size w hb1 (Nat.le_refl _) ?_)
  case h1 => exact heap_alloc_new w _
  case h2 =>
    have e := HN.out
    rw [HC.out, List.length_map, e]
    exact (Nat.min_self _).symm
  case h3 =>
    intro h0
    rw [HC.out] at h0 ⊢
    have hq := (hL.alloc (.cells Z.toArray 5)).cells (by simpa using h0)
    first | exact hq | exact ⟨rfl, hq⟩
  case h4 =>
    have e := HN.out
    rw [HC.out, ← HZ.out]; simp; omega
  case h5 => rw [HC.out]; exact byc_one l
  intro w2 HG2 hB2
  have hOwn : Own w2 w.heap.size l := by
    have e := HG2.out
    have eN := HN.out
    subst eN
    rw [HC.out, ← HZ.out] at e
    have e3 := splice_bytes l 0
    simp only [Nat.add_zero, List.replicate_zero, List.append_nil] at e3
    rw [e3] at e
    exact e
  clear HG2
  go_wp2
  go_ret
  refine ⟨w2.heap.size, rfl, hOwn.lt, ⟨?_, ?_, Nat.zero_le _, ?_⟩, hB2.alloc hB2.size _⟩
  · exact (Below.heap_alloc _ _ _ hOwn.lt).trans hOwn
  · have := hOwn.lt; omega
  · rw [heap_alloc_new]
    have eN := HN.out
    have e0 : spotR len 0 = 0 := by unfold spotR; split <;> omega
    simp only [restV, eN, e0, Nat.sub_zero]

set_option maxHeartbeats 400000 in
theorem err_any {p g j : Nat} {L : List Nat} {err : Int} {w : World} (h : Rd w p g L j err) :
    Calls Tryd.prog 91 #[.pointer (some ⟨p, 0, none⟩)] w fun e w' => e = .returned (.int .i64 err) ∧ w = w' := by
  have h1 := h.cell1
  go_enter Tryd.func91, Tryd.ntmps91
  go_wp2
  go_ret
  exact ⟨rfl, rfl⟩
set_option maxHeartbeats 400000 in
theorem err_nil (w : World) : Calls Tryd.prog 91 #[.pointer none] w fun e w' => e = .returned (.int .i64 1) ∧ w = w' := by
  go_enter Tryd.func91, Tryd.ntmps91
  go_wp2
  go_ret
  exact ⟨rfl, rfl⟩
set_option maxHeartbeats 400000 in
theorem left_any {p g j : Nat} {L : List Nat} {err : Int} {w : World} (h : Rd w p g L j err) :
    Calls Tryd.prog 92 #[.pointer (some ⟨p, 0, none⟩)] w fun e w' => e = .returned (.int .i64 ((L.length - j : Nat) : Int)) ∧ w = w' := by
  have h0 := h.cell0
  unfold restV at h0
  generalize hn : L.length - j = n at *
  have HN := Lib.hid hn
  clear hn
  go_enter Tryd.func92, Tryd.ntmps92
  go_wp2
  go_ret
  exact ⟨rfl, rfl⟩
set_option maxHeartbeats 400000 in
theorem left_nil (w : World) : Calls Tryd.prog 92 #[.pointer none] w fun e w' => e = .returned (.int .i64 0) ∧ w = w' := by
  go_enter Tryd.func92, Tryd.ntmps92
  go_wp2
  go_ret
  exact ⟨rfl, rfl⟩

set_option maxHeartbeats 800000 in
theorem next_any {p g j : Nat} {L : List Nat} {err : Int} {w : World} (h : Rd w p g L j err) (hj : j < L.length) :
    Calls Tryd.prog 97 #[.pointer (some ⟨p, 0, none⟩)] w fun e w' => e = .returned (.int .u8 ((L.getD j 0 : Nat) : Int)) ∧ w.setCell ⟨p, 0, none⟩ (restV g L.length (j + 1)) = w' := by
  have h0 := h.cell0
  have hf := h.free 0
  have hc := h.own.cell hj
  have es : spotR L.length j = j := by unfold spotR; rw [if_neg (by omega)]
  unfold restV at h0 ⊢
  rw [es] at h0
  generalize L.getD j 0 = x at *
  clear h
  by_cases hone : L.length - j = 1
  all_goals
    go_enter Tryd.func97, Tryd.ntmps97
    go_wp2
    go_ret
    refine ⟨rfl, ?_⟩
    congr 1
    unfold spotR
  · rw [if_pos (by omega), show L.length - (j + 1) = 0 from by omega, show L.length - 1 = j from by omega]
  · rw [if_neg (by omega), Nat.sub_sub]
end Go.Proofs.YtfnagfmbhcaphaaDoor
