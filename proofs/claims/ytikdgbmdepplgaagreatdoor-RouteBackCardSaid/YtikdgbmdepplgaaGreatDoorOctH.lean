/-
  The contracts of the reference's Both, Same, High, and of bytes.Equal, octet.Equal. Nothing here is a statement of the document.
-/
import Derived.Test.YtikdgbmdepplgaaGreatDoorRows
import Derived.WalkKit
import Derived.ProofKit
import Derived.Lib.Hide
import Derived.Outline
import Derived.Laws.BitsAllLaws
import Derived.Laws.CopyOwn
import Derived.OneCell
import Derived.OpenShut
import Derived.ShutString
import Derived.ChangeOld
import Derived.Deep.QuietTactic
import Derived.BigQuiet
import Derived.BigRegion
namespace Go.Proofs.YtikdgbmdepplgaaGreatDoor
open Go.RowKit
set_option linter.unusedVariables false

/-- Numbers that are bytes. -/
def Bys (l : List Nat) : Prop := ∀ n ∈ l, n < 256

/-- At this address these bytes lie; of none no cell is asked. -/
def Lies (w : World) (a : Option Addr) (l : List Nat) : Prop :=
  l = [] ∨ ∃ b off, a = some ⟨b, off, none⟩ ∧ b < w.heap.size ∧ ∀ i, i < l.length → w.cell? ⟨b, off + i, none⟩ = some (.int .u8 ((l.getD i 0 : Nat) : Int))

theorem Bys.at {l : List Nat} (h : Bys l) (i : Nat) : l.getD i 0 < 256 := by
  by_cases hi : i < l.length
  · have : l.getD i 0 = l[i] := by simp [hi]
    rw [this]; exact h _ (List.getElem_mem hi)
  · have : l.getD i 0 = 0 := by simp [List.getElem?_eq_none (by omega : l.length ≤ i)]
    omega

theorem Lies.below {B : Nat} {w w' : World} {a : Option Addr} {l : List Nat} (h : Lies w a l) (hb : Below B w w') (ha : ∀ x, a = some x → x.block < B) : Lies w' a l := by
  rcases h with h | ⟨b, off, rfl, hlt, hc⟩
  · exact .inl h
  · exact .inr ⟨b, off, rfl, Nat.lt_of_lt_of_le hlt hb.size, fun i hi => (hb.cell (p := ⟨b, off + i, none⟩) (ha ⟨b, off, none⟩ rfl)).trans (hc i hi)⟩

/-- Is the bit k of these bytes, as they go on the wire, 1? -/
def bitB (l : List Nat) (k : Int) : Bool :=
  decide (0 ≤ k) && (decide (k.toNat / 8 < l.length) && (l.getD (l.length - 1 - k.toNat / 8) 0 / 2 ^ (k.toNat % 8) % 2 == 1))

theorem bitB_neg {l : List Nat} {k : Int} (h : k < 0) : bitB l k = false := by
  have : decide (0 ≤ k) = false := by simp; omega
  rw [bitB, this]; rfl
theorem bitB_none {l : List Nat} {k : Int} (h : l.length ≤ k.toNat / 8) : bitB l k = false := by
  have : decide (k.toNat / 8 < l.length) = false := by simp; omega
  rw [bitB, this]; simp
theorem bitB_some {l : List Nat} {k : Nat} (h : k / 8 < l.length) : bitB l (k : Int) = (l.getD (l.length - 1 - k / 8) 0 / 2 ^ (k % 8) % 2 == 1) := by
  have h0 : decide ((0 : Int) ≤ (k : Int)) = true := by simp
  have h1 : decide ((k : Int).toNat / 8 < l.length) = true := by simpa using h
  rw [bitB, h0, h1]; simp

theorem mask_u8 (x i : Nat) (hx : x < 256) : (bits .and .u8 ((x : Int) / 2 ^ i) 1 == 1) = (x / 2 ^ i % 2 == 1) := by
  have hd : x / 2 ^ i < 256 := Nat.lt_of_le_of_lt (Nat.div_le_self _ _) hx
  have e := u8_and_nat (x / 2 ^ i) 1 hd (by omega)
  have e2 : ((x / 2 ^ i : Nat) : Int) = (x : Int) / 2 ^ i := by simp
  rw [e2] at e
  have e1 : ((1 : Nat) : Int) = 1 := rfl
  rw [e1] at e
  rw [e, Nat.and_one_is_mod]
  rw [Bool.eq_iff_iff]; simp; omega

end Go.Proofs.YtikdgbmdepplgaaGreatDoor
namespace Go.Proofs.YtikdgbmdepplgaaGreatDoor
open Go.RowKit
set_option linter.unusedVariables false

/-- A byte as a cell. -/
def byc (n : Nat) : Value := .int .u8 (n : Int)

/-- Block g is a row of a call's own that holds just these bytes. -/
def Own (w : World) (g : Nat) (l : List Nat) : Prop := w.heap[g]? = some (.cells (l.map byc).toArray 5 (0, 0))

theorem Own.lt {w : World} {g : Nat} {l : List Nat} (h : Own w g l) : g < w.heap.size := lt_of_block h

theorem Own.cell {w : World} {g : Nat} {l : List Nat} (h : Own w g l) {i : Nat} (hi : i < l.length) : w.cell? ⟨g, i, none⟩ = some (.int .u8 ((l.getD i 0 : Nat) : Int)) := by
  unfold Own at h
  simp [World.cell?, h, byc, hi]

theorem Own.free {w : World} {g : Nat} {l : List Nat} (h : Own w g l) (i : Nat) : w.frozen? ⟨g, i, none⟩ = false := by
  unfold Own at h
  simp [World.frozen?, h]

theorem Own.set {w : World} {g : Nat} {l : List Nat} (h : Own w g l) {i : Nat} (n : Nat) : Own (w.setCell ⟨g, i, none⟩ (.int .u8 (n : Int))) g (l.set i n) := by
  unfold Own at h ⊢
  have hg := (Array.getElem?_eq_some_iff.1 h).1
  simp only [World.setCell, Array.getElem?_modify, h]
  simp [List.map_set, byc]

theorem Own.kept {B : Nat} {w w' : World} {g : Nat} {l : List Nat} (h : Own w g l) (hb : Below B w w') (hg : g < B) : Own w' g l := (hb.block g hg).trans h

theorem Own.kept' {w w' : World} {g : Nat} {l : List Nat} (h : Own w g l) (hb : Below w.heap.size w w') : Own w' g l := h.kept hb h.lt

theorem Own.drew {w : World} {g : Nat} {l : List Nat} (h : Own w g l) : Own w.drew g l := h

theorem Own.lies {w : World} {g : Nat} {l : List Nat} (h : Own w g l) : Lies w (some ⟨g, 0, none⟩) l :=
  .inr ⟨g, 0, rfl, h.lt, fun i hi => by rw [Nat.zero_add]; exact h.cell hi⟩

theorem Own.liesAt {w : World} {g : Nat} {l : List Nat} (h : Own w g l) (o : Nat) : Lies w (some ⟨g, o, none⟩) (l.drop o) :=
  .inr ⟨g, o, rfl, h.lt, fun i hi => by
    rw [List.length_drop] at hi
    rw [h.cell (i := o + i) (by omega)]; simp [List.getElem?_drop]⟩

theorem made_bytes (n : Nat) : madeCells (Value.int .u8 0).cells n = ((List.replicate n 0).map byc).toArray := by
  apply Array.ext
  · simp [madeCells]
  · intro i h1 h2
    simp [madeCells, byc, Value.cells, Nat.mod_one]

theorem splice_bytes (l : List Nat) (n : Nat) : splice ((List.replicate (l.length + n) 0).map byc) 0 (l.map byc) = (l ++ List.replicate n 0).map byc := by
  simp [splice]

theorem byc_one (l : List Nat) : ∀ v ∈ l.map byc, v.oneCell' = true := by
  intro v hv
  obtain ⟨n, _, rfl⟩ := List.mem_map.1 hv
  rfl

theorem Lies.cells {w : World} {a : Option Addr} {l : List Nat} (h : Lies w a l) (h0 : 0 < l.length) : ∃ ad, a = some ad ∧ ∀ j v, (l.map byc)[j]? = some v → w.cell? (ad.add j) = some v := by
  rcases h with rfl | ⟨b, off, rfl, _, hc⟩
  · simp at h0
  · refine ⟨_, rfl, fun j v hj => ?_⟩
    have hlt : j < l.length := by
      have := (List.getElem?_eq_some_iff.1 hj).1
      simpa using this
    rw [Addr.add_lit, hc j hlt, ← hj]
    simp [byc, hlt]

theorem Lies.alloc {w : World} {a : Option Addr} {l : List Nat} (h : Lies w a l) (o : Obj) : Lies (w.alloc o) a l := by
  rcases h with rfl | ⟨b, off, rfl, hb, hc⟩
  · exact .inl rfl
  · exact .inr ⟨b, off, rfl, by simp; omega, fun i hi => (World.cell?_alloc_past _ _ _ hb).trans (hc i hi)⟩

theorem Lies.kept {w w' : World} {a : Option Addr} {l : List Nat} (h : Lies w a l) (hb : Below w.heap.size w w') : Lies w' a l := by
  rcases h with rfl | ⟨b, off, rfl, hlt, hc⟩
  · exact .inl rfl
  · exact .inr ⟨b, off, rfl, Nat.lt_of_lt_of_le hlt hb.size, fun i hi => (hb.cell (p := ⟨b, off + i, none⟩) hlt).trans (hc i hi)⟩

/-! ### The bytes of a number -/

/-- The bytes of a number, n of them, the highest first. -/
def highB (x n : Nat) : List Nat := (List.range n).map fun j => x / 2 ^ (8 * (n - 1 - j)) % 256

/-- Of these bytes the last k; ahead of them noughts. -/
def highK (x n k : Nat) : List Nat := (List.range n).map fun j => if n - k ≤ j then x / 2 ^ (8 * (n - 1 - j)) % 256 else 0

theorem highK_zero (x n : Nat) : highK x n 0 = List.replicate n 0 := by
  apply List.ext_getElem
  · simp [highK]
  · intro i h1 h2
    simp [highK] at h1 ⊢
    intro h; omega
theorem highK_all (x n : Nat) : highK x n n = highB x n := by simp [highK, highB]
theorem highK_succ (x n k : Nat) (hk : k < n) : highK x n (k + 1) = (highK x n k).set (n - 1 - k) (x / 2 ^ (8 * k) % 256) := by
  apply List.ext_getElem
  · simp [highK]
  · intro i h1 h2
    simp [highK] at h1
    rw [List.getElem_set]
    simp only [highK, List.getElem_map, List.getElem_range]
    by_cases h : n - 1 - k = i
    · subst h
      have e : n - 1 - (n - 1 - k) = k := by omega
      rw [if_pos (by omega), if_pos rfl, e]
    · rw [if_neg h]
      by_cases h3 : n - k ≤ i
      · rw [if_pos (by omega), if_pos h3]
      · rw [if_neg (by omega), if_neg h3]
theorem length_highK (x n k : Nat) : (highK x n k).length = n := by simp [highK]
theorem length_highB (x n : Nat) : (highB x n).length = n := by simp [highB]
theorem highB_bys (x n : Nat) : Bys (highB x n) := by
  intro m hm
  obtain ⟨j, _, rfl⟩ := List.mem_map.1 hm
  exact Nat.mod_lt _ (by omega)

theorem put_step (l : List Nat) (x n k : Nat) (hk : k < n) : (l ++ highK x n k).set (l.length + n - 1 - k) (x / 2 ^ (8 * k) % 256) = l ++ highK x n (k + 1) := by
  rw [highK_succ x n k hk, List.set_append_right _ _ (by omega)]
  congr 2
  omega

theorem put_world {w wr : World} {l : List Nat} {len n x k : Nat} (hOw : Own wr w.heap.size (l ++ highK x n k)) (hBw : Below w.heap.size w wr) (hl : l.length = len) (hlt : k < n) :
    Own (wr.setCell ⟨w.heap.size, len + n - 1 - k, none⟩ (.int .u8 ((x : Int) / 2 ^ (8 * k) % 256))) w.heap.size (l ++ highK x n (k + 1)) ∧
      Below w.heap.size w (wr.setCell ⟨w.heap.size, len + n - 1 - k, none⟩ (.int .u8 ((x : Int) / 2 ^ (8 * k) % 256))) := by
  have e : ((x : Int) / 2 ^ (8 * k) % 256) = ((x / 2 ^ (8 * k) % 256 : Nat) : Int) := by simp
  rw [e, ← put_step l x n k hlt, hl]
  exact ⟨hOw.set _, hBw.setCell (Nat.le_refl _) _⟩

theorem Tryz.info5 : (Tryz.prog.info? 5).map (fun i => (i.zero, i.size, i.bytes)) = some (some (.int .u8 0), 1, 1) := by kernel_rfl
theorem Tryz.size5 : (Tryz.prog.info? 5).map (·.size) = some 1 := by kernel_rfl

end Go.Proofs.YtikdgbmdepplgaaGreatDoor
namespace Go.Proofs.YtikdgbmdepplgaaGreatDoor
open Go.RowKit
set_option linter.unusedVariables false

/-- Where the rest begins when j of n bytes are off: Go does not point behind a row's end. -/
def spotR (n j : Nat) : Nat := if j = n then n - 1 else j

/-- What is still to come, as a value. -/
def restV (g n j : Nat) : Value := .slice (some ⟨g, spotR n j, none⟩) (n - j) (n - j)

/-- At block p a reader lies, of the row g that holds L; j bytes are off; its error is err. -/
structure Rd (w : World) (p g : Nat) (L : List Nat) (j : Nat) (err : Int) : Prop where
  own : Own w g L
  ne : g ≠ p
  le : j ≤ L.length
  cells : w.heap[p]? = some (.cells #[restV g L.length j, .int .i64 err] 154 (0, 0))

theorem Rd.cell0 {w : World} {p g j : Nat} {L : List Nat} {err : Int} (h : Rd w p g L j err) : w.cell? ⟨p, 0, none⟩ = some (restV g L.length j) := by
  have := h.cells; simp [World.cell?, this]
theorem Rd.cell1 {w : World} {p g j : Nat} {L : List Nat} {err : Int} (h : Rd w p g L j err) : w.cell? ⟨p, 1, none⟩ = some (.int .i64 err) := by
  have := h.cells; simp [World.cell?, this]
theorem Rd.free {w : World} {p g j : Nat} {L : List Nat} {err : Int} (h : Rd w p g L j err) (i : Nat) : w.frozen? ⟨p, i, none⟩ = false := by
  have := h.cells; simp [World.frozen?, this]
theorem Rd.lt {w : World} {p g j : Nat} {L : List Nat} {err : Int} (h : Rd w p g L j err) : p < w.heap.size := lt_of_block h.cells
theorem Rd.kept {w w' : World} {p g j : Nat} {L : List Nat} {err : Int} (h : Rd w p g L j err) (hp : w'.heap[p]? = w.heap[p]?) (hg : w'.heap[g]? = w.heap[g]?) : Rd w' p g L j err :=
  ⟨hg.trans h.own, h.ne, h.le, hp.trans h.cells⟩
theorem Rd.below {w w' : World} {p g j : Nat} {L : List Nat} {err : Int} (h : Rd w p g L j err) (hb : Below w.heap.size w w') : Rd w' p g L j err :=
  h.kept (hb.block p h.lt) (hb.block g h.own.lt)
theorem Rd.off {w : World} {p g j : Nat} {L : List Nat} {err : Int} (h : Rd w p g L j err) (hj : j < L.length) : Rd (w.setCell ⟨p, 0, none⟩ (restV g L.length (j + 1))) p g L (j + 1) err := by
  have hc := h.cells
  have hp := h.lt
  refine ⟨(Below.heap_setCell _ _ _ _ h.ne).trans h.own, h.ne, hj, ?_⟩
  simp [World.setCell, Array.getElem?_modify, hc]
theorem Rd.err {w : World} {p g j : Nat} {L : List Nat} {err : Int} (h : Rd w p g L j err) (e : Int) : Rd (w.setCell ⟨p, 1, none⟩ (.int .i64 e)) p g L j e := by
  have hc := h.cells
  have hp := h.lt
  refine ⟨(Below.heap_setCell _ _ _ _ h.ne).trans h.own, h.ne, h.le, ?_⟩
  simp [World.setCell, Array.getElem?_modify, hc]

set_option maxHeartbeats 800000 in
theorem read_any (a : Option Addr) (len cap : Nat) (l : List Nat) (w : World) (hl : l.length = len) (hlm : len ≤ 281474976710000) (hL : Lies w a l) :
    Calls Tryz.prog 94 #[.slice a len cap] w fun e w' =>
      ∃ p, e = .returned (.pointer (some ⟨p, 0, none⟩)) ∧ w.heap.size < p ∧ Rd w' p w.heap.size l 0 0 ∧ Below w.heap.size w w' := by
  obtain ⟨i0, hi, hz0, hz1, hz2⟩ := info_parts Tryz.info5
  have hmk := run_make (P := Tryz.prog) w 30 5 i0 (.int .u8 0) Tryz.underlying30 hi hz0 .i64 .i64 (len : Int) (len : Int) (by omega) (by omega) (by rw [hz2]; omega) (by omega)
  rw [hz1, show (len : Int).toNat = len from by omega, Nat.mul_one, made_bytes] at hmk
  have HN := Lib.hid hl
  clear hl hi hz0 hz1 hz2
  have hb1 : Below w.heap.size w (w.alloc (.cells ((List.replicate len 0).map byc).toArray 5)) := (Below.refl _ _).alloc (Nat.le_refl _) _
  generalize hZ : (List.replicate len 0).map byc = Z at *
  have HZ := Lib.hid hZ
  clear hZ
  obtain ⟨cs, hcs⟩ : ∃ cs, cs = l.map byc := ⟨_, rfl⟩
  have HC := Lib.hid hcs
  clear hcs
  go_enter Tryz.func94, Tryz.ntmps94
  go_wp2_with (with_reducible refine wpList_copy_splice rfl (.tmp 7) (.tmp 8) 30 30 rfl 5 Tryz.underlying30 Tryz.size5 (some ⟨w.heap.size, 0, none⟩) a len len len cap rfl rfl w.heap.size 0 Z 5 ?h1 cs ?h2 ?h3 ?h4 ?h5 w.heap.size w hb1 (Nat.le_refl _) ?_)
  case h1 => exact heap_alloc_new w _
  case h2 =>
    have e := HN.out
    rw [HC.out, List.length_map, e]
    exact (Nat.min_self _).symm
  case h3 =>
    intro h0
    rw [HC.out] at h0 ⊢
    have hq := (hL.alloc (.cells Z.toArray 5)).cells (by simpa using h0)
    first | exact hq | exact ⟨rfl, hq⟩
  case h4 =>
    have e := HN.out
    rw [HC.out, ← HZ.out]; simp; omega
  case h5 => rw [HC.out]; exact byc_one l
  intro w2 HG2 hB2
  have hOwn : Own w2 w.heap.size l := by
    have e := HG2.out
    have eN := HN.out
    subst eN
    rw [HC.out, ← HZ.out] at e
    have e3 := splice_bytes l 0
    simp only [Nat.add_zero, List.replicate_zero, List.append_nil] at e3
    rw [e3] at e
    exact e
  clear HG2
  go_wp2
  go_ret
  refine ⟨w2.heap.size, rfl, hOwn.lt, ⟨?_, ?_, Nat.zero_le _, ?_⟩, hB2.alloc hB2.size _⟩
  · exact (Below.heap_alloc _ _ _ hOwn.lt).trans hOwn
  · have := hOwn.lt; omega
  · rw [heap_alloc_new]
    have eN := HN.out
    have e0 : spotR len 0 = 0 := by unfold spotR; split <;> omega
    simp only [restV, eN, e0, Nat.sub_zero]

set_option maxHeartbeats 400000 in
theorem err_any {p g j : Nat} {L : List Nat} {err : Int} {w : World} (h : Rd w p g L j err) :
    Calls Tryz.prog 98 #[.pointer (some ⟨p, 0, none⟩)] w fun e w' => e = .returned (.int .i64 err) ∧ w = w' := by
  have h1 := h.cell1
  go_enter Tryz.func98, Tryz.ntmps98
  go_wp2
  go_ret
  exact ⟨rfl, rfl⟩
set_option maxHeartbeats 400000 in
theorem err_nil (w : World) : Calls Tryz.prog 98 #[.pointer none] w fun e w' => e = .returned (.int .i64 1) ∧ w = w' := by
  go_enter Tryz.func98, Tryz.ntmps98
  go_wp2
  go_ret
  exact ⟨rfl, rfl⟩
set_option maxHeartbeats 400000 in
theorem left_any {p g j : Nat} {L : List Nat} {err : Int} {w : World} (h : Rd w p g L j err) :
    Calls Tryz.prog 99 #[.pointer (some ⟨p, 0, none⟩)] w fun e w' => e = .returned (.int .i64 ((L.length - j : Nat) : Int)) ∧ w = w' := by
  have h0 := h.cell0
  unfold restV at h0
  generalize hn : L.length - j = n at *
  have HN := Lib.hid hn
  clear hn
  go_enter Tryz.func99, Tryz.ntmps99
  go_wp2
  go_ret
  exact ⟨rfl, rfl⟩
set_option maxHeartbeats 400000 in
theorem left_nil (w : World) : Calls Tryz.prog 99 #[.pointer none] w fun e w' => e = .returned (.int .i64 0) ∧ w = w' := by
  go_enter Tryz.func99, Tryz.ntmps99
  go_wp2
  go_ret
  exact ⟨rfl, rfl⟩

set_option maxHeartbeats 800000 in
theorem next_any {p g j : Nat} {L : List Nat} {err : Int} {w : World} (h : Rd w p g L j err) (hj : j < L.length) :
    Calls Tryz.prog 106 #[.pointer (some ⟨p, 0, none⟩)] w fun e w' => e = .returned (.int .u8 ((L.getD j 0 : Nat) : Int)) ∧ w.setCell ⟨p, 0, none⟩ (restV g L.length (j + 1)) = w' := by
  have h0 := h.cell0
  have hf := h.free 0
  have hc := h.own.cell hj
  have es : spotR L.length j = j := by unfold spotR; rw [if_neg (by omega)]
  unfold restV at h0 ⊢
  rw [es] at h0
  generalize L.getD j 0 = x at *
  clear h
  by_cases hone : L.length - j = 1
  all_goals
    go_enter Tryz.func106, Tryz.ntmps106
    go_wp2
    go_ret
    refine ⟨rfl, ?_⟩
    congr 1
    unfold spotR
  · rw [if_pos (by omega), show L.length - (j + 1) = 0 from by omega, show L.length - 1 = j from by omega]
  · rw [if_neg (by omega), Nat.sub_sub]
end Go.Proofs.YtikdgbmdepplgaaGreatDoor
namespace Go.Proofs.YtikdgbmdepplgaaGreatDoor
open Go.RowKit
set_option linter.unusedVariables false

/-- The number that bytes make, the highest first, on top of what was there, by its lowest 64 bits. -/
def pile (v : Nat) (l : List Nat) : Nat := l.foldl (fun v b => v * 256 % 18446744073709551616 + b) v

theorem or_low (v b : Nat) (hb : b < 256) : v * 256 % 18446744073709551616 ||| b = v * 256 % 18446744073709551616 + b :=
  nat_join 8 _ _ (by omega) hb

set_option maxHeartbeats 400000 in
theorem tell_num {x v b : Nat} {w : World} (hx : w.heap[x]? = some (.cells #[.int .u64 (v : Int)] 119 (0, 0))) (hv : v ≤ 18446744073709551615) (hb : b < 256) :
    Calls Tryz.prog 105 #[.int .u8 (b : Int), .pointer (some ⟨x, 0, none⟩)] w fun e w' => e = .returned (.tuple #[]) ∧ w.setCell ⟨x, 0, none⟩ (.int .u64 ((v * 256 % 18446744073709551616 + b : Nat) : Int)) = w' := by
  have h0 := cell_of_one hx
  have hf := free_of_one hx
  have e := u64_or_nat (v * 256 % 18446744073709551616) b (by omega) (by omega)
  rw [or_low v b hb, ← show IntKind.u64.wrap ((v : Int) * 256) = ((v * 256 % 18446744073709551616 : Nat) : Int) from by rw [IntKind.wrap_u64]; omega] at e
  have HE := Lib.hid e
  clear e hx
  go_enter Tryz.func105, Tryz.ntmps105
  go_wp2
  rw [HE.out]
  go_end0
  exact ⟨rfl, rfl⟩

/-- Two worlds that differ at blocks p and x at most. -/
structure Two (p x : Nat) (w w' : World) : Prop where
  os : w'.os = w.os
  tape : w'.tape = w.tape
  output : w'.output = w.output
  size : w'.heap.size = w.heap.size
  block : ∀ k, k ≠ p → k ≠ x → w'.heap[k]? = w.heap[k]?

theorem Two.refl (p x : Nat) (w : World) : Two p x w w := ⟨rfl, rfl, rfl, rfl, fun _ _ _ => rfl⟩
theorem Two.trans {p x : Nat} {a b c : World} (h : Two p x a b) (k : Two p x b c) : Two p x a c :=
  ⟨k.os.trans h.os, k.tape.trans h.tape, k.output.trans h.output, k.size.trans h.size, fun i h1 h2 => (k.block i h1 h2).trans (h.block i h1 h2)⟩
theorem Two.setCell {p x : Nat} {a b : World} (h : Two p x a b) {q : Addr} (hq : q.block = p ∨ q.block = x) (v : Value) : Two p x a (b.setCell q v) :=
  h.trans ⟨rfl, rfl, rfl, by simp [World.setCell], fun k h1 h2 => Below.heap_setCell _ _ _ _ (by rcases hq with rfl | rfl <;> assumption)⟩

/-- What taking n bytes off leaves: where the reader stands, and its error. -/
def offTo (len j : Nat) (err n : Int) : Nat × Int :=
  if err ≠ 0 then (j, err) else if n < 0 then (j, 2) else if ((len - j : Nat) : Int) < n then (j, 7) else (j + n.toNat, 0)

/-- What comes off. -/
def came (L : List Nat) (j : Nat) (err n : Int) : List Nat :=
  if err ≠ 0 then [] else if n < 0 then [] else if ((L.length - j : Nat) : Int) < n then [] else (L.drop j).take n.toNat

theorem pile_snoc (v : Nat) (l : List Nat) (b : Nat) : pile v (l ++ [b]) = pile v l * 256 % 18446744073709551616 + b := by simp [pile]
theorem pile_le (v : Nat) (l : List Nat) (hl : Bys l) (hv : v ≤ 18446744073709551615) : pile v l ≤ 18446744073709551615 := by
  induction l generalizing v with
  | nil => exact hv
  | cons b l ih =>
    have hb : b < 256 := hl b (by simp)
    exact ih _ (fun n hn => hl n (by simp [hn])) (by show v * 256 % 18446744073709551616 + b ≤ 18446744073709551615; omega)
theorem take_more (L : List Nat) (j k : Nat) (h : j + k < L.length) : (L.drop j).take (k + 1) = (L.drop j).take k ++ [L.getD (j + k) 0] := by
  rw [List.take_add_one]
  simp [List.getElem?_drop, h]

theorem take_world {p g x j k v : Nat} {L : List Nat} {w wr : World} (hR : Rd wr p g L (j + k) 0)
    (hX2 : (wr.setCell ⟨p, 0, none⟩ (restV g L.length (j + k + 1))).heap[x]? = some (.cells #[.int .u64 (v : Int)] 119 (0, 0))) (hT : Two p x w wr) (hxg : x ≠ g)
    (hM : (L.drop j).take (k + 1) = (L.drop j).take k ++ [L.getD (j + k) 0]) (hP : pile 0 ((L.drop j).take k) = v) (hlt : j + k < L.length) (hxp : x ≠ p := by assumption) :
    Rd ((wr.setCell ⟨p, 0, none⟩ (restV g L.length (j + k + 1))).setCell ⟨x, 0, none⟩ (.int .u64 ((v * 256 % 18446744073709551616 + L.getD (j + k) 0 : Nat) : Int))) p g L (j + (k + 1)) 0 ∧
    ((wr.setCell ⟨p, 0, none⟩ (restV g L.length (j + k + 1))).setCell ⟨x, 0, none⟩ (.int .u64 ((v * 256 % 18446744073709551616 + L.getD (j + k) 0 : Nat) : Int))).heap[x]? = some (.cells #[.int .u64 ((pile 0 ((L.drop j).take (k + 1)) : Nat) : Int)] 119 (0, 0)) ∧
    Two p x w ((wr.setCell ⟨p, 0, none⟩ (restV g L.length (j + k + 1))).setCell ⟨x, 0, none⟩ (.int .u64 ((v * 256 % 18446744073709551616 + L.getD (j + k) 0 : Nat) : Int))) := by
  have h1 := hR.off hlt
  refine ⟨?_, ?_, (hT.setCell (.inl rfl) _).setCell (.inr rfl) _⟩
  · exact h1.kept (Below.heap_setCell _ _ _ _ (Ne.symm hxp)) (Below.heap_setCell _ _ _ _ (Ne.symm hxg))
  · rw [hM, pile_snoc, hP]
    exact one_setCell hX2

set_option maxHeartbeats 1600000 in
theorem take_num {p g j x : Nat} {L : List Nat} {n : Int} {w : World} (h : Rd w p g L j 0) (hB : Bys L) (hx : w.heap[x]? = some (.cells #[.int .u64 0] 119 (0, 0))) (hxp : x ≠ p) (hxg : x ≠ g)
    (h0 : 0 ≤ n) (hn : n ≤ ((L.length - j : Nat) : Int)) (hlm : L.length ≤ 281474976710000) :
    Calls Tryz.prog 103 #[.pointer (some ⟨p, 0, none⟩), .int .i64 n, .func (.func 105) #[] #[.pointer (some ⟨x, 0, none⟩)]] w fun e w' =>
      e = .returned (.tuple #[]) ∧ Rd w' p g L (j + n.toNat) 0 ∧ w'.heap[x]? = some (.cells #[.int .u64 ((pile 0 ((L.drop j).take n.toNat) : Nat) : Int)] 119 (0, 0)) ∧ Two p x w w' := by
  obtain ⟨n, rfl⟩ := Int.eq_ofNat_of_zero_le h0
  have hle := h.le
  have hlt : decide (((L.length - j : Nat) : Int) < (n : Int)) = false := by simp; omega
  have hlt2 : decide (L.length - j < n) = false := by simp; omega
  have hlt3 : decide ((n : Int) < 0) = false := by simp
  go_enter Tryz.func103, Tryz.ntmps103
  go_wp2_with (first | (go_at_call 98; refine (err_any h).mono ?_; rintro e w' ⟨rfl, rfl⟩) | (go_at_call 99; refine (left_any h).mono ?_; rintro e w' ⟨rfl, rfl⟩))
  go_loopw [10] (fun i wr => ∃ k : Nat, k ≤ n ∧ i = .int .i64 k ∧ Rd wr p g L (j + k) 0 ∧ wr.heap[x]? = some (.cells #[.int .u64 ((pile 0 ((L.drop j).take k) : Nat) : Int)] 119 (0, 0)) ∧ Two p x w wr) (fun i _ => n - (intOf i).toNat)
  case atStart => exact ⟨0, Nat.zero_le _, rfl, h, by simpa [pile] using hx, Two.refl _ _ _⟩
  case round =>
    obtain ⟨k, hk, rfl, hR, hX, hT⟩ := hrel
    clear h hx
    by_cases hk2 : k < n
    · have hv := pile_le 0 ((L.drop j).take k) (fun m hm => hB m (List.mem_of_mem_drop (List.mem_of_mem_take hm))) (by omega)
      have HM := Lib.hid (take_more L j k (by omega))
      generalize hgp : pile 0 ((L.drop j).take k) = v at *
      have HP := Lib.hid hgp
      clear hgp
      have hX2 : (wr.setCell ⟨p, 0, none⟩ (restV g L.length (j + k + 1))).heap[x]? = some (.cells #[.int .u64 (v : Int)] 119 (0, 0)) := (Below.heap_setCell _ _ _ _ hxp).trans hX
      go_wp2_with (first | (go_at_call 106; refine (next_any hR (by omega)).mono ?_; rintro e w' ⟨rfl, rfl⟩) | (go_at_call 105; refine (tell_num hX2 hv (hB.at _)).mono ?_; rintro e w' ⟨rfl, rfl⟩))
      have R := take_world hR hX2 hT hxg HM.out HP.out (by omega)
      clear hR hX hT hX2
      go_roundw
      case rel => first | exact ⟨k + 1, by omega, by go_num, R.1, R.2.1, R.2.2⟩ | ((repeat apply Exists.intro); exact ⟨⟨k + 1, by omega, by go_num, R.1, R.2.1, R.2.2⟩, rfl⟩)
      case measure => simp [intOf]; omega
    · obtain rfl : k = n := by omega
      go_wp2
      go_end0
      exact ⟨rfl, hR, hX, hT⟩

/-- Who is out of step takes nothing off. -/
theorem take_err {p g j : Nat} {L : List Nat} {err n : Int} {f : Value} {w : World} (h : Rd w p g L j err) (he : err ≠ 0) :
    Calls Tryz.prog 103 #[.pointer (some ⟨p, 0, none⟩), .int .i64 n, f] w fun e w' => e = .returned (.tuple #[]) ∧ w = w' := by
  have he2 : (err != 0) = true := by simpa using he
  have he3 : (err == 0) = false := by simpa using he
  go_enter Tryz.func103, Tryz.ntmps103
  go_wp2_with (go_at_call 98; refine (err_any h).mono ?_; rintro e w' ⟨rfl, rfl⟩)
  refine bodyPost_ret (results_none rfl _ _ _) rfl ?_
  exact ⟨rfl, rfl⟩
theorem take_nil {n : Int} {f : Value} {w : World} :
    Calls Tryz.prog 103 #[.pointer none, .int .i64 n, f] w fun e w' => e = .returned (.tuple #[]) ∧ w = w' := by
  go_enter Tryz.func103, Tryz.ntmps103
  go_wp2_with (go_at_call 98; refine (err_nil _).mono ?_; rintro e w' ⟨rfl, rfl⟩)
  refine bodyPost_ret (results_none rfl _ _ _) rfl ?_
  exact ⟨rfl, rfl⟩
theorem take_neg {p g j : Nat} {L : List Nat} {n : Int} {f : Value} {w : World} (h : Rd w p g L j 0) (hn : n < 0) :
    Calls Tryz.prog 103 #[.pointer (some ⟨p, 0, none⟩), .int .i64 n, f] w fun e w' => e = .returned (.tuple #[]) ∧ w.setCell ⟨p, 1, none⟩ (.int .i64 2) = w' := by
  have hc := h.cell1
  have hf := h.free 1
  have hn2 : decide (n < 0) = true := by simpa using hn
  go_enter Tryz.func103, Tryz.ntmps103
  go_wp2_with (go_at_call 98; refine (err_any h).mono ?_; rintro e w' ⟨rfl, rfl⟩)
  go_end0
  exact ⟨rfl, rfl⟩
theorem take_short {p g j : Nat} {L : List Nat} {n : Int} {f : Value} {w : World} (h : Rd w p g L j 0) (hn0 : 0 ≤ n) (hn : ((L.length - j : Nat) : Int) < n) :
    Calls Tryz.prog 103 #[.pointer (some ⟨p, 0, none⟩), .int .i64 n, f] w fun e w' => e = .returned (.tuple #[]) ∧ w.setCell ⟨p, 1, none⟩ (.int .i64 7) = w' := by
  have hc := h.cell1
  have hf := h.free 1
  have hn2 : decide (n < 0) = false := by simpa using hn0
  have hn3 : decide (((L.length - j : Nat) : Int) < n) = true := by simpa using hn
  go_enter Tryz.func103, Tryz.ntmps103
  go_wp2_with (first | (go_at_call 98; refine (err_any h).mono ?_; rintro e w' ⟨rfl, rfl⟩) | (go_at_call 99; refine (left_any h).mono ?_; rintro e w' ⟨rfl, rfl⟩))
  go_end0
  exact ⟨rfl, rfl⟩

/-! ### number, and the numbers of 8 to 64 bits -/

theorem Two.grown {p x : Nat} {w w1 w' : World} (hA : w.grownBy w1 none) (h : Two p x w1 w') (hx : w.heap.size ≤ x) : w.grownBy w' (some p) :=
  ⟨h.os.trans hA.os, h.tape.trans hA.tape, h.output.trans hA.output, by have := hA.size; have := h.size; omega,
    fun k hk hp => (h.block k (fun e => hp (by rw [e])) (Nat.ne_of_lt (Nat.lt_of_lt_of_le hk hx))).trans (hA.block k hk (by simp))⟩

theorem grown_set {w w1 : World} {p : Nat} (hA : w.grownBy w1 none) (i : Nat) (v : Value) : w.grownBy (w1.setCell ⟨p, i, none⟩ v) (some p) :=
  ⟨hA.os, hA.tape, hA.output, by have := hA.size; simpa [World.setCell] using this,
    fun k hk hp => (Below.heap_setCell _ _ _ _ (fun e => hp (by rw [e]))).trans (hA.block k hk (by simp))⟩

/-- The reader behind a call that took off, or was to take off, n bytes. -/
def Aft (w w' : World) (p g : Nat) (L : List Nat) (j : Nat) (err n : Int) : Prop :=
  Rd w' p g L (offTo L.length j err n).1 (offTo L.length j err n).2 ∧ w.grownBy w' (some p)

set_option maxHeartbeats 800000 in
theorem number_any {p g j : Nat} {L : List Nat} {err n : Int} {w : World} (h : Rd w p g L j err) (hB : Bys L) (hlm : L.length ≤ 281474976710000) :
    Calls Tryz.prog 102 #[.pointer (some ⟨p, 0, none⟩), .int .i64 n] w fun e w' =>
      e = .returned (.int .u64 ((pile 0 (came L j err n) : Nat) : Int)) ∧ Aft w w' p g L j err n := by
  have hmf : ∀ (fn : Fn) (first cap : Array Value) (w : World), (Instr.makeFunc fn first cap).run Tryz.prog w = .ok (.func fn first cap) w := fun _ _ _ _ => rfl
  have hb : Below w.heap.size w (w.alloc (.cells #[.int .u64 0] 119)) := (Below.refl _ _).alloc (Nat.le_refl _) _
  have h1 : Rd (w.alloc (.cells #[.int .u64 0] 119)) p g L j err := h.below hb
  have hx : (w.alloc (.cells #[.int .u64 0] 119)).heap[w.heap.size]? = some (.cells #[.int .u64 0] 119 (0, 0)) := heap_alloc_new w _
  have hG : w.grownBy (w.alloc (.cells #[.int .u64 0] 119)) none := World.grownBy_alloc _ _ _
  have hp := h.lt
  have hg := h.own.lt
  have hxc := cell_of_one hx
  have hxc2 : ∀ i v, ((w.alloc (.cells #[.int .u64 0] 119)).setCell ⟨p, i, none⟩ v).cell? ⟨w.heap.size, 0, none⟩ = some (.int .u64 0) := fun i v =>
    (World.cell?_setCell_other _ _ _ _ (by intro e; have := congrArg Addr.block e; simp at this; omega)).trans hxc
  by_cases he : err = 0
  · subst he
    by_cases hn : n < 0
    · have e1 : came L j 0 n = [] := by simp [came, hn]
      have e2 : offTo L.length j 0 n = (j, 2) := by simp [offTo, hn]
      unfold Aft
      rw [e1, e2]
      go_enter Tryz.func102, Tryz.ntmps102
      go_wp2_with (go_at_call 103; refine (take_neg h1 hn).mono ?_; rintro e w' ⟨rfl, rfl⟩)
      go_ret
      rw [← World.setCell_alloc_past _ _ _ _ hp]
      exact ⟨rfl, h1.err 2, grown_set hG _ _⟩
    · by_cases hs : ((L.length - j : Nat) : Int) < n
      · have e1 : came L j 0 n = [] := by simp [came, hn, hs]
        have e2 : offTo L.length j 0 n = (j, 7) := by simp [offTo, hn, hs]
        unfold Aft
        rw [e1, e2]
        go_enter Tryz.func102, Tryz.ntmps102
        go_wp2_with (go_at_call 103; refine (take_short h1 (by omega) hs).mono ?_; rintro e w' ⟨rfl, rfl⟩)
        go_ret
        rw [← World.setCell_alloc_past _ _ _ _ hp]
        exact ⟨rfl, h1.err 7, grown_set hG _ _⟩
      · have e1 : came L j 0 n = (L.drop j).take n.toNat := by simp [came, hn, hs]
        have e2 : offTo L.length j 0 n = (j + n.toNat, 0) := by simp [offTo, hn, hs]
        unfold Aft
        rw [e1, e2]
        generalize hv : pile 0 ((L.drop j).take n.toNat) = v
        have HV := Lib.hid hv
        clear hv e1 e2
        go_enter Tryz.func102, Tryz.ntmps102
        go_wp2_with (go_at_call 103; refine (take_num h1 hB hx (by omega) (by omega) (by omega) (by omega) hlm).mono ?_; rintro e w1 ⟨rfl, hR, hX, hT⟩; rw [HV.out] at hX; have hXc := cell_of_one hX; have HX := Lib.hid hX; clear hX)
        go_ret
        exact ⟨rfl, hR, hT.grown hG (Nat.le_refl _)⟩
  · have e1 : came L j err n = [] := by simp [came, he]
    have e2 : offTo L.length j err n = (j, err) := by simp [offTo, he]
    unfold Aft
    rw [e1, e2]
    go_enter Tryz.func102, Tryz.ntmps102
    go_wp2_with (go_at_call 103; refine (take_err h1 he).mono ?_; rintro e w' ⟨rfl, rfl⟩)
    go_ret
    exact ⟨rfl, h1, World.grownBy_alloc _ _ _⟩

theorem number_nil {n : Int} {w : World} :
    Calls Tryz.prog 102 #[.pointer none, .int .i64 n] w fun e w' => e = .returned (.int .u64 0) ∧ Below w.heap.size w w' := by
  have hmf : ∀ (fn : Fn) (first cap : Array Value) (w : World), (Instr.makeFunc fn first cap).run Tryz.prog w = .ok (.func fn first cap) w := fun _ _ _ _ => rfl
  go_enter Tryz.func102, Tryz.ntmps102
  go_wp2_with (go_at_call 103; refine (take_nil).mono ?_; rintro e w' ⟨rfl, rfl⟩)
  go_ret
  exact ⟨rfl, (Below.refl _ _).alloc (Nat.le_refl _) _⟩

set_option maxHeartbeats 400000 in
theorem u8_any {p g j : Nat} {L : List Nat} {err : Int} {w : World} (h : Rd w p g L j err) (hB : Bys L) (hlm : L.length ≤ 281474976710000) :
    Calls Tryz.prog 95 #[.pointer (some ⟨p, 0, none⟩)] w fun e w' =>
      e = .returned (.int .u8 ((pile 0 (came L j err 1) % 256 : Nat) : Int)) ∧ Aft w w' p g L j err 1 := by
  go_enter Tryz.func95, Tryz.ntmps95
  go_wp2_with (go_at_call 102; refine (number_any h hB hlm).mono ?_; rintro e w' ⟨rfl, hA⟩)
  go_ret
  refine ⟨?_, hA⟩
  simp
theorem u8_nil {w : World} :
    Calls Tryz.prog 95 #[.pointer none] w fun e w' => e = .returned (.int .u8 0) ∧ Below w.heap.size w w' := by
  go_enter Tryz.func95, Tryz.ntmps95
  go_wp2_with (go_at_call 102; refine (number_nil).mono ?_; rintro e w' ⟨rfl, hA⟩)
  go_ret
  exact ⟨rfl, hA⟩

end Go.Proofs.YtikdgbmdepplgaaGreatDoor
namespace Go.Proofs.YtikdgbmdepplgaaGreatDoor
open Go.RowKit
set_option linter.unusedVariables false

theorem Aft.rd {w w' : World} {p g : Nat} {L : List Nat} {j j' : Nat} {err err' n : Int} (h : Aft w w' p g L j err n) (e : offTo L.length j err n = (j', err')) : Rd w' p g L j' err' := by
  have := h.1
  rw [e] at this
  exact this
theorem Aft.below {w0 w w' : World} {p g : Nat} {L : List Nat} {j : Nat} {err n : Int} {B : Nat} (h : Aft w w' p g L j err n) (hb : Below B w0 w) (hB : B ≤ w.heap.size) (hp : B ≤ p) : Below B w0 w' :=
  hb.grown h.2 hB (fun k hk => by cases hk; exact hp)

theorem bys3 : Bys [5, 0, 1] := by intro n hn; simp at hn; omega
theorem bys10 : Bys [1, 0] := by intro n hn; simp at hn; omega

end Go.Proofs.YtikdgbmdepplgaaGreatDoor
namespace Go.Proofs.YtikdgbmdepplgaaGreatDoor
open Go.RowKit
set_option linter.unusedVariables false

/-- WHAT THE WALK IS TOLD OF A SLICE OF INTEGERS THAT CAME IN: it is nil; or it leads to a row of 'cap' cells, the numbers 'zs' (the first 'len' are its elements, the rest its spare room), each fitting its kind. -/
def IsRow (k : IntKind) (w : World) (a : Option Addr) (len cap : Nat) (zs : List Int) : Prop :=
  (a = none ∧ len = 0 ∧ cap = 0 ∧ zs = []) ∨
  ∃ x, a = some x ∧ len ≤ cap ∧ cap ≤ maxLen ∧ zs.length = cap ∧ (∀ i, i < zs.length → w.cell? (x.add i) = some (.int k (zs.getD i 0))) ∧ ∀ n ∈ zs, (Lit.int k n).wf = true

/-- Numbers that lie at an address, of one kind. -/
def Nums (k : IntKind) (w : World) (a : Option Addr) (zs : List Int) : Prop :=
  zs = [] ∨ ∃ b off, a = some ⟨b, off, none⟩ ∧ b < w.heap.size ∧ ∀ i, i < zs.length → w.cell? ⟨b, off + i, none⟩ = some (.int k (zs.getD i 0))

theorem Nums.kept {k : IntKind} {w w' : World} {a : Option Addr} {zs : List Int} (h : Nums k w a zs) (hb : Below w.heap.size w w') : Nums k w' a zs := by
  rcases h with rfl | ⟨b, off, rfl, hlt, hc⟩
  · exact .inl rfl
  · exact .inr ⟨b, off, rfl, Nat.lt_of_lt_of_le hlt hb.size, fun i hi => (hb.cell (p := ⟨b, off + i, none⟩) hlt).trans (hc i hi)⟩

theorem IsRow.nums {k : IntKind} {w : World} {a : Option Addr} {len cap : Nat} {zs : List Int} (h : IsRow k w a len cap zs) :
    ∃ ys : List Int, ys.length = len ∧ len ≤ 9223372036854775807 ∧ Nums k w a ys ∧ ∀ n ∈ ys, (Lit.int k n).wf = true := by
  rcases h with ⟨rfl, rfl, rfl, rfl⟩ | ⟨x, rfl, hl, hm, hz, hc, hw⟩
  · exact ⟨[], rfl, by omega, .inl rfl, by simp⟩
  · refine ⟨zs.take len, by simp; omega, by unfold maxLen at hm; omega, ?_, fun n hn => hw n (List.mem_of_mem_take hn)⟩
    by_cases h0 : len = 0
    · subst h0; exact .inl (by simp)
    · have hc0 := hc 0 (by omega)
      obtain ⟨b, off, spot⟩ := x
      have hspot : spot = none := by simpa [Addr.add] using World.cell?_spot hc0
      subst hspot
      have hlt := World.block_lt_of_cell? w _ hc0
      refine .inr ⟨b, off, rfl, hlt, fun i hi => ?_⟩
      have hi2 : i < len := by simpa using (Nat.lt_of_lt_of_le hi (List.length_take_le _ _))
      have := hc i (by omega)
      rw [Addr.add_lit] at this
      rw [this]
      simp [hi2]

theorem IsRow.bytes {w : World} {a : Option Addr} {len cap : Nat} {zs : List Int} (h : IsRow .u8 w a len cap zs) :
    ∃ l : List Nat, l.length = len ∧ len ≤ 9223372036854775807 ∧ Lies w a l ∧ Bys l := by
  obtain ⟨ys, hl, hm, hN, hw⟩ := h.nums
  have hr : ∀ n ∈ ys, 0 ≤ n ∧ n ≤ 255 := fun n hn => bounds_u8 (hw n hn)
  refine ⟨ys.map Int.toNat, by simpa using hl, hm, ?_, ?_⟩
  · rcases hN with rfl | ⟨b, off, rfl, hlt, hc⟩
    · exact .inl rfl
    · refine .inr ⟨b, off, rfl, hlt, fun i hi => ?_⟩
      have hi2 : i < ys.length := by simpa using hi
      have hb := hr _ (List.getElem_mem hi2)
      rw [hc i hi2]
      simp [hi2]
      omega
  · intro n hn
    obtain ⟨m, hm, rfl⟩ := List.mem_map.1 hn
    have := hr m hm
    omega
end Go.Proofs.YtikdgbmdepplgaaGreatDoor
namespace Go.Proofs.YtikdgbmdepplgaaGreatDoor
open Go.RowKit
set_option linter.unusedVariables false

/-- What 'Both' has made when k bytes are laid. -/
def bothK (l m : List Nat) (k : Nat) : List Nat := (l ++ m).take k ++ List.replicate (l.length + m.length - k) 0

theorem bothK_zero (l m : List Nat) : bothK l m 0 = List.replicate (l.length + m.length) 0 := by simp [bothK]
theorem bothK_all (l m : List Nat) : bothK l m (l.length + m.length) = l ++ m := by
  rw [bothK, List.take_of_length_le (by simp)]; simp
theorem length_bothK (l m : List Nat) (k : Nat) (h : k ≤ l.length + m.length) : (bothK l m k).length = l.length + m.length := by
  simp [bothK]; omega
theorem bothK_succ (l m : List Nat) (k : Nat) (h : k < l.length + m.length) : bothK l m (k + 1) = (bothK l m k).set k ((l ++ m).getD k 0) := by
  have hk : k < (l ++ m).length := by simpa using h
  unfold bothK
  have e : l.length + m.length - k = (l.length + m.length - (k + 1)) + 1 := by omega
  rw [e, List.replicate_succ, List.take_add_one, List.getElem?_eq_getElem hk]
  have hl : ((l ++ m).take k).length = k := by simp at hk ⊢; omega
  rw [List.set_append_right _ _ (by omega), hl, Nat.sub_self, List.set_cons_zero, List.getD_eq_getElem?_getD, List.getElem?_eq_getElem hk]
  simp only [Option.toList_some, Option.getD_some, List.append_assoc, List.singleton_append]

theorem both_world {w wr : World} {l m : List Nat} {k v : Nat} (hOw : Own wr w.heap.size (bothK l m k)) (hBw : Below w.heap.size w wr) (hlt : k < l.length + m.length) (hv : (l ++ m).getD k 0 = v) :
    Own (wr.setCell ⟨w.heap.size, k, none⟩ (.int .u8 (v : Int))) w.heap.size (bothK l m (k + 1)) ∧ Below w.heap.size w (wr.setCell ⟨w.heap.size, k, none⟩ (.int .u8 (v : Int))) := by
  rw [bothK_succ l m k hlt, hv]
  exact ⟨hOw.set _, hBw.setCell (Nat.le_refl _) _⟩

/-- Draws alone. -/
def Drawn (w w' : World) : Prop := ∃ n, w' = w.drewN n
theorem Drawn.below {w w' : World} (h : Drawn w w') (B : Nat) : Below B w w' := by
  obtain ⟨n, rfl⟩ := h
  exact ⟨rfl, rfl, rfl, Nat.le_refl _, fun _ _ => rfl⟩

theorem same_all (l m : List Nat) (h : l.length = m.length) (ha : ∀ j, j < l.length → l.getD j 0 = m.getD j 0) : (l == m) = true := by
  rw [beq_iff_eq]
  apply List.ext_getElem h
  intro j h1 h2
  have := ha j h1
  simpa [h1, h2] using this
theorem same_not (l m : List Nat) (k : Nat) (ha : l.getD k 0 ≠ m.getD k 0) : (l == m) = false := by
  rw [beq_eq_false_iff_ne]
  rintro rfl
  exact ha rfl
theorem same_len (l m : List Nat) (h : l.length ≠ m.length) : (l == m) = false := by
  rw [beq_eq_false_iff_ne]
  rintro rfl
  exact h rfl

end Go.Proofs.YtikdgbmdepplgaaGreatDoor
