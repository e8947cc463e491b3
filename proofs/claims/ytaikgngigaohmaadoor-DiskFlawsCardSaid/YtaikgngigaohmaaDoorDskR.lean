/-
  What the cells of a deed hold, of a deed that is data; and of a row of deeds. Nothing here is a statement of the document.
-/
import Derived.Test.YtaikgngigaohmaaDoorDskX
import Derived.Deep.Slices
import Derived.WalkKit
import Derived.ProofKit
import Derived.OpenShut
import Derived.ShutString
import Derived.ChangeOld
import Derived.Below
import Derived.DataShut
namespace Go.Proofs.YtaikgngigaohmaaDoor
open Go.ChangeShapes Go.WideShapes Go.ChangeAt Go.RowKit
set_option linter.unusedVariables false

theorem cells_int : Tryd.prog.cellsOf 3 = 1 := by kernel_rfl
theorem cells_u8 : Tryd.prog.cellsOf 5 = 1 := by kernel_rfl
theorem cells_bool : Tryd.prog.cellsOf 4 = 1 := by kernel_rfl
theorem cells_bools : Tryd.prog.cellsOf 23 = 1 := by kernel_rfl
def truthOf : Option Value → Bool
  | some (.bool b) => b
  | _ => false

theorem deed_cells {H : Type} {enc : TypeId × Value → H} {W : World} {sp : Nat → Bool} {held : Bool} {fuel : Nat} {cs : List Value} {y : DataW H × List MemPlace} (hC : cs.length = 5) (h : DataW.trod enc Tryd.prog W 0 sp held fuel 37 cs = some y) :
    ∃ (x : Deed) (ks : List Bool), cs = x.cs.toList ∧ Truths W x.ad ks ∧ ks.length = x.len ∧ x.len ≤ x.cap ∧ x.cap ≤ maxLen ∧ (Lit.int .i64 x.sector).wf = true ∧ x.num ≤ 9223372036854775807 := by
  obtain ⟨x0, x1, x2, x3, x4, rfl⟩ : ∃ x0 x1 x2 x3 x4, cs = [x0, x1, x2, x3, x4] := by
    match cs, hC with
    | [a, b, c, d, e], _ => exact ⟨a, b, c, d, e, rfl⟩
  obtain ⟨xs, m, _, hx, _, hlen, hg⟩ := DataW.trod_struct Tryd.underlying37 h
  obtain ⟨y0, y1, y2, y3, y4, rfl⟩ : ∃ y0 y1 y2 y3 y4, xs = [y0, y1, y2, y3, y4] := by
    match xs, hlen with
    | [a, b, c, d, e], _ => exact ⟨a, b, c, d, e, rfl⟩
  have t0 : DataW.trod enc Tryd.prog W 0 sp held m 3 (List.take (Tryd.prog.cellsOf 3) (List.drop 0 [x0, x1, x2, x3, x4])) = some y0 := hg 0 _ rfl
  rw [cells_int] at t0
  have t1 : DataW.trod enc Tryd.prog W 0 sp held m 3 (List.take (Tryd.prog.cellsOf 3) (List.drop 1 [x0, x1, x2, x3, x4])) = some y1 := hg 1 _ rfl
  rw [cells_int] at t1
  have t2 : DataW.trod enc Tryd.prog W 0 sp held m 3 (List.take (Tryd.prog.cellsOf 3) (List.drop 2 [x0, x1, x2, x3, x4])) = some y2 := hg 2 _ rfl
  rw [cells_int] at t2
  have t3 : DataW.trod enc Tryd.prog W 0 sp held m 5 (List.take (Tryd.prog.cellsOf 5) (List.drop 3 [x0, x1, x2, x3, x4])) = some y3 := hg 3 _ rfl
  rw [cells_u8] at t3
  have t4 : DataW.trod enc Tryd.prog W 0 sp held m 23 (List.take (Tryd.prog.cellsOf 23) (List.drop 4 [x0, x1, x2, x3, x4])) = some y4 := hg 4 _ rfl
  rw [cells_bools] at t4
  obtain ⟨u0, e0, _, f0⟩ := DataW.trod_int Tryd.underlying3 t0
  obtain rfl : x0 = .int .i64 u0 := by injection (show [x0] = [_] from e0)
  obtain ⟨u1, e1, _, f1⟩ := DataW.trod_int Tryd.underlying3 t1
  obtain rfl : x1 = .int .i64 u1 := by injection (show [x1] = [_] from e1)
  obtain ⟨u2, e2, _, f2⟩ := DataW.trod_int Tryd.underlying3 t2
  obtain rfl : x2 = .int .i64 u2 := by injection (show [x2] = [_] from e2)
  obtain ⟨u3, e3, _, f3⟩ := DataW.trod_int Tryd.underlying5 t3
  obtain rfl : x3 = .int .u8 u3 := by injection (show [x3] = [_] from e3)
  have hn2 : u2 ≤ 9223372036854775807 := ((Lit.wf_int_iff .i64 u2).1 f2).2
  have hlo : 0 ≤ u3 := ((Lit.wf_int_iff .u8 u3).1 f3).1
  obtain ⟨u, rfl⟩ : ∃ u : Nat, u3 = (u : Int) := ⟨u3.toNat, by omega⟩
  rcases Go.Deep.open_slice Tryd.underlying23 t4 with ⟨hcs, _⟩ | ⟨a, len, cap, q, nn, Dt, Pl, hcs, _, hl, hm, hq, _, hi⟩
  · obtain rfl : x4 = .slice none 0 0 := by injection (show [x4] = [_] from hcs)
    exact ⟨⟨u0, u1, u2, u, none, 0, 0⟩, [], rfl, .inl ⟨rfl, rfl⟩, rfl, Nat.le_refl _, by simp [maxLen], f1, hn2⟩
  · obtain rfl : x4 = .slice (some a) len cap := by injection (show [x4] = [_] from hcs)
    have hb : ∀ i, i < len → ∃ b, W.cell? (a.add i) = some (.bool b) := by
      intro i hil
      obtain ⟨cs', hc', ht'⟩ := hi i (by rw [hq]; split <;> omega)
      rw [cells_bool, Nat.mul_one] at hc'
      obtain ⟨b, rfl, _⟩ := DataW.trod_bool Tryd.underlying4 ht'
      obtain ⟨_, _, hat⟩ := World.cells?_some hc'
      exact ⟨b, by have h9 := hat 0 (by omega); rw [Go.Deep.add_add] at h9; exact h9⟩
    refine ⟨⟨u0, u1, u2, u, some a, len, cap⟩, (List.range len).map (fun i => truthOf (W.cell? (a.add i))), rfl, .inr ⟨a, rfl, fun i hil => ?_⟩, by simp, hl, hm, f1, hn2⟩
    simp only [List.length_map, List.length_range] at hil
    obtain ⟨b, hb'⟩ := hb i hil
    simp only [List.getD_eq_getElem?_getD, List.getElem?_map, List.getElem?_range hil, Option.map_some, Option.getD_some]
    rw [hb']
    rfl


theorem cells_deed : Tryd.prog.cellsOf 37 = 5 := by kernel_rfl
/-- A row of deeds that is data. -/
theorem deeds_of {H : Type} {enc : TypeId × Value → H} {W : World} {sp : Nat → Bool} {held : Bool} {a : Option Addr} {len cap : Nat} {d : DataW H} {p : List MemPlace} (h : DataW.Trod enc Tryd.prog W 0 sp held 22 (.slice a len cap) d p) :
    ∃ l : List (Deed × List Bool), l.length = len ∧ len ≤ 9223372036854775807 ∧ Deeds W a l := by
  obtain ⟨fuel, hf⟩ := h
  rcases Go.Deep.open_slice Tryd.underlying22 hf with ⟨hcs, _⟩ | ⟨x, len', cap', q, nn, Dt, Pl, hcs, _, hl, hm, hq, _, hi⟩
  · simp [Value.cells] at hcs
    obtain ⟨rfl, rfl, rfl⟩ := hcs
    exact ⟨[], rfl, by omega, .inl rfl⟩
  · simp [Value.cells] at hcs
    obtain ⟨rfl, rfl, rfl⟩ := hcs
    have hex : ∀ i, i < len → ∃ y : Deed × List Bool, (∀ j, j < 5 → W.cell? (x.add (i * 5 + j)) = (y.1.cs)[j]?) ∧ Truths W y.1.ad y.2 ∧ y.2.length = y.1.len ∧ y.1.len ≤ y.1.cap ∧ y.1.cap ≤ maxLen ∧ (Lit.int .i64 y.1.sector).wf = true ∧ y.1.num ≤ 9223372036854775807 := by
      intro i hil
      obtain ⟨cs', hc', ht'⟩ := hi i (by rw [hq]; split <;> omega)
      rw [cells_deed] at hc'
      obtain ⟨_, hlen, hat⟩ := World.cells?_some hc'
      obtain ⟨y, ks, rfl, r⟩ := deed_cells hlen ht'
      refine ⟨(y, ks), fun j hj => ?_, r⟩
      have h9 := hat j hj
      rw [Go.Deep.add_add] at h9
      rw [h9]
      simp
    obtain ⟨f, hf2⟩ : ∃ f : Nat → Deed × List Bool, ∀ i, i < len → (∀ j, j < 5 → W.cell? (x.add (i * 5 + j)) = ((f i).1.cs)[j]?) ∧ Truths W (f i).1.ad (f i).2 ∧ (f i).2.length = (f i).1.len ∧ (f i).1.len ≤ (f i).1.cap ∧ (f i).1.cap ≤ maxLen ∧ (Lit.int .i64 (f i).1.sector).wf = true ∧ (f i).1.num ≤ 9223372036854775807 :=
      ⟨fun i => if h : i < len then (hex i h).choose else (⟨0, 0, 0, 0, none, 0, 0⟩, []), fun i hil => by simp only [dif_pos hil]; exact (hex i hil).choose_spec⟩
    refine ⟨(List.range len).map f, by simp, by unfold maxLen at hm; omega, .inr ⟨x, rfl, fun i y hy => ?_⟩⟩
    have hil : i < len := by simpa using (List.getElem?_eq_some_iff.1 hy).1
    rw [List.getElem?_map, List.getElem?_range hil, Option.map_some] at hy
    injection hy with hy
    subst hy
    exact hf2 i hil
end Go.Proofs.YtaikgngigaohmaaDoor
