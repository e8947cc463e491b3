/-
  What the package's own list of eight yes holds when the call begins; a row of bools that came in. Nothing here is a statement of the document.
-/
import Derived.Test.YtaikgngigaohmaaDoorRows
import Derived.Test.YtaikgngigaohmaaDoorDskSw
import Derived.Test.YtaikgngigaohmaaDoorDskR
import Derived.LaidMore
import Derived.Stop.Joined
namespace Go.Proofs.YtaikgngigaohmaaDoor
open Go.ChangeShapes Go.WideShapes Go.ChangeAt Go.RowKit
set_option linter.unusedVariables false

theorem Truths.bools {W : World} {a : Option Addr} {ks : List Bool} (h : Truths W a ks) : Bools W a ks := by
  rcases h with ⟨_, h⟩ | ⟨x, rfl, hc⟩
  · exact .inl h
  · by_cases h0 : ks = []
    · exact .inl h0
    · have hpos : 0 < ks.length := List.length_pos_iff.2 h0
      obtain ⟨b, off, spot⟩ := x
      have hc0 := hc 0 hpos
      have hspot : spot = none := by simpa [Addr.add] using World.cell?_spot hc0
      subst hspot
      refine .inr ⟨b, off, rfl, cell_lt hc0, fun i hi => ?_⟩
      have := hc i hi
      rw [Addr.add_lit] at this
      exact this
/-- A row of bools that is data. -/
theorem bools_in {H : Type} {enc : TypeId × Value → H} {W : World} {sp : Nat → Bool} {held : Bool} {a : Option Addr} {len cap : Nat} {d : DataW H} {p : List MemPlace} (h : DataW.Trod enc Tryd.prog W 0 sp held 23 (.slice a len cap) d p) :
    ∃ ks : List Bool, ks.length = len ∧ len ≤ cap ∧ cap ≤ 9223372036854775807 ∧ Bools W a ks := by
  obtain ⟨fuel, hf⟩ := h
  rcases Go.Deep.open_slice Tryd.underlying23 hf with ⟨hcs, _⟩ | ⟨x, len', cap', q, nn, Dt, Pl, hcs, _, hl, hm, hq, _, hi⟩
  · simp [Value.cells] at hcs
    obtain ⟨rfl, rfl, rfl⟩ := hcs
    exact ⟨[], rfl, Nat.le_refl _, by omega, .inl rfl⟩
  · simp [Value.cells] at hcs
    obtain ⟨rfl, rfl, rfl⟩ := hcs
    have hb : ∀ i, i < len → ∃ b, W.cell? (x.add i) = some (.bool b) := by
      intro i hil
      obtain ⟨cs', hc', ht'⟩ := hi i (by rw [hq]; split <;> omega)
      rw [cells_bool, Nat.mul_one] at hc'
      obtain ⟨b, rfl, _⟩ := DataW.trod_bool Tryd.underlying4 ht'
      obtain ⟨_, _, hat⟩ := World.cells?_some hc'
      exact ⟨b, by have h9 := hat 0 (by omega); rw [Go.Deep.add_add] at h9; exact h9⟩
    refine ⟨(List.range len).map (fun i => truthOf (W.cell? (x.add i))), by simp, hl, by unfold maxLen at hm; omega, Truths.bools (.inr ⟨x, rfl, fun i hil => ?_⟩)⟩
    simp only [List.length_map, List.length_range] at hil
    obtain ⟨b, hb'⟩ := hb i hil
    simp only [List.getD_eq_getElem?_getD, List.getElem?_map, List.getElem?_range hil, Option.map_some, Option.getD_some]
    rw [hb']
    rfl

def laidAll : List (String × DataW Unit) := [("junctionbox/junctionboxlaw02.all", Rows.laid_junctionbox_junctionboxlaw02_all)]
theorem gAll : Tryd.prog.globalNamed "junctionbox/junctionboxlaw02.all" = some 0 := by kernel_rfl
theorem tAll : (Tryd.prog.globals[0]?).map (·.type) = some 23 := by kernel_rfl
/-- The heap that the program's own initialisers leave meets the condition. -/
theorem door_met (os : Os) (args : Array Value) : laidMetH Tryd.prog laidAll ((World.doorLaid Tryd.prog 14 os).forCall (fun _ _ => 0) ⟨#[], args, []⟩).memory :=
  laidMetH_of_parts3 (fuel := 8) (laidMet_of_run' 8 (by kernel_rfl) (by kernel_rfl)) (by kernel_rfl) (by kernel_rfl)
theorem of_laid {W : World} (h : laidMetH Tryd.prog laidAll W) : AllYes W := by
  rw [MakeChecks.laidMetH_plain _ _ _ (by kernel_rfl)] at h
  obtain ⟨ps, ⟨g0, t0, cs0, f0, p0, q0, hg0, ht0, hv0, hd0, _, _⟩, _, _⟩ := h
  obtain rfl := Option.some.inj (gAll.symm.trans hg0)
  obtain rfl := Option.some.inj (tAll.symm.trans ht0)
  obtain ⟨a, cap, hcs, hl, hi⟩ := open_row Tryd.underlying23 cells_bool hd0
  have hcell : W.cell? ⟨0, 0, none⟩ = some (.slice (some a) 8 cap) := by
    have := World.var?_cell hg0 hv0 0
    rw [Array.eq_one_of_toList hcs] at this
    simpa using this
  refine ⟨some a, cap, hcell, Truths.bools (.inr ⟨a, rfl, fun i hil => ?_⟩)⟩
  rw [List.length_replicate] at hil
  obtain ⟨v, n, q, hv, ht⟩ := hi i (.lit (.bool true)) (by
    have : i = 0 ∨ i = 1 ∨ i = 2 ∨ i = 3 ∨ i = 4 ∨ i = 5 ∨ i = 6 ∨ i = 7 := by omega
    rcases this with rfl | rfl | rfl | rfl | rfl | rfl | rfl | rfl <;> rfl)
  obtain ⟨b, hb1, hb2⟩ := DataW.trod_bool Tryd.underlying4 ht
  obtain rfl : v = .bool b := by injection hb1
  have hbt : b = true := by
    simp only [Prod.mk.injEq, DataW.lit.injEq, Lit.bool.injEq] at hb2
    exact hb2.1.symm
  rw [hv, hbt]
  have hy : ∀ k, k < 8 → (List.replicate 8 true).getD k false = true := by decide
  rw [hy i hil]
end Go.Proofs.YtaikgngigaohmaaDoor
