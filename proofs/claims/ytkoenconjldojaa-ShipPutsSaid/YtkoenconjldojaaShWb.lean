/-
  A view, a message, a row of messages that are data. Nothing here is a statement of the document.
-/
import Derived.Test.YtkoenconjldojaaShW
namespace Go.Proofs.Ytkoenconjldojaa
open Go.RowKit Go.Shelf Go.ChangeShapes Go.WideShapes Go.ChangeAt
set_option linter.unusedVariables false
set_option linter.unusedSimpArgs false
set_option maxRecDepth 100000
theorem vw_of {H : Type} {enc : TypeId × Value → H} {W : World} {sp : Nat → Bool} {base : Nat} {held : Bool} {v : Value} {d : DataW H} {p : List MemPlace} (hv : Value.okWide Try.prog W .any base 36 v) (h : DataW.Trod enc Try.prog W 0 sp held 36 v d p) : ∃ x : Vw, v = .agg x.cs ∧ x.In W 0 := by
  obtain ⟨cs, rfl, hsz⟩ := okWide_struct Try.underlying36 hv
  obtain ⟨fuel, hf⟩ := h
  obtain ⟨x, hx, hi, _⟩ := vw_cells' (show DataW.trod enc Try.prog W 0 sp held fuel 36 cs.toList = some _ from hf)
  exact ⟨x, congrArg Value.agg (Array.toList_inj.1 hx), hi⟩
theorem ms_of {H : Type} {enc : TypeId × Value → H} {W : World} {sp : Nat → Bool} {base : Nat} {held : Bool} {v : Value} {d : DataW H} {p : List MemPlace} (hv : Value.okWide Try.prog W .any base 47 v) (h : DataW.Trod enc Try.prog W 0 sp held 47 v d p) : ∃ x : Ms, v = .agg x.cs ∧ x.In W 0 := by
  obtain ⟨cs, rfl, hsz⟩ := okWide_struct Try.underlying47 hv
  obtain ⟨fuel, hf⟩ := h
  obtain ⟨x, hx, hi⟩ := ms_cells' (show DataW.trod enc Try.prog W 0 sp held fuel 47 cs.toList = some _ from hf)
  exact ⟨x, congrArg Value.agg (Array.toList_inj.1 hx), hi⟩
def msg' (L : List Ms) (i : Nat) : Ms := L.getD i Ms.zero
structure Mss (w : World) (g o : Nat) (L : List Ms) : Prop where
  lt : g < w.heap.size
  row : ∀ i, i < L.length → ∀ j, j < 23 → w.cell? ⟨g, o + i * 23 + j, none⟩ = (msg' L i).cs[j]?
def MssIn (w : World) (a : Option Addr) (n : Nat) (L : List Ms) : Prop := L.length = n ∧ (L = [] ∨ ∃ g o, a = some ⟨g, o, none⟩ ∧ Mss w g o L) ∧ ∀ i, i < L.length → (msg' L i).In w 0
theorem Ms.q0 (m : Ms) : m.cs[0]? = some (.int .i64 m.kd) := rfl
theorem Ms.size (m : Ms) : m.cs.size = 23 := rfl
theorem Mss.later {w w' : World} {g o : Nat} {L : List Ms} (h : Mss w g o L) (k : Below w.heap.size w w') : Mss w' g o L :=
  ⟨Nat.lt_of_lt_of_le h.lt k.size, fun i hi j hj => (k.cell (p := ⟨g, o + i * 23 + j, none⟩) h.lt).trans (h.row i hi j hj)⟩
theorem MssIn.later {w w' : World} {a : Option Addr} {n : Nat} {L : List Ms} (h : MssIn w a n L) (k : Below w.heap.size w w') : MssIn w' a n L := by
  obtain ⟨h1, h2, h3⟩ := h
  refine ⟨h1, ?_, fun i hi => (h3 i hi).later k⟩
  rcases h2 with h | ⟨g, o, e, hr⟩
  · exact .inl h
  · exact .inr ⟨g, o, e, hr.later k⟩
theorem MssIn.spot {w : World} {a : Option Addr} {n : Nat} {L : List Ms} (h : MssIn w a n L) {i : Nat} (hi : i < L.length) : ∃ g o, a = some ⟨g, o, none⟩ ∧ Mss w g o L := by
  rcases h.2.1 with rfl | h
  · simp at hi
  · exact h
theorem Mss.load {w : World} {g o : Nat} {L : List Ms} (h : Mss w g o L) {i : Nat} (hi : i < L.length) : (loadSem 47 (.pointer (some ⟨g, o + i * 23, none⟩))).run Try.prog w = .ok (.agg (msg' L i).cs) w :=
  run_loadAt_mid (P := Try.prog) w g (o + i * 23) 47 (msg' L i).cs.toList _ (fun j v hj => by
    have hl : j < 23 := by rw [← (msg' L i).size]; simpa using (List.getElem?_eq_some_iff.1 hj).1
    rw [h.row i hi j hl]; simpa using hj) Try.underlying47 rfl (by simpa using s_ms (msg' L i))
set_option maxHeartbeats 1000000 in
theorem mss_of {H : Type} {enc : TypeId × Value → H} {W : World} {sp : Nat → Bool} {base : Nat} {held : Bool} {v : Value} {d : DataW H} {p : List MemPlace} (hv : Value.okWide Try.prog W .any base 64 v) (h : DataW.Trod enc Try.prog W 0 sp held 64 v d p) : ∃ a n c L, v = .slice a n c ∧ MssIn W a n L := by
  obtain ⟨a0, n0, c0, rfl⟩ := okWide_slice Try.underlying64 hv
  obtain ⟨fuel, hf⟩ := h
  rcases Go.Deep.open_slice Try.underlying64 hf with ⟨hcs, _⟩ | ⟨x, len', cap', q, nn, Dt, Pl, hcs, _, hl, hm, hq, _, hi⟩
  · simp [Value.cells] at hcs
    obtain ⟨rfl, rfl, rfl⟩ := hcs
    exact ⟨_, _, _, [], rfl, rfl, .inl rfl, fun i hi => by simp at hi⟩
  · simp [Value.cells] at hcs
    obtain ⟨rfl, rfl, rfl⟩ := hcs
    have hex : ∀ i, i < n0 → ∃ y : Ms, y.In W 0 ∧ ∀ j, j < 23 → W.cell? (x.add (i * 23 + j)) = (y.cs)[j]? := by
      intro i hil
      obtain ⟨cs', hc', ht'⟩ := hi i (by rw [hq]; split <;> omega)
      rw [c_ms] at hc'
      obtain ⟨_, hlen, hat⟩ := World.cells?_some hc'
      obtain ⟨y, rfl, hy⟩ := ms_cells' ht'
      refine ⟨y, hy, fun j hj => ?_⟩
      have h9 := hat j hj
      rw [Go.Deep.add_add] at h9
      rw [h9]
      simp
    obtain ⟨f, hf2⟩ : ∃ f : Nat → Ms, ∀ i, i < n0 → (f i).In W 0 ∧ ∀ j, j < 23 → W.cell? (x.add (i * 23 + j)) = ((f i).cs)[j]? :=
      ⟨fun i => if h : i < n0 then (hex i h).choose else Ms.zero, fun i hil => by simp only [dif_pos hil]; exact (hex i hil).choose_spec⟩
    refine ⟨some x, n0, c0, (List.range n0).map f, rfl, by simp, ?_, fun i hi => ?_⟩
    · by_cases h0 : n0 = 0
      · left; rw [h0]; rfl
      · right
        have h1 := (hf2 0 (by omega)).2 0 (by omega)
        rw [Ms.q0] at h1
        obtain ⟨b, o, s⟩ := x
        obtain rfl : s = none := by simpa [Addr.add] using World.cell?_spot h1
        refine ⟨b, o, rfl, ?_, fun i hi j hj => ?_⟩
        · have := cell_lt h1
          simpa [Addr.add_lit] using this
        · have hil : i < n0 := by simpa using hi
          have h3 := (hf2 i hil).2 j hj
          rw [Addr.add_lit] at h3
          rw [Nat.add_assoc, h3]
          congr 2
          simp [msg', hil]
    · have hil : i < n0 := by simpa using hi
      have h3 := (hf2 i hil).1
      rw [show msg' ((List.range n0).map f) i = f i by simp [msg', hil]]
      exact h3
end Go.Proofs.Ytkoenconjldojaa
