/-
  The buffer has no more than it may, no sector twice, and what was written last: the walk of the whole law. Nothing here is a statement of the document.
-/
import Derived.Test.YtaikgngigaohmaaDoorDskW
import Derived.Test.YtaikgngigaohmaaDoorDskY
import Derived.DataShut
namespace Go.Proofs.YtaikgngigaohmaaDoor
open Go.RowKit Go.Shelf
set_option linter.unusedVariables false

theorem Deeds.at {w : World} {a : Option Addr} {l : List (Deed × List Bool)} (h : Deeds w a l) {i : Nat} {y : Deed × List Bool} (hi : l[i]? = some y) : ∃ b o, a = some ⟨b, o, none⟩ ∧ (∀ j, j < 5 → w.cell? ⟨b, o + (i * 5 + j), none⟩ = (y.1.cs)[j]?) ∧ Truths w y.1.ad y.2 ∧ y.2.length = y.1.len ∧ y.1.len ≤ y.1.cap ∧ y.1.cap ≤ maxLen ∧ (Lit.int .i64 y.1.sector).wf = true ∧ y.1.num ≤ 9223372036854775807 := by
  rcases h with rfl | ⟨x, rfl, h⟩
  · simp at hi
  · obtain ⟨h1, h2⟩ := h i y hi
    have hl : 0 < l.length := by have := (List.getElem?_eq_some_iff.1 hi).1; omega
    have h0 := (h 0 _ (List.getElem?_eq_getElem hl)).1 0 (by omega)
    obtain ⟨b, o, q⟩ := x
    have hq : q = none := by
      have h9 : ((l[0]).1.cs)[0]? = some (.int .i64 (l[0]).1.kind) := rfl
      rw [h9] at h0
      simpa [Addr.add] using World.cell?_spot h0
    subst hq
    exact ⟨b, o, rfl, fun j hj => by have h9 := h1 j hj; rw [Addr.add_lit] at h9; exact h9, h2⟩

/-- A row of sectors of the call's own: how it is written, and its cells. -/
theorem pend_of {w w' : World} {v : Value} {R : List Rw} (h : w'.ownsRow w.heap.size 3 1 v R.length (secs R)) :
    ∃ a c, v = .slice a R.length c ∧ ∀ (j : Nat) (r : Rw), R[j]? = some r → ∃ g, a = some ⟨g, 0, none⟩ ∧ g < w'.heap.size ∧ w'.cell? ⟨g, j, none⟩ = some (.int .i64 (r.s : Int)) := by
  rcases h.2 with ⟨rfl, h0⟩ | ⟨g, cap, cur, rfl, hB, hg, hc, hm, hsz, ht⟩
  · exact ⟨none, 0, by rw [h0], fun j r hj => by rw [List.length_eq_zero_iff.1 h0] at hj; simp at hj⟩
  · refine ⟨_, _, rfl, fun j r hj => ⟨g, rfl, (Array.getElem?_eq_some_iff.1 hg).1, ?_⟩⟩
    have hb : Blk w' g 3 cur := hg
    have hjl : j < R.length := (List.getElem?_eq_some_iff.1 hj).1
    have h9 : (cur.toList.take (R.length * 1))[j]? = (secs R)[j]? := by rw [ht]
    rw [List.getElem?_take, if_pos (by omega), secs, List.getElem?_map, hj, Option.map_some] at h9
    rw [hb.cell, ← Array.getElem?_toList, h9]

end Go.Proofs.YtaikgngigaohmaaDoor
