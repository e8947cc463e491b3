/-
  The document's sync, by its contract. Nothing here is a statement of the document.
-/
import Derived.Test.YtaikgngigaohmaaDoorDskRc
namespace Go.Proofs.YtaikgngigaohmaaDoor
open Go.RowKit Go.Shelf
set_option linter.unusedVariables false

theorem actM_lists (M : Rk) (i : Int) (wr : Bool) : (actM M i wr).1.plate = M.plate ∧ (actM M i wr).1.rows = M.rows := by
  unfold actM
  split
  · exact ⟨rfl, rfl⟩
  · split
    · exact ⟨rfl, rfl⟩
    · split
      · exact ⟨rfl, rfl⟩
      · split <;> exact ⟨rfl, rfl⟩
def syncR (M : Rk) : Rk × Int :=
  if (actM M 0 true).2 = 0 then (downR (actM M 0 true).1 (List.replicate (actM M 0 true).1.rows.length true), 0) else ((actM M 0 true).1, (actM M 0 true).2)

theorem bools_own {w : World} {B n : Nat} {v : Value} {ks : List Bool} (hn : ks.length = n) (h : w.ownsRow B 4 1 v ks.length (ks.map Value.bool)) : ∃ a c, v = .slice a n c ∧ Bools w a ks := by
  subst hn
  rcases h.2 with ⟨rfl, h0⟩ | ⟨g, cap, cur, rfl, hB, hg, hc, hm, hsz, ht⟩
  · exact ⟨none, 0, by rw [h0], .inl (List.length_eq_zero_iff.1 h0)⟩
  · refine ⟨_, _, rfl, .inr ⟨g, 0, rfl, (Array.getElem?_eq_some_iff.1 hg).1, fun i hi => ?_⟩⟩
    have hb : Blk w g 4 cur := hg
    rw [Nat.zero_add, hb.cell]
    have h9 : (cur.toList.take (ks.length * 1))[i]? = (ks.map Value.bool)[i]? := by rw [ht]
    rw [List.getElem?_take, if_pos (by omega), List.getElem?_map, List.getElem?_eq_getElem hi] at h9
    rw [List.getD_eq_getElem?_getD, List.getElem?_eq_getElem hi, ← Array.getElem?_toList, h9]
    rfl
end Go.Proofs.YtaikgngigaohmaaDoor
