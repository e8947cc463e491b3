/-
  The document's read, by its contract. Nothing here is a statement of the document.
-/
import Derived.Test.YtaikgngigaohmaaDoorDskRs
namespace Go.Proofs.YtaikgngigaohmaaDoor
open Go.RowKit Go.Shelf
set_option linter.unusedVariables false
attribute [local go_sem ↓] store_blk_rule

theorem results_two {fn : Func} {p q u : Tmp} {ty ty2 : TypeId} (h : fn.results = #[.cell p ty, .cell q ty2, .tmp u]) (tmps : Array Value) (w : World) (g g2 : Nat) (vs vs2 : Array Value) (d d2 : TypeDesc)
    (hp : tmps.getD p undef = .pointer (some ⟨g, 0, none⟩)) (hq : tmps.getD q undef = .pointer (some ⟨g2, 0, none⟩)) (hb : Blk w g ty vs) (hb2 : Blk w g2 ty2 vs2)
    (hu : Tryd.prog.underlying ty = some d) (hd : d.isRow = true) (hi : (Tryd.prog.info? ty).map (·.size) = some vs.size)
    (hu2 : Tryd.prog.underlying ty2 = some d2) (hd2 : d2.isRow = true) (hi2 : (Tryd.prog.info? ty2).map (·.size) = some vs2.size) :
    (results fn tmps).run Tryd.prog w = .ok (.tuple #[.agg vs, .agg vs2, tmps.getD u undef]) w := by
  have hl := run_loadVar_row (P := Tryd.prog) w g ty ty vs (0, 0) d hb hu (by cases d <;> simp_all) hi
  have hl2 := run_loadVar_row (P := Tryd.prog) w g2 ty2 ty2 vs2 (0, 0) d2 hb2 hu2 (by cases d2 <;> simp_all) hi2
  have hp2 : tmps[p]?.getD undef = .pointer (some ⟨g, 0, none⟩) := by rw [← hp]; simp
  have hq2 : tmps[q]?.getD undef = .pointer (some ⟨g2, 0, none⟩) := by rw [← hq]; simp
  simp only [results, h]
  simp [Sem.run_bind, Result.andThen, asAddr, hp2, hq2, hl, hl2]

def readR (M : Rk) (i : Int) : Rk × Bk × Int :=
  if (actM M i false).2 = 0 then ((actM M i false).1, showsR (actM M i false).1 i.toNat, 0) else ((actM M i false).1, Bk.zero, (actM M i false).2)
theorem actM_in {M : Rk} {i : Int} {wr : Bool} (h : (actM M i wr).2 = 0) : 0 ≤ i ∧ i < (M.plate.length : Int) := by
  unfold actM at h
  split at h
  · simp at h
  · split at h
    · simp at h
    · rename_i h2
      omega

end Go.Proofs.YtaikgngigaohmaaDoor
