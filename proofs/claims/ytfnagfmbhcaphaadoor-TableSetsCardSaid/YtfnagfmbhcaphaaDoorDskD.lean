/-
  A range over a disk's rows as one law; the contract of disk's shows. Nothing here is a statement of the document.
-/
import Derived.Test.YtfnagfmbhcaphaaDoorDskC
import Derived.RegionTactic
import Derived.BigRegion
import Derived.Shelf.Abstract
namespace Go.Proofs.YtfnagfmbhcaphaaDoor
open Go.RowKit Go.Shelf
set_option linter.unusedVariables false

/-! ### What speaks of cells alone -/
theorem own_blk {β : Type} (B g : Nat) (t : TypeId) (f : β → Array Value) : OwnFrom B (fun s W => Blk W g t (f s)) := fun s X Y row hs hg hrow =>
  (hg.block g hs.lt (fun e => by
    obtain ⟨_, o, ho, hc⟩ := hrow g e.symm
    rw [show X.heap[g]? = _ from hs] at ho; cases ho; cases hc)).trans hs
theorem own_kept {β : Type} {B : Nat} (S : List Nat) {w0 : World} (h : w0.heap.size ≤ B) : OwnFrom B (fun (_ : β) W => Kept S w0 W) := fun s X Y row hs hg hrow =>
  hs.grown hg (fun k e => .inr (Nat.le_trans h (hrow k e).1))
theorem KeepsFrom.row {B : Nat} {W : World} {g : Nat} (h : g < B) (cs : Array Value) : KeepsFrom B W (W.setRow g cs) :=
  KeepsFrom.of_grownBy (row := some g) ⟨rfl, rfl, rfl, by simp, fun k _ hk => setRow_other W g k cs (fun e => hk (by rw [e]))⟩ (fun j e => by cases e; exact h)
theorem KeepsFrom.kept {B : Nat} {W W' : World} {S : List Nat} (h : Kept S W W') (hS : ∀ k ∈ S, k < B) : KeepsFrom B W W' :=
  ⟨h.size, fun k o hB hk ho => (h.block k (Array.getElem?_eq_some_iff.1 hk).1 (fun hm => by have := hS k hm; omega)).trans hk⟩
theorem SameBuf.kept {bv : Value} {W W' : World} {S : List Nat} (h : Kept S W W') (hb : ∀ k, bv.ownBlock = some k → k < W.heap.size ∧ k ∉ S) : SameBuf bv W W' := fun k hk => h.block k (hb k hk).1 (hb k hk).2

/-- A function whose body holds a range over a function: its contract out of its body's walk. -/
theorem calls_of_wp_marks {f : FuncId} {fn : Func} {c : Code} {args : Array Value} {w : World} {R : Ending → World → Prop}
    (hf : Tryd.prog.funcs[f]? = some fn) (hb : fn.body = some c)
    (h : c.wp Tryd.prog (bodyPostM Fence.wide 10 Tryd.prog fn R) { tmps := args ++ Array.replicate (fn.ntmps - args.size) undef, defers := [] } w) : Calls Tryd.prog f args w R :=
  (callsIn_wide (n := 10)).1 (callsIn_of_wp_marks hf hb trivial (wpIn_wide.2 h) rfl)
/-- Where such a function returns. -/
theorem marks_ret {fn : Func} {R : Ending → World → Prop} {tmps : Array Value} {w : World} {d : Nat} {v : Value} (hd : w.heap[d]? = some (.deferred (some []))) (hr : (results fn tmps).run Tryd.prog (w.putObj d (.deferred none)) = .ok v (w.putObj d (.deferred none))) (h : R (.returned v) (w.putObj d (.deferred none))) :
    bodyPostM Fence.wide 10 Tryd.prog fn R .ret { tmps := tmps, defers := [{ target := .collected d, args := #[] }] } w :=
  ⟨by simp, .inl ⟨_, _, rfl, run_takeDeferred hd, ⟨_, hr, h⟩⟩⟩
theorem put_kept {S : List Nat} {w0 w : World} {d : Nat} {o o' : Obj} (h : Kept S w0 w) (hd : w.heap[d]? = some o) (hl : w0.heap.size ≤ d) : Kept S w0 (w.putObj d o') :=
  h.grown (grownBy_putObj' w d o') (fun k e => by cases e; exact .inr hl)

/-! ### shows -/
/-- What a sector shows. -/
def showsM (D : Dk) (i : Nat) : Bk := match D.rows.find? (fun r => r.s == i) with | some r => r.b | none => D.plate.getD i Bk.zero

theorem blk_put {w : World} {g d : Nat} {t : TypeId} {cs : Array Value} {o o' : Obj} (h : Blk w g t cs) (hd : w.heap[d]? = some o) (hc : o.isCells = false) : Blk (w.putObj d o') g t cs :=
  ((grownBy_putObj' w d o').block g h.lt (fun e => by
    cases e
    rw [show w.heap[g]? = _ from h] at hd; cases hd; cases hc)).trans h
theorem showsM_plate {D : Dk} {i : Nat} (hi : i < D.plate.length) (h : ∀ r ∈ D.rows, r.s ≠ i) : D.plate[i]? = some (showsM D i) := by
  unfold showsM
  rw [List.find?_eq_none.2 (fun r hr => by have := h r hr; simpa using this)]
  simp [List.getElem?_eq_getElem hi]
theorem showsM_row {D : Dk} {i k : Nat} (hk : k < D.rows.length) (h : ∀ j (hj : j < k), (D.rows[j]'(by omega)).s ≠ i) (he : D.rows[k].s = i) : showsM D i = D.rows[k].b := by
  unfold showsM
  have e : D.rows.find? (fun r => r.s == i) = some D.rows[k] := by
    rw [List.find?_eq_some_iff_getElem]
    exact ⟨by simpa using he, k, hk, rfl, fun j hj => by have := h j hj; simpa using this⟩
  rw [e]
attribute [local go_sem] Oper.semAt_some

end Go.Proofs.YtfnagfmbhcaphaaDoor
