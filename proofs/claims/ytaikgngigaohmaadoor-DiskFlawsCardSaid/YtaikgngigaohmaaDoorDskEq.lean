/-
  A block is as it is. Nothing here is a statement of the document.
-/
import Derived.Test.YtaikgngigaohmaaDoorDskU
namespace Go.Proofs.YtaikgngigaohmaaDoor
open Go.RowKit Go.Shelf
set_option linter.unusedVariables false

theorem eqSem_same (b : Bk) (w : World) : (eqSem (.agg b.cs) (.agg b.cs)).run Tryd.prog w = .ok true w := by
  unfold eqSem
  rw [show (10000 : Nat) = 9999 + 1 from rfl, Op.equalIn]
  have hu := run_underlying (P := Tryd.prog) Tryd.underlying31 w
  have hn : (sizeOf 5).run Tryd.prog w = .ok 1 w := by kernel_rfl
  simp only [Sem.run_bind, hu, Result.andThen_ok, hn]
  have hagg : (isAgg 5).run Tryd.prog w = .ok false w := by kernel_rfl
  have hpart : ∀ i, i < 64 → ∃ x : Int, (part 5 b.cs (i * 1)).run Tryd.prog w = .ok (.int .u8 x) w := by
    intro i hi
    have hlt : i < b.l.length := by rw [b.len]; exact hi
    refine ⟨b.l[i], ?_⟩
    have hc : b.cs[i * 1]? = some (.int .u8 b.l[i]) := by
      rw [Nat.mul_one]
      simp [Bk.cs, List.getElem?_eq_getElem hlt]
    unfold part
    simp only [Sem.run_bind, hagg, Result.andThen_ok, hc]
    rfl
  have hloop : ∀ l : List Nat, (∀ i ∈ l, i < 64) → Sem.run Tryd.prog (forIn l ((none : Option Bool), ()) fun i __s => do
      let x ← part 5 b.cs (i * 1)
      let y ← part 5 b.cs (i * 1)
      let z ← Op.equalIn 9999 5 x y
      if (!z) = true then pure (ForInStep.done (some false, ())) else pure (ForInStep.yield (none, ()))) w = .ok (none, ()) w := by
    intro l
    induction l with
    | nil => intro _; rfl
    | cons i l ih =>
      intro h
      obtain ⟨x, hx⟩ := hpart i (h i (by simp))
      have he : (Op.equalIn 9999 5 (.int .u8 x) (.int .u8 x)).run Tryd.prog w = .ok true w := by
        have := run_equalIn_int (P := Tryd.prog) (w := w) 9998 5 .u8 .u8 x x Tryd.underlying5
        simpa using this
      rw [List.forIn_cons]
      simp only [Sem.run_bind, hx, he, Result.andThen_ok, Bool.not_true, Bool.false_eq_true, if_false, Sem.run_pure]
      exact ih (fun j hj => h j (by simp [hj]))
  simp only [Std.Legacy.Range.forIn_eq_forIn_range', Std.Legacy.Range.size, Nat.sub_zero, Nat.add_sub_cancel, Nat.div_one]
  rw [hloop _ (by intro i hi; have := List.mem_range'_1.1 hi; omega)]
  rfl
end Go.Proofs.YtaikgngigaohmaaDoor
