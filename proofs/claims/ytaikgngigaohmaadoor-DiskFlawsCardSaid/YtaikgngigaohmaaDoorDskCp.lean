/-
  Copy of a disk that lives: its contract. Nothing here is a statement of the document.
-/
import Derived.Test.YtaikgngigaohmaaDoorDskPl
import Derived.Laws.CopyRow
import Derived.Laws.Cover3
namespace Go.Proofs.YtaikgngigaohmaaDoor
open Go.RowKit Go.Shelf
set_option linter.unusedVariables false

/-! ### copy of blocks -/
def copySem (ty : TypeId) (args : Array Value) : Sem Value := Builtin.copy_ #[63, 63] ty args
theorem copy_rule (ty : TypeId) (args : Array Value) : Builtin.copy_ #[63, 63] ty args = copySem ty args := rfl
theorem copySem_run {w : World} {g : Nat} {a : Addr} {cur : Array Value} {cs : List Value} {n : Nat} (ty : TypeId) (dc sc : Nat) (hg : Blk w g 31 cur) (hcs : cs.length = n * 64) (hcur : cur.size = n * 64)
    (hsrc : ∀ j v, cs[j]? = some v → w.cell? (a.add j) = some v) (hone : ∀ v ∈ cs, v.oneCell' = true) :
    (copySem ty #[.slice (some ⟨g, 0, none⟩) n dc, .slice (some a) n sc]).run Tryd.prog w = .ok (.int .i64 (n : Int)) (w.setRow g cs.toArray) := by
  have hl := run_loadCells_list (P := Tryd.prog) w a cs hsrc
  have hst := run_storeCells_at Tryd.prog g 0 31 cs 0 cur w hg (by omega) hone
  have e : cur.toList.take (0 + 0) ++ cs ++ cur.toList.drop (0 + 0 + cs.length) = cs := by
    rw [List.drop_eq_nil_of_le (by simp; omega)]; simp
  rw [e] at hst
  obtain ⟨i0, hi, hz0, hz1, hz2⟩ := info_parts i_blk
  rw [hcs] at hl
  have hm : Nat.min n n = n := Nat.min_self n
  unfold copySem
  simp [Builtin.copy_, run_underlying Tryd.underlying63, Builtin.lenOf, Builtin.firstCells, sizeOf, typeInfo, hi, hz1, hl, hst]
  rfl

/-! ### slices.Clone of the buffer -/
theorem eql_nil_row (a : Option Addr) (l c : Nat) (w : World) : (binOp .eql 64 (.slice a l c) (.slice none 0 0)).run Tryd.prog w = .ok (.bool a.isNone) w := by
  simp only [binOp, Sem.run_bind, run_equal_slice_nil w 64 _ a l c Tryd.underlying64, Result.andThen_ok]
  rfl
theorem build0_run (w : World) : (buildSem 0 #[]).run Tryd.prog w = .ok (.slice (some ⟨w.heap.size, 0, none⟩) 0 0) (w.alloc (.cells #[] 61)) := by
  have hu := run_underlying (P := Tryd.prog) Tryd.underlying64 w
  have hz := (zero_of_info z_row).1 w
  unfold buildSem Instr.buildSlice
  simp only [Sem.run_bind, hu, Result.andThen_ok]
  go_simp
theorem clone_drun {w : World} (ty : TypeId) {B B2 : Nat} {v : Value} {g cap : Nat} {L : List Rw} (hown : w.ownsRow B 61 65 v 0 []) (hr : w.ownsRow B2 61 65 (.slice (some ⟨g, 0, none⟩) L.length cap) L.length (rcs L)) (h8 : L.length ≤ 8) (hB : B ≤ w.heap.size) :
    ∃ v' w', (appSem ty #[v, .slice (some ⟨g, 0, none⟩) L.length cap]).run Tryd.prog w = .ok v' w' ∧ w'.ownsRow B 61 65 v' L.length (rcs L) ∧ w.grownBy w' v.ownBlock := by
  obtain ⟨i0, hi, hz0, hz1, hz2⟩ := info_parts (show (Tryd.prog.info? 61).map (fun i => (i.zero, i.size, i.bytes)) = some (some (.agg Rw.zero.cs), 65, 72) by kernel_rfl)
  rcases hr.2 with ⟨h9, h0⟩ | ⟨g', cap', cur, h9, hbg, hg, hnc, hcm, hcs, htake⟩
  · cases h9
  · cases h9
    obtain ⟨v', w', h1, h2, h3, _⟩ := run_append_own (P := Tryd.prog) w B 64 ty 61 i0 (.agg Rw.zero.cs) 65 72 Tryd.underlying64 hi hz0 hz1 hz2 (Rw.size _) (by decide) v 0 [] hown ⟨g, 0, none⟩ L.length cap (rcs L) (rcs_length L) (by
      intro j u hj
      have hjl : j < (rcs L).length := (List.getElem?_eq_some_iff.1 hj).1
      rw [rcs_length] at hjl
      rw [Addr.add_lit, Nat.zero_add, cell_of_row w g j cur _ _ hg, ← Array.getElem?_toList]
      rw [← htake, List.getElem?_take, if_pos hjl] at hj
      exact hj) (rcs_one L) (by unfold maxLen; omega) (by omega) hB
    exact ⟨v', w', h1, by simpa using h2, h3⟩
attribute [local go_sem ↓] build_rule app_rule copy_rule

set_option maxHeartbeats 1000000 in
theorem clone_buf {w : World} {B : Nat} {bv : Value} {L : List Rw} (hr : w.ownsRow B 61 65 bv L.length (rcs L)) (h8 : L.length ≤ 8) :
    Calls Tryd.prog 38 #[bv] w fun e w' => ∃ v, e = .returned v ∧ w'.ownsRow w.heap.size 61 65 v L.length (rcs L) ∧ Below w.heap.size w w' := by
  rcases hr.2 with ⟨rfl, h0⟩ | ⟨g, cap, cur, rfl, hbg, hg, hnc, hcm, hcs, htake⟩
  · have hq := fun w => eql_nil_row none 0 0 w
    simp only [Option.isNone_none] at hq
    obtain rfl := List.eq_nil_of_length_eq_zero h0
    go_enter Tryd.func38, Tryd.ntmps38
    go_wp2
    go_ret
    exact ⟨_, rfl, World.ownsRow_nil _ _ _ _, Below.refl _ _⟩
  · have hq := fun w => eql_nil_row (some ⟨g, 0, none⟩) L.length cap w
    simp only [Option.isNone_some] at hq
    have hon : (w.alloc (.cells #[] 61)).ownsRow w.heap.size 61 65 (.slice (some ⟨w.heap.size, 0, none⟩) 0 0) 0 [] :=
      ⟨rfl, .inr ⟨_, 0, #[], rfl, Nat.le_refl _, heap_alloc_new w _, Nat.le_refl _, by simp, rfl, rfl⟩⟩
    have hb1 : Below w.heap.size w (w.alloc (.cells #[] 61)) := (Below.refl _ _).alloc (Nat.le_refl _) _
    obtain ⟨v', w', hrun, hown, hgr⟩ := clone_drun 64 hon (own_below hr hb1) h8 (by simp)
    have hbs := fun w => build0_run w
    have HE := Lib.hid (And.intro hown (hb1.grown hgr (by simp) (fun k hk => by cases hk; exact Nat.le_refl _)))
    clear hown hgr hon hb1
    go_enter Tryd.func38, Tryd.ntmps38
    go_wp2
    go_ret
    exact ⟨_, rfl, HE.out.1, HE.out.2⟩
end Go.Proofs.YtaikgngigaohmaaDoor
