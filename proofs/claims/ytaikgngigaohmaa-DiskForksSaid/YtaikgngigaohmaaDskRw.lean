/-
  The document's write, as far as its act: what fails changes no row. Nothing here is a statement of the document.
-/
import Derived.Test.YtaikgngigaohmaaDskRr
namespace Go.Proofs.Ytaikgngigaohmaa
open Go.RowKit Go.Shelf
set_option linter.unusedVariables false

set_option maxRecDepth 100000 in
set_option maxHeartbeats 4000000 in
/-- The document's write where the act fails. -/
theorem write_ref_fails {w : World} {pv rv : Value} {M : Rk} (h : Ref w pv rv M) (i : Int) (b : Bk) (hf : M.fuse ≤ 9223372036854775807) (hl : M.flaw ≤ 9223372036854775807) (hl2 : -1 ≤ M.flaw) (he : (actM M i true).2 ≠ 0) :
    Calls Try.prog 32 #[.agg (M.vals pv rv), .int .i64 i, .agg b.cs] w fun e w' => e = .returned (.tuple #[.agg ((actM M i true).1.vals pv rv), .int .i64 (actM M i true).2]) ∧ Ref w' pv rv (actM M i true).1 ∧ Below w.heap.size w w' := by
  obtain ⟨pa, pc, rfl⟩ := own_slice h.p
  obtain ⟨rb, rc, rfl⟩ := own_slice h.r
  generalize b.cs = bc
  obtain ⟨W1, hW1⟩ : ∃ W1, ((w.alloc (.cells (M.vals (.slice pa M.plate.length pc) (.slice rb M.rows.length rc)) 32)).alloc (.cells bc 38)).alloc (.cells #[.slice none 0 0, .slice none 0 0, .int .i64 0, .int .i64 0, .bool false, .int .i64 0] 32) = W1 := ⟨_, rfl⟩
  have hb1 : Below w.heap.size w W1 := by rw [← hW1]; exact (((Below.refl _ _).alloc (Nat.le_refl _) _).alloc (by simp) _).alloc (by simp; omega) _
  have bd : Blk W1 w.heap.size 32 (M.vals (.slice pa M.plate.length pc) (.slice rb M.rows.length rc)) := by rw [← hW1]; exact ((Blk.new w _ _).alloc _).alloc _
  have bz : Blk W1 (w.heap.size + 1 + 1) 32 #[.slice none 0 0, .slice none 0 0, .int .i64 0, .int .i64 0, .bool false, .int .i64 0] := by rw [← hW1]; exact Blk.new3 _ _ _ _ _
  have hact := act_ref M pa pc rb M.rows.length rc i true W1 hf hl hl2
  have hlists := actM_lists M i true
  have hR1 := h.below hb1
  generalize actM M i true = AR at *
  obtain ⟨A, ae⟩ := AR
  have hRA : Ref W1 (.slice pa M.plate.length pc) (.slice rb M.rows.length rc) A := ⟨by rw [hlists.1]; exact hR1.p, by rw [hlists.2]; exact hR1.r⟩
  have HA := Lib.hid (And.intro hRA h)
  clear hRA hR1 hlists h
  obtain ⟨pl, rs, fu, fl, de, op⟩ := M
  simp only [Rk.vals] at *
  generalize pl.length = n at *
  generalize rs.length = L at *
  have c0 := bd.cell 0
  have c1 := bd.cell 1
  have c2 := bd.cell 2
  have c3 := bd.cell 3
  have c4 := bd.cell 4
  have c5 := bd.cell 5
  simp only [List.getElem?_toArray, List.getElem?_cons_zero, List.getElem?_cons_succ] at c0 c1 c2 c3 c4 c5
  have H := Lib.hid (And.intro hb1 (And.intro bd bz))
  have e0 : (ae != 0) = true := by simpa using he
  clear hb1 bd bz he
  go_enter Try.func32, Try.ntmps32
  go_wp2_with fail
  clear hW1
  refine hact.mono ?_
  rintro e W2 ⟨rfl, hb2⟩
  have bd2 := H.out.2.1.kept (Kept.of_below [] hb2) (by simp)
  have bz2 := H.out.2.2.kept (Kept.of_below [] hb2) (by simp)
  have hbb2 : Below w.heap.size w W2 := H.out.1.trans (hb2.mono H.out.1.size)
  have h6 := set6 bd2 (.slice pa n pc) (.slice rb L rc) (.int .i64 A.fuse) (.int .i64 A.flaw) (.bool A.dead) (.int .i64 A.ops)
  have bz3 := bz2.kept h6.2 (by simp; omega)
  have hbb3 : Below w.heap.size w _ := hbb2.trans (h6.2.below (by simp) hbb2.size)
  have hRA2 := HA.out.1.below hb2
  have hR3 : Ref _ (.slice pa n pc) (.slice rb L rc) A := ⟨own_kept0 hRA2.p h6.2 (own_apart hRA2.p bd2 (by decide)), own_kept0 hRA2.r h6.2 (own_apart hRA2.r bd2 (by decide))⟩
  have c0 := bd2.cell 0
  have c1 := bd2.cell 1
  have c2 := bd2.cell 2
  have c3 := bd2.cell 3
  have c4 := bd2.cell 4
  have c5 := bd2.cell 5
  have f0 := bd2.free 0
  have f1 := bd2.free 1
  have f2 := bd2.free 2
  have f3 := bd2.free 3
  have f4 := bd2.free 4
  have f5 := bd2.free 5
  simp only [List.getElem?_toArray, List.getElem?_cons_zero, List.getElem?_cons_succ] at c0 c1 c2 c3 c4 c5
  obtain ⟨W3, hW3⟩ : ∃ W3, ((((((W2.setCell ⟨w.heap.size, 0, none⟩ (.slice pa n pc)).setCell ⟨w.heap.size, 1, none⟩ (.slice rb L rc)).setCell ⟨w.heap.size, 2, none⟩ (.int .i64 A.fuse)).setCell ⟨w.heap.size, 3, none⟩ (.int .i64 A.flaw)).setCell ⟨w.heap.size, 4, none⟩ (.bool A.dead)).setCell ⟨w.heap.size, 5, none⟩ (.int .i64 A.ops)) = W3 := ⟨_, rfl⟩
  rw [hW3] at h6 bz3 hbb3 hR3
  have bd3 := h6.1
  have d0 : W3.cell? ⟨w.heap.size, 0, none⟩ = some (.slice pa n pc) := bd3.cell 0
  have d1 : W3.cell? ⟨w.heap.size, 1, none⟩ = some (.slice rb L rc) := bd3.cell 1
  have d2 : W3.cell? ⟨w.heap.size, 2, none⟩ = some (.int .i64 A.fuse) := bd3.cell 2
  have d3 : W3.cell? ⟨w.heap.size, 3, none⟩ = some (.int .i64 A.flaw) := bd3.cell 3
  have d4 : W3.cell? ⟨w.heap.size, 4, none⟩ = some (.bool A.dead) := bd3.cell 4
  have d5 : W3.cell? ⟨w.heap.size, 5, none⟩ = some (.int .i64 A.ops) := bd3.cell 5
  have y0 : W3.cell? ⟨w.heap.size + 1 + 1, 0, none⟩ = some (.slice none 0 0) := bz3.cell 0
  have y1 : W3.cell? ⟨w.heap.size + 1 + 1, 1, none⟩ = some (.slice none 0 0) := bz3.cell 1
  have y2 : W3.cell? ⟨w.heap.size + 1 + 1, 2, none⟩ = some (.int .i64 0) := bz3.cell 2
  have y3 : W3.cell? ⟨w.heap.size + 1 + 1, 3, none⟩ = some (.int .i64 0) := bz3.cell 3
  have y4 : W3.cell? ⟨w.heap.size + 1 + 1, 4, none⟩ = some (.bool false) := bz3.cell 4
  have y5 : W3.cell? ⟨w.heap.size + 1 + 1, 5, none⟩ = some (.int .i64 0) := bz3.cell 5
  have z0 := bz3.free 0
  have z1 := bz3.free 1
  have z2 := bz3.free 2
  have z3 := bz3.free 3
  have z4 := bz3.free 4
  have z5 := bz3.free 5
  have hs6 := set6 bz3 (.slice pa n pc) (.slice rb L rc) (.int .i64 A.fuse) (.int .i64 A.flaw) (.bool A.dead) (.int .i64 A.ops)
  have hfb := hbb3.trans (hs6.2.below (by simp; omega) hbb3.size)
  have hR5 : Ref _ (.slice pa n pc) (.slice rb L rc) A := ⟨own_kept0 hR3.p hs6.2 (own_apart hR3.p bz3 (by decide)), own_kept0 hR3.r hs6.2 (own_apart hR3.r bz3 (by decide))⟩
  have HE := Lib.hid (And.intro hs6.1 (And.intro hfb hR5))
  clear hbb3 bz3 hR3 hRA2 h6 hbb2 bz2 bd2 hact hb2 hs6 hfb hR5 bd3
  go_wp2_with fail
  refine bodyPost_ret (results_blk rfl _ _ (w.heap.size + 1 + 1) _ _ rfl HE.out.1 Try.underlying32 rfl (by kernel_rfl)) rfl ?_
  exact ⟨rfl, HE.out.2.2, HE.out.2.1⟩
end Go.Proofs.Ytaikgngigaohmaa
