/-
  The document's crash, sync and read, by their contracts. Nothing here is a statement of the document.
-/
import Derived.Test.YtaikgngigaohmaaDskDown
import Derived.Deep.RegionHeld3
namespace Go.Proofs.Ytaikgngigaohmaa
open Go.RowKit Go.Shelf
set_option linter.unusedVariables false

theorem field_plate (A : Option Addr) (n c : Nat) (x1 x2 x3 x4 x5 : Value) (w : World) : (Instr.field 32 (.agg #[.slice A n c, x1, x2, x3, x4, x5]) 0).run Try.prog w = .ok (.slice A n c) w := by
  first | rfl | kernel_rfl

/-- Six cells are written. -/
theorem set6 {w : World} {g : Nat} {t : TypeId} {z0 z1 z2 z3 z4 z5 : Value} (h : Blk w g t #[z0, z1, z2, z3, z4, z5]) (a0 a1 a2 a3 a4 a5 : Value) :
    Blk ((((((w.setCell ⟨g, 0, none⟩ a0).setCell ⟨g, 1, none⟩ a1).setCell ⟨g, 2, none⟩ a2).setCell ⟨g, 3, none⟩ a3).setCell ⟨g, 4, none⟩ a4).setCell ⟨g, 5, none⟩ a5) g t #[a0, a1, a2, a3, a4, a5] ∧
    Kept [g] w ((((((w.setCell ⟨g, 0, none⟩ a0).setCell ⟨g, 1, none⟩ a1).setCell ⟨g, 2, none⟩ a2).setCell ⟨g, 3, none⟩ a3).setCell ⟨g, 4, none⟩ a4).setCell ⟨g, 5, none⟩ a5) :=
  ⟨(((((h.set 0 a0).set 1 a1).set 2 a2).set 3 a3).set 4 a4).set 5 a5,
   ((((((Kept.refl _ _).setCell (p := ⟨g, 0, none⟩) (.inl (by simp)) _).setCell (p := ⟨g, 1, none⟩) (.inl (by simp)) _).setCell (p := ⟨g, 2, none⟩) (.inl (by simp)) _).setCell (p := ⟨g, 3, none⟩) (.inl (by simp)) _).setCell (p := ⟨g, 4, none⟩) (.inl (by simp)) _).setCell (p := ⟨g, 5, none⟩) (.inl (by simp)) _⟩
/-- A row that is owned lies in no block of another type. -/
theorem own_apart {w : World} {b : Nat} {e t : TypeId} {size : Nat} {v : Value} {n : Nat} {xs : List Value} {g : Nat} {cs : Array Value} (h : w.ownsRow b e size v n xs) (hb : Blk w g t cs) (ht : e ≠ t) : ∀ k, v.ownBlock = some k → k ∉ [g] := by
  intro k hk h9
  obtain rfl : k = g := by simpa using h9
  rcases h.2 with ⟨h7, _⟩ | ⟨g5, cc5, cur5, h7, _, h6, _⟩
  · rw [h7] at hk; simp [Value.ownBlock] at hk
  · rw [h7] at hk
    simp only [Value.ownBlock, Option.some.injEq] at hk
    subst hk
    exact (show Blk w g5 e cur5 from h6).ne hb ht rfl

def crashR (M : Rk) (ks : List Bool) : Rk := ⟨(downR M ks).plate, [], -1, -1, false, M.ops⟩

set_option maxRecDepth 100000 in
set_option maxHeartbeats 4000000 in
theorem crash_ref {w : World} {pv rv : Value} {M : Rk} (h : Ref w pv rv M) (ks : List Bool) (ka : Option Addr) (kc : Nat) (hks : Bools w ka ks) (hkl : ks.length ≤ 9223372036854775807) (hp0 : 0 < M.plate.length) (hp8 : M.plate.length ≤ 2048) (hr8 : M.rows.length ≤ 8) (hrs : ∀ r ∈ M.rows, r.s < M.plate.length) :
    Calls Try.prog 31 #[.agg (M.vals pv rv), .slice ka ks.length kc] w fun e w' => ∃ pv', e = .returned (.agg ((crashR M ks).vals pv' (.slice none 0 0))) ∧ Ref w' pv' (.slice none 0 0) (crashR M ks) ∧ Below w.heap.size w w' ∧ NewP w pv pv' := by
  obtain ⟨pa, pc, rfl⟩ := own_slice h.p
  obtain ⟨rb, rc, rfl⟩ := own_slice h.r
  obtain ⟨W1, hW1⟩ : ∃ W1, (w.alloc (.cells (M.vals (.slice pa M.plate.length pc) (.slice rb M.rows.length rc)) 32)).alloc (.cells #[.slice none 0 0, .slice none 0 0, .int .i64 0, .int .i64 0, .bool false, .int .i64 0] 32) = W1 := ⟨_, rfl⟩
  have hb1 : Below w.heap.size w W1 := by rw [← hW1]; exact ((Below.refl _ _).alloc (Nat.le_refl _) _).alloc (by simp) _
  have bd : Blk W1 w.heap.size 32 (M.vals (.slice pa M.plate.length pc) (.slice rb M.rows.length rc)) := by rw [← hW1]; exact (Blk.new w _ _).alloc _
  have bz : Blk W1 (w.heap.size + 1) 32 #[.slice none 0 0, .slice none 0 0, .int .i64 0, .int .i64 0, .bool false, .int .i64 0] := by rw [← hW1]; exact Blk.new2 _ _ _ _
  have hd1 := (h.below hb1).below (w' := W1.drew) ⟨rfl, rfl, rfl, Nat.le_refl _, fun _ _ => rfl⟩
  have hks1 : Bools W1.drew ka ks := by
    rcases hks with h9 | ⟨b, o, h1, h2, h3⟩
    · exact .inl h9
    · exact .inr ⟨b, o, h1, Nat.lt_of_lt_of_le h2 hb1.size, fun i hi => (hb1.cell (p := ⟨b, o + i, none⟩) h2).trans (h3 i hi)⟩
  have hdown := down_ref hd1 ks ka kc hks1 hkl hp0 hp8 hr8 hrs
  have hlenP : (downR M ks).plate.length = M.plate.length := (downTo_len M ks _).1
  have hcr : crashR M ks = ⟨(downR M ks).plate, [], -1, -1, false, M.ops⟩ := rfl
  have HCR := Lib.hid (And.intro hcr hlenP)
  clear hcr hlenP hd1 hks1 hrs hks h
  generalize crashR M ks = CR at *
  generalize downR M ks = DR at *
  obtain ⟨pl, rs, fu, fl, de, op⟩ := M
  simp only [Rk.vals] at *
  generalize pl.length = n at *
  generalize rs.length = L at *
  have c0 := bd.cell 0
  have c1 := bd.cell 1
  have c2 := bd.cell 2
  have c3 := bd.cell 3
  have c4 := bd.cell 4
  have c5 := bd.cell 5
  simp only [List.getElem?_toArray, List.getElem?_cons_zero, List.getElem?_cons_succ] at c0 c1 c2 c3 c4 c5
  have H := Lib.hid (And.intro hb1 (And.intro bd bz))
  clear hb1 bd bz
  go_enter Try.func31, Try.ntmps31
  go_wp2_with fail
  clear hW1
  have hfld := field_plate
  go_region_with (first | (go_at_call 49; refine hdown.mono ?_; rintro e W2 ⟨pv2, rv2, he, hR2, hb2, hn2, _⟩; obtain ⟨pa2, pc2, rfl⟩ := own_slice hR2.p; obtain ⟨rb2, rc2, rfl⟩ := own_slice hR2.r; subst he; have hb1d := H.out.2.1.drew.kept (Kept.of_below [] hb2) (by simp); have c5b : W2.cell? ⟨w.heap.size, 5, none⟩ = some (.int .i64 op) := hb1d.cell 5; have bz2 := H.out.2.2.drew.kept (Kept.of_below [] hb2) (by simp); have z0 := bz2.free 0; have z1 := bz2.free 1; have z2 := bz2.free 2; have z3 := bz2.free 3; have z4 := bz2.free 4; have z5 := bz2.free 5; have y0 : W2.cell? ⟨w.heap.size + 1, 0, none⟩ = some (.slice none 0 0) := bz2.cell 0; have y1 : W2.cell? ⟨w.heap.size + 1, 1, none⟩ = some (.slice none 0 0) := bz2.cell 1; have y2 : W2.cell? ⟨w.heap.size + 1, 2, none⟩ = some (.int .i64 0) := bz2.cell 2; have y3 : W2.cell? ⟨w.heap.size + 1, 3, none⟩ = some (.int .i64 0) := bz2.cell 3; have y4 : W2.cell? ⟨w.heap.size + 1, 4, none⟩ = some (.bool false) := bz2.cell 4; have y5 : W2.cell? ⟨w.heap.size + 1, 5, none⟩ = some (.int .i64 0) := bz2.cell 5))
  all_goals
    have HN2 := Lib.hid (NewP.mono hn2 (w := w) H.out.1.size)
    clear hn2
    have h6 := set6 bz2 (.slice pa2 DR.plate.length pc2) (.slice none 0 0) (.int .i64 (-1)) (.int .i64 (-1)) (.bool false) (.int .i64 op)
    have hbb : Below w.heap.size w W2 := H.out.1.trans ((show Below W1.heap.size W1 W2 from ⟨hb2.os, hb2.tape, hb2.output, hb2.size, hb2.block⟩).mono H.out.1.size)
    have hfb := hbb.trans (h6.2.below (by simp) hbb.size)
    have hp2 := own_kept0 hR2.p h6.2 (own_apart hR2.p bz2 (by decide))
    have HE := Lib.hid (And.intro h6.1 (And.intro hfb hp2))
    clear h6 hbb hfb hp2 hR2 hb2 hb1d c5b bz2 z0 z1 z2 z3 z4 z5 y0 y1 y2 y3 y4 y5 hdown
    go_wp2
    refine bodyPost_ret (results_cell_row rfl _ _ (w.heap.size + 1) 32 _ (0, 0) _ rfl HE.out.1 Try.underlying32 rfl (by kernel_rfl)) rfl ?_
    refine ⟨.slice pa2 DR.plate.length pc2, by rw [HCR.out.1], ⟨?_, ?_⟩, HE.out.2.1, HN2.out⟩
    · rw [HCR.out.1]; exact HE.out.2.2
    · rw [HCR.out.1]; exact World.ownsRow_nil _ _ _ _
end Go.Proofs.Ytaikgngigaohmaa
