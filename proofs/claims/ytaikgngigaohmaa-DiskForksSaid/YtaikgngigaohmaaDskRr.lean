/-
  The document's read, by its contract. Nothing here is a statement of the document.
-/
import Derived.Test.YtaikgngigaohmaaDskRs
namespace Go.Proofs.Ytaikgngigaohmaa
open Go.RowKit Go.Shelf
set_option linter.unusedVariables false
attribute [local go_sem ↓] store_blk_rule

theorem results_two {fn : Func} {p q u : Tmp} {ty ty2 : TypeId} (h : fn.results = #[.cell p ty, .cell q ty2, .tmp u]) (tmps : Array Value) (w : World) (g g2 : Nat) (vs vs2 : Array Value) (d d2 : TypeDesc)
    (hp : tmps.getD p undef = .pointer (some ⟨g, 0, none⟩)) (hq : tmps.getD q undef = .pointer (some ⟨g2, 0, none⟩)) (hb : Blk w g ty vs) (hb2 : Blk w g2 ty2 vs2)
    (hu : Try.prog.underlying ty = some d) (hd : d.isRow = true) (hi : (Try.prog.info? ty).map (·.size) = some vs.size)
    (hu2 : Try.prog.underlying ty2 = some d2) (hd2 : d2.isRow = true) (hi2 : (Try.prog.info? ty2).map (·.size) = some vs2.size) :
    (results fn tmps).run Try.prog w = .ok (.tuple #[.agg vs, .agg vs2, tmps.getD u undef]) w := by
  have hl := run_loadVar_row (P := Try.prog) w g ty ty vs (0, 0) d hb hu (by cases d <;> simp_all) hi
  have hl2 := run_loadVar_row (P := Try.prog) w g2 ty2 ty2 vs2 (0, 0) d2 hb2 hu2 (by cases d2 <;> simp_all) hi2
  have hp2 : tmps[p]?.getD undef = .pointer (some ⟨g, 0, none⟩) := by rw [← hp]; simp
  have hq2 : tmps[q]?.getD undef = .pointer (some ⟨g2, 0, none⟩) := by rw [← hq]; simp
  simp only [results, h]
  simp [Sem.run_bind, Result.andThen, asAddr, hp2, hq2, hl, hl2]

def readR (M : Rk) (i : Int) : Rk × Bk × Int :=
  if (actM M i false).2 = 0 then ((actM M i false).1, showsR (actM M i false).1 i.toNat, 0) else ((actM M i false).1, Bk.zero, (actM M i false).2)
theorem actM_in {M : Rk} {i : Int} {wr : Bool} (h : (actM M i wr).2 = 0) : 0 ≤ i ∧ i < (M.plate.length : Int) := by
  unfold actM at h
  split at h
  · simp at h
  · split at h
    · simp at h
    · rename_i h2
      omega

set_option maxRecDepth 100000 in
set_option maxHeartbeats 4000000 in
theorem read_ref {w : World} {pv rv : Value} {M : Rk} (h : Ref w pv rv M) (i : Int) (hp8 : M.plate.length ≤ 2048) (hr8 : M.rows.length ≤ 8) (hf : M.fuse ≤ 9223372036854775807) (hl : M.flaw ≤ 9223372036854775807) (hl2 : -1 ≤ M.flaw) :
    Calls Try.prog 29 #[.agg (M.vals pv rv), .int .i64 i] w fun e w' => e = .returned (.tuple #[.agg ((readR M i).1.vals pv rv), .agg (readR M i).2.1.cs, .int .i64 (readR M i).2.2]) ∧ Ref w' pv rv (readR M i).1 ∧ Below w.heap.size w w' := by
  obtain ⟨pa, pc, rfl⟩ := own_slice h.p
  obtain ⟨rb, rc, rfl⟩ := own_slice h.r
  obtain ⟨W1, hW1⟩ : ∃ W1, ((w.alloc (.cells (M.vals (.slice pa M.plate.length pc) (.slice rb M.rows.length rc)) 32)).alloc (.cells #[.slice none 0 0, .slice none 0 0, .int .i64 0, .int .i64 0, .bool false, .int .i64 0] 32)).alloc (.cells Bk.zero.cs 38) = W1 := ⟨_, rfl⟩
  have hb1 : Below w.heap.size w W1 := by rw [← hW1]; exact (((Below.refl _ _).alloc (Nat.le_refl _) _).alloc (by simp) _).alloc (by simp; omega) _
  have bd : Blk W1 w.heap.size 32 (M.vals (.slice pa M.plate.length pc) (.slice rb M.rows.length rc)) := by rw [← hW1]; exact ((Blk.new w _ _).alloc _).alloc _
  have bz : Blk W1 (w.heap.size + 1) 32 #[.slice none 0 0, .slice none 0 0, .int .i64 0, .int .i64 0, .bool false, .int .i64 0] := by rw [← hW1]; exact (Blk.new2 _ _ _ _).alloc _
  have bb : Blk W1 (w.heap.size + 1 + 1) 38 Bk.zero.cs := by rw [← hW1]; exact Blk.new3 _ _ _ _ _
  have hact := act_ref M pa pc rb M.rows.length rc i false W1 hf hl hl2
  have hlists := actM_lists M i false
  have hin := actM_in (M := M) (i := i) (wr := false)
  have hR1 := h.below hb1
  have HR0 := Lib.hid h
  have hsy : readR M i = if (actM M i false).2 = 0 then ((actM M i false).1, showsR (actM M i false).1 i.toNat, 0) else ((actM M i false).1, Bk.zero, (actM M i false).2) := rfl
  have HSY := Lib.hid hsy
  generalize readR M i = SR at *
  generalize actM M i false = AR at *
  obtain ⟨A, ae⟩ := AR
  have hRA : Ref W1 (.slice pa M.plate.length pc) (.slice rb M.rows.length rc) A := ⟨by rw [hlists.1]; exact hR1.p, by rw [hlists.2]; exact hR1.r⟩
  have hpl : A.plate.length = M.plate.length := by rw [hlists.1]
  have hrl : A.rows.length = M.rows.length := by rw [hlists.2]
  have HA := Lib.hid (And.intro hRA (And.intro hpl (And.intro hrl hin)))
  clear hsy hRA hpl hrl hin hR1 hlists h
  obtain ⟨pl, rs, fu, fl, de, op⟩ := M
  simp only [Rk.vals] at *
  generalize pl.length = n at *
  generalize rs.length = L at *
  have c0 := bd.cell 0
  have c1 := bd.cell 1
  have c2 := bd.cell 2
  have c3 := bd.cell 3
  have c4 := bd.cell 4
  have c5 := bd.cell 5
  simp only [List.getElem?_toArray, List.getElem?_cons_zero, List.getElem?_cons_succ] at c0 c1 c2 c3 c4 c5
  have H := Lib.hid (And.intro hb1 (And.intro bd (And.intro bz bb)))
  clear hb1 bd bz bb
  go_enter Try.func29, Try.ntmps29
  go_wp2_with (with_reducible refine wpList_alloc_z rfl 38 rfl Bk.zero.cs 64 z_blk ?_)
  clear hW1
  refine hact.mono ?_
  rintro e W2 ⟨rfl, hb2⟩
  have bd2 := H.out.2.1.kept (Kept.of_below [] hb2) (by simp)
  have bz2 := H.out.2.2.1.kept (Kept.of_below [] hb2) (by simp)
  have bb2 := H.out.2.2.2.kept (Kept.of_below [] hb2) (by simp)
  have hbb2 : Below w.heap.size w W2 := H.out.1.trans (hb2.mono H.out.1.size)
  have h6 := set6 bd2 (.slice pa n pc) (.slice rb L rc) (.int .i64 A.fuse) (.int .i64 A.flaw) (.bool A.dead) (.int .i64 A.ops)
  have bz3 := bz2.kept h6.2 (by simp)
  have bb3 := bb2.kept h6.2 (by simp; omega)
  have hbb3 : Below w.heap.size w _ := hbb2.trans (h6.2.below (by simp) hbb2.size)
  have hRA2 := HA.out.1.below hb2
  have hR3 : Ref _ (.slice pa n pc) (.slice rb L rc) A := ⟨own_kept0 hRA2.p h6.2 (own_apart hRA2.p bd2 (by decide)), own_kept0 hRA2.r h6.2 (own_apart hRA2.r bd2 (by decide))⟩
  have c0 := bd2.cell 0
  have c1 := bd2.cell 1
  have c2 := bd2.cell 2
  have c3 := bd2.cell 3
  have c4 := bd2.cell 4
  have c5 := bd2.cell 5
  have f0 := bd2.free 0
  have f1 := bd2.free 1
  have f2 := bd2.free 2
  have f3 := bd2.free 3
  have f4 := bd2.free 4
  have f5 := bd2.free 5
  simp only [List.getElem?_toArray, List.getElem?_cons_zero, List.getElem?_cons_succ] at c0 c1 c2 c3 c4 c5
  obtain ⟨W3, hW3⟩ : ∃ W3, ((((((W2.setCell ⟨w.heap.size, 0, none⟩ (.slice pa n pc)).setCell ⟨w.heap.size, 1, none⟩ (.slice rb L rc)).setCell ⟨w.heap.size, 2, none⟩ (.int .i64 A.fuse)).setCell ⟨w.heap.size, 3, none⟩ (.int .i64 A.flaw)).setCell ⟨w.heap.size, 4, none⟩ (.bool A.dead)).setCell ⟨w.heap.size, 5, none⟩ (.int .i64 A.ops)) = W3 := ⟨_, rfl⟩
  rw [hW3] at h6 bz3 bb3 hbb3 hR3
  have bd3 := h6.1
  have H3 := Lib.hid (And.intro hbb3 (And.intro bd3 (And.intro bz3 (And.intro bb3 hR3))))
  clear hbb3 bz3 bb3 hR3 hRA2 h6 hbb2 bz2 bb2 bd2 hact hb2
  have d0 : W3.cell? ⟨w.heap.size, 0, none⟩ = some (.slice pa n pc) := bd3.cell 0
  have d1 : W3.cell? ⟨w.heap.size, 1, none⟩ = some (.slice rb L rc) := bd3.cell 1
  have d2 : W3.cell? ⟨w.heap.size, 2, none⟩ = some (.int .i64 A.fuse) := bd3.cell 2
  have d3 : W3.cell? ⟨w.heap.size, 3, none⟩ = some (.int .i64 A.flaw) := bd3.cell 3
  have d4 : W3.cell? ⟨w.heap.size, 4, none⟩ = some (.bool A.dead) := bd3.cell 4
  have d5 : W3.cell? ⟨w.heap.size, 5, none⟩ = some (.int .i64 A.ops) := bd3.cell 5
  by_cases he : ae = 0
  · subst he
    go_wp2_with fail
    clear hW3 c0 c1 c2 c3 c4 c5 f0 f1 f2 f3 f4 f5
    obtain ⟨k, rfl⟩ : ∃ k : Nat, i = (k : Int) := ⟨i.toNat, by have := (HA.out.2.2.2 (by trivial)).1; omega⟩
    have hkn : k < A.plate.length := by have := (HA.out.2.2.2 (by trivial)).2; rw [HA.out.2.1]; omega
    have hsr : SR = (A, showsR A k, 0) := by rw [HSY.out]; simp
    have HSR := Lib.hid (And.intro hsr hkn)
    clear hsr hkn
    go_region_with (first | (go_at_call 16; have hsw := shows_ref (H3.out.2.2.2.2.drew) k HSR.out.2 (by rw [HA.out.2.1]; exact hp8) (by rw [HA.out.2.2.1]; exact hr8); simp only [Rk.vals] at hsw; refine hsw.mono ?_; rintro e W4 ⟨rfl, hb4⟩; have b4 := bd3.drew.kept (Kept.of_below [] hb4) (by simp); have x0 : W4.cell? ⟨w.heap.size, 0, none⟩ = some (.slice pa n pc) := b4.cell 0; have x1 : W4.cell? ⟨w.heap.size, 1, none⟩ = some (.slice rb L rc) := b4.cell 1; have x2 : W4.cell? ⟨w.heap.size, 2, none⟩ = some (.int .i64 A.fuse) := b4.cell 2; have x3 : W4.cell? ⟨w.heap.size, 3, none⟩ = some (.int .i64 A.flaw) := b4.cell 3; have x4 : W4.cell? ⟨w.heap.size, 4, none⟩ = some (.bool A.dead) := b4.cell 4; have x5 : W4.cell? ⟨w.heap.size, 5, none⟩ = some (.int .i64 A.ops) := b4.cell 5; have bz4 := H3.out.2.2.1.drew.kept (Kept.of_below [] hb4) (by simp); have y0 : W4.cell? ⟨w.heap.size + 1, 0, none⟩ = some (.slice none 0 0) := bz4.cell 0; have y1 : W4.cell? ⟨w.heap.size + 1, 1, none⟩ = some (.slice none 0 0) := bz4.cell 1; have y2 : W4.cell? ⟨w.heap.size + 1, 2, none⟩ = some (.int .i64 0) := bz4.cell 2; have y3 : W4.cell? ⟨w.heap.size + 1, 3, none⟩ = some (.int .i64 0) := bz4.cell 3; have y4 : W4.cell? ⟨w.heap.size + 1, 4, none⟩ = some (.bool false) := bz4.cell 4; have y5 : W4.cell? ⟨w.heap.size + 1, 5, none⟩ = some (.int .i64 0) := bz4.cell 5; have z0 := bz4.free 0; have z1 := bz4.free 1; have z2 := bz4.free 2; have z3 := bz4.free 3; have z4 := bz4.free 4; have z5 := bz4.free 5; have bb4 := H3.out.2.2.2.1.drew.kept (Kept.of_below [] hb4) (by simp); have hs6 := set6 bz4 (.slice pa n pc) (.slice rb L rc) (.int .i64 A.fuse) (.int .i64 A.flaw) (.bool A.dead) (.int .i64 A.ops); have bb5 := bb4.kept hs6.2 (by simp); have S1 := storeRes_of (P := Try.prog) (o := 0) (vs := (showsR A k).cs) bb5 (by rw [Bk.size, Bk.size]; omega) (s_blk _) (showsR A k).one; have S2 := storeRes_of (P := Try.prog) (o := 0) (vs := (showsR A k).cs) bb4 (by rw [Bk.size, Bk.size]; omega) (s_blk _) (showsR A k).one; have HS6 := Lib.hid hs6; clear hs6))
    all_goals
      have hov : over Bk.zero.cs 0 (showsR A k).cs = (showsR A k).cs := over_all (by rw [Bk.size, Bk.size])
      rw [hov]
      have hkr := (Kept.refl [w.heap.size + 1 + 1] ((((((W4.setCell ⟨w.heap.size + 1, 0, none⟩ (.slice pa n pc)).setCell ⟨w.heap.size + 1, 1, none⟩ (.slice rb L rc)).setCell ⟨w.heap.size + 1, 2, none⟩ (.int .i64 A.fuse)).setCell ⟨w.heap.size + 1, 3, none⟩ (.int .i64 A.flaw)).setCell ⟨w.heap.size + 1, 4, none⟩ (.bool A.dead)).setCell ⟨w.heap.size + 1, 5, none⟩ (.int .i64 A.ops))).setRow (g := w.heap.size + 1 + 1) (.inl (by simp)) (showsR A k).cs
      have b7 := HS6.out.1.kept hkr (by simp)
      have b8 := bb5.row (showsR A k).cs
      have hbb4 : Below w.heap.size w W4 := H3.out.1.trans ((show Below W3.heap.size W3 W4 from ⟨hb4.os, hb4.tape, hb4.output, hb4.size, hb4.block⟩).mono H3.out.1.size)
      have hfb := (hbb4.trans (HS6.out.2.below (by simp) hbb4.size)).trans (hkr.below (by simp; omega) (Nat.le_trans hbb4.size HS6.out.2.size))
      have hR4 := (H3.out.2.2.2.2.drew).below hb4
      have hR5 : Ref _ (.slice pa n pc) (.slice rb L rc) A := ⟨own_kept0 hR4.p HS6.out.2 (own_apart hR4.p bz4 (by decide)), own_kept0 hR4.r HS6.out.2 (own_apart hR4.r bz4 (by decide))⟩
      have hpo : ∀ q, (Value.slice pa n pc).ownBlock = some q → q ∉ [w.heap.size + 1 + 1] := by
        intro q hq h9
        have h8 : q = w.heap.size + 1 + 1 := by simpa using h9
        have := (HR0.out.p.lt q hq).2
        omega
      have hro : ∀ q, (Value.slice rb L rc).ownBlock = some q → q ∉ [w.heap.size + 1 + 1] := by
        intro q hq h9
        have h8 : q = w.heap.size + 1 + 1 := by simpa using h9
        have := (HR0.out.r.lt q hq).2
        omega
      have hR6 : Ref _ (.slice pa n pc) (.slice rb L rc) A := ⟨own_kept0 hR5.p hkr hpo, own_kept0 hR5.r hkr hro⟩
      have HE := Lib.hid (And.intro b7 (And.intro b8 (And.intro hfb hR6)))
      clear hov hkr b7 b8 hbb4 hfb hR4 hR5 hpo hro hR6 S1 S2 bb5 bb4 bz4 b4 hb4 y0 y1 y2 y3 y4 y5 z0 z1 z2 z3 z4 z5 x0 x1 x2 x3 x4 x5
      go_wp2
      refine bodyPost_ret (results_two rfl _ _ (w.heap.size + 1) (w.heap.size + 1 + 1) _ _ _ _ rfl rfl HE.out.1 HE.out.2.1 Try.underlying32 rfl (by kernel_rfl) Try.underlying38 rfl (s_blk _)) rfl ?_
      exact ⟨by rw [HSR.out.1]; rfl, by rw [HSR.out.1]; exact HE.out.2.2.2, HE.out.2.2.1⟩
  · have e0 : (ae != 0) = true := by simpa using he
    have bz3 := H3.out.2.2.1
    have bb3 := H3.out.2.2.2.1
    have y0 : W3.cell? ⟨w.heap.size + 1, 0, none⟩ = some (.slice none 0 0) := bz3.cell 0
    have y1 : W3.cell? ⟨w.heap.size + 1, 1, none⟩ = some (.slice none 0 0) := bz3.cell 1
    have y2 : W3.cell? ⟨w.heap.size + 1, 2, none⟩ = some (.int .i64 0) := bz3.cell 2
    have y3 : W3.cell? ⟨w.heap.size + 1, 3, none⟩ = some (.int .i64 0) := bz3.cell 3
    have y4 : W3.cell? ⟨w.heap.size + 1, 4, none⟩ = some (.bool false) := bz3.cell 4
    have y5 : W3.cell? ⟨w.heap.size + 1, 5, none⟩ = some (.int .i64 0) := bz3.cell 5
    have z0 := bz3.free 0
    have z1 := bz3.free 1
    have z2 := bz3.free 2
    have z3 := bz3.free 3
    have z4 := bz3.free 4
    have z5 := bz3.free 5
    have hs6 := set6 bz3 (.slice pa n pc) (.slice rb L rc) (.int .i64 A.fuse) (.int .i64 A.flaw) (.bool A.dead) (.int .i64 A.ops)
    have bb5 := bb3.kept hs6.2 (by simp)
    have hkr := (Kept.refl [w.heap.size + 1 + 1] ((((((W3.setCell ⟨w.heap.size + 1, 0, none⟩ (.slice pa n pc)).setCell ⟨w.heap.size + 1, 1, none⟩ (.slice rb L rc)).setCell ⟨w.heap.size + 1, 2, none⟩ (.int .i64 A.fuse)).setCell ⟨w.heap.size + 1, 3, none⟩ (.int .i64 A.flaw)).setCell ⟨w.heap.size + 1, 4, none⟩ (.bool A.dead)).setCell ⟨w.heap.size + 1, 5, none⟩ (.int .i64 A.ops))).setRow (g := w.heap.size + 1 + 1) (.inl (by simp)) Bk.zero.cs
    have b7 := hs6.1.kept hkr (by simp)
    have b8 := bb5.row Bk.zero.cs
    have hbb4 := H3.out.1
    have hfb := (hbb4.trans (hs6.2.below (by simp) hbb4.size)).trans (hkr.below (by simp; omega) (Nat.le_trans hbb4.size hs6.2.size))
    have hR4 := H3.out.2.2.2.2
    have hR5 : Ref _ (.slice pa n pc) (.slice rb L rc) A := ⟨own_kept0 hR4.p hs6.2 (own_apart hR4.p bz3 (by decide)), own_kept0 hR4.r hs6.2 (own_apart hR4.r bz3 (by decide))⟩
    have hpo : ∀ q, (Value.slice pa n pc).ownBlock = some q → q ∉ [w.heap.size + 1 + 1] := by
      intro q hq h9
      have h8 : q = w.heap.size + 1 + 1 := by simpa using h9
      have := (HR0.out.p.lt q hq).2
      omega
    have hro : ∀ q, (Value.slice rb L rc).ownBlock = some q → q ∉ [w.heap.size + 1 + 1] := by
      intro q hq h9
      have h8 : q = w.heap.size + 1 + 1 := by simpa using h9
      have := (HR0.out.r.lt q hq).2
      omega
    have hR6 : Ref _ (.slice pa n pc) (.slice rb L rc) A := ⟨own_kept0 hR5.p hkr hpo, own_kept0 hR5.r hkr hro⟩
    have hsr : SR = (A, Bk.zero, ae) := by rw [HSY.out]; simp [he]
    have hfit : 0 + Bk.zero.cs.size ≤ Bk.zero.cs.size := by omega
    have HF := Lib.hid (And.intro hfit (And.intro zero_store bb5))
    have HE := Lib.hid (And.intro b7 (And.intro b8 (And.intro hfb (And.intro hR6 hsr))))
    clear hkr b7 b8 hbb4 hfb hR4 hR5 hpo hro hR6 hsr hfit he bz3 bb3 hs6 bb5 bd3
    go_wp2_with (first | (with_reducible refine wpList_build_zero rfl rfl ?_) | (with_reducible refine wpList_store_blk rfl 38 (.tmp 5) (.tmp 17) rfl (w.heap.size + 1 + 1) 0 Bk.zero.cs Bk.zero.cs _ rfl rfl HF.out.2.2 HF.out.1 (s_blk Bk.zero) Bk.zero.one ?_; rw [HF.out.2.1]))
    refine bodyPost_ret (results_two rfl _ _ (w.heap.size + 1) (w.heap.size + 1 + 1) _ _ _ _ rfl rfl HE.out.1 HE.out.2.1 Try.underlying32 rfl (by kernel_rfl) Try.underlying38 rfl (s_blk _)) rfl ?_
    exact ⟨by rw [HE.out.2.2.2.2]; rfl, by rw [HE.out.2.2.2.2]; exact HE.out.2.2.2.1, HE.out.2.2.1⟩
end Go.Proofs.Ytaikgngigaohmaa
