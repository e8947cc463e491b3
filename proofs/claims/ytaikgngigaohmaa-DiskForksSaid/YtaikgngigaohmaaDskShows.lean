/-
  What a sector shows by the document, by its contract. Nothing here is a statement of the document.
-/
import Derived.Test.YtaikgngigaohmaaDskO
namespace Go.Proofs.Ytaikgngigaohmaa
open Go.RowKit Go.Shelf
set_option linter.unusedVariables false

theorem z_rrow : (Try.prog.info? 74).map (fun i => (i.zero, i.size)) = some (some (.agg Rw.zero.cs), 65) := by kernel_rfl
theorem s_rrow (r : Rw) : (Try.prog.info? 74).map (·.size) = some r.cs.size := by rw [r.size]; exact (zero_of_info z_rrow).2

def showsFrom (b : Bk) (l : List Rw) (i : Nat) : Bk := l.foldl (fun b r => if r.s = i then r.b else b) b
theorem showsFrom_snoc (b : Bk) (l : List Rw) (r : Rw) (i : Nat) : showsFrom b (l ++ [r]) i = if r.s = i then r.b else showsFrom b l i := by simp [showsFrom]
def showsR (M : Rk) (i : Nat) : Bk := showsFrom (M.plate.getD i Bk.zero) M.rows i

/-- The rows of the document's disk, in memory. -/
theorem own_rows {w : World} {v : Value} {l : List Rw} (h : w.ownsRow 0 74 65 v l.length (rcs l)) :
    ∃ b c, v = .slice b l.length c ∧ ∀ (j : Nat) (r : Rw), l[j]? = some r → ∃ g C, b = some ⟨g, 0, none⟩ ∧ Blk w g 74 C ∧ l.length * 65 ≤ C.size ∧ ∀ q, q < 65 → C[j * 65 + q]? = r.cs[q]? := by
  by_cases hl : 0 < l.length
  · obtain ⟨g, c, C, rfl, _, hb, hs, _, _, hc⟩ := own_cells h hl
    refine ⟨_, _, rfl, fun j r hj => ⟨g, C, rfl, hb, hs, fun q hq => ?_⟩⟩
    have hjl : j < l.length := (List.getElem?_eq_some_iff.1 hj).1
    rw [hc _ (by omega), rcs_get hj hq]
  · obtain ⟨a, c, rfl⟩ := own_slice h
    exact ⟨a, c, rfl, fun j r hj => by have := (List.getElem?_eq_some_iff.1 hj).1; omega⟩

set_option maxRecDepth 100000 in
set_option maxHeartbeats 4000000 in
theorem shows_ref {w : World} {pv rv : Value} {M : Rk} (h : Ref w pv rv M) (i : Nat) (hi : i < M.plate.length) (hp8 : M.plate.length ≤ 2048) (hr8 : M.rows.length ≤ 8) :
    Calls Try.prog 16 #[.agg (M.vals pv rv), .int .i64 (i : Int)] w fun e w' => e = .returned (.agg (showsR M i).cs) ∧ Below w.heap.size w w' := by
  obtain ⟨g, c, C, rfl, _, hbp, hps, hpc, hpm, hC⟩ := own_cells h.p (by omega)
  obtain ⟨rb, rc, rfl, hrow⟩ := own_rows h.r
  obtain ⟨b0, hb0⟩ : ∃ b0, M.plate[i]? = some b0 := ⟨_, List.getElem?_eq_getElem hi⟩
  have hsh : showsR M i = showsFrom b0 M.rows i := by simp [showsR, List.getD_eq_getElem?_getD, hb0]
  have hld : ∀ j, j < b0.cs.size → C[i * 64 + j]? = b0.cs[j]? := fun j hj => by
    rw [Bk.size] at hj
    rw [hC _ (by omega), pcs_get hb0 hj]
  rw [hsh]
  obtain ⟨pl, rs, fu, fl, de, op⟩ := M
  simp only [Rk.vals] at *
  generalize pl.length = n at *
  obtain ⟨W1, hW1⟩ : ∃ W1, (w.alloc (.cells #[.slice (some ⟨g, 0, none⟩) n c, .slice rb rs.length rc, .int .i64 fu, .int .i64 fl, .bool de, .int .i64 op] 32)).alloc (.cells Bk.zero.cs 38) = W1 := ⟨_, rfl⟩
  have hsz1 : W1.heap.size = w.heap.size + 2 := by rw [← hW1]; simp
  have hb1 : Below w.heap.size w W1 := by rw [← hW1]; exact ((Below.refl _ _).alloc (Nat.le_refl _) _).alloc (by simp) _
  have bd : Blk W1 w.heap.size 32 #[.slice (some ⟨g, 0, none⟩) n c, .slice rb rs.length rc, .int .i64 fu, .int .i64 fl, .bool de, .int .i64 op] := by rw [← hW1]; exact (Blk.new w _ _).alloc _
  have bz : Blk W1 (w.heap.size + 1) 38 Bk.zero.cs := by rw [← hW1]; exact Blk.new2 _ _ _ _
  have bp : Blk W1 g 38 C := hbp.kept (Kept.of_below [] hb1) (by simp)
  obtain ⟨W2, hW2⟩ : ∃ W2, W1.alloc (.cells b0.cs 38) = W2 := ⟨_, rfl⟩
  have hb12 : Below W1.heap.size W1 W2 := by rw [← hW2]; exact (Below.refl _ _).alloc (Nat.le_refl _) _
  have hb2 : Below w.heap.size w W2 := hb1.trans (hb12.mono hb1.size)
  have b5 : Blk W2 W1.heap.size 38 b0.cs := by rw [← hW2]; exact Blk.new _ _ _
  have bz2 := bz.kept (Kept.of_below [] hb12) (by simp)
  have bd2 := bd.kept (Kept.of_below [] hb12) (by simp)
  rw [hsz1] at b5
  have c0 := bd.cell 0
  have c1 := bd.cell 1
  have d1 := bd2.cell 1
  simp only [List.getElem?_toArray, List.getElem?_cons_zero, List.getElem?_cons_succ] at c0 c1 d1
  have hz : Bk.zero.cs.size = b0.cs.size := by rw [Bk.size, Bk.size]
  have HZ := Lib.hid hz
  have HL := Lib.hid hld
  have HR := Lib.hid hrow
  have H2 := Lib.hid (And.intro hb2 (And.intro b5 bz2))
  have HS := Lib.hid hsz1
  have hin : (i : Int) < (n : Int) := by omega
  clear hsh hC hps hbp hb1 bd bz hb12 hb2 b5 bz2 bd2 hz hld hrow hb0 h
  go_enter Try.func16, Try.ntmps16
  go_wp2_with (first | (with_reducible refine wpList_alloc_z rfl 38 rfl Bk.zero.cs 64 z_blk ?_) | (with_reducible refine wpList_load_blk rfl 38 (.tmp 11) rfl g (i * 64) rfl b0.cs C _ bp HL.out _ Try.underlying38 rfl (s_blk b0) ?_) | (with_reducible refine wpList_store_new rfl 38 (.tmp 5) (.tmp 12) rfl b0.cs Bk.zero.cs _ rfl rfl HZ.out (s_blk b0) b0.one ?_))
  clear hW2 hW1 c0 c1 d1 bp hsz1
  go_loopw [16] (fun x wi => ∃ j : Nat, j ≤ rs.length ∧ x = .int .i64 j ∧ Blk wi (w.heap.size + 2) 38 (showsFrom b0 (rs.take j) i).cs ∧ Blk wi (w.heap.size + 1) 38 Bk.zero.cs ∧ Below w.heap.size w wi) (fun x _ => rs.length - (intOf x).toNat)
  case atStart => exact ⟨0, Nat.zero_le _, rfl, H2.out.2.1, H2.out.2.2, H2.out.1⟩
  case round =>
    obtain ⟨j, hj, rfl, h5, hz2, hbw⟩ := hrel
    by_cases hlt : j < rs.length
    · obtain ⟨r, hr⟩ : ∃ r, rs[j]? = some r := ⟨_, List.getElem?_eq_getElem hlt⟩
      obtain ⟨g2, C2, rfl, hb2, hs2, hc2⟩ := HR.out j r hr
      have hb2' := hb2.kept (Kept.of_below [] hbw) (by simp)
      have hld2 : ∀ q, q < r.cs.size → C2[j * 65 + q]? = r.cs[q]? := fun q hq => hc2 q (by rw [Rw.size] at hq; exact hq)
      have HL2 := Lib.hid hld2
      have hji : (j : Int) < (rs.length : Int) := by omega
      obtain ⟨W3, hW3⟩ : ∃ W3, wr.alloc (.cells r.cs 74) = W3 := ⟨_, rfl⟩
      have hb3 : Below wr.heap.size wr W3 := by rw [← hW3]; exact (Below.refl _ _).alloc (Nat.le_refl _) _
      have b7 : Blk W3 wr.heap.size 74 r.cs := by rw [← hW3]; exact Blk.new _ _ _
      have b53 := h5.kept (Kept.of_below [] hb3) (by simp)
      have bz3 := hz2.kept (Kept.of_below [] hb3) (by simp)
      have hzr : Rw.zero.cs.size = r.cs.size := by rw [Rw.size, Rw.size]
      have HZR := Lib.hid hzr
      have e0 : W3.cell? ⟨wr.heap.size, 0, none⟩ = some (.int .i64 (r.s : Int)) := (b7.cell 0).trans (Rw.cell0 r)
      have htk : showsFrom b0 (rs.take (j + 1)) i = if r.s = i then r.b else showsFrom b0 (rs.take j) i := by
        rw [List.take_add_one, hr]
        exact showsFrom_snoc _ _ _ _
      have hld3 : ∀ q, q < r.b.cs.size → r.cs[1 + q]? = r.b.cs[q]? := fun q _ => Rw.cell1 r q
      have HL3 := Lib.hid hld3
      have hbb3 : Below w.heap.size w W3 := hbw.trans (hb3.mono hbw.size)
      have hf5 : 0 + r.b.cs.size ≤ (showsFrom b0 (rs.take j) i).cs.size := by rw [Bk.size, Bk.size]; omega
      have HF5 := Lib.hid hf5
      have ho5 : over (showsFrom b0 (rs.take j) i).cs 0 r.b.cs = r.b.cs := over_all (by rw [Bk.size, Bk.size])
      have HO5 := Lib.hid ho5
      have hne : wr.heap.size ≠ w.heap.size + 2 := by have := h5.lt; omega
      by_cases hs : r.s = i
      · have heq : ((r.s : Int) == (i : Int)) = true := by simp; omega
        rw [if_pos hs] at htk
        have hbx : Blk (W3.setRow (w.heap.size + 2) r.b.cs) (w.heap.size + 2) 38 (showsFrom b0 (rs.take (j + 1)) i).cs := by rw [htk]; exact b53.row _
        have hzx : Blk (W3.setRow (w.heap.size + 2) r.b.cs) (w.heap.size + 1) 38 Bk.zero.cs := bz3.kept (S := [w.heap.size + 2]) ((Kept.refl _ _).setRow (.inl (by simp)) _) (by simp)
        have hbz : Below w.heap.size w (W3.setRow (w.heap.size + 2) r.b.cs) := below_setRow hbb3 (by omega) _
        have HX := Lib.hid (And.intro hbx (And.intro hzx hbz))
        clear h5 hz2 hb2 hld2 hb3 bz3 hzr htk hld3 hbb3 hf5 ho5 hne hbx hzx hbz hc2 hs2 hr hbw
        generalize ((r.s : Nat) : Int) = sv at *
        go_wp2_with (first | (with_reducible refine wpList_load_blk rfl 74 (.tmp 18) rfl g2 (j * 65) rfl r.cs C2 _ hb2' HL2.out _ Try.underlying74 rfl (s_rrow r) ?_) | (with_reducible refine wpList_alloc_z rfl 74 rfl Rw.zero.cs 65 z_rrow ?_) | (with_reducible refine wpList_store_new rfl 74 (.tmp 7) (.tmp 19) rfl r.cs Rw.zero.cs _ rfl rfl HZR.out (s_rrow r) r.one ?_; rw [hW3]) | (with_reducible refine wpList_load_blk rfl 38 (.tmp 24) rfl wr.heap.size 1 rfl r.b.cs r.cs _ b7 HL3.out _ Try.underlying38 rfl (s_blk r.b) ?_) | (with_reducible refine wpList_store_blk rfl 38 (.tmp 5) (.tmp 25) rfl (w.heap.size + 2) 0 r.b.cs (showsFrom b0 (rs.take j) i).cs _ rfl rfl b53 HF5.out (s_blk r.b) r.b.one ?_; rw [HO5.out]))
        go_roundw
        case rel => exact ⟨j + 1, by omega, by go_num, HX.out.1, HX.out.2.1, HX.out.2.2⟩
        case measure => simp [intOf]; omega
      · have heq : ((r.s : Int) == (i : Int)) = false := by simp; omega
        rw [if_neg hs] at htk
        rw [← htk] at b53
        have HX := Lib.hid (And.intro b53 (And.intro bz3 hbb3))
        clear h5 hz2 hb2 hld2 hb3 bz3 hzr htk hld3 hbb3 hf5 ho5 hne hc2 hs2 hr hbw b53
        generalize ((r.s : Nat) : Int) = sv at *
        go_wp2_with (first | (with_reducible refine wpList_load_blk rfl 74 (.tmp 18) rfl g2 (j * 65) rfl r.cs C2 _ hb2' HL2.out _ Try.underlying74 rfl (s_rrow r) ?_) | (with_reducible refine wpList_alloc_z rfl 74 rfl Rw.zero.cs 65 z_rrow ?_) | (with_reducible refine wpList_store_new rfl 74 (.tmp 7) (.tmp 19) rfl r.cs Rw.zero.cs _ rfl rfl HZR.out (s_rrow r) r.one ?_; rw [hW3]))
        go_roundw
        case rel => exact ⟨j + 1, by omega, by go_num, HX.out.1, HX.out.2.1, HX.out.2.2⟩
        case measure => simp [intOf]; omega
    · obtain rfl : j = rs.length := by omega
      rw [List.take_length] at h5
      obtain ⟨bb, hbb⟩ : ∃ bb, showsFrom b0 rs i = bb := ⟨_, rfl⟩
      rw [hbb] at h5
      have HBB := Lib.hid hbb
      clear hbb
      have h01 : ∀ q, q < bb.cs.size → bb.cs[0 + q]? = bb.cs[q]? := fun q _ => by rw [Nat.zero_add]
      have H01 := Lib.hid h01
      have hf : 0 + bb.cs.size ≤ Bk.zero.cs.size := by rw [Bk.size, Bk.size]; omega
      have HF := Lib.hid hf
      have ho : over Bk.zero.cs 0 bb.cs = bb.cs := over_all (by rw [Bk.size, Bk.size])
      have HO := Lib.hid ho
      have HX := Lib.hid (And.intro (hz2.row bb.cs) (below_setRow hbw (Nat.le_succ _) bb.cs))
      clear h01 hf ho hbw
      go_wp2_with (first | (with_reducible refine wpList_load_blk rfl 38 (.tmp 5) rfl (w.heap.size + 2) 0 rfl bb.cs bb.cs _ h5 H01.out _ Try.underlying38 rfl (s_blk bb) ?_) | (with_reducible refine wpList_store_blk rfl 38 (.tmp 4) (.tmp 27) rfl (w.heap.size + 1) 0 bb.cs Bk.zero.cs _ rfl rfl hz2 HF.out (s_blk bb) bb.one ?_; rw [HO.out]))
      refine bodyPost_ret (results_cell_row rfl _ _ (w.heap.size + 1) 38 bb.cs (0, 0) _ rfl HX.out.1 Try.underlying38 rfl (s_blk bb)) rfl ?_
      exact ⟨by rw [HBB.out], HX.out.2⟩
end Go.Proofs.Ytaikgngigaohmaa
