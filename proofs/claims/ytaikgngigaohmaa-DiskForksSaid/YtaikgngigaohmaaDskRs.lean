/-
  The document's sync, by its contract. Nothing here is a statement of the document.
-/
import Derived.Test.YtaikgngigaohmaaDskRc
namespace Go.Proofs.Ytaikgngigaohmaa
open Go.RowKit Go.Shelf
set_option linter.unusedVariables false

theorem actM_lists (M : Rk) (i : Int) (wr : Bool) : (actM M i wr).1.plate = M.plate ∧ (actM M i wr).1.rows = M.rows := by
  unfold actM
  split
  · exact ⟨rfl, rfl⟩
  · split
    · exact ⟨rfl, rfl⟩
    · split
      · exact ⟨rfl, rfl⟩
      · split <;> exact ⟨rfl, rfl⟩
def syncR (M : Rk) : Rk × Int :=
  if (actM M 0 true).2 = 0 then (downR (actM M 0 true).1 (List.replicate (actM M 0 true).1.rows.length true), 0) else ((actM M 0 true).1, (actM M 0 true).2)

/-- A disk of the document is loaded, or stored, whole. -/
theorem load_ref {w : World} {g : Nat} {cs : Array Value} (h : Blk w g 32 cs) (hs : cs.size = 6) : ∀ j, j < cs.size → cs[0 + j]? = cs[j]? := fun j _ => by rw [Nat.zero_add]

theorem bools_own {w : World} {B n : Nat} {v : Value} {ks : List Bool} (hn : ks.length = n) (h : w.ownsRow B 4 1 v ks.length (ks.map Value.bool)) : ∃ a c, v = .slice a n c ∧ Bools w a ks := by
  subst hn
  rcases h.2 with ⟨rfl, h0⟩ | ⟨g, cap, cur, rfl, hB, hg, hc, hm, hsz, ht⟩
  · exact ⟨none, 0, by rw [h0], .inl (List.length_eq_zero_iff.1 h0)⟩
  · refine ⟨_, _, rfl, .inr ⟨g, 0, rfl, (Array.getElem?_eq_some_iff.1 hg).1, fun i hi => ?_⟩⟩
    have hb : Blk w g 4 cur := hg
    rw [Nat.zero_add, hb.cell]
    have h9 : (cur.toList.take (ks.length * 1))[i]? = (ks.map Value.bool)[i]? := by rw [ht]
    rw [List.getElem?_take, if_pos (by omega), List.getElem?_map, List.getElem?_eq_getElem hi] at h9
    rw [List.getD_eq_getElem?_getD, List.getElem?_eq_getElem hi, ← Array.getElem?_toList, h9]
    rfl
theorem Ref.drew {w : World} {pv rv : Value} {M : Rk} (h : Ref w pv rv M) : Ref w.drew pv rv M := h.below ⟨rfl, rfl, rfl, Nat.le_refl _, fun _ _ => rfl⟩

set_option maxRecDepth 100000 in
set_option maxHeartbeats 4000000 in
theorem sync_ref {w : World} {pv rv : Value} {M : Rk} (h : Ref w pv rv M) (hp0 : 0 < M.plate.length) (hp8 : M.plate.length ≤ 2048) (hr8 : M.rows.length ≤ 8) (hrs : ∀ r ∈ M.rows, r.s < M.plate.length) (hf : M.fuse ≤ 9223372036854775807) (hl : M.flaw ≤ 9223372036854775807) (hl2 : -1 ≤ M.flaw) :
    Calls Try.prog 30 #[.agg (M.vals pv rv)] w fun e w' => ∃ pv' rv', e = .returned (.tuple #[.agg ((syncR M).1.vals pv' rv'), .int .i64 (syncR M).2]) ∧ Ref w' pv' rv' (syncR M).1 ∧ Below w.heap.size w w' ∧ NewP w pv pv' := by
  obtain ⟨pa, pc, rfl⟩ := own_slice h.p
  obtain ⟨rb, rc, rfl⟩ := own_slice h.r
  obtain ⟨W1, hW1⟩ : ∃ W1, (w.alloc (.cells (M.vals (.slice pa M.plate.length pc) (.slice rb M.rows.length rc)) 32)).alloc (.cells #[.slice none 0 0, .slice none 0 0, .int .i64 0, .int .i64 0, .bool false, .int .i64 0] 32) = W1 := ⟨_, rfl⟩
  have hb1 : Below w.heap.size w W1 := by rw [← hW1]; exact ((Below.refl _ _).alloc (Nat.le_refl _) _).alloc (by simp) _
  have bd : Blk W1 w.heap.size 32 (M.vals (.slice pa M.plate.length pc) (.slice rb M.rows.length rc)) := by rw [← hW1]; exact (Blk.new w _ _).alloc _
  have bz : Blk W1 (w.heap.size + 1) 32 #[.slice none 0 0, .slice none 0 0, .int .i64 0, .int .i64 0, .bool false, .int .i64 0] := by rw [← hW1]; exact Blk.new2 _ _ _ _
  have hact := act_ref M pa pc rb M.rows.length rc 0 true W1 hf hl hl2
  have hlists := actM_lists M 0 true
  have hR1 := h.below hb1
  have hsy : syncR M = if (actM M 0 true).2 = 0 then (downR (actM M 0 true).1 (List.replicate (actM M 0 true).1.rows.length true), 0) else ((actM M 0 true).1, (actM M 0 true).2) := rfl
  have HSY := Lib.hid hsy
  generalize syncR M = SR at *
  generalize actM M 0 true = AR at *
  obtain ⟨A, ae⟩ := AR
  have hRA : Ref W1 (.slice pa M.plate.length pc) (.slice rb M.rows.length rc) A := ⟨by rw [hlists.1]; exact hR1.p, by rw [hlists.2]; exact hR1.r⟩
  have hpl : A.plate.length = M.plate.length := by rw [hlists.1]
  have hrl : A.rows.length = M.rows.length := by rw [hlists.2]
  have hrsA : ∀ r ∈ A.rows, r.s < A.plate.length := by rw [hlists.1, hlists.2]; exact hrs
  have HA := Lib.hid (And.intro hRA (And.intro hpl (And.intro hrl hrsA)))
  clear hsy hRA hpl hrl hrsA hR1 hlists hrs h
  obtain ⟨pl, rs, fu, fl, de, op⟩ := M
  simp only [Rk.vals] at *
  generalize pl.length = n at *
  generalize rs.length = L at *
  have c0 := bd.cell 0
  have c1 := bd.cell 1
  have c2 := bd.cell 2
  have c3 := bd.cell 3
  have c4 := bd.cell 4
  have c5 := bd.cell 5
  simp only [List.getElem?_toArray, List.getElem?_cons_zero, List.getElem?_cons_succ] at c0 c1 c2 c3 c4 c5
  have H := Lib.hid (And.intro hb1 (And.intro bd bz))
  clear hb1 bd bz
  go_enter Try.func30, Try.ntmps30
  go_wp2_with fail
  clear hW1
  refine hact.mono ?_
  rintro e W2 ⟨rfl, hb2⟩
  have bd2 := H.out.2.1.kept (Kept.of_below [] hb2) (by simp)
  have bz2 := H.out.2.2.kept (Kept.of_below [] hb2) (by simp)
  have hbb2 : Below w.heap.size w W2 := H.out.1.trans (hb2.mono H.out.1.size)
  have h6 := set6 bd2 (.slice pa n pc) (.slice rb L rc) (.int .i64 A.fuse) (.int .i64 A.flaw) (.bool A.dead) (.int .i64 A.ops)
  have bz3 := bz2.kept h6.2 (by simp)
  have hbb3 : Below w.heap.size w _ := hbb2.trans (h6.2.below (by simp) hbb2.size)
  have hRA2 := HA.out.1.below hb2
  have hR3 : Ref _ (.slice pa n pc) (.slice rb L rc) A := ⟨own_kept0 hRA2.p h6.2 (own_apart hRA2.p bd2 (by decide)), own_kept0 hRA2.r h6.2 (own_apart hRA2.r bd2 (by decide))⟩
  have c0 := bd2.cell 0
  have c1 := bd2.cell 1
  have c2 := bd2.cell 2
  have c3 := bd2.cell 3
  have c4 := bd2.cell 4
  have c5 := bd2.cell 5
  have f0 := bd2.free 0
  have f1 := bd2.free 1
  have f2 := bd2.free 2
  have f3 := bd2.free 3
  have f4 := bd2.free 4
  have f5 := bd2.free 5
  simp only [List.getElem?_toArray, List.getElem?_cons_zero, List.getElem?_cons_succ] at c0 c1 c2 c3 c4 c5
  obtain ⟨W3, hW3⟩ : ∃ W3, ((((((W2.setCell ⟨w.heap.size, 0, none⟩ (.slice pa n pc)).setCell ⟨w.heap.size, 1, none⟩ (.slice rb L rc)).setCell ⟨w.heap.size, 2, none⟩ (.int .i64 A.fuse)).setCell ⟨w.heap.size, 3, none⟩ (.int .i64 A.flaw)).setCell ⟨w.heap.size, 4, none⟩ (.bool A.dead)).setCell ⟨w.heap.size, 5, none⟩ (.int .i64 A.ops)) = W3 := ⟨_, rfl⟩
  rw [hW3] at h6 bz3 hbb3 hR3
  have bd3 := h6.1
  have H3 := Lib.hid (And.intro hbb3 (And.intro bd3 (And.intro bz3 hR3)))
  clear hbb3 bz3 hR3 hRA2 h6 hbb2 bz2 bd2 hact hb2
  by_cases he : ae = 0
  · subst he
    have d0 : W3.cell? ⟨w.heap.size, 0, none⟩ = some (.slice pa n pc) := bd3.cell 0
    have d1 : W3.cell? ⟨w.heap.size, 1, none⟩ = some (.slice rb L rc) := bd3.cell 1
    have d2 : W3.cell? ⟨w.heap.size, 2, none⟩ = some (.int .i64 A.fuse) := bd3.cell 2
    have d3 : W3.cell? ⟨w.heap.size, 3, none⟩ = some (.int .i64 A.flaw) := bd3.cell 3
    have d4 : W3.cell? ⟨w.heap.size, 4, none⟩ = some (.bool A.dead) := bd3.cell 4
    have d5 : W3.cell? ⟨w.heap.size, 5, none⟩ = some (.int .i64 A.ops) := bd3.cell 5
    go_wp2_with fail
    clear hW3 c0 c1 c2 c3 c4 c5 f0 f1 f2 f3 f4 f5
    have hsr : SR = (downR A (List.replicate L true), 0) := by rw [HSY.out]; simp [HA.out.2.2.1]
    have hdl : (downR A (List.replicate L true)).plate.length = n := (downTo_len A _ _).1.trans HA.out.2.1
    obtain ⟨DR, hDR⟩ : ∃ DR, downR A (List.replicate L true) = DR := ⟨_, rfl⟩
    rw [hDR] at hsr hdl
    have HSR := Lib.hid (And.intro hsr hDR)
    clear hsr hDR hdl
    go_region_with (first | (go_at_call 14; refine (all_ref L (by omega) _).mono ?_; rintro e W4 ⟨va, he4, hown4, hb4⟩; obtain ⟨ka, kc, rfl, hbl4⟩ := bools_own (n := L) (by simp) hown4; subst he4; have b4 := bd3.drew.kept (Kept.of_below [] hb4) (by simp); have d0 : W4.cell? ⟨w.heap.size, 0, none⟩ = some (.slice pa n pc) := b4.cell 0; have d1 : W4.cell? ⟨w.heap.size, 1, none⟩ = some (.slice rb L rc) := b4.cell 1; have d2 : W4.cell? ⟨w.heap.size, 2, none⟩ = some (.int .i64 A.fuse) := b4.cell 2; have d3 : W4.cell? ⟨w.heap.size, 3, none⟩ = some (.int .i64 A.flaw) := b4.cell 3; have d4 : W4.cell? ⟨w.heap.size, 4, none⟩ = some (.bool A.dead) := b4.cell 4; have d5 : W4.cell? ⟨w.heap.size, 5, none⟩ = some (.int .i64 A.ops) := b4.cell 5) | (go_at_call 49; have hdn := down_ref (H3.out.2.2.2.drew.below hb4) (List.replicate L true) ka kc hbl4 (by rw [List.length_replicate]; omega) (by rw [HA.out.2.1]; exact hp0) (by rw [HA.out.2.1]; exact hp8) (by rw [HA.out.2.2.1]; exact hr8) HA.out.2.2.2; rw [HSR.out.2] at hdn; simp only [Rk.vals, List.length_replicate] at hdn; refine hdn.mono ?_; rintro e W5 ⟨pv2, rv2, he5, hR5, hb5, hn5, _⟩; obtain ⟨pa2, pc2, rfl⟩ := own_slice hR5.p; obtain ⟨rb2, rc2, rfl⟩ := own_slice hR5.r; subst he5; have b5 := b4.kept (Kept.of_below [] hb5) (by simp); have d0 : W5.cell? ⟨w.heap.size, 0, none⟩ = some (.slice pa n pc) := b5.cell 0; have d1 : W5.cell? ⟨w.heap.size, 1, none⟩ = some (.slice rb L rc) := b5.cell 1; have d2 : W5.cell? ⟨w.heap.size, 2, none⟩ = some (.int .i64 A.fuse) := b5.cell 2; have d3 : W5.cell? ⟨w.heap.size, 3, none⟩ = some (.int .i64 A.flaw) := b5.cell 3; have d4 : W5.cell? ⟨w.heap.size, 4, none⟩ = some (.bool A.dead) := b5.cell 4; have d5 : W5.cell? ⟨w.heap.size, 5, none⟩ = some (.int .i64 A.ops) := b5.cell 5; have f0 := b5.free 0; have f1 := b5.free 1; have f2 := b5.free 2; have f3 := b5.free 3; have f4 := b5.free 4; have f5 := b5.free 5))
    all_goals
      have h6 := set6 b5 (.slice pa2 DR.plate.length pc2) (.slice rb2 DR.rows.length rc2) (.int .i64 DR.fuse) (.int .i64 DR.flaw) (.bool DR.dead) (.int .i64 DR.ops)
      have hbb4 : Below w.heap.size w W4 := H3.out.1.trans ((show Below W3.heap.size W3 W4 from ⟨hb4.os, hb4.tape, hb4.output, hb4.size, hb4.block⟩).mono H3.out.1.size)
      have hbb5 := hbb4.trans (hb5.mono hbb4.size)
      have HN5 := Lib.hid (NewP.mono hn5 (w := w) hbb4.size)
      clear hn5
      have hbb6 := hbb5.trans (h6.2.below (by simp) hbb5.size)
      have bz6 := ((H3.out.2.2.1.drew.kept (Kept.of_below [] hb4) (by simp)).kept (Kept.of_below [] hb5) (by simp)).kept h6.2 (by simp)
      have hR6 : Ref _ (.slice pa2 DR.plate.length pc2) (.slice rb2 DR.rows.length rc2) DR := ⟨own_kept0 hR5.p h6.2 (own_apart hR5.p b5 (by decide)), own_kept0 hR5.r h6.2 (own_apart hR5.r b5 (by decide))⟩
      obtain ⟨W6, hW6⟩ : ∃ W6, ((((((W5.setCell ⟨w.heap.size, 0, none⟩ (.slice pa2 DR.plate.length pc2)).setCell ⟨w.heap.size, 1, none⟩ (.slice rb2 DR.rows.length rc2)).setCell ⟨w.heap.size, 2, none⟩ (.int .i64 DR.fuse)).setCell ⟨w.heap.size, 3, none⟩ (.int .i64 DR.flaw)).setCell ⟨w.heap.size, 4, none⟩ (.bool DR.dead)).setCell ⟨w.heap.size, 5, none⟩ (.int .i64 DR.ops)) = W6 := ⟨_, rfl⟩
      rw [hW6] at h6 hbb6 bz6 hR6
      have b6 := h6.1
      clear d0 d1 d2 d3 d4 d5 f0 f1 f2 f3 f4 f5
      have d0 : W6.cell? ⟨w.heap.size, 0, none⟩ = some (.slice pa2 DR.plate.length pc2) := b6.cell 0
      have d1 : W6.cell? ⟨w.heap.size, 1, none⟩ = some (.slice rb2 DR.rows.length rc2) := b6.cell 1
      have d2 : W6.cell? ⟨w.heap.size, 2, none⟩ = some (.int .i64 DR.fuse) := b6.cell 2
      have d3 : W6.cell? ⟨w.heap.size, 3, none⟩ = some (.int .i64 DR.flaw) := b6.cell 3
      have d4 : W6.cell? ⟨w.heap.size, 4, none⟩ = some (.bool DR.dead) := b6.cell 4
      have d5 : W6.cell? ⟨w.heap.size, 5, none⟩ = some (.int .i64 DR.ops) := b6.cell 5
      have y0 : W6.cell? ⟨w.heap.size + 1, 0, none⟩ = some (.slice none 0 0) := bz6.cell 0
      have y1 : W6.cell? ⟨w.heap.size + 1, 1, none⟩ = some (.slice none 0 0) := bz6.cell 1
      have y2 : W6.cell? ⟨w.heap.size + 1, 2, none⟩ = some (.int .i64 0) := bz6.cell 2
      have y3 : W6.cell? ⟨w.heap.size + 1, 3, none⟩ = some (.int .i64 0) := bz6.cell 3
      have y4 : W6.cell? ⟨w.heap.size + 1, 4, none⟩ = some (.bool false) := bz6.cell 4
      have y5 : W6.cell? ⟨w.heap.size + 1, 5, none⟩ = some (.int .i64 0) := bz6.cell 5
      have z0 := bz6.free 0
      have z1 := bz6.free 1
      have z2 := bz6.free 2
      have z3 := bz6.free 3
      have z4 := bz6.free 4
      have z5 := bz6.free 5
      have h7 := set6 bz6 (.slice pa2 DR.plate.length pc2) (.slice rb2 DR.rows.length rc2) (.int .i64 DR.fuse) (.int .i64 DR.flaw) (.bool DR.dead) (.int .i64 DR.ops)
      have hfb := hbb6.trans (h7.2.below (by simp) hbb6.size)
      have hRf : Ref _ (.slice pa2 DR.plate.length pc2) (.slice rb2 DR.rows.length rc2) DR := ⟨own_kept0 hR6.p h7.2 (own_apart hR6.p bz6 (by decide)), own_kept0 hR6.r h7.2 (own_apart hR6.r bz6 (by decide))⟩
      have HE := Lib.hid (And.intro h7.1 (And.intro hfb hRf))
      clear h6 h7 hfb hRf hbb4 hbb5 hbb6 hR6 hR5 hb4 hb5 b4 b5 b6 bz6 hbl4 hown4
      go_wp2_with fail
      refine bodyPost_ret (results_blk rfl _ _ (w.heap.size + 1) _ _ rfl HE.out.1 Try.underlying32 rfl (by kernel_rfl)) rfl ?_
      exact ⟨.slice pa2 DR.plate.length pc2, .slice rb2 DR.rows.length rc2, by rw [HSR.out.1]; rfl, by rw [HSR.out.1]; exact HE.out.2.2, HE.out.2.1, HN5.out⟩
  · have e0 : (ae == 0) = false := by simpa using he
    have d0 : W3.cell? ⟨w.heap.size, 0, none⟩ = some (.slice pa n pc) := bd3.cell 0
    have d1 : W3.cell? ⟨w.heap.size, 1, none⟩ = some (.slice rb L rc) := bd3.cell 1
    have d2 : W3.cell? ⟨w.heap.size, 2, none⟩ = some (.int .i64 A.fuse) := bd3.cell 2
    have d3 : W3.cell? ⟨w.heap.size, 3, none⟩ = some (.int .i64 A.flaw) := bd3.cell 3
    have d4 : W3.cell? ⟨w.heap.size, 4, none⟩ = some (.bool A.dead) := bd3.cell 4
    have d5 : W3.cell? ⟨w.heap.size, 5, none⟩ = some (.int .i64 A.ops) := bd3.cell 5
    have bz3 := H3.out.2.2.1
    have y0 : W3.cell? ⟨w.heap.size + 1, 0, none⟩ = some (.slice none 0 0) := bz3.cell 0
    have y1 : W3.cell? ⟨w.heap.size + 1, 1, none⟩ = some (.slice none 0 0) := bz3.cell 1
    have y2 : W3.cell? ⟨w.heap.size + 1, 2, none⟩ = some (.int .i64 0) := bz3.cell 2
    have y3 : W3.cell? ⟨w.heap.size + 1, 3, none⟩ = some (.int .i64 0) := bz3.cell 3
    have y4 : W3.cell? ⟨w.heap.size + 1, 4, none⟩ = some (.bool false) := bz3.cell 4
    have y5 : W3.cell? ⟨w.heap.size + 1, 5, none⟩ = some (.int .i64 0) := bz3.cell 5
    have z0 := bz3.free 0
    have z1 := bz3.free 1
    have z2 := bz3.free 2
    have z3 := bz3.free 3
    have z4 := bz3.free 4
    have z5 := bz3.free 5
    have h6 := set6 bz3 (.slice pa n pc) (.slice rb L rc) (.int .i64 A.fuse) (.int .i64 A.flaw) (.bool A.dead) (.int .i64 A.ops)
    have hfb := H3.out.1.trans (h6.2.below (by simp) H3.out.1.size)
    have hRf : Ref _ (.slice pa n pc) (.slice rb L rc) A := ⟨own_kept0 H3.out.2.2.2.p h6.2 (own_apart H3.out.2.2.2.p bz3 (by decide)), own_kept0 H3.out.2.2.2.r h6.2 (own_apart H3.out.2.2.2.r bz3 (by decide))⟩
    have hsr : SR = (A, ae) := by rw [HSY.out]; simp [he]
    have HE := Lib.hid (And.intro h6.1 (And.intro hfb (And.intro hRf hsr)))
    clear h6 hfb hRf hsr bd3 bz3 he
    go_wp2_with fail
    refine bodyPost_ret (results_blk rfl _ _ (w.heap.size + 1) _ _ rfl HE.out.1 Try.underlying32 rfl (by kernel_rfl)) rfl ?_
    exact ⟨.slice pa n pc, .slice rb L rc, by rw [HE.out.2.2.2]; rfl, by rw [HE.out.2.2.2]; exact HE.out.2.2.1, HE.out.2.1, NewP.refl _ _⟩
end Go.Proofs.Ytaikgngigaohmaa
