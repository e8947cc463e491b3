/-
  A disk tells what the document's disk does, where the two agree (the law's own is). Nothing here is a statement of the document.
-/
import Derived.Test.YtaikgngigaohmaaDskT
import Derived.Test.YtaikgngigaohmaaDskZ
import Derived.Test.YtaikgngigaohmaaDskShows
namespace Go.Proofs.Ytaikgngigaohmaa
open Go.RowKit Go.Shelf
set_option linter.unusedVariables false

set_option maxRecDepth 100000 in
set_option maxHeartbeats 4000000 in
theorem is_true {w : World} {B p pb : Nat} {bv pv rv : Value} {D : Dk} {M : Rk} (h : Dsk w B p pb bv D) (hr : Ref w pv rv M) (g1 : M.plate.length = D.plate.length) (g2 : M.rows = D.rows) (g3 : M.dead = D.dead) (g4 : M.ops = D.ops) :
    Calls Try.prog 12 #[.pointer (some ⟨p, 0, none⟩), .agg (M.vals pv rv)] w fun e w' => e = .returned (.bool true) ∧ Below w.heap.size w w' := by
  obtain ⟨a, c, rfl⟩ := own_slice hr.p
  obtain ⟨rb, rc, rfl, hrow⟩ := own_rows hr.r
  have hlen8 := h.ok.held
  obtain ⟨pl, rs, fu, fl, de, op⟩ := M
  simp only [Rk.vals] at *
  subst g2 g3 g4
  generalize hn : pl.length = n at *
  obtain ⟨W1, hW1⟩ : ∃ W1, w.alloc (.cells #[.slice a n c, .slice rb D.rows.length rc, .int .i64 fu, .int .i64 fl, .bool D.dead, .int .i64 D.ops] 32) = W1 := ⟨_, rfl⟩
  have hb1 : Below w.heap.size w W1 := by rw [← hW1]; exact (Below.refl _ _).alloc (Nat.le_refl _) _
  have b1 : Blk W1 w.heap.size 32 #[.slice a n c, .slice rb D.rows.length rc, .int .i64 fu, .int .i64 fl, .bool D.dead, .int .i64 D.ops] := by rw [← hW1]; exact Blk.new w _ _
  have hp := pending_any (h.later hb1)
  have HD := Lib.hid (h.later hb1)
  have H1 := Lib.hid (And.intro hb1 b1)
  have HR := Lib.hid hrow
  have hn1 : (D.plate.length : Int) = (n : Int) := by rw [g1]
  have HN := Lib.hid hn1
  clear h hb1 b1 hrow hr hn g1 hn1
  go_enter Try.func12, Try.ntmps12
  go_wp2_with fail
  clear hW1
  refine hp.mono ?_
  rintro e W2 ⟨v, rfl, hown, hb2⟩
  obtain ⟨va, vc, rfl, hcell⟩ := pend_of hown
  have b2 := H1.out.2.kept (Kept.of_below [] hb2) (by simp)
  have c0 := b2.cell 0
  have c1 := b2.cell 1
  have c4 := b2.cell 4
  have c5 := b2.cell 5
  simp only [List.getElem?_toArray, List.getElem?_cons_zero, List.getElem?_cons_succ] at c0 c1 c4 c5
  have HD2 := Lib.hid (HD.out.later hb2)
  have hbb2 := H1.out.1.trans (hb2.mono H1.out.1.size)
  have HB2 := Lib.hid hbb2
  have HC := Lib.hid hcell
  have q1 : ((n : Int) != (n : Int)) = false := by simp
  have q2 : ((D.rows.length : Int) != (D.rows.length : Int)) = false := by simp
  have q3 : (D.dead != D.dead) = false := by simp
  have q4 : (D.ops != D.ops) = false := by simp
  clear hown hb2 b2 hp H1 HD hbb2 hcell
  go_wp2_with fail
  go_quiet (first | (go_at_call 18; exact Calls.quiet_of_same ((len_any (HD2.out.drewN _)).mono fun _ _ h => ⟨h.1.trans (by rw [HN.out]), h.2.symm⟩)) | (go_at_call 20; exact Calls.quiet_of_same ((dead_any (HD2.out.drewN _)).mono fun _ _ h => ⟨h.1, h.2.symm⟩)) | (go_at_call 21; exact Calls.quiet_of_same ((ops_any (HD2.out.drewN _)).mono fun _ _ h => ⟨h.1, h.2.symm⟩)))
  have hb3 : Below w.heap.size w (W2.drewN nq) := HB2.out.trans ⟨rfl, rfl, rfl, Nat.le_refl _, fun _ _ => rfl⟩
  have d1 : (W2.drewN nq).cell? ⟨w.heap.size, 1, none⟩ = some (.slice rb D.rows.length rc) := c1
  have hc3 : ∀ (j : Nat) (r : Rw), D.rows[j]? = some r → ∃ g, va = some ⟨g, 0, none⟩ ∧ g < (W2.drewN nq).heap.size ∧ (W2.drewN nq).cell? ⟨g, j, none⟩ = some (.int .i64 (r.s : Int)) := HC.out
  have HC3 := Lib.hid hc3
  clear hc3 HC
  generalize W2.drewN nq = W3 at *
  clear c0 c1 c4 c5 HD2 HN HB2 q1 q2 q3 q4
  have H3 := Lib.hid hb3
  clear hb3
  go_wp2_with fail
  go_loopw [41] (fun x wi => ∃ j : Nat, j ≤ D.rows.length ∧ x = .int .i64 j ∧ Below W3.heap.size W3 wi) (fun x _ => D.rows.length - (intOf x).toNat)
  case atStart => exact ⟨0, Nat.zero_le _, rfl, Below.refl _ _⟩
  case round =>
    obtain ⟨j, hj, rfl, hbw⟩ := hrel
    clear d1
    by_cases hlt : j < D.rows.length
    · obtain ⟨r, hr⟩ : ∃ r, D.rows[j]? = some r := ⟨_, List.getElem?_eq_getElem hlt⟩
      obtain ⟨g9, rfl, hgl, hcg⟩ := HC3.out j r hr
      obtain ⟨g2, C2, rfl, hb2, hs2, hc2⟩ := HR.out j r hr
      have hb2' := (hb2.kept (Kept.of_below [] (H3.out)) (by simp)).kept (Kept.of_below [] hbw) (by simp)
      have hld2 : ∀ q, q < r.cs.size → C2[j * 65 + q]? = r.cs[q]? := fun q hq => hc2 q (by rw [Rw.size] at hq; exact hq)
      have HL2 := Lib.hid hld2
      have hji : (j : Int) < (D.rows.length : Int) := by omega
      obtain ⟨W4, hW4⟩ : ∃ W4, wr.alloc (.cells r.cs 74) = W4 := ⟨_, rfl⟩
      have hb4 : Below wr.heap.size wr W4 := by rw [← hW4]; exact (Below.refl _ _).alloc (Nat.le_refl _) _
      have b7 : Blk W4 wr.heap.size 74 r.cs := by rw [← hW4]; exact Blk.new _ _ _
      have e0 : W4.cell? ⟨wr.heap.size, 0, none⟩ = some (.int .i64 (r.s : Int)) := (b7.cell 0).trans (Rw.cell0 r)
      have e1 : W4.cell? ⟨g9, j, none⟩ = some (.int .i64 (r.s : Int)) := (hb4.cell (p := ⟨g9, j, none⟩) (Nat.lt_of_lt_of_le hgl hbw.size)).trans ((hbw.cell (p := ⟨g9, j, none⟩) hgl).trans hcg)
      have hzr : Rw.zero.cs.size = r.cs.size := by rw [Rw.size, Rw.size]
      have HZR := Lib.hid hzr
      have H4 := Lib.hid (hbw.trans (hb4.mono hbw.size))
      clear hcg hgl hb2 hs2 hc2 hld2 hb4 b7 hzr hbw hr
      generalize ((r.s : Nat) : Int) = sv at *
      have hq : (sv != sv) = false := by simp
      go_wp2_with (first | (with_reducible refine wpList_load_blk rfl 74 (.tmp 44) rfl g2 (j * 65) rfl r.cs C2 _ hb2' HL2.out _ Try.underlying74 rfl (s_rrow r) ?_) | (with_reducible refine wpList_alloc_z rfl 74 rfl Rw.zero.cs 65 z_rrow ?_) | (with_reducible refine wpList_store_new rfl 74 (.tmp 7) (.tmp 45) rfl r.cs Rw.zero.cs _ rfl rfl HZR.out (s_rrow r) r.one ?_; rw [hW4]))
      go_quiet (fail)
      have hfb : Below W3.heap.size W3 (W4.drewN nq) := H4.out.trans ⟨rfl, rfl, rfl, Nat.le_refl _, fun _ _ => rfl⟩
      have H5 := Lib.hid hfb
      clear hfb
      go_wp2
      go_roundw
      case rel => exact ⟨j + 1, by omega, by go_num, H5.out⟩
      case measure => simp [intOf]; omega
    · obtain rfl : j = D.rows.length := by omega
      have hfb := H3.out.trans (hbw.mono H3.out.size)
      have H5 := Lib.hid hfb
      clear hfb hbw
      go_wp2
      go_ret
      exact ⟨rfl, H5.out⟩
end Go.Proofs.Ytaikgngigaohmaa
