/-
  The walk of DiskPlays: deed by deed a disk answers as the document says. Nothing here is a statement of the document.
-/
import Derived.Test.YtaikgngigaohmaaDskPl
import Derived.Deep.DeepCutAuto
import Derived.Deep.CutBlock
namespace Go.Proofs.Ytaikgngigaohmaa
open Go.RowKit Go.Shelf
set_option linter.unusedVariables false
attribute [local go_sem ↓] load_blk_rule store_blk_rule load_ref_rule store_ref_rule eq_rule

theorem place_24 (a : Int) : ∃ k : Nat, k < 24 ∧ (IntKind.u64.wrap a).tmod 24 = (k : Int) ∧ IntKind.u64.wrap a % 24 = (k : Int) := by
  have hw : 0 ≤ IntKind.u64.wrap a := by rw [IntKind.wrap_u64]; exact Int.emod_nonneg _ (by decide)
  generalize IntKind.u64.wrap a = t at *
  refine ⟨(t % 24).toNat, by omega, ?_, by omega⟩
  rw [Int.tmod_eq_emod_of_nonneg hw]; omega
def refZ : Array Value := #[.slice none 0 0, .slice none 0 0, .int .i64 0, .int .i64 0, .bool false, .int .i64 0]

set_option maxRecDepth 100000 in
set_option maxHeartbeats 8000000 in
theorem plays_walk (n : Int) (a : Option Addr) (cap : Nat) (l : List (Deed × List Bool)) (w : World) (h : Deeds w a l) (hl : l.length ≤ 9223372036854775807) :
    Calls Try.prog 3 #[.int .i64 n, .slice a l.length cap] w fun e w' => e = .returned (.bool true) ∧ Below w.heap.size w w' := by
  obtain ⟨m, hm, hm1, hm2⟩ := place_24 n
  obtain ⟨N, hN⟩ : ∃ N, m + 1 = N := ⟨_, rfl⟩
  have hN1 : (m : Int) + 1 = (N : Int) := by omega
  have hN2 : 1 ≤ N := by omega
  have hN3 : N ≤ 24 := by omega
  have HL := Lib.hid h
  clear h hm
  go_enter Try.func3, Try.ntmps3
  go_wp2_with fail
  refine (wakes_any w).mono ?_
  rintro e W1 ⟨rfl, hb1⟩
  have H1 := Lib.hid hb1
  clear hb1
  go_wp2_with fail
  refine (new_any N hN2 (by omega) W1).mono ?_
  rintro e W2 ⟨rfl, hD, hb2⟩
  have hbw : Below w.heap.size w W2 := H1.out.trans (hb2.mono H1.out.size)
  have hB0 : w.heap.size ≤ W1.heap.size := H1.out.size
  have hBl : W1.heap.size + 1 < W2.heap.size := hD.lt
  generalize W1.heap.size = B at *
  clear H1 hb2
  go_wp2_with fail
  refine (new_ref2 N hN2 (by omega) W2).mono ?_
  rintro e W3 ⟨g, rfl, hR, hb3, hg⟩
  obtain ⟨W4, hW4⟩ : ∃ W4, W3.alloc (.cells #[.slice none 0 0, .slice none 0 0, .int .i64 0, .int .i64 0, .bool false, .int .i64 0] 32) = W4 := ⟨_, rfl⟩
  have hb34 : Below W3.heap.size W3 W4 := by rw [← hW4]; exact (Below.refl _ _).alloc (Nat.le_refl _) _
  have bq : Blk W4 W3.heap.size 32 #[.slice none 0 0, .slice none 0 0, .int .i64 0, .int .i64 0, .bool false, .int .i64 0] := by rw [← hW4]; exact Blk.new _ _ _
  have hR4 := hR.below hb34
  have S0 := sref bq rfl (vals_size (newR N) (.slice (some ⟨g, 0, none⟩) N N) (.slice none 0 0)) (ref_one hR4)
  have hbw4 := (hbw.trans (hb3.mono hbw.size)).trans (hb34.mono (Nat.le_trans hbw.size hb3.size))
  have hP : Play w _ B W3.heap.size N (.slice none 0 0) (.slice (some ⟨g, 0, none⟩) N N) (.slice none 0 0) (newM N) (newR N) :=
    Play.next hbw4 ((hD.later hb3).later hb34) bq hR4 (by
      intro k hk hm
      obtain rfl : g = k := by simpa [Value.ownBlock] using hk
      simp [fp, Value.ownBlock] at hm
      omega) (agree_new N) (by simp [newM]) hB0 (Nat.le_trans hbw.size hb3.size)
  have HP := Lib.hid hP
  clear hP hbw4 hR4 bq hb34 hR hb3 hD hbw hg
  have hqq : w.heap.size ≤ W3.heap.size := HP.out.hq
  generalize hQ : W3.heap.size = Q at *
  go_upto_block 0 with (fail)
  clear hW4 S0
  go_cut [] from 8 (fun wc => ∃ bv pv rv D M, Play w wc B Q N bv pv rv D M)
  case first =>
    go_wp2_with fail
    go_loopw [36] (fun i wr => ∃ k : Nat, k ≤ l.length ∧ i = .int .i64 k ∧ ∃ bv pv rv D M, Play w wr B Q N bv pv rv D M) (fun i _ => l.length - (intOf i).toNat)
    case atStart => exact ⟨0, Nat.zero_le _, rfl, _, _, _, _, _, HP.out⟩
    case round =>
      obtain ⟨k, hk, rfl, bv, pv, rv, D, M, hPk⟩ := hrel
      clear HP
      by_cases hlt : k < l.length
      · obtain ⟨⟨x, ks⟩, hy⟩ : ∃ y, l[k]? = some y := ⟨_, List.getElem?_eq_getElem hlt⟩
        obtain ⟨b0, o0, rfl, hc, hT, hx1, hx2, hx3, hx4, hx5⟩ := HL.out.at hy
        have HX := Lib.hid (And.intro hT (And.intro hx1 (And.intro hx2 (And.intro hx3 hx5))))
        have hcc : ∀ j, j < 5 → wr.cell? ⟨b0, o0 + k * 5 + j, none⟩ = (x.cs)[j]? := by
          intro j hj
          have h9 := hc j hj
          rw [← Nat.add_assoc] at h9
          rw [← h9]
          have h8 : ∃ v, w.cell? ⟨b0, o0 + k * 5 + j, none⟩ = some v := by
            rw [h9]
            have : j < x.cs.size := by simp [Deed.cs]; omega
            exact ⟨_, Array.getElem?_eq_getElem this⟩
          obtain ⟨v, hv⟩ := h8
          exact hPk.hb.cell (p := ⟨b0, o0 + k * 5 + j, none⟩) (cell_lt hv)
        have c0 := hcc 0 (by omega)
        have c1 := hcc 1 (by omega)
        have c2 := hcc 2 (by omega)
        have c3 := hcc 3 (by omega)
        have c4 := hcc 4 (by omega)
        obtain ⟨z0, z1, z2, z3, z4, z5, z6⟩ := x
        simp only [Deed.cs, List.getElem?_toArray, List.getElem?_cons_zero, List.getElem?_cons_succ, Nat.add_zero] at c0 c1 c2 c3 c4
        clear hc hcc hT hx1 hx2 hx3 hx4 hx5 hy
        have hki : (k : Int) < (l.length : Int) := by omega
        obtain ⟨W5, hW5⟩ : ∃ W5, wr.alloc (.cells #[.int .i64 z0, .int .i64 z1, .int .i64 z2, .int .u8 (z3 : Int), .slice z4 z5 z6] 36) = W5 := ⟨_, rfl⟩
        have hb5 : Below wr.heap.size wr W5 := by rw [← hW5]; exact (Below.refl _ _).alloc (Nat.le_refl _) _
        have bx5 : Blk W5 wr.heap.size 36 (Deed.cs ⟨z0, z1, z2, z3, z4, z5, z6⟩) := by rw [← hW5]; exact Blk.new wr _ _
        have hP5 := hPk.later hb5
        have y0 := bx5.cell 0
        have y1 := bx5.cell 1
        have y2 := bx5.cell 2
        have y3 := bx5.cell 3
        have y4 := bx5.cell 4
        simp only [Deed.cs, List.getElem?_toArray, List.getElem?_cons_zero, List.getElem?_cons_succ] at y0 y1 y2 y3 y4
        have HH := Lib.hid (And.intro hPk (And.intro hP5 bx5))
        have nx5 : wr.heap.size ∉ fp (B + 1) B bv := hPk.dsk.beside (Nat.le_refl _)
        have NX := Lib.hid nx5
        clear hPk hP5 hb5 bx5 nx5
        go_wp2_with fail
        · go_meet
          exact ⟨_, _, _, _, _, HH.out.2.1⟩
        · clear hW5 c0 c1 c2 c3 c4 y0 y1 y2 y3 y4
          have hag := does_agrees HH.out.2.1.ag HH.out.2.1.dsk.ok ⟨z0, z1, z2, z3, z4, z5, z6⟩ ks HX.out.2.2.2.2
          have hlen := doesM_len D ⟨z0, z1, z2, z3, z4, z5, z6⟩ ks
          have hdo := does_any HH.out.2.1.dsk HH.out.2.1.size ⟨z0, z1, z2, z3, z4, z5, z6⟩ ks (HX.out.1.below HH.out.2.1.hb) HX.out.2.1 HX.out.2.2.1 HX.out.2.2.2.1 HX.out.2.2.2.2
          generalize doesM D ⟨z0, z1, z2, z3, z4, z5, z6⟩ ks = DM at *
          have HAG := Lib.hid (And.intro hag hlen)
          clear hag hlen
          refine hdo.mono ?_
          rintro e W6 ⟨rfl, bv', hD6, hG6⟩
          have hg6 := HH.out.2.1.goes hD6 hG6
          have bx6 := HH.out.2.2.kept hG6.kept NX.out
          obtain ⟨W7, hW7⟩ : ∃ W7, (W6.alloc (.cells Bk.zero.cs 38)).setRow W6.heap.size DM.2.1.cs = W7 := ⟨_, rfl⟩
          have S10 : (storeSem 38 (.pointer (some ⟨W6.heap.size, 0, none⟩)) (.agg DM.2.1.cs)).run Try.prog (W6.alloc (.cells Bk.zero.cs 38)) = .ok () W7 := by rw [← hW7]; exact sblk (Blk.new W6 _ _) _
          have b10 : Blk W7 W6.heap.size 38 DM.2.1.cs := by rw [← hW7]; exact (Blk.new W6 38 Bk.zero.cs).row _
          have hb67 : Below W6.heap.size W6 W7 := by rw [← hW7]; exact below_setRow ((Below.refl _ _).alloc (Nat.le_refl _) _) (Nat.le_refl _) _
          have bx7 := bx6.kept (Kept.of_below [] hb67) (by simp)
          have y0 := bx7.cell 0
          have y1 := bx7.cell 1
          have y2 := bx7.cell 2
          have y3 := bx7.cell 3
          have y4 := bx7.cell 4
          simp only [Deed.cs, List.getElem?_toArray, List.getElem?_cons_zero, List.getElem?_cons_succ] at y0 y1 y2 y3 y4
          have bq7 := hg6.2.1.kept (Kept.of_below [] hb67) (by simp)
          have L7 := lref bq7 (vals_size _ _ _)
          have hr7 := hg6.2.2.1.below hb67
          have hbb7 := hg6.1.trans (hb67.mono hg6.1.size)
          have hD7 := hD6.later hb67
          have hlt7 : ∀ x ∈ fp (B + 1) B bv', x < W7.heap.size := fun x hx => Nat.lt_of_lt_of_le (hD6.lts x hx) hb67.size
          have H7 := Lib.hid (And.intro hbb7 (And.intro hD7 (And.intro bq7 (And.intro hr7 (And.intro b10 (And.intro hg6.2.2.2 (And.intro hlt7 bx7)))))))
          clear hdo hD6 hG6 hg6 bx6 b10 hb67 bx7 bq7 hr7 hbb7 hD7 hlt7 hW7
          go_wp2_with (with_reducible refine wpList_alloc_z rfl 38 rfl Bk.zero.cs 64 z_blk ?_)
          clear S10 L7 y0 y1 y2 y3 y4
          have hp := HH.out.2.1.p0
          have hmo := models_any H7.out.2.2.2.1 ⟨z0, z1, z2, z3, z4, z5, z6⟩ ks (HX.out.1.below H7.out.1) HX.out.2.1 HX.out.2.2.1 HX.out.2.2.2.1 HX.out.2.2.2.2 HH.out.2.1.fuse HH.out.2.1.ag.hi HH.out.2.1.ag.lo hp.1 hp.2.1 hp.2.2.1 hp.2.2.2
          have hag := HAG.out
          generalize modelsR M ⟨z0, z1, z2, z3, z4, z5, z6⟩ ks = MR at hmo hag
          rw [hag.1.1] at hmo
          refine hmo.mono ?_
          rintro e W8 ⟨pv', rv', rfl, hr8, hb8, hn8⟩
          have hD8 := H7.out.2.1.later hb8
          have bq8 := H7.out.2.2.1.kept (Kept.of_below [] hb8) (by simp)
          have b108 := H7.out.2.2.2.2.1.kept (Kept.of_below [] hb8) (by simp)
          have hbb8 := H7.out.1.trans (hb8.mono H7.out.1.size)
          have ha8 : ∀ k, pv'.ownBlock = some k → k ∉ fp (B + 1) B bv' := fun k hk hm => by
            rcases hn8 k hk with h9 | h9
            · exact H7.out.2.2.2.2.2.1 k h9 hm
            · have := H7.out.2.2.2.2.2.2.1 k hm; omega
          have Z12 : Blk ((W8.alloc (.cells #[.slice none 0 0, .slice none 0 0, .int .i64 0, .int .i64 0, .bool false, .int .i64 0] 32)).alloc (.cells Bk.zero.cs 38)) W8.heap.size 32 #[.slice none 0 0, .slice none 0 0, .int .i64 0, .int .i64 0, .bool false, .int .i64 0] := (Blk.new W8 _ _).alloc _
          have Z13 : Blk ((W8.alloc (.cells #[.slice none 0 0, .slice none 0 0, .int .i64 0, .int .i64 0, .bool false, .int .i64 0] 32)).alloc (.cells Bk.zero.cs 38)) (W8.heap.size + 1) 38 Bk.zero.cs := Blk.new2 _ _ _ _
          have hb9 : Below W8.heap.size W8 ((W8.alloc (.cells #[.slice none 0 0, .slice none 0 0, .int .i64 0, .int .i64 0, .bool false, .int .i64 0] 32)).alloc (.cells Bk.zero.cs 38)) := ((Below.refl _ _).alloc (Nat.le_refl _) _).alloc (by simp) _
          generalize hW9 : (W8.alloc (.cells #[.slice none 0 0, .slice none 0 0, .int .i64 0, .int .i64 0, .bool false, .int .i64 0] 32)).alloc (.cells Bk.zero.cs 38) = W9 at Z12 Z13 hb9
          obtain ⟨W10, hW10⟩ : ∃ W10, W9.setRow W8.heap.size (MR.1.vals pv' rv') = W10 := ⟨_, rfl⟩
          obtain ⟨W11, hW11⟩ : ∃ W11, W10.setRow (W8.heap.size + 1) DM.2.1.cs = W11 := ⟨_, rfl⟩
          have S12 : (storeSem 32 (.pointer (some ⟨W8.heap.size, 0, none⟩)) (.agg (MR.1.vals pv' rv'))).run Try.prog W9 = .ok () W10 := by rw [← hW10]; exact sref Z12 rfl (vals_size _ _ _) (ref_one hr8)
          have k10 : Kept [W8.heap.size] W9 W10 := by rw [← hW10]; exact (Kept.refl _ _).setRow (.inl (by simp)) _
          have Z13' := Z13.kept k10 (by simp)
          have S13 : (storeSem 38 (.pointer (some ⟨W8.heap.size + 1, 0, none⟩)) (.agg DM.2.1.cs)).run Try.prog W10 = .ok () W11 := by rw [← hW11]; exact sblk Z13' _
          have k11 : Kept [W8.heap.size + 1] W10 W11 := by rw [← hW11]; exact (Kept.refl _ _).setRow (.inl (by simp)) _
          have b12 : Blk W11 W8.heap.size 32 (MR.1.vals pv' rv') := by
            have : Blk W10 W8.heap.size 32 (MR.1.vals pv' rv') := by rw [← hW10]; exact Z12.row _
            exact this.kept k11 (by simp)
          have b13 : Blk W11 (W8.heap.size + 1) 38 DM.2.1.cs := by rw [← hW11]; exact Z13'.row _
          have hb811 : Below W8.heap.size W8 W11 := by rw [← hW11, ← hW10]; exact below_setRow (below_setRow hb9 (Nat.le_refl _) _) (Nat.le_succ _) _
          have b10' := b108.kept (Kept.of_below [] hb811) (by simp)
          have LA := lblk b10'
          have LC := lblk b13
          have LD := lref b12 (vals_size _ _ _)
          have hD11 := hD8.later hb811
          have hr11 := hr8.below hb811
          have bq11 := bq8.kept (Kept.of_below [] hb811) (by simp)
          have hbb11 := hbb8.trans (hb811.mono hbb8.size)
          have EQ := fun w => eqSem_same DM.2.1 w
          have H11 := Lib.hid (And.intro hbb11 (And.intro hD11 (And.intro hr11 (And.intro bq11 (And.intro b12 (And.intro ha8 (And.intro hag.1.2 hag.2)))))))
          clear hmo hag hr8 hb8 hn8 hD8 bq8 b108 hbb8 ha8 Z12 Z13 hb9 k10 Z13' k11 b12 b13 hb811 b10' hD11 hr11 bq11 hbb11 hW10 hW11 hp HAG H7
          go_wp2_with (with_reducible refine wpList_alloc_z rfl 38 rfl Bk.zero.cs 64 z_blk ?_)
          have hag := H11.out.2.2.2.2.2.2.1
          refine (is_true H11.out.2.1 H11.out.2.2.1 (by rw [hag.plate]) hag.rows hag.dead hag.ops).mono ?_
          rintro e W12 ⟨rfl, hb12⟩
          have b12 := H11.out.2.2.2.2.1.kept (Kept.of_below [] hb12) (by simp)
          have bq12 := H11.out.2.2.2.1.kept (Kept.of_below [] hb12) (by simp)
          have hD12 := H11.out.2.1.later hb12
          have hr12 := H11.out.2.2.1.below hb12
          have hbb12 := H11.out.1.trans (hb12.mono H11.out.1.size)
          have LE := lref b12 (vals_size _ _ _)
          have SE := sref bq12 (vals_size _ _ _) (vals_size MR.1 pv' rv') (ref_one hr12)
          have hfin : Play w (W12.setRow Q (MR.1.vals pv' rv')) B Q N bv' pv' rv' DM.1 MR.1 := Play.next hbb12 hD12 bq12 hr12 H11.out.2.2.2.2.2.1 hag (by rw [H11.out.2.2.2.2.2.2.2]; exact HH.out.2.1.len) HH.out.2.1.hB hqq
          have HF := Lib.hid hfin
          clear hag b12 bq12 hD12 hr12 hbb12 hfin hb12 LA LC LD S12 S13 EQ hW9
          go_wp2_with fail
          go_roundw
          case rel => first | exact ⟨k + 1, by omega, by go_num, _, _, _, _, _, HF.out⟩ | ((repeat apply Exists.intro); exact ⟨⟨k + 1, by omega, by go_num, _, _, _, _, _, HF.out⟩, rfl⟩)
          case measure => simp [intOf]; omega
      · obtain rfl : k = l.length := by omega
        have HPk := Lib.hid hPk
        clear hPk
        go_wp2_with fail
        go_meet
        exact ⟨_, _, _, _, _, HPk.out⟩
  case rest =>
    obtain ⟨bv, pv, rv, D, M, hP⟩ := hcut
    obtain ⟨ra, rc, rfl⟩ := own_slice hP.rf.r
    have d1 : wc.cell? ⟨Q, 1, none⟩ = some (.slice ra M.rows.length rc) := hP.box.cell 1
    have hp := hP.p0
    have HP2 := Lib.hid hP
    have HPP := Lib.hid hp
    obtain ⟨L, hL⟩ : ∃ L, M.rows.length = L := ⟨_, rfl⟩
    have hL8 : L ≤ 8 := by rw [← hL]; exact hp.2.2.1
    have hall := all_ref L (by omega) wc
    have hPl := crash_all hP.ag
    have hNN : M.plate.length = N := by rw [hP.ag.plate]; exact hP.len
    rw [hL] at d1 hPl
    have HLL := Lib.hid (And.intro hL (And.intro hPl hNN))
    clear HP hP hp hL hPl hNN
    go_wp2_with fail
    refine hall.mono ?_
    rintro e W5 ⟨v, rfl, hown, hb5⟩
    have hP5 := HP2.out.later hb5
    obtain ⟨va, vc, rfl, hbo, hfa⟩ := bools_of_own (ks := List.replicate L true) hown HP2.out.dsk
    have hcr := crash_any hP5.dsk va vc (List.replicate L true) hbo hfa (by rw [List.length_replicate]; omega)
    rw [List.length_replicate] at hcr
    simp only [List.length_replicate]
    have H5 := Lib.hid hP5
    clear hown hbo hfa hall hP5 hb5 d1
    go_wp2_with fail
    refine hcr.mono ?_
    rintro e W6 ⟨rfl, hD6, hG6⟩
    have hC6 := H5.out.crash hD6 hG6 (idle_crash D (List.replicate L true))
    have h6 := HLL.out.2.1
    rw [h6] at hC6
    have HC := Lib.hid hC6
    clear hcr hD6 hG6 hC6 h6 H5
    go_wp2_with fail
    go_loopw [80] (fun i wr => ∃ j : Nat, j ≤ N ∧ i = .int .i64 j ∧ ∃ bv D, Calm w wr B Q bv pv (.slice ra L rc) D M (downsL M.plate M.rows)) (fun i _ => N - (intOf i).toNat)
    case atStart => exact ⟨0, Nat.zero_le _, rfl, _, _, by have := HC.out; rw [HLL.out.1] at this; exact this⟩
    case round =>
      obtain ⟨j, hj, rfl, bv2, D2, hC⟩ := hrel
      clear HC
      by_cases hlt : j < N
      · have hji : (j : Int) < (N : Int) := by omega
        have hPlen : (downsL M.plate M.rows).length = N := by rw [downsL_len]; exact HLL.out.2.2
        have hrd := hC.idle.read (i := j) (by rw [hPlen]; exact hlt)
        have hsh : (downsL M.plate M.rows).getD j Bk.zero = showsR M j := downsL_shows j M.rows M.plate (by rw [HLL.out.2.2]; exact hlt)
        have hra := read_any hC.dsk (j : Int)
        generalize readM D2 (j : Int) = RM at hrd hra
        obtain ⟨D3, b3, e3⟩ := RM
        obtain ⟨h3, hi3⟩ := hrd
        simp only [Prod.mk.injEq] at h3
        obtain ⟨rfl, rfl⟩ := h3
        simp only [hsh] at hra
        have HC := Lib.hid hC
        have HI := Lib.hid hi3
        clear hC hi3 hsh hPlen
        go_wp2_with fail
        refine hra.mono ?_
        rintro e W7 ⟨rfl, hD7, hG7⟩
        have hC7 := HC.out.goes hD7 hG7 HI.out
        generalize hsb : showsR M j = sb at *
        have HSB := Lib.hid hsb
        clear hsb
        obtain ⟨W8, hW8⟩ : ∃ W8, (W7.alloc (.cells Bk.zero.cs 38)).setRow W7.heap.size sb.cs = W8 := ⟨_, rfl⟩
        have S16 : (storeSem 38 (.pointer (some ⟨W7.heap.size, 0, none⟩)) (.agg sb.cs)).run Try.prog (W7.alloc (.cells Bk.zero.cs 38)) = .ok () W8 := by rw [← hW8]; exact sblk (Blk.new W7 _ _) _
        have b16 : Blk W8 W7.heap.size 38 sb.cs := by rw [← hW8]; exact (Blk.new W7 38 Bk.zero.cs).row _
        have hb78 : Below W7.heap.size W7 W8 := by rw [← hW8]; exact below_setRow ((Below.refl _ _).alloc (Nat.le_refl _) _) (Nat.le_refl _) _
        have hC8 := hC7.later hb78
        have hC8d := hC8.later (W' := W8.drew) ⟨rfl, rfl, rfl, Nat.le_refl _, fun _ _ => rfl⟩
        have LB := lblk b16
        have LBd := lblk b16.drew
        have LM := lref hC8.box (vals_size _ _ _)
        have LMd := lref hC8d.box (vals_size _ _ _)
        have EQ := fun w => eqSem_same sb w
        have hsw := shows_ref hC8d.rf j (by rw [HLL.out.2.2]; exact hlt) HPP.out.2.1 (by rw [HPP.out.2.2.1 |> fun _ => HLL.out.1]; exact hL8)
        rw [HSB.out] at hsw
        have H8 := Lib.hid (And.intro hC8 b16)
        clear hra hD7 hG7 hC7 hb78 hC8 hC8d b16 hW8
        go_wp2_with (with_reducible refine wpList_alloc_z rfl 38 rfl Bk.zero.cs 64 z_blk ?_)
        go_region_with (first | (go_at_call 16; refine hsw.mono ?_; rintro e W9 ⟨rfl, hb9⟩; have LB9 := lblk ((H8.out.2.drew).kept (Kept.of_below [] hb9) (by simp)); have HB9 := Lib.hid hb9; clear hb9))
        all_goals
          have hC9 := H8.out.1.later (W' := W9) ⟨HB9.out.os, HB9.out.tape, HB9.out.output, HB9.out.size, HB9.out.block⟩
          have HC9 := Lib.hid hC9
          clear hC9
          go_wp2_with fail
          go_roundw
          case rel => first | exact ⟨j + 1, by omega, by go_num, _, _, HC9.out⟩ | ((repeat apply Exists.intro); exact ⟨⟨j + 1, by omega, by go_num, _, _, HC9.out⟩, rfl⟩)
          case measure => simp [intOf]; omega
      · obtain rfl : j = N := by omega
        have HCC := Lib.hid hC.hb
        clear hC
        go_wp2_with fail
        go_ret
        exact ⟨rfl, HCC.out⟩
end Go.Proofs.Ytaikgngigaohmaa
