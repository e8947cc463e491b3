/-
  The walk of DiskForks: a copy goes on by itself. Nothing here is a statement of the document.
-/
import Derived.Test.YtaikgngigaohmaaDskFp
import Derived.Test.YtaikgngigaohmaaDskPlw
import Derived.Deep.DeepCutAuto
import Derived.Deep.CutBlock
namespace Go.Proofs.Ytaikgngigaohmaa
open Go.RowKit Go.Shelf
set_option linter.unusedVariables false
attribute [local go_sem ↓] load_blk_rule store_blk_rule load_ref_rule store_ref_rule eq_rule

set_option maxRecDepth 100000 in
set_option maxHeartbeats 8000000 in
theorem forks_walk (aA : Option Addr) (capA : Nat) (lA : List (Deed × List Bool)) (aB : Option Addr) (capB : Nat) (lB : List (Deed × List Bool)) (n : Int) (w : World) (hA : Deeds w aA lA) (hlA : lA.length ≤ 9223372036854775807) (hBd : Deeds w aB lB) (hlB : lB.length ≤ 9223372036854775807) :
    Calls Try.prog 4 #[.slice aA lA.length capA, .slice aB lB.length capB, .int .i64 n] w fun e w' => e = .returned (.bool true) ∧ Below w.heap.size w w' := by
  obtain ⟨m, hm, hm1, hm2⟩ := place_24 n
  obtain ⟨N, hN⟩ : ∃ N, m + 1 = N := ⟨_, rfl⟩
  have hN1 : (m : Int) + 1 = (N : Int) := by omega
  have hN2 : 1 ≤ N := by omega
  have hN3 : N ≤ 24 := by omega
  have HLA := Lib.hid hA
  have HLB := Lib.hid hBd
  clear hA hBd hm
  go_enter Try.func4, Try.ntmps4
  go_wp2_with fail
  refine (wakes_any w).mono ?_
  rintro e W1 ⟨rfl, hb1⟩
  have H1 := Lib.hid hb1
  clear hb1
  go_wp2_with fail
  refine (new_any N hN2 (by omega) W1).mono ?_
  rintro e W2 ⟨rfl, hD, hb2⟩
  have hbw : Below w.heap.size w W2 := H1.out.trans (hb2.mono H1.out.size)
  have hB0 : w.heap.size ≤ W1.heap.size := H1.out.size
  have hBl : W1.heap.size + 1 < W2.heap.size := hD.lt
  generalize W1.heap.size = B at *
  clear H1 hb2
  go_wp2_with fail
  refine (new_ref2 N hN2 (by omega) W2).mono ?_
  rintro e W3 ⟨g, rfl, hR, hb3, hg⟩
  obtain ⟨W4, hW4⟩ : ∃ W4, W3.alloc (.cells #[.slice none 0 0, .slice none 0 0, .int .i64 0, .int .i64 0, .bool false, .int .i64 0] 32) = W4 := ⟨_, rfl⟩
  have hb34 : Below W3.heap.size W3 W4 := by rw [← hW4]; exact (Below.refl _ _).alloc (Nat.le_refl _) _
  have bq : Blk W4 W3.heap.size 32 #[.slice none 0 0, .slice none 0 0, .int .i64 0, .int .i64 0, .bool false, .int .i64 0] := by rw [← hW4]; exact Blk.new _ _ _
  have hR4 := hR.below hb34
  have S0 := sref bq rfl (vals_size (newR N) (.slice (some ⟨g, 0, none⟩) N N) (.slice none 0 0)) (ref_one hR4)
  have hbw4 := (hbw.trans (hb3.mono hbw.size)).trans (hb34.mono (Nat.le_trans hbw.size hb3.size))
  have hP : GPlay w _ B (B + 1) B W3.heap.size N (.slice none 0 0) (.slice (some ⟨g, 0, none⟩) N N) (.slice none 0 0) (newM N) (newR N) :=
    GPlay.next hbw4 ((hD.later hb3).later hb34) bq hR4 (by
      intro k hk hm
      obtain rfl : g = k := by simpa [Value.ownBlock] using hk
      simp [fp, Value.ownBlock] at hm
      omega) (agree_new N) (by simp [newM]) hB0 (Nat.le_trans hbw.size hb3.size)
  have HP := Lib.hid hP
  clear hP hbw4 hR4 bq hb34 hR hb3 hD hbw hg
  have hqq : w.heap.size ≤ W3.heap.size := HP.out.hq
  generalize hQ : W3.heap.size = Q at *
  go_upto_block 0 with (fail)
  clear hW4 S0
  go_cut [] from 10 (fun wc => ∃ bv pv rv D M, GPlay w wc B (B + 1) B Q N bv pv rv D M)
  case first =>
    go_wp2_with fail
    go_loopw [42] (fun i wr => ∃ k : Nat, k ≤ lA.length ∧ i = .int .i64 k ∧ ∃ bv pv rv D M, GPlay w wr B (B + 1) B Q N bv pv rv D M) (fun i _ => lA.length - (intOf i).toNat)
    case atStart => exact ⟨0, Nat.zero_le _, rfl, _, _, _, _, _, HP.out⟩
    case round =>
      obtain ⟨k, hk, rfl, bv, pv, rv, D, M, hPk⟩ := hrel
      clear HP
      by_cases hlt : k < lA.length
      · obtain ⟨⟨x, ks⟩, hy⟩ : ∃ y, lA[k]? = some y := ⟨_, List.getElem?_eq_getElem hlt⟩
        obtain ⟨b0, o0, rfl, hc, hT, hx1, hx2, hx3, hx4, hx5⟩ := HLA.out.at hy
        have HX := Lib.hid (And.intro hT (And.intro hx1 (And.intro hx2 (And.intro hx3 hx5))))
        have hcc : ∀ j, j < 5 → wr.cell? ⟨b0, o0 + k * 5 + j, none⟩ = (x.cs)[j]? := by
          intro j hj
          have h9 := hc j hj
          rw [← Nat.add_assoc] at h9
          rw [← h9]
          have h8 : ∃ v, w.cell? ⟨b0, o0 + k * 5 + j, none⟩ = some v := by
            rw [h9]
            have : j < x.cs.size := by simp [Deed.cs]; omega
            exact ⟨_, Array.getElem?_eq_getElem this⟩
          obtain ⟨v, hv⟩ := h8
          exact hPk.hb.cell (p := ⟨b0, o0 + k * 5 + j, none⟩) (cell_lt hv)
        have c0 := hcc 0 (by omega)
        have c1 := hcc 1 (by omega)
        have c2 := hcc 2 (by omega)
        have c3 := hcc 3 (by omega)
        have c4 := hcc 4 (by omega)
        obtain ⟨z0, z1, z2, z3, z4, z5, z6⟩ := x
        simp only [Deed.cs, List.getElem?_toArray, List.getElem?_cons_zero, List.getElem?_cons_succ, Nat.add_zero] at c0 c1 c2 c3 c4
        clear hc hcc hT hx1 hx2 hx3 hx4 hx5 hy
        have hki : (k : Int) < (lA.length : Int) := by omega
        obtain ⟨W5, hW5⟩ : ∃ W5, wr.alloc (.cells #[.int .i64 z0, .int .i64 z1, .int .i64 z2, .int .u8 (z3 : Int), .slice z4 z5 z6] 36) = W5 := ⟨_, rfl⟩
        have hb5 : Below wr.heap.size wr W5 := by rw [← hW5]; exact (Below.refl _ _).alloc (Nat.le_refl _) _
        have bx5 : Blk W5 wr.heap.size 36 (Deed.cs ⟨z0, z1, z2, z3, z4, z5, z6⟩) := by rw [← hW5]; exact Blk.new wr _ _
        have hP5 := hPk.later hb5
        have y0 := bx5.cell 0
        have y1 := bx5.cell 1
        have y2 := bx5.cell 2
        have y3 := bx5.cell 3
        have y4 := bx5.cell 4
        simp only [Deed.cs, List.getElem?_toArray, List.getElem?_cons_zero, List.getElem?_cons_succ] at y0 y1 y2 y3 y4
        have HH := Lib.hid (And.intro hPk (And.intro hP5 bx5))
        have nx5 : wr.heap.size ∉ fp (B + 1) B bv := hPk.dsk.beside (Nat.le_refl _)
        have NX := Lib.hid nx5
        clear hPk hP5 hb5 bx5 nx5
        go_wp2_with fail
        · go_meet
          exact ⟨_, _, _, _, _, HH.out.2.1⟩
        · clear hW5 c0 c1 c2 c3 c4 y0 y1 y2 y3 y4
          have hag := does_agrees HH.out.2.1.ag HH.out.2.1.dsk.ok ⟨z0, z1, z2, z3, z4, z5, z6⟩ ks HX.out.2.2.2.2
          have hlen := doesM_len D ⟨z0, z1, z2, z3, z4, z5, z6⟩ ks
          have hdo := does_any HH.out.2.1.dsk HH.out.2.1.size ⟨z0, z1, z2, z3, z4, z5, z6⟩ ks (HX.out.1.below HH.out.2.1.hb) HX.out.2.1 HX.out.2.2.1 HX.out.2.2.2.1 HX.out.2.2.2.2
          generalize doesM D ⟨z0, z1, z2, z3, z4, z5, z6⟩ ks = DM at *
          have HAG := Lib.hid (And.intro hag hlen)
          clear hag hlen
          refine hdo.mono ?_
          rintro e W6 ⟨rfl, bv', hD6, hG6⟩
          have hg6 := HH.out.2.1.goes hD6 hG6
          have bx6 := HH.out.2.2.kept hG6.kept NX.out
          have y0 := bx6.cell 0
          have y1 := bx6.cell 1
          have y2 := bx6.cell 2
          have y3 := bx6.cell 3
          have y4 := bx6.cell 4
          simp only [Deed.cs, List.getElem?_toArray, List.getElem?_cons_zero, List.getElem?_cons_succ] at y0 y1 y2 y3 y4
          have L7 := lref hg6.2.1 (vals_size _ _ _)
          have hp := HH.out.2.1.p0
          have hmo := models_any hg6.2.2.1 ⟨z0, z1, z2, z3, z4, z5, z6⟩ ks (HX.out.1.below hg6.1) HX.out.2.1 HX.out.2.2.1 HX.out.2.2.2.1 HX.out.2.2.2.2 HH.out.2.1.fuse HH.out.2.1.ag.hi HH.out.2.1.ag.lo hp.1 hp.2.1 hp.2.2.1 hp.2.2.2
          have hag := HAG.out
          generalize modelsR M ⟨z0, z1, z2, z3, z4, z5, z6⟩ ks = MR at hmo hag
          have H7 := Lib.hid (And.intro hg6 (And.intro hD6 hag))
          clear hdo hD6 hG6 hg6 bx6 hp hag HAG
          go_wp2_with fail
          clear L7 y0 y1 y2 y3 y4
          refine hmo.mono ?_
          rintro e W8 ⟨pv', rv', rfl, hr8, hb8, hn8⟩
          have hD8 := H7.out.2.1.later hb8
          have bq8 := H7.out.1.2.1.kept (Kept.of_below [] hb8) (by simp)
          have hbb8 := H7.out.1.1.trans (hb8.mono H7.out.1.1.size)
          have ha8 : ∀ k, pv'.ownBlock = some k → k ∉ fp (B + 1) B bv' := fun k hk hm => by
            rcases hn8 k hk with h9 | h9
            · exact H7.out.1.2.2.2 k h9 hm
            · have := H7.out.2.1.lts k hm; omega
          have SE := sref bq8 (vals_size _ _ _) (vals_size MR.1 pv' rv') (ref_one hr8)
          have hfin : GPlay w (W8.setRow Q (MR.1.vals pv' rv')) B (B + 1) B Q N bv' pv' rv' DM.1 MR.1 := GPlay.next hbb8 hD8 bq8 hr8 ha8 H7.out.2.2.1.2 (by rw [H7.out.2.2.2]; exact HH.out.2.1.len) HH.out.2.1.hB hqq
          have HF := Lib.hid hfin
          clear hmo hr8 hb8 hn8 hD8 bq8 hbb8 ha8 hfin H7
          go_wp2_with fail
          go_roundw
          case rel => first | exact ⟨k + 1, by omega, by go_num, _, _, _, _, _, HF.out⟩ | ((repeat apply Exists.intro); exact ⟨⟨k + 1, by omega, by go_num, _, _, _, _, _, HF.out⟩, rfl⟩)
          case measure => simp [intOf]; omega
      · obtain rfl : k = lA.length := by omega
        have HPk := Lib.hid hPk
        clear hPk
        go_wp2_with fail
        go_meet
        exact ⟨_, _, _, _, _, HPk.out⟩
  case rest =>
    obtain ⟨bv, pv, rv, D, M, hP⟩ := hcut
    clear HP
    have hcp := copy_any hP.dsk
    have HP := Lib.hid hP
    clear hP
    go_wp2_with fail
    refine hcp.mono ?_
    rintro e W5 ⟨bv2, rfl, hD5, hb5⟩
    have hS5 := HP.out.stay.under hb5
    have hag := HP.out.ag
    generalize hBc : wc.heap.size = Bc at *
    have LM := lref hS5.g.box (vals_size _ _ _)
    have hisA := is_true hD5 hS5.g.rf (by rw [hag.plate]) hag.rows hag.dead hag.ops
    have H5 := Lib.hid (And.intro hS5 (And.intro hD5 hb5))
    clear hcp hag hS5 hD5 hb5
    go_wp2_with fail
    refine hisA.mono ?_
    rintro e W6 ⟨rfl, hb6⟩
    have hS6 := H5.out.1.later hb6 (Nat.le_of_lt H5.out.2.1.lt)
    have hD6 := H5.out.2.1.later hb6
    have hz6 : Bc ≤ W6.heap.size := Nat.le_trans (Nat.le_of_lt H5.out.2.1.lt) hb6.size
    have LM6 := lref hS6.g.box (vals_size _ _ _)
    have Z13 : Blk (W6.alloc (.cells #[.slice none 0 0, .slice none 0 0, .int .i64 0, .int .i64 0, .bool false, .int .i64 0] 32)) W6.heap.size 32 #[.slice none 0 0, .slice none 0 0, .int .i64 0, .int .i64 0, .bool false, .int .i64 0] := Blk.new W6 _ _
    have hb67 : Below W6.heap.size W6 (W6.alloc (.cells #[.slice none 0 0, .slice none 0 0, .int .i64 0, .int .i64 0, .bool false, .int .i64 0] 32)) := (Below.refl _ _).alloc (Nat.le_refl _) _
    have hS7 := hS6.later hb67 hz6
    have S13 := sref Z13 rfl (vals_size M pv rv) (ref_one hS7.g.rf)
    have hC7 : GPlay w _ Bc Bc (Bc + 1) W6.heap.size N bv2 pv rv D M := GPlay.next (hS6.g.hb.trans (hb67.mono hS6.g.hb.size)) (hD6.later hb67) Z13 hS7.g.rf (fun k hk hm => by
      have h1 := hS6.pp k hk
      have h2 := dsk_ge hD6 k hm
      omega) hS7.g.ag hS7.g.len (by rw [← hBc]; exact HP.out.hb.size) hS6.g.hb.size
    have hS8 := hS7.under (below_setRow (Below.refl Bc _) hz6 (M.vals pv rv))
    have HS8 := Lib.hid (And.intro hS8 hC7)
    clear hisA LM hb6 hS6 hD6 Z13 hb67 hS7 hC7 hS8
    have hQ2 : Bc ≤ W6.heap.size := hz6
    generalize hQ2' : W6.heap.size = Q2 at *
    clear hz6
    go_upto_block 2 with (fail)
    clear S13 LM6
    go_cut [] from 14 (fun wd => Stay w wd Bc B (B + 1) B Q N bv pv rv D M)
    case first =>
      go_wp2_with fail
      go_loopw [73] (fun i wr => ∃ k : Nat, k ≤ lB.length ∧ i = .int .i64 k ∧ Stay w wr Bc B (B + 1) B Q N bv pv rv D M ∧ ∃ bv2 po ro D2 Mo, GPlay w wr Bc Bc (Bc + 1) Q2 N bv2 po ro D2 Mo) (fun i _ => lB.length - (intOf i).toNat)
      case atStart => exact ⟨0, Nat.zero_le _, rfl, HS8.out.1, _, _, _, _, _, HS8.out.2⟩
      case round =>
        obtain ⟨k, hk, rfl, hSk, bvx, po, ro, D2, Mo, hPk⟩ := hrel
        clear HP H5 HS8
        by_cases hlt : k < lB.length
        · obtain ⟨⟨x, ks⟩, hy⟩ : ∃ y, lB[k]? = some y := ⟨_, List.getElem?_eq_getElem hlt⟩
          obtain ⟨b0, o0, rfl, hc, hT, hx1, hx2, hx3, hx4, hx5⟩ := HLB.out.at hy
          have HX := Lib.hid (And.intro hT (And.intro hx1 (And.intro hx2 (And.intro hx3 hx5))))
          have hcc : ∀ j, j < 5 → wr.cell? ⟨b0, o0 + k * 5 + j, none⟩ = (x.cs)[j]? := by
            intro j hj
            have h9 := hc j hj
            rw [← Nat.add_assoc] at h9
            rw [← h9]
            have h8 : ∃ v, w.cell? ⟨b0, o0 + k * 5 + j, none⟩ = some v := by
              rw [h9]
              have : j < x.cs.size := by simp [Deed.cs]; omega
              exact ⟨_, Array.getElem?_eq_getElem this⟩
            obtain ⟨v, hv⟩ := h8
            exact hPk.hb.cell (p := ⟨b0, o0 + k * 5 + j, none⟩) (cell_lt hv)
          have c0 := hcc 0 (by omega)
          have c1 := hcc 1 (by omega)
          have c2 := hcc 2 (by omega)
          have c3 := hcc 3 (by omega)
          have c4 := hcc 4 (by omega)
          obtain ⟨z0, z1, z2, z3, z4, z5, z6⟩ := x
          simp only [Deed.cs, List.getElem?_toArray, List.getElem?_cons_zero, List.getElem?_cons_succ, Nat.add_zero] at c0 c1 c2 c3 c4
          clear hc hcc hT hx1 hx2 hx3 hx4 hx5 hy
          have hki : (k : Int) < (lB.length : Int) := by omega
          obtain ⟨W5, hW5⟩ : ∃ W5, wr.alloc (.cells #[.int .i64 z0, .int .i64 z1, .int .i64 z2, .int .u8 (z3 : Int), .slice z4 z5 z6] 36) = W5 := ⟨_, rfl⟩
          have hb5 : Below wr.heap.size wr W5 := by rw [← hW5]; exact (Below.refl _ _).alloc (Nat.le_refl _) _
          have bx5 : Blk W5 wr.heap.size 36 (Deed.cs ⟨z0, z1, z2, z3, z4, z5, z6⟩) := by rw [← hW5]; exact Blk.new wr _ _
          have hP5 := hPk.later hb5
          have hS5 := hSk.later hb5 hPk.size
          have y0 := bx5.cell 0
          have y1 := bx5.cell 1
          have y2 := bx5.cell 2
          have y3 := bx5.cell 3
          have y4 := bx5.cell 4
          simp only [Deed.cs, List.getElem?_toArray, List.getElem?_cons_zero, List.getElem?_cons_succ] at y0 y1 y2 y3 y4
          have HH := Lib.hid (And.intro hPk (And.intro hP5 (And.intro bx5 hS5)))
          have nx5 : wr.heap.size ∉ fp Bc (Bc + 1) bvx := hPk.dsk.beside (Nat.le_refl _)
          have NX := Lib.hid nx5
          clear hPk hP5 hSk hS5 hb5 bx5 nx5
          go_wp2_with fail
          · go_meet
            exact HH.out.2.2.2
          · clear hW5 c0 c1 c2 c3 c4 y0 y1 y2 y3 y4
            have hag := does_agrees HH.out.2.1.ag HH.out.2.1.dsk.ok ⟨z0, z1, z2, z3, z4, z5, z6⟩ ks HX.out.2.2.2.2
            have hlen := doesM_len D2 ⟨z0, z1, z2, z3, z4, z5, z6⟩ ks
            have hdo := does_any HH.out.2.1.dsk HH.out.2.1.size ⟨z0, z1, z2, z3, z4, z5, z6⟩ ks (HX.out.1.below HH.out.2.1.hb) HX.out.2.1 HX.out.2.2.1 HX.out.2.2.2.1 HX.out.2.2.2.2
            generalize doesM D2 ⟨z0, z1, z2, z3, z4, z5, z6⟩ ks = DM at *
            have HAG := Lib.hid (And.intro hag hlen)
            clear hag hlen
            refine hdo.mono ?_
            rintro e W6 ⟨rfl, bvx', hD6, hG6⟩
            have hg6 := HH.out.2.1.goes hD6 hG6
            have bx6 := HH.out.2.2.1.kept hG6.kept NX.out
            have hS6 := HH.out.2.2.2.under (hG6.below HH.out.2.1.dsk HH.out.2.1.size)
            have hz6 : Bc ≤ W6.heap.size := Nat.le_trans HH.out.2.1.size (hG6.kept.size)
            obtain ⟨W7, hW7⟩ : ∃ W7, (W6.alloc (.cells Bk.zero.cs 38)).setRow W6.heap.size DM.2.1.cs = W7 := ⟨_, rfl⟩
            have S10 : (storeSem 38 (.pointer (some ⟨W6.heap.size, 0, none⟩)) (.agg DM.2.1.cs)).run Try.prog (W6.alloc (.cells Bk.zero.cs 38)) = .ok () W7 := by rw [← hW7]; exact sblk (Blk.new W6 _ _) _
            have b10 : Blk W7 W6.heap.size 38 DM.2.1.cs := by rw [← hW7]; exact (Blk.new W6 38 Bk.zero.cs).row _
            have hb67 : Below W6.heap.size W6 W7 := by rw [← hW7]; exact below_setRow ((Below.refl _ _).alloc (Nat.le_refl _) _) (Nat.le_refl _) _
            have bx7 := bx6.kept (Kept.of_below [] hb67) (by simp)
            have y0 := bx7.cell 0
            have y1 := bx7.cell 1
            have y2 := bx7.cell 2
            have y3 := bx7.cell 3
            have y4 := bx7.cell 4
            simp only [Deed.cs, List.getElem?_toArray, List.getElem?_cons_zero, List.getElem?_cons_succ] at y0 y1 y2 y3 y4
            have bq7 := hg6.2.1.kept (Kept.of_below [] hb67) (by simp)
            have L7 := lref bq7 (vals_size _ _ _)
            have hr7 := hg6.2.2.1.below hb67
            have hbb7 := hg6.1.trans (hb67.mono hg6.1.size)
            have hD7 := hD6.later hb67
            have hS7 := hS6.later hb67 hz6
            have hz7 : Bc ≤ W7.heap.size := Nat.le_trans hz6 hb67.size
            have hlt7 : ∀ x ∈ fp Bc (Bc + 1) bvx', x < W7.heap.size := fun x hx => Nat.lt_of_lt_of_le (hD6.lts x hx) hb67.size
            have H7 := Lib.hid (And.intro hbb7 (And.intro hD7 (And.intro bq7 (And.intro hr7 (And.intro b10 (And.intro hg6.2.2.2 (And.intro hlt7 (And.intro bx7 (And.intro hS7 hz7)))))))))
            clear hdo hD6 hG6 hg6 bx6 b10 hb67 bx7 bq7 hr7 hbb7 hD7 hlt7 hW7 hS6 hS7 hz6 hz7
            go_wp2_with (with_reducible refine wpList_alloc_z rfl 38 rfl Bk.zero.cs 64 z_blk ?_)
            clear S10 L7 y0 y1 y2 y3 y4
            have hp := HH.out.2.1.p0
            have hmo := models_any H7.out.2.2.2.1 ⟨z0, z1, z2, z3, z4, z5, z6⟩ ks (HX.out.1.below H7.out.1) HX.out.2.1 HX.out.2.2.1 HX.out.2.2.2.1 HX.out.2.2.2.2 HH.out.2.1.fuse HH.out.2.1.ag.hi HH.out.2.1.ag.lo hp.1 hp.2.1 hp.2.2.1 hp.2.2.2
            have hag := HAG.out
            generalize modelsR Mo ⟨z0, z1, z2, z3, z4, z5, z6⟩ ks = MR at hmo hag
            rw [hag.1.1] at hmo
            refine hmo.mono ?_
            rintro e W8 ⟨po', ro', rfl, hr8, hb8, hn8⟩
            have hD8 := H7.out.2.1.later hb8
            have bq8 := H7.out.2.2.1.kept (Kept.of_below [] hb8) (by simp)
            have b108 := H7.out.2.2.2.2.1.kept (Kept.of_below [] hb8) (by simp)
            have hbb8 := H7.out.1.trans (hb8.mono H7.out.1.size)
            have hz7 := H7.out.2.2.2.2.2.2.2.2.2
            have hS8 := H7.out.2.2.2.2.2.2.2.2.1.later hb8 hz7
            have hz8 : Bc ≤ W8.heap.size := Nat.le_trans hz7 hb8.size
            have ha8 : ∀ k, po'.ownBlock = some k → k ∉ fp Bc (Bc + 1) bvx' := fun k hk hm => by
              rcases hn8 k hk with h9 | h9
              · exact H7.out.2.2.2.2.2.1 k h9 hm
              · have := H7.out.2.2.2.2.2.2.1 k hm; omega
            have Z12 : Blk ((W8.alloc (.cells #[.slice none 0 0, .slice none 0 0, .int .i64 0, .int .i64 0, .bool false, .int .i64 0] 32)).alloc (.cells Bk.zero.cs 38)) W8.heap.size 32 #[.slice none 0 0, .slice none 0 0, .int .i64 0, .int .i64 0, .bool false, .int .i64 0] := (Blk.new W8 _ _).alloc _
            have Z13 : Blk ((W8.alloc (.cells #[.slice none 0 0, .slice none 0 0, .int .i64 0, .int .i64 0, .bool false, .int .i64 0] 32)).alloc (.cells Bk.zero.cs 38)) (W8.heap.size + 1) 38 Bk.zero.cs := Blk.new2 _ _ _ _
            have hb9 : Below W8.heap.size W8 ((W8.alloc (.cells #[.slice none 0 0, .slice none 0 0, .int .i64 0, .int .i64 0, .bool false, .int .i64 0] 32)).alloc (.cells Bk.zero.cs 38)) := ((Below.refl _ _).alloc (Nat.le_refl _) _).alloc (by simp) _
            generalize hW9 : (W8.alloc (.cells #[.slice none 0 0, .slice none 0 0, .int .i64 0, .int .i64 0, .bool false, .int .i64 0] 32)).alloc (.cells Bk.zero.cs 38) = W9 at Z12 Z13 hb9
            obtain ⟨W10, hW10⟩ : ∃ W10, W9.setRow W8.heap.size (MR.1.vals po' ro') = W10 := ⟨_, rfl⟩
            obtain ⟨W11, hW11⟩ : ∃ W11, W10.setRow (W8.heap.size + 1) DM.2.1.cs = W11 := ⟨_, rfl⟩
            have S12 : (storeSem 32 (.pointer (some ⟨W8.heap.size, 0, none⟩)) (.agg (MR.1.vals po' ro'))).run Try.prog W9 = .ok () W10 := by rw [← hW10]; exact sref Z12 rfl (vals_size _ _ _) (ref_one hr8)
            have k10 : Kept [W8.heap.size] W9 W10 := by rw [← hW10]; exact (Kept.refl _ _).setRow (.inl (by simp)) _
            have Z13' := Z13.kept k10 (by simp)
            have S13 : (storeSem 38 (.pointer (some ⟨W8.heap.size + 1, 0, none⟩)) (.agg DM.2.1.cs)).run Try.prog W10 = .ok () W11 := by rw [← hW11]; exact sblk Z13' _
            have k11 : Kept [W8.heap.size + 1] W10 W11 := by rw [← hW11]; exact (Kept.refl _ _).setRow (.inl (by simp)) _
            have b12 : Blk W11 W8.heap.size 32 (MR.1.vals po' ro') := by
              have : Blk W10 W8.heap.size 32 (MR.1.vals po' ro') := by rw [← hW10]; exact Z12.row _
              exact this.kept k11 (by simp)
            have b13 : Blk W11 (W8.heap.size + 1) 38 DM.2.1.cs := by rw [← hW11]; exact Z13'.row _
            have hb811 : Below W8.heap.size W8 W11 := by rw [← hW11, ← hW10]; exact below_setRow (below_setRow hb9 (Nat.le_refl _) _) (Nat.le_succ _) _
            have b10' := b108.kept (Kept.of_below [] hb811) (by simp)
            have LA := lblk b10'
            have LC := lblk b13
            have LD := lref b12 (vals_size _ _ _)
            have hD11 := hD8.later hb811
            have hS11 := hS8.later hb811 hz8
            have hz11 : Bc ≤ W11.heap.size := Nat.le_trans hz8 hb811.size
            have hr11 := hr8.below hb811
            have bq11 := bq8.kept (Kept.of_below [] hb811) (by simp)
            have hbb11 := hbb8.trans (hb811.mono hbb8.size)
            have EQ := fun w => eqSem_same DM.2.1 w
            have H11 := Lib.hid (And.intro hbb11 (And.intro hD11 (And.intro hr11 (And.intro bq11 (And.intro b12 (And.intro ha8 (And.intro hag.1.2 (And.intro hag.2 (And.intro hS11 hz11)))))))))
            clear hmo hag hz7 hS8 hz8 hS11 hz11 hr8 hb8 hn8 hD8 bq8 b108 hbb8 ha8 Z12 Z13 hb9 k10 Z13' k11 b12 b13 hb811 b10' hD11 hr11 bq11 hbb11 hW10 hW11 hp HAG H7
            go_wp2_with (with_reducible refine wpList_alloc_z rfl 38 rfl Bk.zero.cs 64 z_blk ?_)
            have hag := H11.out.2.2.2.2.2.2.1
            refine (is_true H11.out.2.1 H11.out.2.2.1 (by rw [hag.plate]) hag.rows hag.dead hag.ops).mono ?_
            rintro e W12 ⟨rfl, hb12⟩
            have b12 := H11.out.2.2.2.2.1.kept (Kept.of_below [] hb12) (by simp)
            have bq12 := H11.out.2.2.2.1.kept (Kept.of_below [] hb12) (by simp)
            have hD12 := H11.out.2.1.later hb12
            have hr12 := H11.out.2.2.1.below hb12
            have hbb12 := H11.out.1.trans (hb12.mono H11.out.1.size)
            have hS12 := H11.out.2.2.2.2.2.2.2.2.1.later hb12 H11.out.2.2.2.2.2.2.2.2.2
            have hz12 : Bc ≤ W12.heap.size := Nat.le_trans H11.out.2.2.2.2.2.2.2.2.2 hb12.size
            have LM := lref hS12.g.box (vals_size _ _ _)
            have hagd := hS12.g.ag
            have hisD := is_true hS12.g.dsk hS12.g.rf (by rw [hagd.plate]) hagd.rows hagd.dead hagd.ops
            have H12 := Lib.hid (And.intro b12 (And.intro bq12 (And.intro hD12 (And.intro hr12 (And.intro hbb12 (And.intro hS12 hz12))))))
            clear hag hagd b12 bq12 hD12 hr12 hbb12 hS12 hz12 hb12 LA LC LD S12 S13 EQ hW9
            go_wp2_with fail
            refine hisD.mono ?_
            rintro e W13 ⟨rfl, hb13⟩
            have b13' := H12.out.1.kept (Kept.of_below [] hb13) (by simp)
            have bq13 := H12.out.2.1.kept (Kept.of_below [] hb13) (by simp)
            have hD13 := H12.out.2.2.1.later hb13
            have hr13 := H12.out.2.2.2.1.below hb13
            have hbb13 := H12.out.2.2.2.2.1.trans (hb13.mono H12.out.2.2.2.2.1.size)
            have hS13 := H12.out.2.2.2.2.2.1.later hb13 H12.out.2.2.2.2.2.2
            have hz13 : Bc ≤ W13.heap.size := Nat.le_trans H12.out.2.2.2.2.2.2 hb13.size
            have LE := lref b13' (vals_size _ _ _)
            have SE := sref bq13 (vals_size _ _ _) (vals_size MR.1 po' ro') (ref_one hr13)
            have hfin : GPlay w (W13.setRow Q2 (MR.1.vals po' ro')) Bc Bc (Bc + 1) Q2 N bvx' po' ro' DM.1 MR.1 := GPlay.next hbb13 hD13 bq13 hr13 H11.out.2.2.2.2.2.1 H11.out.2.2.2.2.2.2.1 (by rw [H11.out.2.2.2.2.2.2.2.1]; exact HH.out.2.1.len) HH.out.2.1.hB HH.out.2.1.hq
            have hSf := hS13.under (below_setRow (Below.refl Bc W13) hQ2 (MR.1.vals po' ro'))
            have HF := Lib.hid (And.intro hSf hfin)
            clear hisD LM b13' bq13 hD13 hr13 hbb13 hS13 hz13 hb13 hfin hSf
            go_wp2_with fail
            go_roundw
            case rel => first | exact ⟨k + 1, by omega, by go_num, HF.out.1, _, _, _, _, _, HF.out.2⟩ | ((repeat apply Exists.intro); exact ⟨⟨k + 1, by omega, by go_num, HF.out.1, _, _, _, _, _, HF.out.2⟩, rfl⟩)
            case measure => simp [intOf]; omega
        · obtain rfl : k = lB.length := by omega
          have HSk := Lib.hid hSk
          clear hSk hPk
          go_wp2_with fail
          go_meet
          exact HSk.out
    case rest =>
      have HST := Lib.hid hcut
      clear hcut HS8 H5 HP
      have hcr := crash_any HST.out.g.dsk none 0 [] (.inl rfl) (by intro b off h9; cases h9) (by simp)
      go_wp2_with fail
      refine hcr.mono ?_
      rintro e W5 ⟨rfl, hD5, hG5⟩
      have hC5 := HST.out.g.crash hD5 hG5 (idle_crash D [])
      rw [crash_none] at hC5
      have HC := Lib.hid hC5
      clear hcr hD5 hG5 hC5
      go_wp2_with fail
      go_loopw [119] (fun i wr => ∃ j : Nat, j ≤ N ∧ i = .int .i64 j ∧ ∃ bv D2, GCalm w wr B (B + 1) B Q bv pv rv D2 M D.plate) (fun i _ => N - (intOf i).toNat)
      case atStart => exact ⟨0, Nat.zero_le _, rfl, _, _, HC.out⟩
      case round =>
        obtain ⟨j, hj, rfl, bvz, D2, hC⟩ := hrel
        clear HC
        by_cases hlt : j < N
        · have hji : (j : Int) < (N : Int) := by omega
          have hPN : D.plate.length = N := HST.out.g.len
          have hMN : M.plate.length = N := by rw [HST.out.g.ag.plate]; exact hPN
          have hrd := hC.idle.read (i := j) (by rw [hPN]; exact hlt)
          obtain ⟨sb, hsb⟩ : ∃ sb, D.plate.getD j Bk.zero = sb := ⟨_, rfl⟩
          have hMj : M.plate[j]? = some sb := by
            rw [HST.out.g.ag.plate, ← hsb]
            simp [List.getElem?_eq_getElem (show j < D.plate.length by omega), List.getD_eq_getElem?_getD]
          have hra := read_any hC.dsk (j : Int)
          generalize readM D2 (j : Int) = RM at hrd hra
          obtain ⟨D3, b3, e3⟩ := RM
          obtain ⟨h3, hi3⟩ := hrd
          simp only [Prod.mk.injEq] at h3
          obtain ⟨rfl, rfl⟩ := h3
          simp only [hsb] at hra
          have HC := Lib.hid hC
          have HI := Lib.hid hi3
          have HMJ := Lib.hid (And.intro hMj hMN)
          clear hC hi3 hsb hMj hMN hPN
          go_wp2_with fail
          refine hra.mono ?_
          rintro e W7 ⟨rfl, hD7, hG7⟩
          have hC7 := HC.out.goes hD7 hG7 HI.out
          obtain ⟨W8, hW8⟩ : ∃ W8, (W7.alloc (.cells Bk.zero.cs 38)).setRow W7.heap.size sb.cs = W8 := ⟨_, rfl⟩
          have S16 : (storeSem 38 (.pointer (some ⟨W7.heap.size, 0, none⟩)) (.agg sb.cs)).run Try.prog (W7.alloc (.cells Bk.zero.cs 38)) = .ok () W8 := by rw [← hW8]; exact sblk (Blk.new W7 _ _) _
          have b16 : Blk W8 W7.heap.size 38 sb.cs := by rw [← hW8]; exact (Blk.new W7 38 Bk.zero.cs).row _
          have hb78 : Below W7.heap.size W7 W8 := by rw [← hW8]; exact below_setRow ((Below.refl _ _).alloc (Nat.le_refl _) _) (Nat.le_refl _) _
          have hC8 := hC7.later hb78
          have hC8d := hC8.later (W' := W8.drew) ⟨rfl, rfl, rfl, Nat.le_refl _, fun _ _ => rfl⟩
          have LB := lblk b16
          have LBd := lblk b16.drew
          obtain ⟨gp, cp, CP, rfl, _, hbp, hps, hpc, hpm, hCP⟩ := own_cells hC8d.rf.p (by rw [HMJ.out.2]; omega)
          have hld : ∀ q, q < sb.cs.size → CP[j * 64 + q]? = sb.cs[q]? := fun q hq => by
            rw [Bk.size] at hq
            have h64 : (j + 1) * 64 ≤ M.plate.length * 64 := Nat.mul_le_mul_right _ (by rw [HMJ.out.2]; omega)
            rw [hCP _ (by omega), pcs_get HMJ.out.1 hq]
          have LPd : (loadSem 38 (.pointer (some ⟨gp, j * 64, none⟩))).run Try.prog W8.drew = .ok (.agg sb.cs) W8.drew := loadRes_of hbp hld _ Try.underlying38 rfl (s_blk sb)
          have d0 : W8.cell? ⟨Q, 0, none⟩ = some (.slice (some ⟨gp, 0, none⟩) M.plate.length cp) := hC8.box.cell 0
          have hMN := HMJ.out.2
          rw [hMN] at d0
          have EQ := fun w => eqSem_same sb w
          have H8 := Lib.hid hC8d
          clear hra hD7 hG7 hC7 hb78 hC8 hC8d b16 hW8 hbp hps hpc hpm hCP hld hMN
          go_wp2_with (with_reducible refine wpList_alloc_z rfl 38 rfl Bk.zero.cs 64 z_blk ?_)
          go_region
          all_goals
            go_wp2_with fail
            go_roundw
            case rel => first | exact ⟨j + 1, by omega, by go_num, _, _, H8.out⟩ | ((repeat apply Exists.intro); exact ⟨⟨j + 1, by omega, by go_num, _, _, H8.out⟩, rfl⟩)
            case measure => simp [intOf]; omega
        · obtain rfl : j = N := by omega
          have HCC := Lib.hid hC.hb
          clear hC
          go_wp2_with fail
          go_ret
          exact ⟨rfl, HCC.out⟩
end Go.Proofs.Ytaikgngigaohmaa
