/-
  The walk of ArenaAgain. Nothing here is a statement of the document.
-/
import Derived.Test.YtobnjpdanpjhjaaArnZ
import Derived.Test.YtobnjpdanpjhjaaArnV
import Derived.Deep.DeepCutAuto
import Derived.Deep.CutBlock
namespace Go.Proofs.Ytobnjpdanpjhjaa
open Go.RowKit Go.Shelf
set_option linter.unusedVariables false

set_option maxRecDepth 100000 in
set_option maxHeartbeats 8000000 in
theorem again_walk (n : Int) (ra : Option Addr) (len cap : Nat) (zs : List Int) {w : World} (hz : IsRow .i64 w ra len cap zs) :
    Calls Try.prog 8 #[.int .i64 n, .slice ra len cap] w fun e w' => e = .returned (.bool true) ∧ Below w.heap.size w w' := by
  obtain ⟨ys, hyl, hlm, hNY, hwf⟩ := hz.nums
  have HN := Lib.hid (And.intro hNY hwf)
  clear hNY hwf hz
  subst hyl
  obtain ⟨i0, hi, hz0, hz1, hz2⟩ := info_parts i_int
  obtain ⟨m, hm, hm1, hm2⟩ := place_200 n
  obtain ⟨N, hN⟩ : ∃ N, 64 + m = N := ⟨_, rfl⟩
  have hN1 : (64 : Int) + (m : Int) = (N : Int) := by omega
  have hN2 : 64 ≤ N := by omega
  have hN3 : N ≤ 300 := by omega
  go_enter Try.func8, Try.ntmps8
  go_wp2_with fail
  refine (wakes6_any w).mono ?_
  rintro e W1 ⟨rfl, hb1⟩
  have H1 := Lib.hid hb1
  clear hb1
  go_wp2_with fail
  refine (new_yes N hN2 (by omega) W1).mono ?_
  rintro e W2 ⟨rfl, hA2, hb2⟩
  have hbw : Below w.heap.size w W2 := bel_later H1.out hb2
  obtain ⟨g, hg⟩ : ∃ g, W1.heap.size + 2 = g := ⟨_, rfl⟩
  obtain ⟨p, hp⟩ : ∃ p, W1.heap.size = p := ⟨_, rfl⟩
  obtain ⟨q, hq⟩ : ∃ q, W1.heap.size + 1 = q := ⟨_, rfl⟩
  have hpq : w.heap.size ≤ p ∧ w.heap.size ≤ q := by have := H1.out.size; omega
  rw [hg, hq, hp] at hA2
  rw [hg]
  clear hg hp hq H1 hb2
  have hgM : g < W2.heap.size := hA2.box.lt
  have hpM : p < W2.heap.size := hA2.wds.lt
  have hqM : q < W2.heap.size := hA2.bgs.lt
  have hF0 := fresh_new hN2
  have HS := Lib.hid (And.intro hA2 (And.intro hF0 (And.intro hbw (And.intro hpq (And.intro hgM (And.intro hpM hqM))))))
  obtain ⟨M, hM⟩ : ∃ M, W2.heap.size = M := ⟨_, rfl⟩
  have HM := Lib.hid hM
  clear hA2 hF0 hbw hpq hgM hpM hqM hM hm hm1 hm2 hN hN1
  go_upto_block 0 with (fail)
  go_cut [7] from 8 (fun o wc => ∃ ws bs B, B.length ≤ 20 ∧ Ar wc g p q ws bs ∧ Fresh ws bs B ∧ wc.ownsRow M 3 1 o B.length (B.map pv) ∧ Kept [p, q] W2 wc)
  case first =>
    go_wp2_with fail
    go_loopw [7, 41] (fun o i wr => ∃ k : Nat, k ≤ ys.length ∧ k ≤ 20 ∧ i = .int .i64 k ∧ ∃ ws bs B, B.length ≤ k ∧ Ar wr g p q ws bs ∧ Fresh ws bs B ∧ wr.ownsRow M 3 1 o B.length (B.map pv) ∧ Kept [p, q] W2 wr) (fun o i _ => ys.length - (intOf i).toNat)
    case atStart => exact ⟨0, Nat.zero_le _, by omega, rfl, _, _, [], by simp, HS.out.1, HS.out.2.1, World.ownsRow_nil _ _ _ _, Kept.refl _ _⟩
    case round =>
      obtain ⟨k, hk, hk20, rfl, ws, bs, B, hBk, hA, hF, how, hK⟩ := hrel
      by_cases hlt : k < ys.length
      · have hki : (k : Int) < (ys.length : Int) := by omega
        have hbw : Below w.heap.size w wr := HS.out.2.2.1.trans (hK.below (B := w.heap.size) (by have := HS.out.2.2.2.1; simp; omega) HS.out.2.2.1.size)
        obtain ⟨b, off, rfl, hbl, hc⟩ : ∃ b off, ra = some ⟨b, off, none⟩ ∧ b < w.heap.size ∧ w.cell? ⟨b, off + k, none⟩ = some (.int .i64 (ys.getD k 0)) := by
          rcases HN.out.1 with h9 | ⟨b, off, h1, h2, h3⟩
          · rw [h9] at hlt; simp at hlt
          · exact ⟨b, off, h1, h2, h3 k hlt⟩
        have hc2 : wr.cell? ⟨b, off + k, none⟩ = some (.int .i64 (ys.getD k 0)) := (hbw.cell (p := ⟨b, off + k, none⟩) hbl).trans hc
        clear hc hbw
        generalize ys.getD k 0 = z at *
        by_cases h20 : k = 20
        · subst h20
          have HX := Lib.hid (And.intro hA (And.intro hF (And.intro how hK)))
          clear hA hF how hK
          go_wp2_with fail
          go_meet
          exact ⟨_, _, B, hBk, HX.out⟩
        · have h20i : ¬ (k : Int) = 20 := by omega
          obtain ⟨c, hc6, hcm1, hcm2⟩ := place_6 z
          have hc5 : c ≤ 5 := by omega
          have hL0 : ws.getD (9 + c) 0 = 0 := hF.inv.lst c hc5
          have h16 := hF.inv.edge16
          have hE := hF.inv.edge
          by_cases hfit : ws.getD 15 0 + 1 + 2 ^ c ≤ ws.length
          · have hal := alloc_grow hA c hc5 hL0 h16 hfit
            have hF2 := hF.grow hA.len hc5 hfit
            have HX := Lib.hid (And.intro hF2 (And.intro how hK))
            have hx16 : (ws.getD 15 0 + 1 : Nat) ≤ 17000 := by have := hA.hi; omega
            clear hA hF how hK hL0 h16 hE hfit hF2
            generalize growW ws c = ws2 at *
            generalize hbs : bs.set (ws.getD 15 0 + 1) true = bs2 at *
            clear hbs
            generalize ws.getD 15 0 + 1 = x at *
            go_wp2_with fail
            refine hal.mono ?_
            rintro e w3 ⟨rfl, hA3, k3⟩
            have how3 := owns_kept HX.out.2.1 k3 (by have := HS.out.2.2.2.2; have := HM.out; simp; omega)
            have hK3 := HX.out.2.2.trans k3
            have hM3 : M ≤ w3.heap.size := by have := hK3.size; have := HM.out; omega
            have HX3 := Lib.hid (And.intro hA3 hK3)
            have hBl : B.length ≤ 20 := by omega
            clear hal hA3 k3 hK3
            go_wp2_with (at_builtin; refine wpList_append_own _ rfl _ _ 30 rfl M 3 i0 (.int .i64 0) 1 8 Try.underlying30 hi hz0 hz1 hz2 rfl (by decide) _ _ _ rfl (how3.alloc _) ⟨w3.heap.size, 0, none⟩ 1 1 [.int .i64 (x : Int)] rfl rfl ?c1 ?c2 ?c3 ?c4 ?c5 ?_)
            case c1 =>
              intro j u hj
              match j, hj with
              | 0, hj => simp at hj; subst hj; simp [Addr.add]
            case c2 => intro u hu; simp at hu; subst hu; rfl
            case c3 => unfold maxLen; omega
            case c4 => omega
            case c5 => simp; omega
            intro v' w4 how4 hg4 _
            have hA4 := (HX3.out.1.later (w' := w3.alloc (.cells #[.int .i64 (x : Int)] 3)) ((Below.refl _ _).alloc (Nat.le_refl _) _)).appended (how3.alloc _) hg4 (by have := HS.out.2.2.2.2; have := HM.out; omega)
            have hK4 := kept_appended (HX3.out.2.alloc (.cells #[.int .i64 (x : Int)] 3)) (how3.alloc _) hg4 (by have := HM.out; omega)
            have how5 : w4.ownsRow M 3 1 v' (B ++ [(⟨x, c, true⟩ : Bl)]).length ((B ++ [(⟨x, c, true⟩ : Bl)]).map pv) := by
              rw [List.length_append, List.map_append]; exact how4
            have HZ := Lib.hid (And.intro hA4 (And.intro HX.out.1 (And.intro how5 hK4)))
            clear how4 hg4 hA4 hK4 how5 how3
            go_wp2_with fail
            go_roundw
            case rel => first | exact ⟨k + 1, by omega, by omega, by go_num, _, _, _, by simp; omega, HZ.out⟩ | ((repeat apply Exists.intro); exact ⟨⟨k + 1, by omega, by omega, by go_num, _, _, _, by simp; omega, HZ.out⟩, rfl⟩)
            case measure => simp [intOf]; omega
          · have hal := alloc_full hA c hc5 hL0 h16 hE (by omega)
            have HX := Lib.hid (And.intro hA (And.intro hF (And.intro how hK)))
            clear hA hF how hK hL0 h16 hE hfit
            go_wp2_with fail
            refine hal.mono ?_
            rintro e w3 ⟨rfl, rfl⟩
            clear hal
            go_wp2_with fail
            go_roundw
            case rel => first | exact ⟨k + 1, by omega, by omega, by go_num, _, _, B, by omega, HX.out⟩ | ((repeat apply Exists.intro); exact ⟨⟨k + 1, by omega, by omega, by go_num, _, _, B, by omega, HX.out⟩, rfl⟩)
            case measure => simp [intOf]; omega
      · obtain rfl : k = ys.length := by omega
        have HX := Lib.hid (And.intro hA (And.intro hF (And.intro how hK)))
        clear hA hF how hK
        go_wp2_with fail
        go_meet
        exact ⟨_, _, B, by omega, HX.out⟩
  case rest =>
    obtain ⟨ws1, bs1, B, hB20, hA, hF, how, hK⟩ := hcut
    have HF := Lib.hid hF
    have hen := encode_any hA
    have hlen1 : ws1.length ≤ 16384 := hA.hi
    have HX := Lib.hid (And.intro hA (And.intro how hK))
    clear hA how hK hF
    go_wp2_with fail
    refine hen.mono ?_
    rintro e w3 ⟨b1, c1, rfl, hLw, hb1, hbe⟩
    have hA3 := HX.out.1.later hbe
    have how3 := owns_later HX.out.2.1 hbe
    have hK3 := HX.out.2.2.trans (Kept.of_below [p, q] hbe)
    have hb1M : M ≤ b1 := by have := HX.out.2.2.size; have := HM.out; omega
    obtain ⟨pa, pc, rfl, hBn, hNum⟩ := owns_nums how3
    have H3 := Lib.hid (And.intro hA3 (And.intro how3 (And.intro hK3 (And.intro hLw (And.intro hb1M hNum)))))
    clear hen hA3 how3 hK3 hLw hbe hNum hb1 HX hb1M
    have hBn2 : B.length ≤ 20 := hB20
    go_wp2_with fail
    go_loopw [13] (fun i wr => ∃ (k : Nat) (z : Int), k ≤ B.length ∧ z + 1 = k ∧ i = .int .i64 z ∧ Kept [p] w3 wr ∧ ∃ ws bs, Ar wr g p q ws bs ∧ Half ws1 ws bs B k) (fun i _ => (intOf i + 1).toNat)
    case atStart => exact ⟨B.length, _, Nat.le_refl _, by omega, rfl, Kept.refl _ _, _, _, H3.out.1, HF.out.half⟩
    case round =>
      obtain ⟨k, z, hk, hzk, rfl, hK, ws, bs, hA, hH⟩ := hrel
      rcases k with _ | k
      · obtain rfl : z = -1 := by omega
        have hC := hH.inv.chain
        have hE := hH.inv.edge
        have hbl := taken_all hA hC hE
        rw [half_zero_taken, List.length_nil] at hbl
        have HX := Lib.hid (And.intro hK (And.intro hA hH))
        clear hK hA hH hC hE
        go_wp2_with fail
        refine hbl.mono ?_
        rintro e w4 ⟨v4, rfl, how4, hb4⟩
        obtain ⟨a4, c4, rfl⟩ := owns_sl how4
        have hA4 := HX.out.2.1.later hb4
        have hK4 := HX.out.1.trans (Kept.of_below [p] hb4)
        have hsp := spare_all hA4 HX.out.2.2.inv.chain HX.out.2.2.inv.edge
        rw [half_zero_spare, half_len] at hsp
        have H4 := Lib.hid (And.intro hA4 hK4)
        clear hbl how4 hb4 hA4 hK4
        go_wp2_with fail
        refine hsp.mono ?_
        rintro e w5 ⟨v5, rfl, how5, hb5⟩
        obtain ⟨a5, c5, rfl⟩ := owns_sl how5
        have hA5 := H4.out.1.later hb5
        have hK5 := H4.out.2.trans (Kept.of_below [p] hb5)
        have hsp := spare_all hA5 HX.out.2.2.inv.chain HX.out.2.2.inv.edge
        rw [half_zero_spare, half_len] at hsp
        have H5 := Lib.hid (And.intro hA5 hK5)
        clear how5 hb5 hA5 hK5 H4
        have hdd : (((B.length : Nat) : Int) != ((B.length : Nat) : Int)) = false := by simp
        go_wp2_with fail
        refine hsp.mono ?_
        rintro e w6 ⟨v6, rfl, how6, hb6⟩
        obtain ⟨a6, c6, rfl⟩ := owns_sl how6
        have hA6 := H5.out.1.later hb6
        have hK6 := H5.out.2.trans (Kept.of_below [p] hb6)
        have H6 := Lib.hid (And.intro hA6 (And.intro hK6 (And.intro how6 HX.out.2.2)))
        have hpM : g < w6.heap.size ∧ p < w6.heap.size ∧ q < w6.heap.size := ⟨hA6.box.lt, hA6.wds.lt, hA6.bgs.lt⟩
        have HP := Lib.hid (And.intro hpM (show p < w5.heap.size from H5.out.1.wds.lt))
        clear hsp how6 hb6 hA6 hK6 H5 hpM HX
        obtain ⟨D, hD⟩ : ∃ D, w6.heap.size = D := ⟨_, rfl⟩
        have HD := Lib.hid hD
        clear hD
        go_wp2_with fail
        go_loopw [14, 113] (fun o i wr => ∃ k : Nat, k ≤ B.length ∧ i = .int .i64 k ∧ Kept [p] w6 wr ∧ wr.ownsRow D 3 1 o k ((B.take k).map pv) ∧ ∃ ws bs, Ar wr g p q ws bs ∧ Half ws1 ws bs B k) (fun o i _ => B.length - (intOf i).toNat)
        case atStart => exact ⟨0, Nat.zero_le _, rfl, Kept.refl _ _, World.ownsRow_nil _ _ _ _, _, _, H6.out.1, H6.out.2.2.2⟩
        case round =>
          obtain ⟨k, hk, rfl, hK, how, ws, bs, hA, hH⟩ := hrel
          by_cases hlt : k < B.length
          · have hki : (k : Int) < (B.length : Int) := by omega
            obtain ⟨b, hb⟩ : ∃ b, B[k]? = some b := ⟨_, List.getElem?_eq_getElem hlt⟩
            obtain ⟨g6, c6', he6, hc6a, hc6b, hcl⟩ := owns_cell H6.out.2.2.1 (by omega)
            obtain ⟨rfl, rfl⟩ : a6 = some ⟨g6, 0, none⟩ ∧ c6 = c6' := by injection he6 with h1 h2 h3; exact ⟨h1, h3⟩
            have hg6p : g6 ≠ p := by have := (H6.out.2.2.1.lt g6 rfl).1; have := HP.out.2; omega
            have hg6l := (H6.out.2.2.1.lt g6 rfl).2
            have hbh : (half B 0)[k]? = some (b.mark false) := by rw [half_get, hb]; simp
            have hcw : ∀ j u, w6.cell? ⟨g6, j, none⟩ = some u → wr.cell? ⟨g6, j, none⟩ = some u := fun j u hu => by
              rw [← hu]
              have := hK.block g6 hg6l (by simpa using hg6p)
              simp only [World.cell?, this]
            have d0 : wr.cell? ⟨g6, k * 2, none⟩ = some (.int .i64 (b.x : Int)) := hcw _ _ (hcl (k * 2) _ (by have := pcl_get hbh (j := 0) (by omega); rw [Nat.add_zero] at this; exact this))
            have d1 : wr.cell? ⟨g6, k * 2 + 1, none⟩ = some (.int .i64 (b.c : Int)) := hcw _ _ (hcl (k * 2 + 1) _ (pcl_get hbh (j := 1) (by omega)))
            clear he6 hcl hcw hbh
            have hmB := List.mem_of_getElem? hb
            obtain ⟨hcc, h17, hh, he⟩ := HF.out.inv.at hmB
            have htk := hH.take HF.out hb
            obtain ⟨W5, hW5⟩ : ∃ W5, wr.alloc (.cells #[.int .i64 (b.x : Int), .int .i64 (b.c : Int)] 73) = W5 := ⟨_, rfl⟩
            have hb5 : Below wr.heap.size wr W5 := by rw [← hW5]; exact (Below.refl _ _).alloc (Nat.le_refl _) _
            have bx5 : Blk W5 wr.heap.size 73 #[.int .i64 (b.x : Int), .int .i64 (b.c : Int)] := by rw [← hW5]; exact Blk.new wr _ _
            have y0 : W5.cell? ⟨wr.heap.size, 0, none⟩ = some (.int .i64 (b.x : Int)) := bx5.cell 0
            have y1 : W5.cell? ⟨wr.heap.size, 1, none⟩ = some (.int .i64 (b.c : Int)) := bx5.cell 1
            have hA5 := hA.later hb5
            have hal := alloc_list hA5 b.c b.x hcc htk.1 h17 htk.2.1
            have how5 := owns_later how hb5
            have hK5 := hK.trans (Kept.of_below [p] hb5)
            have hbx : b.x ≤ 17000 := by have := htk.2.1; have := hA.hi; omega
            have HR := Lib.hid (And.intro htk.2.2 (And.intro how5 (And.intro hK5 (And.intro hb (And.intro hmB h17)))))
            clear hA hH how hK hb5 bx5 hA5 how5 hK5 htk hh he hmB h17 hb hg6p hg6l
            generalize listW ws b.c b.x = ws2 at *
            have hbc : b.c ≤ 5 := hcc
            generalize hxx : b.x = x at *
            generalize hcx : b.c = c at *
            have HXC := Lib.hid (And.intro hxx hcx)
            clear hxx hcx
            go_wp2_with fail
            refine hal.mono ?_
            rintro e w7 ⟨rfl, hA7, k7⟩
            have how7 := owns_kept HR.out.2.1 k7 (by have := HP.out.1; have := HD.out; simp; omega)
            obtain ⟨la, lc, rfl, hln, hLN⟩ := owns_nums how7
            have hK7 := HR.out.2.2.1.trans k7
            have hxn : (x : Int) ∉ (B.take k).map fun b => (b.x : Int) := by
              intro hm9
              obtain ⟨b9, hb9, hx9⟩ := List.mem_map.1 hm9
              obtain ⟨i9, hi9, rfl⟩ := List.mem_take_iff_getElem.1 hb9
              exact HF.out.others HR.out.2.2.2.1 i9 _ (by omega) (List.getElem?_eq_getElem (by omega)) (by have := HXC.out.1; omega)
            have hct := contains_none la k lc _ _ (by rw [List.length_map]; exact hln) (by omega) hLN hxn
            have H7 := Lib.hid (And.intro hA7 (And.intro how7 hK7))
            clear hal k7 hA7 how7 hK7 hln hLN hxn d0 d1 y0 y1
            go_wp2_with fail
            refine hct.mono ?_
            rintro e w8 ⟨rfl, rfl⟩
            clear hct
            have how7 := H7.out.2.1
            have hM7 : D ≤ w7.heap.size := by have := H7.out.2.2.size; have := HD.out; omega
            go_wp2_with (at_builtin; refine wpList_append_own _ rfl _ _ 30 rfl D 3 i0 (.int .i64 0) 1 8 Try.underlying30 hi hz0 hz1 hz2 rfl (by decide) _ _ _ rfl (how7.alloc _) ⟨w7.heap.size, 0, none⟩ 1 1 [.int .i64 (x : Int)] rfl rfl ?c1 ?c2 ?c3 ?c4 ?c5 ?_)
            case c1 =>
              intro j u hj
              match j, hj with
              | 0, hj => simp at hj; subst hj; simp [Addr.add]
            case c2 => intro u hu; simp at hu; subst hu; rfl
            case c3 => unfold maxLen; omega
            case c4 => omega
            case c5 => simp; omega
            intro v' w9 how9 hg9 _
            have hA9 := (H7.out.1.later (w' := w7.alloc (.cells #[.int .i64 (x : Int)] 3)) ((Below.refl _ _).alloc (Nat.le_refl _) _)).appended (how7.alloc _) hg9 (by have := HP.out.1; have := HD.out; omega)
            have hK9 := kept_appended (H7.out.2.2.alloc (.cells #[.int .i64 (x : Int)] 3)) (how7.alloc _) hg9 (by have := HD.out; omega)
            have how10 : w9.ownsRow D 3 1 v' (k + 1) ((B.take (k + 1)).map pv) := by
              obtain ⟨hk9, hb9⟩ := List.getElem?_eq_some_iff.1 HR.out.2.2.2.1
              rw [List.take_succ_eq_append_getElem hlt, List.map_append, hb9, List.map_cons, List.map_nil]
              unfold pv at how9 ⊢
              rw [HXC.out.1, List.map_take]
              exact how9
            have hmem := HR.out.1.kth (Nat.lt_succ_self k) HR.out.2.2.2.1
            have hld := load_yes hA9 (HR.out.1.inv.yes hmem (HF.out.tk b HR.out.2.2.2.2.1)) (i := 0) (by have := (pow5 (HF.out.inv.at HR.out.2.2.2.2.1).1).1; omega)
            rw [Nat.add_zero, HR.out.1.zero0 k b (Nat.lt_succ_self k) HR.out.2.2.2.1, HXC.out.1] at hld
            have H9 := Lib.hid (And.intro hA9 (And.intro hK9 how10))
            clear how9 hg9 hA9 hK9 how10 hmem how7
            go_wp2_with fail
            refine hld.mono ?_
            rintro e w10 ⟨rfl, n10, hn10⟩
            have hA10 : Ar w10 g p q ws2 bs := by rw [hn10]; exact H9.out.1.drewN n10
            have hK10 : Kept [p] w6 w10 := by rw [hn10]; exact H9.out.2.1.drewN n10
            have how11 : w10.ownsRow D 3 1 v' (k + 1) ((B.take (k + 1)).map pv) := by rw [hn10]; exact H9.out.2.2
            have HZ := Lib.hid (And.intro hK10 (And.intro how11 (And.intro hA10 HR.out.1)))
            clear hld hn10 hA10 hK10 how11
            go_wp2_with fail
            go_roundw
            case rel => first | exact ⟨k + 1, by omega, by go_num, HZ.out.1, HZ.out.2.1, _, _, HZ.out.2.2⟩ | ((repeat apply Exists.intro); exact ⟨⟨k + 1, by omega, by go_num, HZ.out.1, HZ.out.2.1, _, _, HZ.out.2.2⟩, rfl⟩)
            case measure => simp [intOf]; omega
          · obtain rfl : k = B.length := by omega
            obtain rfl := hH.done HF.out
            have hen := encode_any hA
            have hKall : Kept [p] w3 wr := H6.out.2.1.trans hK
            have hLw := lies_kept H3.out.2.2.2.1 hKall (by have := H3.out.2.2.2.2.1; have := HS.out.2.2.2.2.2.1; have := HM.out; simp; omega)
            have HX := Lib.hid (And.intro hKall hLw)
            clear hA hH how hK hKall hLw
            go_wp2_with fail
            refine hen.mono ?_
            rintro e w11 ⟨b2, c2, rfl, hL2, hb2, hbe⟩
            have heq := bequal_any (some ⟨b2, 0, none⟩) (some ⟨b1, 0, none⟩) (4 * ws.length) c2 (4 * ws.length) c1 (wbytes ws) (wbytes ws) w11 (wbytes_len ws) (wbytes_len ws) (wbytes_bys ws) (wbytes_bys ws) hL2 (HX.out.2.kept hbe)
            rw [show (wbytes ws == wbytes ws) = true from by simp] at heq
            have hfin : Below w.heap.size w w11 := bel_later ((HS.out.2.2.1.trans (H3.out.2.2.1.below (B := w.heap.size) (by have := HS.out.2.2.2.1; simp; omega) HS.out.2.2.1.size)).trans (HX.out.1.below (by have := HS.out.2.2.2.1; simp; omega) (by have := HS.out.2.2.1.size; have := H3.out.2.2.1.size; omega))) hbe
            have HZ := Lib.hid hfin
            clear hen hL2 hbe hfin
            go_wp2_with fail
            refine heq.mono ?_
            rintro e w12 ⟨rfl, rfl⟩
            clear heq
            go_wp2_with fail
            go_ret
            exact ⟨rfl, HZ.out⟩
      · obtain rfl : z = (k : Int) := by omega
        have hlt : k < B.length := by omega
        have hki : (k : Int) < (B.length : Int) := by omega
        obtain ⟨b, hb⟩ : ∃ b, B[k]? = some b := ⟨_, List.getElem?_eq_getElem hlt⟩
        obtain ⟨g5, o5, rfl, hg5l, hg5, hcl⟩ : ∃ g5 o5, pa = some ⟨g5, o5, none⟩ ∧ g5 < w3.heap.size ∧ g5 ≠ p ∧ w3.cell? ⟨g5, o5 + k, none⟩ = some (.int .i64 (b.x : Int)) := by
          obtain ⟨g5, c5', he5, _, _, hcl⟩ := owns_cell H3.out.2.1 (by omega)
          obtain ⟨rfl, rfl⟩ : pa = some ⟨g5, 0, none⟩ ∧ pc = c5' := by injection he5 with h1 h2 h3; exact ⟨h1, h3⟩
          have h9 := H3.out.2.1.lt g5 rfl
          refine ⟨g5, 0, rfl, h9.2, by have := HS.out.2.2.2.2.2.1; have := HM.out; omega, ?_⟩
          rw [Nat.zero_add]
          exact hcl k _ (by rw [List.getElem?_map, hb]; rfl)
        have hcw : ∀ wx, Kept [p] w3 wx → wx.cell? ⟨g5, o5 + k, none⟩ = some (.int .i64 (b.x : Int)) := fun wx hx => by
          rw [← hcl]
          have := hx.block g5 hg5l (by simpa using hg5)
          simp only [World.cell?, this]
        have d0 := hcw _ hK
        have HCW := Lib.hid hcw
        clear hcw hcl hg5l hg5
        have hmB := List.mem_of_getElem? hb
        have hmm := hH.kth (Nat.lt_succ_self k) hb
        have htr := HF.out.tk b hmB
        obtain ⟨hcc, h17, hh, he⟩ := HF.out.inv.at hmB
        have hp5 := (pow5 hcc).1
        have hst := store_yes hA (hH.inv.yes hmm htr) (i := 0) (by omega) 7 (by omega)
        have hI2 := hH.inv.store hmm htr (i := 0) (by omega) 7
        have hr5 : (ws.set (b.x + 0) 7).getD 5 0 ≠ b.x := by rw [getD_set _ _ _ _ _ (by have := hH.inv.edge; have := (hH.inv.at hmm).2.2.2; omega), if_neg (by omega), hH.low HF.out (by omega), HF.out.low.1]; omega
        have hr6 : (ws.set (b.x + 0) 7).getD 6 0 ≠ b.x := by rw [getD_set _ _ _ _ _ (by have := hH.inv.edge; have := (hH.inv.at hmm).2.2.2; omega), if_neg (by omega), hH.low HF.out (by omega), HF.out.low.2]; omega
        have hH2 := hH.free HF.out hb 7
        have hfr := fun wx (hx : Ar wx g p q (ws.set (b.x + 0) 7) bs) => free_yes hx (hI2.yes hmm htr) h17 hr5 hr6
        have hno := fun wx (hx : Ar wx g p q (freeW (ws.set (b.x + 0) 7) b.x b.c) bs) => free_no hx (b.x : Int) (hH2.inv.no_free (b := b.mark false) (by
          refine List.mem_of_getElem? (i := k) ?_
          rw [half_get, hb, Option.map_some, if_neg (by omega)]) rfl)
        have HX := Lib.hid (And.intro hK hH2)
        clear hK hA hH hI2 hr5 hr6 hH2 hmm htr hh he h17 hb hmB
        generalize freeW (ws.set (b.x + 0) 7) b.x b.c = ws3 at *
        generalize ws.set (b.x + 0) 7 = ws2 at *
        generalize b.x = x at *
        go_wp2_with fail
        refine hst.mono ?_
        rintro e w4 ⟨rfl, hA4, k4⟩
        have hK4 := HX.out.1.trans k4
        have d0 := HCW.out _ hK4
        have hf4 := hfr _ hA4
        clear hst hfr hA4 k4
        go_wp2_with fail
        refine hf4.mono ?_
        rintro e w5 ⟨rfl, hA5, k5⟩
        have hK5 := hK4.trans k5
        have d0 := HCW.out _ hK5
        have hf5 := hno _ hA5
        clear hf4 hno k5 hK4
        go_wp2_with fail
        refine hf5.mono ?_
        rintro e w6 ⟨rfl, rfl⟩
        have HZ := Lib.hid (And.intro hK5 (And.intro hA5 HX.out.2))
        clear hf5 hA5 hK5 d0
        go_wp2_with fail
        go_roundw
        case rel => first | exact ⟨k, _, by omega, by omega, rfl, HZ.out.1, _, _, HZ.out.2⟩ | ((repeat apply Exists.intro); exact ⟨⟨k, _, by omega, by omega, rfl, HZ.out.1, _, _, HZ.out.2⟩, rfl⟩)
        case measure => simp [intOf]
end Go.Proofs.Ytobnjpdanpjhjaa
