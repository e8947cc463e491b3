/-
  The walk of WalSurvives. Nothing here is a statement of the document.
-/
import Derived.Test.YtelpihlifdfgoaaWalVl
import Derived.Deep.CutBlock
namespace Go.Proofs.Ytelpihlifdfgoaa
open Go.RowKit Go.Shelf
set_option linter.unusedVariables false
attribute [local go_sem ↓] load_deed_rule store_things_rule load_things_rule store_deed_rule
set_option maxRecDepth 100000 in
set_option maxHeartbeats 8000000 in
theorem wsurv_walk (la : Option Addr) (n c : Nat) (ls : List Dd) (W : World) (hn : ls.length = n) (hm : n ≤ 9223372036854775807) (hb : Dds W la ls) :
    Calls Try.prog 3 #[.slice la n c] W fun e w' => e = .returned (.bool true) ∧ Below W.heap.size W w' := by
  have H0 := Lib.hid (And.intro hn (And.intro hm hb))
  clear hn hm hb
  go_enter Try.func3, Try.ntmps3
  go_wp2_with fail
  refine (wakes4_any _).mono ?_
  rintro e W1 ⟨rfl, hb1⟩
  go_wp2_with fail
  refine (made2_any _).mono ?_
  rintro e W2 ⟨g, p, pb, bv, D, sv, tv, vs, rfl, hH, hw, hb2⟩
  have hdi := wdisk_any hH.log.1
  obtain ⟨W3, hW3⟩ : ∃ W3, W2.alloc (.cells #[.slice none 0 0, .slice none 0 0] 32) = W3 := ⟨_, rfl⟩
  have hb23 : Below W2.heap.size W2 W3 := by rw [← hW3]; exact (Below.refl _ _).alloc (Nat.le_refl _) _
  have hS3 : Sv W3 W.heap.size W1.heap.size p pb g W2.heap.size 1 :=
    ⟨bv, D, 1, 0, [], [], sv, tv, vs, .slice none 0 0, .slice none 0 0, [], hH.later hb23, hw.dead, Nat.le_refl _, ⟨by rw [← hW3]; exact Blk.new _ _ _, World.ownsRow_nil _ _ _ _, World.ownsRow_nil _ _ _ _, trivial⟩, fun i hi => by cases hi⟩
  have H3 := Lib.hid (And.intro hS3 (And.intro (bel_lat (bel_lat hb1 hb2) hb23) (And.intro hH.size hb1.size)))
  clear hH hw hb1 hb2 hb23 hS3
  go_wp2_with fail
  refine hdi.mono ?_
  rintro e w9 ⟨rfl, rfl⟩
  clear hdi
  go_wp2_with fail
  try rw [hW3]
  clear hW3
  go_loopw [3, 28] (fun x3 i wr => ∃ k : Nat, k ≤ n ∧ k ≤ 40 ∧ i = .int .i64 k ∧ ∃ g, x3 = .pointer (some ⟨g, 0, none⟩) ∧ Sv wr W.heap.size W1.heap.size p pb g W2.heap.size (k + 1) ∧ Below W.heap.size W wr) (fun x3 i _ => n - (intOf i).toNat)
  case atStart => exact ⟨0, Nat.zero_le _, by omega, rfl, g, rfl, H3.out.1, H3.out.2.1⟩
  case round =>
    have HB := Lib.hid H3.out.2.2.2
    have HWQ := Lib.hid (Nat.le_trans H3.out.2.2.2 H3.out.2.2.1)
    clear H3
    obtain ⟨k, hk, hk40, rfl, g, rfl, hS, hbW⟩ := hrel
    by_cases hlt : k < n
    · obtain ⟨yb, yo, cs, rfl, hyc, hyx⟩ := H0.out.2.2.at' hbW (i := k) (by have := H0.out.1; omega)
      generalize ls[k]'(by have := H0.out.1; omega) = y at hyx
      obtain ⟨yk, ym, yl, yh⟩ := y
      obtain ⟨⟨a, cap, yka, ykc, rfl, hL0, hlc, hcm, h0, hT, hkc, hkm⟩, hBy, hyn⟩ := hyx
      obtain ⟨len, hlen⟩ : ∃ m, yl.length = m := ⟨_, rfl⟩
      obtain ⟨klen, hklen⟩ : ∃ m, yh.length = m := ⟨_, rfl⟩
      simp only [hlen, hklen] at hyc hL0 hlc h0 hyn hBy hT hkc
      have lyd := ld_dd hyc
      obtain ⟨W5, hW5⟩ : ∃ W5, wr.alloc (.cells #[.int .i64 yk, .int .i64 ym, .slice a len cap, .slice yka klen ykc] 35) = W5 := ⟨_, rfl⟩
      have S5 := st_deed_new wr (y0 := .int .i64 yk) (y1 := .int .i64 ym) (y2 := .slice a len cap) (y3 := .slice yka klen ykc) rfl rfl rfl rfl
      rw [hW5] at S5
      have hb5 : Below wr.heap.size wr W5 := by rw [← hW5]; exact (Below.refl _ _).alloc (Nat.le_refl _) _
      have hs5 : W5.heap.size = wr.heap.size + 1 := by rw [← hW5]; simp
      have hd5 : Blk W5 wr.heap.size 35 #[.int .i64 yk, .int .i64 ym, .slice a len cap, .slice yka klen ykc] := by rw [← hW5]; exact Blk.new _ _ _
      have HL := Lib.hid (And.intro hL0 (And.intro hlen (And.intro hlc (And.intro hcm (And.intro h0 (And.intro hBy (And.intro hT (And.intro hklen (And.intro hkc (And.intro hkm hyn))))))))))
      have HS := Lib.hid (And.intro (hS.later hb5) (And.intro (hbW.trans (hb5.mono hbW.size)) (And.intro hd5 hs5)))
      have HW := Lib.hid (And.intro hbW.size hs5)
      clear hL0 hlen hlc hcm h0 hBy hT hklen hkc hkm hyn hS hbW hb5 hd5 hyc hs5
      by_cases h40 : k = 40
      · subst h40
        go_wp2_with fail
        go_ret
        exact ⟨rfl, HS.out.2.1⟩
      · have hkI : ¬ ((k : Int) = 40) := by omega
        obtain ⟨bv, D, t, ch, s, txs, sv, tv, vs, sn, rv, rvs, hH, hdd, htk, hno, hap⟩ := HS.out.1
        have HNE := Lib.hid hno.1.lt
        have HXN := Lib.hid (show wr.heap.size ≠ W2.heap.size from fun e => (HS.out.2.2.1).ne hno.1 (by decide) e)
        have lt5 := ld_things hno.1
        obtain ⟨sa, sc, rfl⟩ := wown_slice hno.2.1
        obtain ⟨ra, rc, rfl⟩ := wown_slice hno.2.2.1
        obtain ⟨W6, hW6⟩ : ∃ W6, W5.alloc (.cells #[.slice sa s.length sc, .slice ra txs.length rc] 32) = W6 := ⟨_, rfl⟩
        have S6 := st_things_new W5 (y0 := .slice sa s.length sc) (y1 := .slice ra txs.length rc) rfl rfl
        rw [hW6] at S6
        have hb6 : Below W5.heap.size W5 W6 := by rw [← hW6]; exact (Below.refl _ _).alloc (Nat.le_refl _) _
        have hq6 : Blk W6 W5.heap.size 32 #[.slice sa s.length sc, .slice ra txs.length rc] := by rw [← hW6]; exact Blk.new _ _ _
        have hd6 := HS.out.2.2.1.kept (Kept.of_below [] hb6) (by simp)
        have hno9 : Now W6 W.heap.size W5.heap.size s txs (.slice sa s.length sc) (.slice ra txs.length rc) rvs := ⟨hq6, owns_later2 hno.2.1 hb6, owns_later2 hno.2.2.1 hb6, Txs.imp (fun v l h => owns_later2 h hb6) hno.2.2.2⟩
        have HQ := Lib.hid (And.intro (hH.later hb6) (And.intro hdd (And.intro htk (And.intro (hno.later hb6) (And.intro hap (And.intro hno9 (And.intro hd6 (HS.out.2.1.trans (hb6.mono HS.out.2.1.size)))))))))
        have ld6 := ld_deed hd6
        obtain ⟨K, hK⟩ : ∃ K, kindN yk = K := ⟨_, rfl⟩
        have hkd := fun w => kindw_any yk (.int .i64 ym) (.slice a len cap) (.slice yka klen ykc) w
        rw [hK] at hkd
        have HK := Lib.hid hK
        clear hH hdd htk hno hap hb6 hq6 hd6 hno9 HS hK
        go_wp2_with fail
        refine (hkd _).mono ?_
        rintro e W7 ⟨rfl, hb7⟩
        have HB7 := Lib.hid hb7
        clear hb7 ld6 lt5 S6 S5 lyd
        go_upto_block 2 with (fail)
        clear hW6 hW5
        go_cut [11] from 38 (fun x11 wc => Blk wc wr.heap.size 35 #[.int .i64 yk, .int .i64 ym, .slice a len cap, .slice yka klen ykc] ∧ Below W.heap.size W wc ∧ (∃ xa xb, Blk wc W2.heap.size 32 #[xa, xb]) ∧
          ((K < 6 ∧ Sv wc W.heap.size W1.heap.size p pb g W5.heap.size (k + 2)) ∨
           (K < 6 ∧ SvF wc W.heap.size W1.heap.size p pb W2.heap.size W5.heap.size (k + 2) ∧ ∃ t0 sv0 tv0 u0 c0, Blk wc g 67 (lgcs t0 sv0 tv0 u0 p 12 c0 true)) ∨
           (¬ K < 8 ∧ SvF wc W.heap.size W1.heap.size p pb W2.heap.size W5.heap.size (k + 2))))
        case first =>
          by_cases h6 : K < 6
          · have i6 : (K : Int) < 6 := by omega
            obtain ⟨hH, hdd, htk, hno, hap, hno9, hd6, hbW6⟩ := HQ.out
            have hb7 := HB7.out
            have hno7 := hno.later hb7
            have hd7 := hd6.kept (Kept.of_below [] hb7) (by simp)
            have lt7 := ld_things hno7.1
            have ld7 := ld_deed hd7
            have hbW7 := hbW6.trans (hb7.mono hbW6.size)
            have hmn := hH.nums.more
            have hwi := with_gen (w := W7) (C := W.heap.size) yk (.int .i64 ym) (.slice yka klen ykc) a len cap yl sa sc ra rc (HL.out.1.kept hbW7) HL.out.2.1 HL.out.2.2.1 HL.out.2.2.2.2.1 HL.out.2.2.2.1 hno7.2.1 hno7.2.2.1 hno7.2.2.2 (by omega) hbW7.size
            clear hH hdd htk hno hap hno9 hd6 hbW6 hb7 hno7 hd7 hbW7 hmn
            go_wp2_with fail
            refine hwi.mono ?_
            rintro e W8 ⟨na, nl, nc, ma, ml, mc, rvs2, s2, txs2, rfl, hnl, hml, hst, ho1, ho2, ho3, hb8⟩
            clear hwi lt7 ld7
            obtain ⟨hH, hdd, htk, hno, hap, hno9, hd6, hbW6⟩ := HQ.out
            have hb68 := bel_lat HB7.out hb8
            have hq8 := (hno9.later hb68).1
            have hst8 := st_things (y0 := .slice na nl nc) (y1 := .slice ma ml mc) hq8 rfl rfl
            obtain ⟨W9, hW9⟩ : ∃ W9, W8.setRow W5.heap.size #[.slice na nl nc, .slice ma ml mc] = W9 := ⟨_, rfl⟩
            rw [hW9] at hst8
            obtain ⟨hk9, hq9⟩ : Kept [W5.heap.size] W8 W9 ∧ Blk W9 W5.heap.size 32 #[.slice na nl nc, .slice ma ml mc] := by rw [← hW9]; exact fold_store hq8
            have hH9 : Hale W9 W1.heap.size p pb g 26 12 t ch s txs bv sv tv vs D := (hH.later hb68).box hq8 hk9
            have hwas9 : Now W9 W.heap.size W2.heap.size s txs (.slice sa s.length sc) (.slice ra txs.length rc) rvs := (hno.later hb68).other hq8 (Nat.ne_of_lt HNE.out) hk9
            have hnow9 : Now W9 W.heap.size W5.heap.size s2 txs2 (.slice na nl nc) (.slice ma ml mc) rvs2 := ⟨hq9, own_box ho1 (by decide) hq8 hk9, own_box (own_base ho2 (Nat.le_trans hbW6.size HB7.out.size)) (by decide) hq8 hk9, Txs.imp (fun v l h => own_box h (by decide) hq8 hk9) ho3⟩
            have hd9 : Blk W9 wr.heap.size 35 #[.int .i64 yk, .int .i64 ym, .slice a len cap, .slice yka klen ykc] := (hd6.kept (Kept.of_below [] hb68) (by simp)).kept hk9 (by have := HW.out.2; simp; omega)
            have hbW9 : Below W.heap.size W W9 := (hbW6.trans (hb68.mono hbW6.size)).trans (hk9.below (fun i hi => by rw [List.mem_singleton.1 hi]; exact Nat.le_trans HW.out.1 (by have := HW.out.2; omega)) (Nat.le_trans hbW6.size hb68.size))
            have hap9 : ∀ i, (Value.slice ma ml mc).ownBlock = some i → tv.ownBlock ≠ some i := fun i hi hi2 => by
              have h1 := own_ge ho2 i hi
              have h2 := own_lt hH.log.2.2.1 i hi2
              have h3 := HB7.out.size
              omega
            have hlt9 : ∀ i, (Value.slice ma ml mc).ownBlock = some i → W6.heap.size ≤ i ∧ i < W9.heap.size := fun i hi => ⟨Nat.le_trans HB7.out.size (own_ge ho2 i hi), own_lt hnow9.2.2.1 i hi⟩
            have ldx9 := ld_deed hd9
            have hwr := writes_gen hH9 (by omega) (by omega) (by omega) yk (.int .i64 ym) (.slice yka klen ykc) a len cap yl (HL.out.1.kept hbW9) HL.out.2.1 HL.out.2.2.1 HL.out.2.2.2.2.1 HL.out.2.2.2.1 HL.out.2.2.2.2.2.1
            have H9 := Lib.hid (And.intro hH9 (And.intro hwas9 (And.intro hnow9 (And.intro hd9 (And.intro hbW9 (And.intro hap9 (And.intro hlt9 (And.intro hst (And.intro hdd (And.intro htk hap))))))))))
            clear hH hdd htk hno hap hno9 hd6 hbW6 hb68 hq8 hW9 hk9 hq9 hH9 hwas9 hnow9 hd9 hbW9 hap9 hlt9 ho1 ho2 ho3 hb8 hst hnl hml
            go_wp2_with fail
            refine hwr.mono ?_
            rintro e Y ⟨er, rfl, hA⟩
            clear hwr ldx9 hst8
            obtain ⟨hH9, hwas9, hnow9, hd9, hbW9, hap9, hlt9, hst, hdd, htk, hap⟩ := H9.out
            have hkA := hA.kept
            have hwasY := hwas9.beside hH9.disk hH9.log hap hkA.1
            have hnowY := hnow9.beside hH9.disk hH9.log hap9 hkA.1
            have hdY := hd9.kept hkA.1 (deed_log hH9.disk hH9.log hd9)
            have hbWY : Below W.heap.size W Y := hbW9.trans (hkA.2.mono HB.out)
            have h3 := hA.three hH9 hdd (by omega)
            rcases h3 with ⟨rfl, bv', hHY⟩ | ⟨rfl, bv', D', t2, c2, s2', txs2', sv2, tv2, vs2, hst2, ht2, hd2, how, hHY⟩ | ⟨e0, e6, hbr, bv', D', t2, c2, s2', txs2', hst2, ht2, hDY, hFY⟩
            · have ltY := ld_things hwasY.1
              have hstY := st_things (y0 := .slice sa s.length sc) (y1 := .slice ra txs.length rc) hnowY.1 rfl rfl
              obtain ⟨Y2, hY2⟩ : ∃ Y2, Y.setRow W5.heap.size #[.slice sa s.length sc, .slice ra txs.length rc] = Y2 := ⟨_, rfl⟩
              rw [hY2] at hstY
              obtain ⟨hkY, hqY⟩ : Kept [W5.heap.size] Y Y2 ∧ Blk Y2 W5.heap.size 32 #[.slice sa s.length sc, .slice ra txs.length rc] := by rw [← hY2]; exact fold_store hnowY.1
              have HE := Lib.hid (show Blk Y2 wr.heap.size 35 #[.int .i64 yk, .int .i64 ym, .slice a len cap, .slice yka klen ykc] ∧ Below W.heap.size W Y2 ∧ (∃ xa xb, Blk Y2 W2.heap.size 32 #[xa, xb]) ∧ Sv Y2 W.heap.size W1.heap.size p pb g W5.heap.size (k + 2) from
                ⟨hdY.kept hkY (by have := HW.out.2; simp; omega), hbWY.trans (hkY.below (fun i hi => by rw [List.mem_singleton.1 hi]; exact Nat.le_trans HW.out.1 (by have := HW.out.2; omega)) hbWY.size), ⟨_, _, (hwasY.other hnowY.1 (Nat.ne_of_lt HNE.out) hkY).1⟩,
                 ⟨bv', D, t, ch, s, txs, sv, tv, vs, _, _, _, hHY.box hnowY.1 hkY, hdd, by omega, hwasY.copy hnowY.1 hkY hqY, hap⟩⟩)
              clear hH9 hwas9 hnow9 hd9 hbW9 hap9 hlt9 hst hdd htk hap hkA hA hwasY hnowY hdY hbWY hHY hY2 hkY hqY
              go_wp2_with fail
              go_meet
              exact ⟨HE.out.1, HE.out.2.1, HE.out.2.2.1, .inl ⟨h6, HE.out.2.2.2⟩⟩
            · obtain ⟨rfl, rfl⟩ := hst.one hst2
              have HE := Lib.hid (show Blk Y wr.heap.size 35 #[.int .i64 yk, .int .i64 ym, .slice a len cap, .slice yka klen ykc] ∧ Below W.heap.size W Y ∧ (∃ xa xb, Blk Y W2.heap.size 32 #[xa, xb]) ∧ Sv Y W.heap.size W1.heap.size p pb g W5.heap.size (k + 2) from
                ⟨hdY, hbWY, ⟨_, _, hwasY.1⟩, ⟨bv', D', t2, c2, s2, txs2, sv2, tv2, vs2, _, _, _, hHY, hd2, by omega, hnowY, fun i hi hi2 => by
                  rcases how i hi2 with h8 | h8
                  · exact hap9 i hi h8
                  · have := (hlt9 i hi).2; omega⟩⟩)
              clear hH9 hwas9 hnow9 hd9 hbW9 hap9 hlt9 hst hdd htk hap hkA hA hwasY hnowY hdY hbWY hHY hst2 ht2 hd2 how
              go_wp2_with fail
              go_meet
              exact ⟨HE.out.1, HE.out.2.1, HE.out.2.2.1, .inl ⟨h6, HE.out.2.2.2⟩⟩
            · obtain ⟨rfl, rfl⟩ := hst.one hst2
              have hby := fork_bys hFY
              have HE := Lib.hid (show Blk Y wr.heap.size 35 #[.int .i64 yk, .int .i64 ym, .slice a len cap, .slice yka klen ykc] ∧ Below W.heap.size W Y ∧ (∃ xa xb, Blk Y W2.heap.size 32 #[xa, xb]) ∧ SvF Y W.heap.size W1.heap.size p pb W2.heap.size W5.heap.size (k + 2) from
                ⟨hdY, hbWY, ⟨_, _, hwasY.1⟩, ⟨bv', D', t, ch, s, txs, t2, c2, s2, txs2, hDY, hFY, by omega, by omega, ⟨_, _, _, hwasY, hby.1⟩, ⟨_, _, _, hnowY, hby.2⟩⟩⟩)
              have HBR := Lib.hid hbr
              have e6d : (er == 6) = false := by simpa using e6
              clear hH9 hwas9 hnow9 hd9 hbW9 hap9 hlt9 hst hdd htk hap hkA hA hwasY hnowY hdY hbWY hst2 ht2 hDY hFY hby hbr e0
              go_wp2_with fail
              go_meet
              exact ⟨HE.out.1, HE.out.2.1, HE.out.2.2.1, .inr (.inl ⟨h6, HE.out.2.2.2, HBR.out⟩)⟩
          · have i6 : ¬ ((K : Int) < 6) := by omega
            have i6d : decide ((K : Int) < 6) = false := decide_eq_false i6
            obtain ⟨hH, hdd, htk, hno, hap, hno9, hd6, hbW6⟩ := HQ.out
            have hb7 := HB7.out
            have hd7 := hd6.kept (Kept.of_below [] hb7) (by simp)
            have cm7 : W7.cell? ⟨wr.heap.size, 1, none⟩ = some (.int .i64 ym) := hd7.cell 1
            by_cases h8 : K < 8
            · have hz : ∀ (D2 : Dk) (w' : World), D2.plate = D.plate → D2.rows = D.rows → D2.dead = false → Dsk w' W1.heap.size p pb bv D2 → Kept (fp p pb bv) W7 w' → Sv w' W.heap.size W1.heap.size p pb g W2.heap.size (k + 2) ∧ Below W.heap.size W w' := fun D2 w' q1 q2 q3 hD2 hkd => by
                have hH7 := hH.later hb7
                exact ⟨⟨bv, D2, t, ch, s, txs, sv, tv, vs, _, _, _, ⟨hD2, byt_turn hH.byt q1 q2, nod_turn hH.nod q1 q2, hH.nums, fun i hi b hb => hH.per i hi b (poss_turn q1 q2 hb), hH7.log.beside hH7.disk hkd⟩, q3, by omega, (hno.later hb7).disk hH7.disk hkd, hap⟩,
                  (hbW6.trans (hb7.mono hbW6.size)).trans ((hkd.below (fp_ge hH7.disk) hH7.size).mono HB.out)⟩
              have har : ∀ z : Int, z ≤ 100 → Calls Try.prog 12 #[.pointer (some ⟨p, 0, none⟩), .int .i64 z] W7 fun e w' => e = .returned (.int .i64 0) ∧ Sv w' W.heap.size W1.heap.size p pb g W2.heap.size (k + 2) ∧ Below W.heap.size W w' := fun z hzz => by
                have hfa := arm_any (hH.later hb7).disk z (by omega)
                unfold armM at hfa
                rw [if_neg (by rw [hdd]; simp)] at hfa
                exact hfa.mono fun e w' ⟨h1, h2, h3⟩ => ⟨h1, hz { D with fuse := cdOf z } w' rfl rfl hdd h2 h3.kept⟩
              have hfl : ∀ z : Int, z ≤ 100 → Calls Try.prog 13 #[.pointer (some ⟨p, 0, none⟩), .int .i64 z] W7 fun e w' => e = .returned (.int .i64 0) ∧ Sv w' W.heap.size W1.heap.size p pb g W2.heap.size (k + 2) ∧ Below W.heap.size W w' := fun z hzz => by
                have hfa := fail_any (hH.later hb7).disk z (by omega)
                unfold flawedM at hfa
                rw [if_neg (by rw [hdd]; simp)] at hfa
                exact hfa.mono fun e w' ⟨h1, h2, h3⟩ => ⟨h1, hz { D with flaw := cdOf z } w' rfl rfl hdd h2 h3.kept⟩
              have i8 : (K : Int) < 8 := by omega
              clear hH hdd htk hno hap hno9 hd6 hbW6 hb7 hd7 hz
              by_cases h66 : K = 6
              · subst h66
                clear hfl
                go_wp2_with fail
                all_goals
                  refine (har _ (by omega)).mono ?_
                  rintro e Y ⟨rfl, hSY⟩
                  have HE := Lib.hid hSY
                  clear har hSY cm7
                  go_wp2_with fail
                  go_roundw
                all_goals first | exact ⟨k + 1, by omega, by omega, by go_num, g, rfl, HE.out.1, HE.out.2⟩ | (simp [intOf]; omega)
              · obtain rfl : K = 7 := by omega
                clear har
                go_wp2_with fail
                all_goals
                  refine (hfl _ (by omega)).mono ?_
                  rintro e Y ⟨rfl, hSY⟩
                  have HE := Lib.hid hSY
                  clear hfl hSY cm7
                  go_wp2_with fail
                  go_roundw
                all_goals first | exact ⟨k + 1, by omega, by omega, by go_num, g, rfl, HE.out.1, HE.out.2⟩ | (simp [intOf]; omega)
            · have i8 : ¬ ((K : Int) < 8) := by omega
              have i8d : decide ((K : Int) < 8) = false := decide_eq_false i8
              have j6 : ¬ ((K : Int) = 6) := by omega
              have j7 : ¬ ((K : Int) = 7) := by omega
              have HE := Lib.hid (show Blk W7 wr.heap.size 35 #[.int .i64 yk, .int .i64 ym, .slice a len cap, .slice yka klen ykc] ∧ Below W.heap.size W W7 ∧ (∃ xa xb, Blk W7 W2.heap.size 32 #[xa, xb]) ∧ SvF W7 W.heap.size W1.heap.size p pb W2.heap.size W5.heap.size (k + 2) from
                ⟨hd7, hbW6.trans (hb7.mono hbW6.size), ⟨_, _, (hno.later hb7).1⟩, ⟨bv, D, t, ch, s, txs, t, ch, s, txs, (hH.later hb7).disk, hH.fork (by omega), by omega, by omega, ⟨_, _, _, hno.later hb7, hH.bys⟩, ⟨_, _, _, hno9.later hb7, hH.bys⟩⟩⟩)
              clear hH hdd htk hno hap hno9 hd6 hbW6 hb7 hd7 cm7
              go_wp2_with fail
              go_meet
              exact ⟨HE.out.1, HE.out.2.1, HE.out.2.2.1, .inr (.inr ⟨h8, HE.out.2.2.2⟩)⟩
        case rest =>
          obtain ⟨hdx, hbx, hbq, hR⟩ := hcut
          generalize wc = V at *
          go_step
          go_step
          go_cut [] from 76 (fun wc => Blk wc wr.heap.size 35 #[.int .i64 yk, .int .i64 ym, .slice a len cap, .slice yka klen ykc] ∧ Below W.heap.size W wc ∧ SvF wc W.heap.size W1.heap.size p pb W2.heap.size W5.heap.size (k + 2))
          case first =>
            have ldv := ld_deed hdx
            rcases hR with ⟨h6, hSv⟩ | ⟨h6, hSF, hbr⟩ | ⟨h8, hSF⟩
            · have i6 : (K : Int) < 6 := by omega
              have HV := Lib.hid (And.intro hSv (And.intro hbx hbq))
              clear hdx hbx hbq hSv
              go_wp2_with fail
              refine (hkd _).mono ?_
              rintro e V1 ⟨rfl, hb1⟩
              clear ldv hkd
              obtain ⟨hSv, hbx, ⟨xa, xb, hbq⟩⟩ := HV.out
              obtain ⟨bv2, D2, t2, ch2, s2, txs2, sv2, tv2, vs2, sn2, rv2, rvs2, hH2, hd2, ht2, hno2, hap2⟩ := hSv.later hb1
              obtain ⟨na, nc, rfl⟩ := wown_slice hno2.2.1
              obtain ⟨ma, mc, rfl⟩ := wown_slice hno2.2.2.1
              have hbq1 := hbq.kept (Kept.of_below [] hb1) (by simp)
              have hbr := wbroken_any hH2.log.1
              have ltn := ld_things hno2.1
              obtain ⟨V2, hV2⟩ : ∃ V2, V1.setRow W2.heap.size #[.slice na s2.length nc, .slice ma txs2.length mc] = V2 := ⟨_, rfl⟩
              have hst2 : (storeSem 32 (.pointer (some ⟨W2.heap.size, 0, none⟩)) (.agg #[.slice na s2.length nc, .slice ma txs2.length mc])).run Try.prog V1 = .ok () V2 := by rw [← hV2]; exact st_things hbq1 rfl rfl
              obtain ⟨hk2, hq2⟩ : Kept [W2.heap.size] V1 V2 ∧ Blk V2 W2.heap.size 32 #[.slice na s2.length nc, .slice ma txs2.length mc] := by rw [← hV2]; exact fold_store hbq1
              have hnoV := hno2.copy hbq1 hk2 hq2
              have hHV := hH2.box hbq1 hk2
              have ltw := ld_things hnoV.1
              have hare := are_any hHV.log.lc hHV.logf hnoV.2.1 hnoV.2.2.1 hnoV.2.2.2
              have hbV2 : Below W.heap.size W V2 := (hbx.trans (hb1.mono hbx.size)).trans (hk2.below (fun i hi => by rw [List.mem_singleton.1 hi]; exact HWQ.out) (Nat.le_trans hbx.size hb1.size))
              have HE := Lib.hid (And.intro (show Sv V2 W.heap.size W1.heap.size p pb g W2.heap.size (k + 2) from ⟨bv2, D2, t2, ch2, s2, txs2, sv2, tv2, vs2, _, _, _, hHV, hd2, ht2, hnoV, hap2⟩) hbV2)
              clear hSv hbx hbq hb1 hH2 hd2 ht2 hno2 hap2 hbq1 hV2 hk2 hq2 hnoV hHV hbV2
              go_wp2_with fail
              refine hbr.mono ?_
              rintro e w9 ⟨rfl, rfl⟩
              clear hbr
              go_wp2_with fail
              refine hare.mono ?_
              rintro e V3 ⟨rfl, hb3⟩
              have HF := Lib.hid (And.intro (HE.out.1.later hb3) (HE.out.2.trans (hb3.mono HE.out.2.size)))
              clear hare hb3 ltw ltn hst2
              go_wp2_with fail
              go_roundw
              case rel => exact ⟨k + 1, by omega, by omega, by go_num, g, rfl, HF.out.1, HF.out.2⟩
              case measure => simp [intOf]; omega
            · have i6 : (K : Int) < 6 := by omega
              obtain ⟨t0, sv0, tv0, u0, c0, hbr⟩ := hbr
              have HV := Lib.hid (And.intro hSF (And.intro hbx (And.intro hdx hbr)))
              clear hdx hbx hbq hSF hbr
              go_wp2_with fail
              refine (hkd _).mono ?_
              rintro e V1 ⟨rfl, hb1⟩
              clear ldv hkd
              have hbk := wbroken_any (HV.out.2.2.2.kept (Kept.of_below [] hb1) (by simp))
              have HE := Lib.hid (And.intro (HV.out.2.2.1.kept (Kept.of_below [] hb1) (by simp)) (And.intro (HV.out.2.1.trans (hb1.mono HV.out.2.1.size)) (HV.out.1.later hb1)))
              clear hb1
              go_wp2_with fail
              refine hbk.mono ?_
              rintro e w9 ⟨rfl, rfl⟩
              clear hbk
              go_wp2_with fail
              go_meet
              exact HE.out
            · have i6 : ¬ ((K : Int) < 6) := by omega
              have i6d : decide ((K : Int) < 6) = false := decide_eq_false i6
              have HV := Lib.hid (And.intro hSF (And.intro hbx hdx))
              clear hdx hbx hbq hSF
              go_wp2_with fail
              refine (hkd _).mono ?_
              rintro e V1 ⟨rfl, hb1⟩
              clear ldv hkd
              have HE := Lib.hid (And.intro (HV.out.2.2.kept (Kept.of_below [] hb1) (by simp)) (And.intro (HV.out.2.1.trans (hb1.mono HV.out.2.1.size)) (HV.out.1.later hb1)))
              clear hb1
              go_wp2_with fail
              go_meet
              exact HE.out
          case rest =>
            obtain ⟨hdx, hbx, hSF⟩ := hcut
            clear hR hbq
            generalize wc = V2 at *
            go_step
            go_step
            go_cut [] from 89 (fun wc => Blk wc wr.heap.size 35 #[.int .i64 yk, .int .i64 ym, .slice a len cap, .slice yka klen ykc] ∧ Below W.heap.size W wc ∧ SvF wc W.heap.size W1.heap.size p pb W2.heap.size W5.heap.size (k + 2))
            case first =>
              have ldv := ld_deed hdx
              obtain ⟨bv2, D2, t2, ch2, s2, txs2, t3, ch3, s3, txs3, hD2, hF2, ht2, ht3, hwas, hnow⟩ := hSF
              have hkp := keepw_any (.int .i64 yk) (.int .i64 ym) (.slice a len cap) yka klen ykc yh V2 (HL.out.2.2.2.2.2.2.1.below hbx) HL.out.2.2.2.2.2.2.2.1 HL.out.2.2.2.2.2.2.2.2.1 HL.out.2.2.2.2.2.2.2.2.2.1
              obtain ⟨ks, hks⟩ : ∃ ks, yh.take 30 = ks := ⟨_, rfl⟩
              have hk30 : ks.length ≤ 30 := by rw [← hks, List.length_take]; omega
              rw [hks] at hkp
              obtain ⟨m30, hm30⟩ : ∃ m, ks.length = m := ⟨_, rfl⟩
              rw [hm30] at hkp
              have HV := Lib.hid (And.intro hdx (And.intro hbx (And.intro hD2 (And.intro hF2 (And.intro ht2 (And.intro ht3 (And.intro hwas (And.intro hnow (And.intro hk30 hm30)))))))))
              clear hdx hbx hD2 hF2 ht2 ht3 hwas hnow hks hk30 hm30
              go_wp2_with fail
              refine hkp.mono ?_
              rintro e VA ⟨v, rfl, hown, hb3⟩
              clear hkp ldv
              obtain ⟨hdx, hbx, hD2, hF2, ht2, ht3, hwas, hnow, hk30, hm30⟩ := HV.out
              have hown0 := hown
              rw [← hm30] at hown
              obtain ⟨va, vc, rfl, hbo⟩ := bools_own4 (n := m30) hm30 hown
              have hcr := crash_any2 (hD2.later hb3) va vc ks hbo (fun hne b off hb hm => by
                subst hb
                have h1 := own_ge hown0 b rfl
                have h2 := fp_lt hD2 _ hm
                omega) (by omega)
              rw [hm30] at hcr
              have HC := Lib.hid (And.intro hb3 hown0)
              clear hdx hbx hD2 hF2 ht2 ht3 hwas hnow hk30 hm30 hown hown0 hbo hb3
              go_wp2_with fail
              refine hcr.mono ?_
              rintro e VB ⟨rfl, hD4, hG4⟩
              clear hcr
              obtain ⟨hdx, hbx, hD2, hF2, ht2, ht3, hwas, hnow, _, _⟩ := HV.out
              obtain ⟨hF4, hW4⟩ := hF2.crash ks
              have hdB := (hdx.kept (Kept.of_below [] HC.out.1) (by simp)).kept hG4.kept (deed_far (hD2.later HC.out.1) (hdx.kept (Kept.of_below [] HC.out.1) (by simp)))
              have hbA : Below W.heap.size W VA := hbx.trans (HC.out.1.mono hbx.size)
              have hbB : Below W.heap.size W VB := hbA.trans ((hG4.kept.below (fp_ge hD2) (Nat.le_trans (Nat.le_trans hD2.hp (Nat.le_of_lt hD2.lt)) HC.out.1.size)).mono HB.out)
              have hwasB := (hwas.later HC.out.1).disk (hD2.later HC.out.1) hG4.kept
              have hnowB := (hnow.later HC.out.1).disk (hD2.later HC.out.1) hG4.kept
              have cmB : VB.cell? ⟨wr.heap.size, 1, none⟩ = some (.int .i64 ym) := hdB.cell 1
              have har : ∀ z : Int, z ≤ 100 → Calls Try.prog 12 #[.pointer (some ⟨p, 0, none⟩), .int .i64 z] VB fun e w' => e = .returned (.int .i64 0) ∧ Blk w' wr.heap.size 35 #[.int .i64 yk, .int .i64 ym, .slice a len cap, .slice yka klen ykc] ∧ Below W.heap.size W w' ∧ SvF w' W.heap.size W1.heap.size p pb W2.heap.size W5.heap.size (k + 2) := fun z hzz => by
                have hfa := arm_any hD4 z (by omega)
                unfold armM at hfa
                rw [if_neg (by rw [hW4.dead]; simp)] at hfa
                refine hfa.mono fun e w' ⟨h1, h2, h3⟩ => ⟨h1, hdB.kept h3.kept (deed_far hD4 hdB), hbB.trans ((h3.kept.below (fp_ge hD4) (Nat.le_trans hD4.hp (Nat.le_of_lt hD4.lt))).mono HB.out), _, _, t2, ch2, s2, txs2, t3, ch3, s3, txs3, h2, hF4.turn rfl rfl, ht2, ht3, hwasB.disk hD4 h3.kept, hnowB.disk hD4 h3.kept⟩
              clear hdx hbx hD2 hF2 ht2 ht3 hwas hnow hD4 hG4 hF4 hW4 hdB hbA hbB hwasB hnowB
              go_wp2_with fail
              all_goals
                refine (har _ (by omega)).mono ?_
                rintro e Y ⟨rfl, hSY⟩
                have HE := Lib.hid hSY
                clear har hSY cmB
                go_wp2_with fail
                go_meet
                exact HE.out
            case rest =>
              obtain ⟨hdx, hbx, hSF⟩ := hcut
              generalize wc = V3 at *
              go_step
              go_step
              go_cut [12, 13] from 103 (fun x12 x13 wc => Blk wc wr.heap.size 35 #[.int .i64 yk, .int .i64 ym, .slice a len cap, .slice yka klen ykc] ∧ Below W.heap.size W wc ∧ SvF wc W.heap.size W1.heap.size p pb W2.heap.size W5.heap.size (k + 2))
              case first =>
                obtain ⟨bv2, D2, t2, ch2, s2, txs2, t3, ch3, s3, txs3, hD2, hF2, ht2, ht3, hwas, hnow⟩ := hSF
                have hop := open_gen hD2 hF2 (by omega) (Nat.le_trans hD2.hp (Nat.le_of_lt hD2.lt))
                have HV := Lib.hid (And.intro hdx (And.intro hbx (And.intro hD2 (And.intro hF2 (And.intro ht2 (And.intro ht3 (And.intro hwas hnow)))))))
                clear hdx hbx hD2 hF2 ht2 ht3 hwas hnow
                go_wp2_with fail
                refine hop.mono ?_
                rintro e V4 ⟨bv4, D4, hD4, _, hk4, hb4, _, ho⟩
                clear hop
                obtain ⟨hdx, hbx, hD2, hF2, ht2, ht3, hwas, hnow⟩ := HV.out
                have hd4 := hdx.kept hk4 (deed_far hD2 hdx)
                have hb04 : Below W.heap.size W V4 := hbx.trans (hb4.mono HB.out)
                have hwas4 := hwas.disk hD2 hk4
                have hnow4 := hnow.disk hD2 hk4
                rcases ho with ⟨er, he0, _, rfl, hF4⟩ | ⟨g2, t4, c4, s4, txs4, sv4, tv4, vs4, rfl, hσ, hdd4, hg4, hfr, hH4⟩
                · have e0d : (er == 0) = false := by simpa using he0
                  have HE := Lib.hid (show Blk V4 wr.heap.size 35 #[.int .i64 yk, .int .i64 ym, .slice a len cap, .slice yka klen ykc] ∧ Below W.heap.size W V4 ∧ SvF V4 W.heap.size W1.heap.size p pb W2.heap.size W5.heap.size (k + 2) from ⟨hd4, hb04, bv4, D4, t2, ch2, s2, txs2, t3, ch3, s3, txs3, hD4, hF4, ht2, ht3, hwas4, hnow4⟩)
                  clear hdx hbx hD2 hF2 ht2 ht3 hwas hnow hD4 hk4 hb4 hd4 hb04 hwas4 hnow4 hF4 he0
                  go_wp2_with fail
                  go_meet
                  exact HE.out
                · have ht4 : t4 ≤ k + 2 := by rcases hσ with ⟨rfl, _⟩ | ⟨rfl, _⟩ <;> omega
                  obtain ⟨sn2, rv2, rvs2, hno2, hby2⟩ := hwas4
                  obtain ⟨sn3, rv3, rvs3, hno3, hby3⟩ := hnow4
                  obtain ⟨na, nc, rfl⟩ := wown_slice hno2.2.1
                  obtain ⟨ma, mc, rfl⟩ := wown_slice hno2.2.2.1
                  obtain ⟨na3, nc3, rfl⟩ := wown_slice hno3.2.1
                  obtain ⟨ma3, mc3, rfl⟩ := wown_slice hno3.2.2.1
                  have ltw := ld_things hno2.1
                  by_cases heq : s2 = s4 ∧ txs2 = txs4
                  · obtain ⟨rfl, rfl⟩ := heq
                    have hare := are_any hH4.log.lc hH4.logf hno2.2.1 hno2.2.2.1 hno2.2.2.2
                    have HE := Lib.hid (And.intro hd4 (And.intro hb04 (And.intro hno2 (And.intro hno3 (And.intro ht4 (And.intro hH4 hby2))))))
                    clear hdx hbx hD2 hF2 ht2 ht3 hwas hnow hD4 hk4 hb4 hd4 hb04 hno2 hno3 ht4 hH4 hby2 hby3 hσ hdd4 hg4 hfr
                    go_wp2_with fail
                    refine hare.mono ?_
                    rintro e V5 ⟨rfl, hb5⟩
                    clear hare ltw
                    obtain ⟨hd4, hb04, hno2, hno3, ht4, hH4, hby2⟩ := HE.out
                    have ltw := ld_things (hno2.later hb5).1
                    have hst := st_things (y0 := .slice na s2.length nc) (y1 := .slice ma txs2.length mc) (hno3.later hb5).1 rfl rfl
                    obtain ⟨V6, hV6⟩ : ∃ V6, V5.setRow W5.heap.size #[.slice na s2.length nc, .slice ma txs2.length mc] = V6 := ⟨_, rfl⟩
                    rw [hV6] at hst
                    obtain ⟨hk6, hq6⟩ : Kept [W5.heap.size] V5 V6 ∧ Blk V6 W5.heap.size 32 #[.slice na s2.length nc, .slice ma txs2.length mc] := by rw [← hV6]; exact fold_store (hno3.later hb5).1
                    have hbx5 := hb04.trans (hb5.mono hb04.size)
                    have HF := Lib.hid (show Blk V6 wr.heap.size 35 #[.int .i64 yk, .int .i64 ym, .slice a len cap, .slice yka klen ykc] ∧ Below W.heap.size W V6 ∧ SvF V6 W.heap.size W1.heap.size p pb W2.heap.size W5.heap.size (k + 2) from
                      ⟨(hd4.kept (Kept.of_below [] hb5) (by simp)).kept hk6 (by have := HW.out.2; simp; omega), hbx5.trans (hk6.below (fun i hi => by rw [List.mem_singleton.1 hi]; exact Nat.le_trans HW.out.1 (by have := HW.out.2; omega)) hbx5.size),
                       bv4, D4, t4, c4, s2, txs2, t4, c4, s2, txs2, ((hH4.later hb5).box (hno3.later hb5).1 hk6).disk, hH4.fork (by omega), ht4, ht4, ⟨_, _, _, (hno2.later hb5).other (hno3.later hb5).1 (Nat.ne_of_lt HNE.out) hk6, hby2⟩, ⟨_, _, _, (hno2.later hb5).copy (hno3.later hb5).1 hk6 hq6, hby2⟩⟩)
                    clear hd4 hb04 hno2 hno3 ht4 hH4 hby2 hV6 hk6 hq6 hbx5 hb5
                    go_wp2_with fail
                    go_meet
                    exact HF.out
                  · have hσ3 : s4 = s3 ∧ txs4 = txs3 := by
                      rcases hσ with ⟨_, _, h1, h2⟩ | ⟨_, _, h1, h2⟩
                      · exact absurd ⟨h1.symm, h2.symm⟩ heq
                      · exact ⟨h1, h2⟩
                    obtain ⟨e1, e2⟩ := hσ3
                    subst e1
                    subst e2
                    have hare := are_not hH4.log.lc hH4.logf hno2.2.1 hby2.1 hno2.2.2.1 hno2.2.2.2 hby2.2 heq
                    have HE := Lib.hid (And.intro hd4 (And.intro hb04 (And.intro hno2 (And.intro hno3 (And.intro ht4 (And.intro hH4 hby3))))))
                    clear hdx hbx hD2 hF2 ht2 ht3 hwas hnow hD4 hk4 hb4 hd4 hb04 hno2 hno3 ht4 hH4 hby2 hby3 hσ hdd4 hg4 hfr heq
                    go_wp2_with fail
                    refine hare.mono ?_
                    rintro e V5 ⟨rfl, hb5⟩
                    clear hare ltw
                    obtain ⟨hd4, hb04, hno2, hno3, ht4, hH4, hby3⟩ := HE.out
                    have ltn := ld_things (hno3.later hb5).1
                    have hare := are_any (hH4.later hb5).log.lc hH4.logf (hno3.later hb5).2.1 (hno3.later hb5).2.2.1 (hno3.later hb5).2.2.2
                    have HB5 := Lib.hid hb5
                    clear hd4 hb04 hno2 hno3 ht4 hH4 hby3 hb5
                    go_wp2_with fail
                    refine hare.mono ?_
                    rintro e V5 ⟨rfl, hb5⟩
                    clear hare ltn
                    have hb5 := bel_lat HB5.out hb5
                    obtain ⟨hd4, hb04, hno2, hno3, ht4, hH4, hby3⟩ := HE.out
                    have ltn := ld_things (hno3.later hb5).1
                    have hst := st_things (y0 := .slice na3 s4.length nc3) (y1 := .slice ma3 txs4.length mc3) (hno2.later hb5).1 rfl rfl
                    obtain ⟨V6, hV6⟩ : ∃ V6, V5.setRow W2.heap.size #[.slice na3 s4.length nc3, .slice ma3 txs4.length mc3] = V6 := ⟨_, rfl⟩
                    rw [hV6] at hst
                    obtain ⟨hk6, hq6⟩ : Kept [W2.heap.size] V5 V6 ∧ Blk V6 W2.heap.size 32 #[.slice na3 s4.length nc3, .slice ma3 txs4.length mc3] := by rw [← hV6]; exact fold_store (hno2.later hb5).1
                    have hbx5 := hb04.trans (hb5.mono hb04.size)
                    have hwx : wr.heap.size ≠ W2.heap.size := HXN.out
                    have HF := Lib.hid (show Blk V6 wr.heap.size 35 #[.int .i64 yk, .int .i64 ym, .slice a len cap, .slice yka klen ykc] ∧ Below W.heap.size W V6 ∧ SvF V6 W.heap.size W1.heap.size p pb W2.heap.size W5.heap.size (k + 2) from
                      ⟨(hd4.kept (Kept.of_below [] hb5) (by simp)).kept hk6 (by simpa using hwx), hbx5.trans (hk6.below (fun i hi => by rw [List.mem_singleton.1 hi]; exact HWQ.out) hbx5.size),
                       bv4, D4, t4, c4, s4, txs4, t4, c4, s4, txs4, ((hH4.later hb5).box (hno2.later hb5).1 hk6).disk, hH4.fork (by omega), ht4, ht4, ⟨_, _, _, (hno3.later hb5).copy (hno2.later hb5).1 hk6 hq6, hby3⟩, ⟨_, _, _, (hno3.later hb5).other (hno2.later hb5).1 (Nat.ne_of_gt HNE.out) hk6, hby3⟩⟩)
                    clear hd4 hb04 hno2 hno3 ht4 hH4 hby3 hV6 hk6 hq6 hbx5 hb5 hwx
                    go_wp2_with fail
                    go_meet
                    exact HF.out
              case rest =>
                obtain ⟨hdx, hbx, hSF⟩ := hcut
                generalize wc = V4 at *
                have ldv := ld_deed hdx
                obtain ⟨bv2, D2, t2, ch2, s2, txs2, t3, ch3, s3, txs3, hD2, hF2, ht2, ht3, hwas, hnow⟩ := hSF
                have hkp := keepw_any (.int .i64 yk) (.int .i64 ym) (.slice a len cap) yka klen ykc yh V4 (HL.out.2.2.2.2.2.2.1.below hbx) HL.out.2.2.2.2.2.2.2.1 HL.out.2.2.2.2.2.2.2.2.1 HL.out.2.2.2.2.2.2.2.2.2.1
                obtain ⟨ks, hks⟩ : ∃ ks, yh.take 30 = ks := ⟨_, rfl⟩
                have hk30 : ks.length ≤ 30 := by rw [← hks, List.length_take]; omega
                rw [hks] at hkp
                obtain ⟨m30, hm30⟩ : ∃ m, ks.length = m := ⟨_, rfl⟩
                rw [hm30] at hkp
                have HV := Lib.hid (And.intro hdx (And.intro hbx (And.intro hD2 (And.intro hF2 (And.intro ht2 (And.intro ht3 (And.intro hwas (And.intro hnow (And.intro hk30 hm30)))))))))
                clear hdx hbx hD2 hF2 ht2 ht3 hwas hnow hks hk30 hm30
                go_wp2_with fail
                refine hkp.mono ?_
                rintro e VA ⟨v, rfl, hown, hb3⟩
                clear hkp ldv
                obtain ⟨hdx, hbx, hD2, hF2, ht2, ht3, hwas, hnow, hk30, hm30⟩ := HV.out
                have hown0 := hown
                rw [← hm30] at hown
                obtain ⟨va, vc, rfl, hbo⟩ := bools_own4 (n := m30) hm30 hown
                have hcr := crash_any2 (hD2.later hb3) va vc ks hbo (fun hne b off hb hm => by
                  subst hb
                  have h1 := own_ge hown0 b rfl
                  have h2 := fp_lt hD2 _ hm
                  omega) (by omega)
                rw [hm30] at hcr
                have HC := Lib.hid (And.intro hb3 hown0)
                clear hdx hbx hD2 hF2 ht2 ht3 hwas hnow hk30 hm30 hown hown0 hbo hb3
                go_wp2_with fail
                refine hcr.mono ?_
                rintro e VB ⟨rfl, hD4, hG4⟩
                clear hcr
                obtain ⟨hdx, hbx, hD2, hF2, ht2, ht3, hwas, hnow, _, _⟩ := HV.out
                obtain ⟨hF4, hW4⟩ := hF2.crash ks
                have hdB := (hdx.kept (Kept.of_below [] HC.out.1) (by simp)).kept hG4.kept (deed_far (hD2.later HC.out.1) (hdx.kept (Kept.of_below [] HC.out.1) (by simp)))
                have hbA : Below W.heap.size W VA := hbx.trans (HC.out.1.mono hbx.size)
                have hbB : Below W.heap.size W VB := hbA.trans ((hG4.kept.below (fp_ge hD2) (Nat.le_trans (Nat.le_trans hD2.hp (Nat.le_of_lt hD2.lt)) HC.out.1.size)).mono HB.out)
                have hwasB := (hwas.later HC.out.1).disk (hD2.later HC.out.1) hG4.kept
                have hnowB := (hnow.later HC.out.1).disk (hD2.later HC.out.1) hG4.kept
                have hop := open_gen hD4 hF4 (by omega) (Nat.le_trans hD4.hp (Nat.le_of_lt hD4.lt))
                have HD := Lib.hid (And.intro hbB (And.intro hwasB (And.intro hnowB (And.intro hD4 (And.intro hW4 (And.intro ht2 ht3))))))
                clear hdx hbx hD2 hF2 ht2 ht3 hwas hnow hD4 hG4 hF4 hW4 hdB hbA hbB hwasB hnowB
                go_wp2_with fail
                refine hop.mono ?_
                rintro e V5 ⟨bv4, D4, hD5, _, hk5, hb5, _, ho⟩
                clear hop
                obtain ⟨hbB, hwasB, hnowB, hD4, hW4, ht2, ht3⟩ := HD.out
                rcases ho with ⟨_, _, hno, _⟩ | ⟨g2, t4, c4, s4, txs4, sv4, tv4, vs4, rfl, hσ, hdd4, hg4, hfr, hH4⟩
                · exact absurd hW4 hno
                have ht4 : t4 ≤ k + 2 := by rcases hσ with ⟨rfl, _⟩ | ⟨rfl, _⟩ <;> omega
                have hbV5 : Below W.heap.size W V5 := hbB.trans (hb5.mono HB.out)
                obtain ⟨sn2, rv2, rvs2, hnoB2, hby2⟩ := hwasB
                obtain ⟨sn3, rv3, rvs3, hnoB3, hby3⟩ := hnowB
                have hap2 : ∀ i, rv2.ownBlock = some i → tv4.ownBlock ≠ some i := fun i hi hi2 => by
                  have h1 := own_lt hnoB2.2.2.1 i hi
                  have h2 := hfr i hi2
                  omega
                have hap3 : ∀ i, rv3.ownBlock = some i → tv4.ownBlock ≠ some i := fun i hi hi2 => by
                  have h1 := own_lt hnoB3.2.2.1 i hi
                  have h2 := hfr i hi2
                  omega
                have hno2 := hnoB2.disk hD4 hk5
                have hno3 := hnoB3.disk hD4 hk5
                obtain ⟨na, nc, rfl⟩ := wown_slice hno2.2.1
                obtain ⟨ma, mc, rfl⟩ := wown_slice hno2.2.2.1
                obtain ⟨na3, nc3, rfl⟩ := wown_slice hno3.2.1
                obtain ⟨ma3, mc3, rfl⟩ := wown_slice hno3.2.2.1
                have ltw := ld_things hno2.1
                by_cases heq : s2 = s4 ∧ txs2 = txs4
                · obtain ⟨rfl, rfl⟩ := heq
                  have hare := are_any hH4.log.lc hH4.logf hno2.2.1 hno2.2.2.1 hno2.2.2.2
                  have HE := Lib.hid (And.intro hbV5 (And.intro hno2 (And.intro ht4 (And.intro hH4 (And.intro hdd4 hap2)))))
                  clear hbB hD4 hW4 ht2 ht3 hD5 hk5 hb5 ht4 hbV5 hnoB2 hnoB3 hap2 hap3 hno2 hno3 hH4 hby2 hby3 hσ hdd4 hg4 hfr
                  go_wp2_with fail
                  refine hare.mono ?_
                  rintro e V6 ⟨rfl, hb6⟩
                  clear hare ltw
                  obtain ⟨hbV5, hno2, ht4, hH4, hdd4, hap2⟩ := HE.out
                  have ltw := ld_things (hno2.later hb6).1
                  have hare := are_any (hH4.later hb6).log.lc hH4.logf (hno2.later hb6).2.1 (hno2.later hb6).2.2.1 (hno2.later hb6).2.2.2
                  have HB6 := Lib.hid hb6
                  clear hbV5 hno2 ht4 hH4 hdd4 hap2 hb6
                  go_wp2_with fail
                  refine hare.mono ?_
                  rintro e V7 ⟨rfl, hb7⟩
                  clear hare ltw
                  have hb7 := bel_lat HB6.out hb7
                  obtain ⟨hbV5, hno2, ht4, hH4, hdd4, hap2⟩ := HE.out
                  have HF := Lib.hid (And.intro (show Sv V7 W.heap.size W1.heap.size p pb g2 W2.heap.size (k + 2) from ⟨bv4, D4, t4, c4, s2, txs2, sv4, tv4, vs4, _, _, _, hH4.later hb7, hdd4, ht4, hno2.later hb7, hap2⟩) (hbV5.trans (hb7.mono hbV5.size)))
                  clear hbV5 hno2 ht4 hH4 hdd4 hap2 hb7
                  go_wp2_with fail
                  go_roundw
                  case rel => exact ⟨k + 1, by omega, by omega, by go_num, g2, rfl, HF.out.1, HF.out.2⟩
                  case measure => simp [intOf]; omega
                · have hσ3 : s4 = s3 ∧ txs4 = txs3 := by
                    rcases hσ with ⟨_, _, h1, h2⟩ | ⟨_, _, h1, h2⟩
                    · exact absurd ⟨h1.symm, h2.symm⟩ heq
                    · exact ⟨h1, h2⟩
                  obtain ⟨e1, e2⟩ := hσ3
                  subst e1
                  subst e2
                  have hare := are_not hH4.log.lc hH4.logf hno2.2.1 hby2.1 hno2.2.2.1 hno2.2.2.2 hby2.2 heq
                  have HE := Lib.hid (And.intro hbV5 (And.intro hno2 (And.intro ht4 (And.intro hH4 (And.intro hdd4 (And.intro hap3 (And.intro hno3 (And.intro hby2 heq))))))))
                  clear hbB hD4 hW4 ht2 ht3 hD5 hk5 hb5 ht4 hbV5 hnoB2 hnoB3 hap2 hap3 hno2 hno3 hH4 hby2 hby3 hσ hdd4 hg4 hfr heq
                  go_wp2_with fail
                  refine hare.mono ?_
                  rintro e V6 ⟨rfl, hb6⟩
                  clear hare ltw
                  obtain ⟨hbV5, hno2, ht4, hH4, hdd4, hap3, hno3, hby2, heq⟩ := HE.out
                  have ltn := ld_things (hno3.later hb6).1
                  have hare := are_any (hH4.later hb6).log.lc hH4.logf (hno3.later hb6).2.1 (hno3.later hb6).2.2.1 (hno3.later hb6).2.2.2
                  have HB6 := Lib.hid hb6
                  clear hbV5 hno2 ht4 hH4 hdd4 hap3 hno3 hb6 hby2 heq
                  go_wp2_with fail
                  refine hare.mono ?_
                  rintro e V7 ⟨rfl, hb7⟩
                  clear hare ltn
                  have hb7 := bel_lat HB6.out hb7
                  obtain ⟨hbV5, hno2, ht4, hH4, hdd4, hap3, hno3, hby2, heq⟩ := HE.out
                  have ltw := ld_things (hno2.later hb7).1
                  have hare := are_not (hH4.later hb7).log.lc hH4.logf (hno2.later hb7).2.1 hby2.1 (hno2.later hb7).2.2.1 (hno2.later hb7).2.2.2 hby2.2 heq
                  have HB7b := Lib.hid hb7
                  clear hbV5 hno2 ht4 hH4 hdd4 hap3 hno3 hb7 hby2 heq
                  go_wp2_with fail
                  refine hare.mono ?_
                  rintro e V8 ⟨rfl, hb8⟩
                  clear hare ltw
                  have hb8 := bel_lat HB7b.out hb8
                  obtain ⟨hbV5, hno2, ht4, hH4, hdd4, hap3, hno3, hby2, heq⟩ := HE.out
                  have ltn := ld_things (hno3.later hb8).1
                  have hst := st_things (y0 := .slice na3 s4.length nc3) (y1 := .slice ma3 txs4.length mc3) (hno2.later hb8).1 rfl rfl
                  obtain ⟨V9, hV9⟩ : ∃ V9, V8.setRow W2.heap.size #[.slice na3 s4.length nc3, .slice ma3 txs4.length mc3] = V9 := ⟨_, rfl⟩
                  rw [hV9] at hst
                  obtain ⟨hk9, hq9⟩ : Kept [W2.heap.size] V8 V9 ∧ Blk V9 W2.heap.size 32 #[.slice na3 s4.length nc3, .slice ma3 txs4.length mc3] := by rw [← hV9]; exact fold_store (hno2.later hb8).1
                  have hbx8 := hbV5.trans (hb8.mono hbV5.size)
                  have HF := Lib.hid (And.intro (show Sv V9 W.heap.size W1.heap.size p pb g2 W2.heap.size (k + 2) from ⟨bv4, D4, t4, c4, s4, txs4, sv4, tv4, vs4, _, _, _, (hH4.later hb8).box (hno2.later hb8).1 hk9, hdd4, ht4, (hno3.later hb8).copy (hno2.later hb8).1 hk9 hq9, hap3⟩) (hbx8.trans (hk9.below (fun i hi => by rw [List.mem_singleton.1 hi]; exact HWQ.out) hbx8.size)))
                  clear hbV5 hno2 ht4 hH4 hdd4 hap3 hno3 hby2 heq hb8 hV9 hk9 hq9 hbx8
                  go_wp2_with fail
                  go_roundw
                  case rel => exact ⟨k + 1, by omega, by omega, by go_num, g2, rfl, HF.out.1, HF.out.2⟩
                  case measure => simp [intOf]; omega
    · obtain rfl : k = n := by omega
      have HE := Lib.hid hbW
      clear hS hbW
      go_wp2_with fail
      go_ret
      exact ⟨rfl, HE.out⟩
end Go.Proofs.Ytelpihlifdfgoaa
