/-
  The walk of WalStays. Nothing here is a statement of the document.
-/
import Derived.Test.YtelpihlifdfgoaaWalVi
import Derived.Deep.CutBlock
namespace Go.Proofs.Ytelpihlifdfgoaa
open Go.RowKit Go.Shelf
set_option linter.unusedVariables false
theorem lays_none {N : Nat} : ∀ (ls : List (List (Nat × Bk))) {D : Dk}, D.Nod N → ls ≠ [] → (laysM D ls).2 = 0 → (laysM D ls).1.rows = []
  | [], D, hn, h, _ => absurd rfl h
  | l :: r, D, hn, _, he => by
    obtain ⟨k1, k2, _⟩ := lay_keeps l hn
    unfold laysM at he ⊢
    by_cases h0 : (layM D l).2 = 0
    · rw [if_pos h0] at he ⊢
      by_cases hr : r = []
      · subst hr
        exact (k2 h0).2.1
      · exact lays_none r k1 hr he
    · rw [if_neg h0] at he
      exact absurd he h0
section
variable {B p pb g n N t c : Nat} {W W' : World} {bv : Value} {D : Dk} {f : Nat → Bk}
theorem hale_format (hk : Lk B W p pb N bv D f) (hn : 4 ≤ n ∧ n ≤ 1000) (hN : 2 + 2 * n ≤ N) (hB : B ≤ W.heap.size) :
    Calls Try.prog 28 #[.pointer (some ⟨p, 0, none⟩), .int .i64 (n : Int)] W fun e w' => ∃ g, e = .returned (.tuple #[.pointer (some ⟨g, 0, none⟩), .int .i64 0]) ∧ (∃ bv' D' sv tv vs, Hale w' B p pb g N n 1 0 [] [] bv' sv tv vs D' ∧ D'.Well N) ∧ Below B W w' := by
  obtain ⟨hD, hw, hy, hsh⟩ := hk
  have hfo := wformat_done hD hB hn.1 hn.2 (by rw [hw.len]; exact hN)
  have hin := fmt_in (n := n) (N := N) (by omega) hN
  obtain ⟨e0, w2⟩ := lays_well (fmtL n) hw hin
  obtain ⟨n2, s2⟩ := lays_shows (fmtL n) hw (nod_of hD hw) hin
  have r2 := lays_none (fmtL n) (nod_of hD hw) (by unfold fmtL; simp) e0
  have y2 := byt_lays (fmtL n) hy (fmt_byt n)
  refine hfo.mono ?_
  rintro e w' ⟨bv', hD', hok, _, hk', ho'⟩
  obtain ⟨g, v, rfl, hg, hv, hb⟩ := hok e0
  have hlf : LogF (showsM (laysM D (fmtL n)).1) n 1 0 [] [] := by rw [s2]; exact logf_format hn
  exact ⟨g, rfl, ⟨bv', _, v, .slice none 0 0, [], ⟨hD', y2, n2, hlf.nums, fun i hi b hb => by rw [poss_none r2 hb]; exact hlf.per hi, ⟨hb, own_base hv hB, World.ownsRow_nil _ _ _ _, trivial, Nat.le_trans hB hg⟩⟩, w2⟩, hk'.below (fp_ge hD) hB⟩
end
set_option maxRecDepth 100000 in
set_option maxHeartbeats 2000000 in
theorem made2_any (w : World) : Calls Try.prog 7 #[] w fun e w' => ∃ g p pb bv D sv tv vs, e = .returned (.tuple #[.pointer (some ⟨g, 0, none⟩), .bool true]) ∧ Hale w' w.heap.size p pb g 26 12 1 0 [] [] bv sv tv vs D ∧ D.Well 26 ∧ Below w.heap.size w w' := by
  have hnew := new_any 26 (by omega) (by omega) w
  rw [show ((26 : Nat) : Int) = 26 from rfl] at hnew
  go_enter Try.func7, Try.ntmps7
  go_wp2_with fail
  refine hnew.mono ?_
  rintro e W1 ⟨rfl, hD1, hb1⟩
  clear hnew
  have hfo := hale_format (lk_new 26 hD1) (n := 12) ⟨by omega, by omega⟩ (by omega) hb1.size
  rw [show ((12 : Nat) : Int) = 12 from rfl] at hfo
  obtain ⟨p, hp⟩ : ∃ p, w.heap.size + 1 = p := ⟨_, rfl⟩
  rw [hp] at hfo ⊢
  have HB := Lib.hid hb1
  clear hD1 hp hb1
  go_wp2_with fail
  refine hfo.mono ?_
  rintro e W2 ⟨g, rfl, ⟨bv', D', sv, tv, vs, hH, hw⟩, hb⟩
  clear hfo
  have HR := Lib.hid (And.intro hH (And.intro hw hb))
  clear hH hw hb
  go_wp2_with fail
  go_ret2
  exact ⟨g, p, _, bv', D', sv, tv, vs, rfl, HR.out.1, HR.out.2.1, HB.out.trans HR.out.2.2⟩
end Go.Proofs.Ytelpihlifdfgoaa
namespace Go.Proofs.Ytelpihlifdfgoaa
open Go.RowKit Go.Shelf
set_option linter.unusedVariables false
attribute [local go_sem ↓] load_deed_rule store_things_rule load_things_rule store_deed_rule
set_option maxRecDepth 100000 in
set_option maxHeartbeats 8000000 in
theorem wstays_walk (la : Option Addr) (n c : Nat) (ls : List Dd) (x : Dd) (xcs : List Value) (ka : Option Addr) (kl kc : Nat) (ks : List Bool) (W : World) (hn : ls.length = n) (hm : n ≤ 9223372036854775807) (hb : Dds W la ls) (hx : DdAt W xcs x) (hk : Truths W ka ks) (hkl : ks.length = kl) (hkc : kl ≤ kc) (hkm : kc ≤ 9223372036854775807) :
    Calls Try.prog 4 #[.slice la n c, .agg xcs.toArray, .slice ka kl kc] W fun e w' => e = .returned (.bool true) ∧ Below W.heap.size W w' := by
  obtain ⟨⟨xa, xc, xka, xkc, rfl, hxL, hxc, hxm, hx0, hxT, _, _⟩, hxB, hxn⟩ := hx
  obtain ⟨xk, xm, xb, xh⟩ := x
  obtain ⟨xlen, hxlen⟩ : ∃ m, xb.length = m := ⟨_, rfl⟩
  obtain ⟨hlen, hhlen⟩ : ∃ m, xh.length = m := ⟨_, rfl⟩
  simp only [hxlen, hhlen] at hxL hxc hx0 hxn hxB ⊢
  obtain ⟨W0, hW0⟩ : ∃ W0, W.alloc (.cells #[.int .i64 xk, .int .i64 xm, .slice xa xlen xc, .slice xka hlen xkc] 35) = W0 := ⟨_, rfl⟩
  have hb0 : Below W.heap.size W W0 := by rw [← hW0]; exact (Below.refl _ _).alloc (Nat.le_refl _) _
  have hd0 : Blk W0 W.heap.size 35 #[.int .i64 xk, .int .i64 xm, .slice xa xlen xc, .slice xka hlen xkc] := by rw [← hW0]; exact Blk.new _ _ _
  have H0 := Lib.hid (And.intro hn (And.intro hm (And.intro hb (And.intro hxL (And.intro hxc (And.intro hxm (And.intro hx0 (And.intro hxB (And.intro hxn (And.intro (truths_bools hk) (And.intro hkl (And.intro hkc (And.intro hkm (And.intro hb0 (And.intro hd0 hxlen)))))))))))))))
  clear hn hm hb hxL hxc hxm hx0 hxB hxn hk hkl hkc hkm hb0 hd0 hxT hxlen
  go_enter Try.func4, Try.ntmps4
  go_wp2_with fail
  refine (wakes4_any _).mono ?_
  rintro e W1 ⟨rfl, hb1⟩
  go_wp2_with fail
  refine (made2_any _).mono ?_
  rintro e W2 ⟨g, p, pb, bv, D, sv, tv, vs, rfl, hH, hw, hb2⟩
  have hb02 := bel_lat (bel_lat H0.out.2.2.2.2.2.2.2.2.2.2.2.2.2.1 hb1) hb2
  have hd2 := H0.out.2.2.2.2.2.2.2.2.2.2.2.2.2.2.1.kept (Kept.of_below [] (bel_lat hb1 hb2)) (by simp)
  have hdi := wdisk_any hH.log.1
  have hWB : W.heap.size < W1.heap.size := Nat.lt_of_lt_of_le H0.out.2.2.2.2.2.2.2.2.2.2.2.2.2.2.1.lt hb1.size
  have H2 := Lib.hid (And.intro hH (And.intro hw (And.intro hb02 (And.intro hd2 hWB))))
  clear hH hw hb02 hd2 hb1 hb2 hWB hW0
  go_wp2_with fail
  refine hdi.mono ?_
  rintro e w9 ⟨rfl, rfl⟩
  clear hdi
  go_upto_block 0 with (fail)
  go_cut [10, 11] from 29 (fun x10 x11 wc => ∃ bv D t ch s txs sv tv vs, Hale wc W1.heap.size p pb g 26 12 t ch s txs bv sv tv vs D ∧ D.Well 26 ∧ t ≤ 41 ∧ Below W1.heap.size W2 wc)
  case first =>
    go_wp2_with fail
    go_loopw [31] (fun i wr => ∃ k : Nat, k ≤ n ∧ k ≤ 20 ∧ i = .int .i64 k ∧ ∃ bv D t ch s txs sv tv vs, Hale wr W1.heap.size p pb g 26 12 t ch s txs bv sv tv vs D ∧ D.Well 26 ∧ t ≤ k + 1 ∧ Below W1.heap.size W2 wr) (fun i _ => n - (intOf i).toNat)
    case atStart => exact ⟨0, Nat.zero_le _, by omega, rfl, _, _, _, _, _, _, _, _, _, H2.out.1, H2.out.2.1, by omega, Below.refl _ _⟩
    case round =>
      obtain ⟨k, hk, hk40, rfl, bv, D, t, ch, s, txs, sv, tv, vs, hH, hw, htk, hbw⟩ := hrel
      by_cases hlt : k < n
      · have hbW : Below W.heap.size W wr := H2.out.2.2.1.trans (hbw.mono (Nat.le_of_lt H2.out.2.2.2.2))
        obtain ⟨yb, yo, cs, rfl, hyc, hyx⟩ := H0.out.2.2.1.at' hbW (i := k) (by have := H0.out.1; omega)
        generalize ls[k]'(by have := H0.out.1; omega) = y at hyx
        obtain ⟨yk, ym, yl, yh⟩ := y
        obtain ⟨⟨a, cap, yka, ykc, rfl, hL0, hlc, hcm, h0, hT, _, _⟩, hBy, hyn⟩ := hyx
        obtain ⟨len, hlen⟩ : ∃ m, yl.length = m := ⟨_, rfl⟩
        obtain ⟨klen, hklen⟩ : ∃ m, yh.length = m := ⟨_, rfl⟩
        simp only [hlen, hklen] at hyc hL0 hlc h0 hyn hBy
        have lyd := ld_dd hyc
        obtain ⟨W5, hW5⟩ : ∃ W5, wr.alloc (.cells #[.int .i64 yk, .int .i64 ym, .slice a len cap, .slice yka klen ykc] 35) = W5 := ⟨_, rfl⟩
        have S5 := st_deed_new wr (y0 := .int .i64 yk) (y1 := .int .i64 ym) (y2 := .slice a len cap) (y3 := .slice yka klen ykc) rfl rfl rfl rfl
        rw [hW5] at S5
        have hb5 : Below wr.heap.size wr W5 := by rw [← hW5]; exact (Below.refl _ _).alloc (Nat.le_refl _) _
        have hd5 : Blk W5 wr.heap.size 35 #[.int .i64 yk, .int .i64 ym, .slice a len cap, .slice yka klen ykc] := by rw [← hW5]; exact Blk.new _ _ _
        have HX := Lib.hid (And.intro hH (And.intro hw (And.intro htk (And.intro hbw (And.intro (hL0.kept hbW) (And.intro hlen (And.intro hlc (And.intro hcm (And.intro h0 (And.intro hBy (And.intro hb5 hd5)))))))))))
        clear hH hw htk hbw hL0 hlen hlc hcm h0 hBy hb5 hbW hyc hT hyn hklen
        by_cases h40 : k = 20
        · subst h40
          clear hd5
          go_wp2_with fail
          go_meet
          obtain ⟨hH, hw, htk, hbw, hL, _, _, _, _, _, hb5, _⟩ := HX.out
          exact ⟨_, _, _, _, _, _, _, _, _, hH.later hb5, hw, by omega, hbw.trans (hb5.mono hH.size)⟩
        · have hkI : ¬ ((k : Int) = 20) := by omega
          have ld5 := ld_deed hd5
          have HD := Lib.hid hd5
          clear hd5
          obtain ⟨K, hK⟩ : ∃ K, kindN yk = K := ⟨_, rfl⟩
          have hkd := kindw_any yk (.int .i64 ym) (.slice a len cap) (.slice yka klen ykc) W5
          rw [hK] at hkd
          go_wp2_with fail
          refine hkd.mono ?_
          rintro e W6 ⟨rfl, hb6⟩
          clear hkd ld5
          by_cases h6 : K < 6
          · have hKI : (K : Int) < 6 := by omega
            obtain ⟨hH, hw, htk, hbw, hL, hlen, hlc, hcm, h0, hBy, hb5, _⟩ := HX.out
            have hb56 := bel_lat hb5 hb6
            have ld6 := ld_deed (HD.out.kept (Kept.of_below [] hb6) (by simp))
            have hwr := writes_gen (hH.later hb56) (by omega) (by omega) (by omega) yk (.int .i64 ym) (.slice yka klen ykc) a len cap yl (hL.kept hb56) hlen hlc h0 hcm hBy
            have H6 := Lib.hid (And.intro (hH.later hb56) (And.intro hw (And.intro htk (hbw.trans (hb56.mono hH.size)))))
            clear hH hw htk hbw hL hlen hlc hcm h0 hBy hb5 hb56 hb6 hK h6
            go_wp2_with fail
            refine hwr.mono ?_
            rintro e W7 ⟨er, rfl, hA⟩
            clear hwr ld6
            have hbA : Below W1.heap.size W6 W7 := by
              obtain ⟨_, _, _, _, _, _, h9, _⟩ := hA
              exact h9
            obtain ⟨bv2, D2, t2, c2, s2, txs2, sv2, tv2, vs2, hH2, hw2, ht2⟩ := hA.well H6.out.1 H6.out.2.1 (by split <;> omega)
            have HE := Lib.hid (And.intro hH2 (And.intro hw2 (And.intro ht2 (H6.out.2.2.2.trans hbA))))
            clear hA hbA hH2 hw2 ht2
            go_wp2_with fail
            go_roundw
            case rel => exact ⟨k + 1, by omega, by omega, by go_num, _, _, _, _, _, _, _, _, _, HE.out.1, HE.out.2.1, by have := HE.out.2.2.1; have := H6.out.2.2.1; omega, HE.out.2.2.2⟩
            case measure => simp [intOf]; omega
          · have hKI : ¬ ((K : Int) < 6) := by omega
            have hKd : decide ((K : Int) < 6) = false := decide_eq_false hKI
            obtain ⟨hH, hw, htk, hbw, hL, hlen, hlc, hcm, h0, hBy, hb5, _⟩ := HX.out
            have hb56 := bel_lat hb5 hb6
            have HE := Lib.hid (And.intro (hH.later hb56) (And.intro hw (And.intro htk (hbw.trans (hb56.mono hH.size)))))
            clear hH hw htk hbw hL hlen hlc hcm h0 hBy hb5 hb56 hb6 hK h6
            go_wp2_with fail
            go_roundw
            case rel => exact ⟨k + 1, by omega, by omega, by go_num, _, _, _, _, _, _, _, _, _, HE.out.1, HE.out.2.1, by have := HE.out.2.2.1; omega, HE.out.2.2.2⟩
            case measure => simp [intOf]; omega
      · obtain rfl : k = n := by omega
        have HE := Lib.hid (And.intro hH (And.intro hw (And.intro htk hbw)))
        clear hH hw htk hbw
        go_wp2_with fail
        go_meet
        exact ⟨_, _, _, _, _, _, _, _, _, HE.out.1, HE.out.2.1, by have := HE.out.2.2.1; omega, HE.out.2.2.2⟩
  case rest =>
    obtain ⟨bv, D, t, ch, s, txs, sv, tv, vs, hH, hw, htk, hbw⟩ := hcut
    generalize wc = V at *
    have hdx : Blk V W.heap.size 35 #[.int .i64 xk, .int .i64 xm, .slice xa xlen xc, .slice xka hlen xkc] := (hbw.block _ H2.out.2.2.2.2).trans H2.out.2.2.2.1
    have cx1 : V.cell? ⟨W.heap.size, 1, none⟩ = some (.int .i64 xm) := hdx.cell 1
    have HC := Lib.hid (And.intro hH (And.intro hw (And.intro htk (And.intro hbw hdx))))
    clear hH hw htk hbw hdx
    go_upto_region 14 with (fail)
    go_cut [51] from 45 (fun c51 wd => c51 = .bool false ∧ ∃ D2, Dsk wd W1.heap.size p pb bv D2 ∧ D2.plate = D.plate ∧ D2.rows = D.rows ∧ D2.dead = false ∧ D2.fuse = none ∧ Kept (fp p pb bv) V wd)
    case first =>
      have hz : ∀ z : Int, z ≤ 15 → Calls Try.prog 13 #[.pointer (some ⟨p, 0, none⟩), .int .i64 z] V fun e w' => e = .returned (.int .i64 0) ∧ ∃ D2, Dsk w' W1.heap.size p pb bv D2 ∧ D2.plate = D.plate ∧ D2.rows = D.rows ∧ D2.dead = false ∧ D2.fuse = none ∧ Kept (fp p pb bv) V w' := fun z hz => by
        have hfa := fail_any HC.out.1.disk z (by omega)
        have hdd := HC.out.2.1.dead
        unfold flawedM at hfa
        rw [if_neg (by rw [hdd]; simp)] at hfa
        exact hfa.mono fun e w' ⟨h1, h2, h3⟩ => ⟨h1, _, h2, rfl, rfl, hdd, HC.out.2.1.fuse, h3.kept⟩
      go_wp2_with fail
      all_goals
        refine (hz _ (by omega)).mono ?_
        rintro e wd ⟨rfl, hD2⟩
        have HE := Lib.hid hD2
        clear hz hD2
        go_wp2_with fail
        go_meet
        exact ⟨rfl, HE.out⟩
    case rest =>
      obtain ⟨rfl, D2, hD2, q1, q2, q3, q4, hkd⟩ := hcut
      generalize wc = V2 at *
      obtain ⟨hH, hw, htk, hbw, hdx⟩ := HC.out
      have hH2 : Hale V2 W1.heap.size p pb g 26 12 t ch s txs bv sv tv vs D2 := ⟨hD2, byt_turn hH.byt q1 q2, nod_turn hH.nod q1 q2, hH.nums, fun i hi b hb => hH.per i hi b (poss_turn q1 q2 hb), hH.log.beside hH.disk hkd⟩
      have hdx2 : Blk V2 W.heap.size 35 #[.int .i64 xk, .int .i64 xm, .slice xa xlen xc, .slice xka hlen xkc] := hdx.kept hkd (fun hm => by have := fp_ge hH.disk _ hm; have := H2.out.2.2.2.2; omega)
      have hbd : Below W1.heap.size W2 V2 := hbw.trans (hkd.below (fp_ge hH.disk) hH.size)
      have hbWd : Below W.heap.size W V2 := H2.out.2.2.1.trans (hbd.mono (Nat.le_of_lt H2.out.2.2.2.2))
      have lxd := ld_deed hdx2
      have hwr := writes_gen hH2 (by omega) (by omega) (by omega) xk (.int .i64 xm) (.slice xka hlen xkc) xa xlen xc xb (H0.out.2.2.2.1.kept hbWd) H0.out.2.2.2.2.2.2.2.2.2.2.2.2.2.2.2 H0.out.2.2.2.2.1 H0.out.2.2.2.2.2.2.1 H0.out.2.2.2.2.2.1 H0.out.2.2.2.2.2.2.2.1
      have HD := Lib.hid (And.intro hH2 (And.intro htk (And.intro hbd (And.intro q3 q4))))
      clear hD2 q1 q2 q3 q4 hkd hH hw htk hbw hdx hH2 hdx2 hbd hbWd cx1
      go_wp2_with fail
      refine hwr.mono ?_
      rintro e W7 ⟨er, rfl, hA⟩
      clear hwr lxd
      obtain ⟨bv3, D3, t1, c1, s1, txs1, t2, c2, s2, txs2, hD3, hF3, hfu, hbel, ht1, ht2⟩ := hA.fork HD.out.1 (by have := HD.out.2.1; omega)
      obtain ⟨f3, d3⟩ := hfu HD.out.2.2.2.2
      have hfa := fail_any hD3 (-1) (by omega)
      unfold flawedM at hfa
      rw [if_neg (by rw [d3, HD.out.2.2.2.1]; simp)] at hfa
      have hcd : cdOf (-1) = none := by unfold cdOf; simp
      rw [hcd] at hfa
      have HG := Lib.hid (And.intro hF3 (And.intro f3 (And.intro (d3.trans HD.out.2.2.2.1) (And.intro (HD.out.2.2.1.trans hbel) (And.intro ht1 (And.intro ht2 hD3))))))
      clear hA hD3 hF3 hfu hbel ht1 ht2 f3 d3 hcd
      go_wp2_with fail
      refine hfa.mono ?_
      rintro e W8 ⟨rfl, hD4, hG4⟩
      clear hfa
      have hF4 : Fork 26 12 t1 c1 s1 txs1 t2 c2 s2 txs2 { D3 with flaw := none } := HG.out.1.turn rfl rfl
      have hw4 : ({ D3 with flaw := none } : Dk).Well 26 := ⟨HG.out.2.2.1, HG.out.2.1, rfl, hF4.2.1.len⟩
      have hb8 : Below W1.heap.size W2 W8 := HG.out.2.2.2.1.trans (hG4.kept.below (fp_ge HG.out.2.2.2.2.2.2) (Nat.le_trans HG.out.2.2.2.2.2.2.hp (Nat.le_of_lt HG.out.2.2.2.2.2.2.lt)))
      have hop := open_gen hD4 hF4 (by omega) (Nat.le_trans hD4.hp (Nat.le_of_lt hD4.lt))
      have HI := Lib.hid (And.intro hb8 (And.intro hD4 (And.intro hF4 hw4)))
      clear hb8 hD4 hG4 hF4 hw4
      go_wp2_with fail
      refine hop.mono ?_
      rintro e W9 ⟨bv5, D5, hD5, _, hk5, hb5, hw5, ho⟩
      clear hop
      rcases ho with ⟨_, _, hno, _⟩ | ⟨g2, t3, c3, s3, txs3, sv3, tv3, vs3, rfl, hσ, hd5, hg2, hH5⟩
      · exact absurd HI.out.2.2.2 hno
      have ht3 : t3 ≤ 43 := by
        have := HG.out.2.2.2.2.1
        have := HG.out.2.2.2.2.2.1
        have := HD.out.2.1
        rcases hσ with ⟨rfl, _⟩ | ⟨rfl, _⟩ <;> omega
      have hbr := wbroken_any hH5.log.1
      have hmn := hH5.nums.more
      have hto := told_any hH5.log.lc (by omega) (fun x hx => (hH5.nums.len.2.2 x hx).1)
      have HJ := Lib.hid (And.intro hH5 (And.intro (hw5 HI.out.2.2.2) (And.intro (HI.out.1.trans hb5) (And.intro ht3 hmn))))
      clear hD5 hk5 hb5 hw5 hσ hd5 hg2 hH5 ht3 hmn
      go_wp2_with fail
      refine hbr.mono ?_
      rintro e w9 ⟨rfl, rfl⟩
      clear hbr
      go_wp2_with fail
      refine hto.mono ?_
      rintro e X1 ⟨ov, ovs, rfl, ho, hox, hbx1⟩
      clear hto
      obtain ⟨oa, oc, rfl⟩ := wown_slice ho
      obtain ⟨hH5, hw5, hb9, ht3, hmn⟩ := HJ.out
      obtain ⟨sva, svc, rfl, _, hLs, _⟩ := own_bytes_lies hH5.log.2.1 rfl
      obtain ⟨sl, hsl⟩ : ∃ m, s3.length = m := ⟨_, rfl⟩
      have hsn := wsnap_any (hH5.log.later hbx1).1 (hLs.kept hbx1) rfl hH5.nums.len.1 (fun h9 => by
        subst h9
        rcases hH5.log.2.1.2 with ⟨_, h0⟩ | ⟨q, cap, cur, e1, _⟩
        · exact h0
        · cases e1)
      rw [hsl] at hsn
      obtain ⟨tl, htl⟩ : ∃ m, txs3.length = m := ⟨_, rfl⟩
      rw [htl] at ho
      try rw [htl]
      have HK := Lib.hid (And.intro ho (And.intro hox (And.intro hbx1 (And.intro hsl htl))))
      clear hH5 hw5 hb9 ht3 hmn hLs ho hox hbx1 hsl htl
      go_wp2_with fail
      refine hsn.mono ?_
      rintro e X2 ⟨v, rfl, hown, hbx2⟩
      clear hsn
      obtain ⟨va, vc, rfl⟩ := wown_slice hown
      obtain ⟨X3, hX3⟩ : ∃ X3, X2.alloc (.cells #[.slice va sl vc, .slice oa tl oc] 32) = X3 := ⟨_, rfl⟩
      have S3 := st_things_new X2 (y0 := .slice va sl vc) (y1 := .slice oa tl oc) rfl rfl
      rw [hX3] at S3
      have hbx3 : Below X2.heap.size X2 X3 := by rw [← hX3]; exact (Below.refl _ _).alloc (Nat.le_refl _) _
      have hq3 : Blk X3 X2.heap.size 32 #[.slice va sl vc, .slice oa tl oc] := by rw [← hX3]; exact Blk.new _ _ _
      obtain ⟨hH5, hw5, hb9, ht3, hmn⟩ := HJ.out
      obtain ⟨ho, hox, hbx1, hsl, htl⟩ := HK.out
      have hbx : Below W9.heap.size W9 X3 := bel_lat (bel_lat hbx1 hbx2) hbx3
      have hNow : Now X3 W9.heap.size X2.heap.size s3 txs3 (.slice va sl vc) (.slice oa tl oc) ovs := by
        refine ⟨hq3, ?_, ?_, Txs.imp (fun v l h => owns_later2 h (bel_lat hbx2 hbx3)) hox⟩
        · rw [hsl]; exact own_base (owns_later2 hown hbx3) hbx1.size
        · rw [htl]; exact owns_later2 ho (bel_lat hbx2 hbx3)
      have HN := Lib.hid (And.intro (hH5.later hbx) (And.intro hw5 (And.intro (hb9.trans (hbx.mono hH5.size)) (And.intro ht3 hNow))))
      clear hH5 hw5 hb9 ht3 hmn ho hox hbx1 hsl htl hbx2 hbx3 hq3 hbx hNow hown
      go_upto_region 24 with (fail)
      clear S3 hX3
      go_cut [89] from 78 (fun c89 wd => c89 = .bool false ∧ ∃ kz, Dsk wd W1.heap.size p pb (.slice none 0 0) (crashM D5 kz) ∧ Kept (fp p pb bv5) X3 wd)
      case first =>
        obtain ⟨hkk, hkl, hkc, hkm⟩ := H0.out.2.2.2.2.2.2.2.2.2
        have hkc := hkc
        have hbWX : Below W.heap.size W X3 := H2.out.2.2.1.trans (HN.out.2.2.1.mono (Nat.le_of_lt H2.out.2.2.2.2))
        have hcr : ∀ ms : List Bool, (∃ m, ms = ks.take m) → Calls Try.prog 16 #[.pointer (some ⟨p, 0, none⟩), .slice ka ms.length kc] X3 fun e w' => e = .returned (.int .i64 0) ∧ ∃ kz, Dsk w' W1.heap.size p pb (.slice none 0 0) (crashM D5 kz) ∧ Kept (fp p pb bv5) X3 w' := fun ms hms => by
          obtain ⟨m, rfl⟩ := hms
          refine (crash_any2 HN.out.1.disk ka kc (ks.take m) (bools_take (bools_later hkk hbWX) m) (fun hne b off hb hm => ?_) (by rw [List.length_take]; omega)).mono fun e w' ⟨h1, h2, h3⟩ => ⟨h1, _, h2, h3.kept⟩
          rcases hkk with h9 | ⟨b2, o2, h9, h8, _⟩
          · exact hne (by rw [h9]; simp)
          · rw [h9] at hb
            have hb := Option.some.inj hb
            have : b2 = b := congrArg Addr.block hb
            have := fp_ge HN.out.1.disk _ hm
            have := H2.out.2.2.2.2
            omega
        by_cases h30 : kl ≤ 30
        · have hcr := hcr ks ⟨kl, by rw [List.take_of_length_le (by omega)]⟩
          rw [hkl] at hcr
          have i1 : (kl : Int) ≤ 30 := by omega
          have i2 : ¬ (30 : Int) < (kl : Int) := by omega
          have i3 : (kl : Int) ≤ (kc : Int) := by omega
          clear hkk hkl hkc hkm hbWX
          go_wp2_with fail
          refine hcr.mono ?_
          rintro e wd ⟨rfl, hE⟩
          have HE := Lib.hid hE
          clear hcr hE
          go_wp2_with fail
          go_meet
          exact ⟨rfl, HE.out⟩
        · have hcr := hcr (ks.take 30) ⟨30, rfl⟩
          rw [show (ks.take 30).length = 30 by rw [List.length_take]; omega] at hcr
          have i1 : ¬ (kl : Int) ≤ 30 := by omega
          have i2 : (30 : Int) < (kl : Int) := by omega
          have i3 : (30 : Int) ≤ (kc : Int) := by omega
          have i4 : (30 : Int) ≤ (kl : Int) := by omega
          clear hkk hkl hkc hkm hbWX
          go_wp2_with fail
          refine hcr.mono ?_
          rintro e wd ⟨rfl, hE⟩
          have HE := Lib.hid hE
          clear hcr hE
          go_wp2_with fail
          go_meet
          exact ⟨rfl, HE.out⟩
      case rest =>
        obtain ⟨rfl, kz, hD6, hkc⟩ := hcut
        obtain ⟨hH5, hw5, hb5, ht3, hNow⟩ := HN.out
        obtain ⟨hF6, hw6⟩ := (hH5.fork (by omega)).crash kz
        have hNow6 := hNow.disk hH5.disk hkc
        have hLn6 := hH5.log.beside hH5.disk hkc
        have hb6 : Below W1.heap.size W2 wc := hb5.trans (hkc.below (fp_ge hH5.disk) hH5.size)
        have hop2 := open_gen hD6 hF6 (by omega) (Nat.le_trans hD6.hp (Nat.le_of_lt hD6.lt))
        have HP := Lib.hid (And.intro hD6 (And.intro hNow6 (And.intro hLn6 (And.intro hb6 (And.intro hw6 ht3)))))
        clear hD6 hkc hH5 hw5 hb5 ht3 hNow hF6 hw6 hNow6 hLn6 hb6
        go_wp2_with fail
        refine hop2.mono ?_
        rintro e X4 ⟨bv7, D7, hD7, hD7e, hk7, hb7, hw7, ho⟩
        clear hop2
        rcases ho with ⟨_, _, hno, _⟩ | ⟨g3, t4, c4, s4, txs4, sv4, tv4, vs4, rfl, hσ, hd7, hg7, hH7⟩
        · exact absurd HP.out.2.2.2.2.1 hno
        obtain ⟨e1, e2, e3, e4⟩ : t4 = t3 ∧ c4 = c3 ∧ s4 = s3 ∧ txs4 = txs3 := by rcases hσ with h | h <;> exact h
        subst e1
        subst e2
        subst e3
        subst e4
        obtain ⟨hD6, hNow6, hLn6, hb6, hw6, ht3⟩ := HP.out
        have hNow7 := hNow6.disk hD6 hk7
        have hLn7 := hLn6.beside hD6 hk7
        have hoc := ops_any hH7.disk
        have lt7 := ld_things hNow7.1
        have har := are_any hH7.log.lc hH7.logf hNow7.2.1 hNow7.2.2.1 hNow7.2.2.2
        have HQ := Lib.hid (And.intro hH7 (And.intro (hw7 hw6) (And.intro hNow7 (And.intro hLn7 (And.intro (hb6.trans hb7) ht3)))))
        clear hD6 hNow6 hLn6 hb6 hw6 ht3 hD7 hk7 hb7 hw7 hσ hd7 hg7 hH7 hNow7 hLn7 hD7e
        obtain ⟨O7, hO7⟩ : ∃ O7, D7.ops = O7 := ⟨_, rfl⟩
        rw [hO7] at hoc
        go_wp2_with fail
        refine hoc.mono ?_
        rintro e w9 ⟨rfl, rfl⟩
        clear hoc
        go_wp2_with fail
        refine har.mono ?_
        rintro e X5 ⟨rfl, hbx5⟩
        clear har lt7
        obtain ⟨hH7, hw7, hNow7, hLn7, hb7, ht3⟩ := HQ.out
        have hta := wturn_any (hH7.log.later hbx5).1
        have htn := wturn_any (hLn7.later hbx5).1
        have hop3 := open_gen (hH7.disk.later hbx5) (hH7.fork (by omega)) (by omega) (Nat.le_trans hH7.size hbx5.size)
        have hops := open_ops hw7 hH7.nod (by omega) hH7.logf
        have HR := Lib.hid (And.intro (hH7.later hbx5) (And.intro hw7 (And.intro (hNow7.later hbx5) (And.intro (hLn7.later hbx5) (And.intro (hb7.trans (hbx5.mono hH7.size)) hops)))))
        clear hH7 hw7 hNow7 hLn7 hb7 ht3 hops hbx5
        go_wp2_with fail
        refine hta.mono ?_
        rintro e w9 ⟨rfl, rfl⟩
        clear hta
        go_wp2_with fail
        refine htn.mono ?_
        rintro e w9 ⟨rfl, rfl⟩
        clear htn
        go_wp2_with fail
        refine hop3.mono ?_
        rintro e X6 ⟨bv8, D8, hD8, hD8e, hk8, hb8, hw8, ho⟩
        clear hop3
        rcases ho with ⟨_, _, hno, _⟩ | ⟨g4, t5, c5, s5, txs5, sv5, tv5, vs5, rfl, hσ, hd8, hg8, hH8⟩
        · exact absurd HR.out.2.1 hno
        obtain ⟨e1, e2, e3, e4⟩ : t5 = t4 ∧ c5 = c4 ∧ s5 = s4 ∧ txs5 = txs4 := by rcases hσ with h | h <;> exact h
        subst e1
        subst e2
        subst e3
        subst e4
        obtain ⟨hH7, hw7, hNow7, hLn7, hb7, hops⟩ := HR.out
        have hNow8 := hNow7.disk hH7.disk hk8
        have hLn8 := hLn7.beside hH7.disk hk8
        have lt8 := ld_things hNow8.1
        have har8 := are_any hH8.log.lc hH8.logf hNow8.2.1 hNow8.2.2.1 hNow8.2.2.2
        obtain ⟨O8, hO8⟩ : ∃ O8, D8.ops = O8 := ⟨_, rfl⟩
        have hO : wrap64 (wrap64 (wrap64 (O7 + 2) + 24) + 1) = O8 := by
          rw [← hO8, hD8e, hops, hO7]
          generalize O7 = o
          unfold wrap64
          omega
        have HS := Lib.hid (And.intro hH8 (And.intro hLn8 (And.intro hO8 (H2.out.2.2.1.trans ((hb7.trans hb8).mono (Nat.le_of_lt H2.out.2.2.2.2))))))
        clear hH7 hw7 hNow7 hLn7 hb7 hops hNow8 hLn8 hO8 hO7 hD8 hD8e hk8 hb8 hw8 hσ hd8 hg8 hH8
        go_wp2_with fail
        refine har8.mono ?_
        rintro e Y1 ⟨rfl, hb1⟩
        clear har8 lt8
        obtain ⟨hH8, hLn8, hO8, hbf⟩ := HS.out
        have hta := wturn_any (hH8.log.later hb1).1
        have htn := wturn_any (hLn8.later hb1).1
        have hoc := ops_any (hH8.disk.later hb1)
        rw [hO8] at hoc
        have HF := Lib.hid (bel_lat hbf hb1)
        clear hH8 hLn8 hO8 hbf hb1
        go_wp2_with fail
        refine hta.mono ?_
        rintro e w9 ⟨rfl, rfl⟩
        clear hta
        go_wp2_with fail
        refine htn.mono ?_
        rintro e w9 ⟨rfl, rfl⟩
        clear htn
        go_wp2_with fail
        refine hoc.mono ?_
        rintro e w9 ⟨rfl, rfl⟩
        clear hoc
        go_wp2_with fail
        go_ret
        exact ⟨rfl, HF.out⟩
end Go.Proofs.Ytelpihlifdfgoaa
