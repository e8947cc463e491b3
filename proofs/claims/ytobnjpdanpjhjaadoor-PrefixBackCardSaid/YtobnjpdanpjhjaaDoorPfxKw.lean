/-
  The walk of PrefixBack. Nothing here is a statement of the document.
-/
import Derived.Test.YtobnjpdanpjhjaaDoorPfxYw
import Derived.Test.YtobnjpdanpjhjaaDoorOctJ
namespace Go.Proofs.YtobnjpdanpjhjaaDoor
open Go.RowKit Go.Shelf
set_option linter.unusedVariables false
attribute [local go_sem ↓] load_b16_rule store_b16_rule load_ad_rule store_ad_rule load_px_rule store_px_rule eq_b16_rule eq_ad_rule eq_px_rule build_ad_rule build_px_rule build_b16_rule

theorem encP_bys {p : Px} (h : okP p) : Bys (encP p) := by
  have hv := wid_cases h.1.1
  have hn := okP_le h
  exact (bys_two (by omega) (by omega)).append2 (p.a.b.bys.take2 _)

theorem lies_take {w : World} {a : Option Addr} {l : List Nat} (h : Lies w a l) (k : Nat) : Lies w a (l.take k) := by
  rcases h with rfl | ⟨b, off, rfl, hb, hc⟩
  · exact .inl (by simp)
  · refine .inr ⟨b, off, rfl, hb, fun i hi => ?_⟩
    rw [List.length_take] at hi
    rw [hc i (by omega)]
    have : i < k := by omega
    simp [List.getElem?_take, this]

set_option maxRecDepth 100000 in
set_option maxHeartbeats 1600000 in
theorem back_walk (p : Px) (_fp : (Lit.int .i64 p.n).wf = true) (_gp : (Lit.int .i64 p.a.v).wf = true) (n : Int) (_fi : (Lit.int .i64 n).wf = true) (ra : Option Addr) (len cap : Nat) (zs : List Int) {w : World} (hz : IsRow .u8 w ra len cap zs) (hW : Wid w) :
    Calls Tryd.prog 3 #[.agg p.cs, .int .i64 n, .slice ra len cap] w fun e w' => e = .returned (.bool true) ∧ Below w.heap.size w w' := by
  clear _fp _gp
  obtain ⟨L, hl, _, hL, hB⟩ := hz.bytes
  obtain ⟨hcap, hcm, hcn⟩ := row_cap hz
  clear hz
  subst hl
  obtain ⟨W1, hW1⟩ : ∃ W1, w.alloc (.cells p.cs 26) = W1 := ⟨_, rfl⟩
  have hb1 : Below w.heap.size w W1 := by rw [← hW1]; exact ((Below.refl w.heap.size w).alloc (Nat.le_refl _) _)
  have b1 : Blk W1 (w.heap.size) 26 p.cs := by
    have h9 := Blk.new w 26 p.cs
    rw [← hW1]; exact h9
  have LPp := px_p b1
  have LAp := px_a b1
  have LBp := px_b b1
  have LVp := px_v b1
  have LNp := px_n b1
  have HW : ∀ w', Below W1.heap.size W1 w' → Wid w' := fun w' h => (hW.later hb1).later h
  have HWK := fun w' h => wakes_any w' (HW w' h)
  have h0 : Below W1.heap.size W1 W1 := Below.refl _ _
  have HB := Lib.hid hb1
  clear hb1 b1
  have LD := bel_drew_all W1
  have LE := bel_alloc_all W1
  have HLL := Lib.hid (And.intro hB (fun w' (h : Below W1.heap.size W1 w') => hL.kept (bel_trans HB.out h)))
  clear hL hB
  by_cases hbig : 1000 < L.length
  · have d1 : decide ((1000 : Int) < (L.length : Int)) = true := decide_eq_true (by omega)
    have d1' : decide (1000 < L.length) = true := decide_eq_true hbig
    go_enter Tryd.func3, Tryd.ntmps3
    go_wp2_with (first | (go_at_call 4; refine (HWK _ (by assumption)).mono ?_; rintro e w2 ⟨rfl, hb2⟩; have hk2 : Below W1.heap.size W1 w2 := bel_trans (by assumption) hb2; clear hb2))
    go_ret
    exact ⟨rfl, bel_trans HB.out (by assumption)⟩
  · have d1 : decide ((1000 : Int) < (L.length : Int)) = false := decide_eq_false (by omega)
    have d1' : decide (1000 < L.length) = false := decide_eq_false hbig
    go_enter Tryd.func3, Tryd.ntmps3
    go_wp2_with (first | (go_at_call 4; refine (HWK _ (by assumption)).mono ?_; rintro e w2 ⟨rfl, hb2⟩; have hk2 : Below W1.heap.size W1 w2 := bel_trans (by assumption) hb2; clear hb2))
    have HD := decode_any ra cap L w2 (HW _ hk2) HLL.out.1 (by omega) hcap hcm (HLL.out.2 _ hk2)
    by_cases hE : decPE L = 0
    · obtain ⟨hok, henc, hle⟩ := enc_dec HLL.out.1 hE
      rw [hE] at HD
      refine HD.mono ?_
      rintro e w5 ⟨rfl, hb5⟩
      have h5 : Below W1.heap.size W1 w5 := bel_trans hk2 hb5
      have Sw6 := st_px (q := decPX L) (Blk.new w5 26 Px.zero.cs)
      rw [World.setRow_alloc_new] at Sw6
      obtain ⟨w6, hww6⟩ : ∃ x, w5.alloc (.cells (decPX L).cs 26) = x := ⟨_, rfl⟩
      rw [hww6] at Sw6
      have bw6 : Blk w6 w5.heap.size 26 (decPX L).cs := by rw [← hww6]; exact Blk.new _ _ _
      have hbw6 : Below w5.heap.size w5 w6 := by rw [← hww6]; exact (Below.refl _ _).alloc (Nat.le_refl _) _
      have h6 : Below W1.heap.size W1 w6 := bel_trans h5 hbw6
      have LX := px_p bw6
      have HEX := encode_any (decPX L) w6 (HW _ h6)
      rw [eP_ok hok, henc] at HEX
      have h06 : Below w6.heap.size w6 w6 := Below.refl _ _
      go_wp2_with (first | (with_reducible refine wpList_alloc_z rfl 26 rfl Px.zero.cs 18 z_px ?_))
      refine HEX.mono ?_
      rintro e w7 ⟨v, rfl, hg, _, hb7⟩
      obtain ⟨va, vcap, rfl, vL, vc, vcm, _⟩ := own_lies (hg hok)
      have hlN : (L.take (decPN L)).length = decPN L := by rw [List.length_take]; omega
      have h7 : Below W1.heap.size W1 w7 := bel_trans h6 hb7
      rcases HLL.out.2 _ h7 with hn | ⟨b, off, rfl, hbl, hc⟩
      · rw [hn] at hE; exact absurd hE (by unfold decPE; decide)
      have rL : Lies w7 (some ⟨b, off, none⟩) (L.take (decPN L)) := .inr ⟨b, off, rfl, hbl, fun i hi => by
        have := hc i (by rw [hlN] at hi; omega)
        rw [this]
        rw [hlN] at hi
        simp [List.getElem?_take, hi]⟩
      have HQ := bequal_any va (some ⟨b, off, none⟩) (decPN L) vcap (decPN L) cap _ _ w7 hlN hlN (HLL.out.1.take2 _) (HLL.out.1.take2 _) vL rL
      rw [show (L.take (decPN L) == L.take (decPN L)) = true by simp] at HQ
      rw [hlN]
      have q1 : decide ((L.length : Int) < ((decPN L : Nat) : Int)) = false := decide_eq_false (by omega)
      have q2 : decide (L.length < decPN L) = false := decide_eq_false (by omega)
      have q3 : ((decPN L : Nat) : Int) ≤ (cap : Int) := by omega
      clear HEX hg vL rL hc hE henc hok
      generalize decPN L = N at *
      go_wp2_with fail
      refine HQ.mono ?_
      rintro e w8 ⟨rfl, rfl⟩
      go_wp2_with fail
      have HEP := encode_any p w7 (HW _ h7)
      by_cases hP : okP p
      · rw [eP_ok hP] at HEP
        refine HEP.mono ?_
        rintro e w14 ⟨v, rfl, pg, _, hb14⟩
        obtain ⟨pa, pcap, rfl, pL, pc, pcm, pnn⟩ := own_lies (pg hP)
        have h14 : Below W1.heap.size W1 w14 := bel_trans h7 hb14
        have pl := encP_len hP
        have pf := f16 (show p.n.toNat ≤ 128 by have := okP_le hP; omega)
        have hD1 := dec_enc hP L
        have hD2 := dec_short hP
        have pB := encP_bys hP
        have LPR := fun w' (h : Below W1.heap.size W1 w') => LPp w' h
        generalize encP p = m at *
        have pl2 : 2 ≤ m.length ∧ m.length ≤ 18 := by omega
        have hpn : pa = none → pcap = 0 := fun h => by have := pnn h; rw [this] at pl2; simp at pl2
        have pL2 := fun w' (h : Below w14.heap.size w14 w') => pL.kept h
        have h0w : Below w14.heap.size w14 w14 := Below.refl _ _
        clear pl pf pg pnn HEP
        go_wp2_with (first | (at_builtin; refine wpList_append_got rfl _ _ rfl _ _ 0 [] rfl (own0 _) _ pcap m rfl (pL2 _ (h0w.alloc (Nat.le_refl _) _)) hpn (by omega) (by simp) ?_))
        intro v20 w20 own20 grow20
        have b20 : Below w14.heap.size w14 w20 := (h0w.alloc (Nat.le_refl _) _).grown grow20 (by simp) (fun j hj => ((own0 w14).lt j hj).1)
        go_wp2_with (first | (at_builtin; refine wpList_append_got rfl _ _ rfl w14.heap.size _ _ _ rfl own20 (some ⟨b, off, none⟩) cap L rfl (HLL.out.2 _ (bel_trans h14 b20)) (fun h => by first | exact hcn h | cases h) (by omega) b20.size ?_))
        intro v21 w21 own21 grow21
        have b21 : Below w14.heap.size w14 w21 := b20.grown grow21 (by have := b20.size; omega) (fun j hj => (own20.lt j hj).1)
        have hml : (m ++ L).length = m.length + L.length := List.length_append
        obtain ⟨ma, mcap, rfl, mL, mc, mcm, _⟩ := own_lies (l := m ++ L) (by rw [hml]; simpa using own21)
        clear own20 own21 grow20 grow21
        have h21 : Below W1.heap.size W1 w21 := bel_trans h14 b21
        have HD3 := decode_any ma mcap (m ++ L) w21 (HW _ h21) (pB.append2 HLL.out.1) (by omega) mc mcm mL
        rw [hD1.1, hD1.2.1, hD1.2.2, hml] at HD3
        clear hml hD1 mL
        go_wp2_with fail
        refine HD3.mono ?_
        rintro e w22 ⟨rfl, hb22⟩
        have h22 : Below W1.heap.size W1 w22 := bel_trans h21 hb22
        have Sw23 := st_px (q := p) (Blk.new w22 26 Px.zero.cs)
        rw [World.setRow_alloc_new] at Sw23
        obtain ⟨w23, hww23⟩ : ∃ x, w22.alloc (.cells (p).cs 26) = x := ⟨_, rfl⟩
        rw [hww23] at Sw23
        have bw23 : Blk w23 w22.heap.size 26 (p).cs := by rw [← hww23]; exact Blk.new _ _ _
        have hbw23 : Below w22.heap.size w22 w23 := by rw [← hww23]; exact (Below.refl _ _).alloc (Nat.le_refl _) _
        have h23 : Below W1.heap.size W1 w23 := bel_trans h22 hbw23
        have h023 : Below w23.heap.size w23 w23 := Below.refl _ _
        obtain ⟨k, hkl, hk0, hk1⟩ : ∃ k : Nat, k < m.length ∧ (n < 0 → k = 0) ∧ (0 ≤ n → n % (m.length : Int) = (k : Int)) := by
          have hmp : (0 : Int) < (m.length : Int) := by omega
          by_cases h9 : 0 ≤ n
          · have a1 := Int.emod_nonneg n (show (m.length : Int) ≠ 0 by omega)
            have a2 := Int.emod_lt_of_pos n hmp
            exact ⟨(n % (m.length : Int)).toNat, by omega, by omega, fun _ => by omega⟩
          · exact ⟨0, by omega, fun _ => rfl, by omega⟩
        have hkt : (m.take k).length = k := by rw [List.length_take]; omega
        have HD4 := decode_any pa pcap (m.take k) w23 (HW _ h23) (pB.take2 _) (by omega) (by omega) pcm (lies_take (pL2 _ (bel_trans b21 (bel_trans hb22 hbw23))) k)
        rw [hkt, hD2 k hkl] at HD4
        generalize decPX (m.take k) = X at HD4
        generalize decPN (m.take k) = Y at HD4
        have EQ2 := eqP p p
        rw [decide_eq_true rfl] at EQ2
        have hkp : k ≤ pcap := by omega
        have hpp : 0 ≤ pcap := by omega
        have hm1 : (m.length : Int) ≤ 18 := by omega
        clear HD3 HD HQ hkt pc mc pcm mcm hlN hle vc q1 q2 q3 hD2
        by_cases h9 : n < 0
        · obtain rfl := hk0 h9
          clear hk0 hk1
          go_wp2_with (first | (with_reducible refine wpList_alloc_z rfl 26 rfl Px.zero.cs 18 z_px ?_))
          refine HD4.mono ?_
          rintro e w24 ⟨rfl, hb24⟩
          have h24 : Below w23.heap.size w23 w24 := hb24
          clear HD4
          have Sw25 := st_px (q := X) (Blk.new w24 26 Px.zero.cs)
          rw [World.setRow_alloc_new] at Sw25
          obtain ⟨w25, hww25⟩ : ∃ x, w24.alloc (.cells X.cs 26) = x := ⟨_, rfl⟩
          rw [hww25] at Sw25
          have hbw25 : Below w24.heap.size w24 w25 := by rw [← hww25]; exact (Below.refl _ _).alloc (Nat.le_refl _) _
          have L3 := px_p (bw23.later (bel_trans h24 hbw25))
          have h025 : Below w25.heap.size w25 w25 := Below.refl _ _
          have h25 : Below W1.heap.size W1 w25 := bel_trans h23 (bel_trans h24 hbw25)
          go_wp2_with (first | (with_reducible refine wpList_alloc_z rfl 26 rfl Px.zero.cs 18 z_px ?_))
          go_ret
          exact ⟨rfl, bel_trans HB.out h25⟩
        · have h9 : 0 ≤ n := by omega
          have hk2 := hk1 h9
          clear hk0 hk1
          go_wp2_with (first | (with_reducible refine wpList_alloc_z rfl 26 rfl Px.zero.cs 18 z_px ?_))
          refine HD4.mono ?_
          rintro e w24 ⟨rfl, hb24⟩
          have h24 : Below w23.heap.size w23 w24 := hb24
          clear HD4
          have Sw25 := st_px (q := X) (Blk.new w24 26 Px.zero.cs)
          rw [World.setRow_alloc_new] at Sw25
          obtain ⟨w25, hww25⟩ : ∃ x, w24.alloc (.cells X.cs 26) = x := ⟨_, rfl⟩
          rw [hww25] at Sw25
          have hbw25 : Below w24.heap.size w24 w25 := by rw [← hww25]; exact (Below.refl _ _).alloc (Nat.le_refl _) _
          have L3 := px_p (bw23.later (bel_trans h24 hbw25))
          have h025 : Below w25.heap.size w25 w25 := Below.refl _ _
          have h25 : Below W1.heap.size W1 w25 := bel_trans h23 (bel_trans h24 hbw25)
          go_wp2_with (first | (with_reducible refine wpList_alloc_z rfl 26 rfl Px.zero.cs 18 z_px ?_))
          go_ret
          exact ⟨rfl, bel_trans HB.out h25⟩
      · rw [eP_no hP] at HEP
        refine HEP.mono ?_
        rintro e w14 ⟨v, rfl, _, png, hb14⟩
        obtain rfl := png hP
        clear png HEP
        go_wp2_with fail
        go_ret
        exact ⟨rfl, bel_trans HB.out (bel_trans h7 hb14)⟩
    · have q0 : (decPE L == 0) = false := by simpa using hE
      have q00 : decide (decPE L = 0) = false := by simpa using hE
      clear hE
      generalize decPE L = E at *
      refine HD.mono ?_
      rintro e w5 ⟨rfl, hb5⟩
      have h5 : Below W1.heap.size W1 w5 := bel_trans hk2 hb5
      have Sw6 := st_px (q := decPX L) (Blk.new w5 26 Px.zero.cs)
      rw [World.setRow_alloc_new] at Sw6
      obtain ⟨w6, hww6⟩ : ∃ x, w5.alloc (.cells (decPX L).cs 26) = x := ⟨_, rfl⟩
      rw [hww6] at Sw6
      have hbw6 : Below w5.heap.size w5 w6 := by rw [← hww6]; exact (Below.refl _ _).alloc (Nat.le_refl _) _
      have h6 : Below W1.heap.size W1 w6 := bel_trans h5 hbw6
      go_wp2_with (first | (with_reducible refine wpList_alloc_z rfl 26 rfl Px.zero.cs 18 z_px ?_))
      have HEP := encode_any p w6 (HW _ h6)
      by_cases hP : okP p
      · rw [eP_ok hP] at HEP
        refine HEP.mono ?_
        rintro e w14 ⟨v, rfl, pg, _, hb14⟩
        obtain ⟨pa, pcap, rfl, pL, pc, pcm, pnn⟩ := own_lies (pg hP)
        have h14 : Below W1.heap.size W1 w14 := bel_trans h6 hb14
        have pl := encP_len hP
        have pf := f16 (show p.n.toNat ≤ 128 by have := okP_le hP; omega)
        have hD1 := dec_enc hP L
        have hD2 := dec_short hP
        have pB := encP_bys hP
        have LPR := fun w' (h : Below W1.heap.size W1 w') => LPp w' h
        generalize encP p = m at *
        have pl2 : 2 ≤ m.length ∧ m.length ≤ 18 := by omega
        have hpn : pa = none → pcap = 0 := fun h => by have := pnn h; rw [this] at pl2; simp at pl2
        have pL2 := fun w' (h : Below w14.heap.size w14 w') => pL.kept h
        have h0w : Below w14.heap.size w14 w14 := Below.refl _ _
        clear pl pf pg pnn HEP
        go_wp2_with (first | (at_builtin; refine wpList_append_got rfl _ _ rfl _ _ 0 [] rfl (own0 _) _ pcap m rfl (pL2 _ (h0w.alloc (Nat.le_refl _) _)) hpn (by omega) (by simp) ?_))
        intro v20 w20 own20 grow20
        have b20 : Below w14.heap.size w14 w20 := (h0w.alloc (Nat.le_refl _) _).grown grow20 (by simp) (fun j hj => ((own0 w14).lt j hj).1)
        go_wp2_with (first | (at_builtin; refine wpList_append_got rfl _ _ rfl w14.heap.size _ _ _ rfl own20 ra cap L rfl (HLL.out.2 _ (bel_trans h14 b20)) (fun h => by first | exact hcn h | cases h) (by omega) b20.size ?_))
        intro v21 w21 own21 grow21
        have b21 : Below w14.heap.size w14 w21 := b20.grown grow21 (by have := b20.size; omega) (fun j hj => (own20.lt j hj).1)
        have hml : (m ++ L).length = m.length + L.length := List.length_append
        obtain ⟨ma, mcap, rfl, mL, mc, mcm, _⟩ := own_lies (l := m ++ L) (by rw [hml]; simpa using own21)
        clear own20 own21 grow20 grow21
        have h21 : Below W1.heap.size W1 w21 := bel_trans h14 b21
        have HD3 := decode_any ma mcap (m ++ L) w21 (HW _ h21) (pB.append2 HLL.out.1) (by omega) mc mcm mL
        rw [hD1.1, hD1.2.1, hD1.2.2, hml] at HD3
        clear hml hD1 mL
        go_wp2_with fail
        refine HD3.mono ?_
        rintro e w22 ⟨rfl, hb22⟩
        have h22 : Below W1.heap.size W1 w22 := bel_trans h21 hb22
        have Sw23 := st_px (q := p) (Blk.new w22 26 Px.zero.cs)
        rw [World.setRow_alloc_new] at Sw23
        obtain ⟨w23, hww23⟩ : ∃ x, w22.alloc (.cells (p).cs 26) = x := ⟨_, rfl⟩
        rw [hww23] at Sw23
        have bw23 : Blk w23 w22.heap.size 26 (p).cs := by rw [← hww23]; exact Blk.new _ _ _
        have hbw23 : Below w22.heap.size w22 w23 := by rw [← hww23]; exact (Below.refl _ _).alloc (Nat.le_refl _) _
        have h23 : Below W1.heap.size W1 w23 := bel_trans h22 hbw23
        have h023 : Below w23.heap.size w23 w23 := Below.refl _ _
        obtain ⟨k, hkl, hk0, hk1⟩ : ∃ k : Nat, k < m.length ∧ (n < 0 → k = 0) ∧ (0 ≤ n → n % (m.length : Int) = (k : Int)) := by
          have hmp : (0 : Int) < (m.length : Int) := by omega
          by_cases h9 : 0 ≤ n
          · have a1 := Int.emod_nonneg n (show (m.length : Int) ≠ 0 by omega)
            have a2 := Int.emod_lt_of_pos n hmp
            exact ⟨(n % (m.length : Int)).toNat, by omega, by omega, fun _ => by omega⟩
          · exact ⟨0, by omega, fun _ => rfl, by omega⟩
        have hkt : (m.take k).length = k := by rw [List.length_take]; omega
        have HD4 := decode_any pa pcap (m.take k) w23 (HW _ h23) (pB.take2 _) (by omega) (by omega) pcm (lies_take (pL2 _ (bel_trans b21 (bel_trans hb22 hbw23))) k)
        rw [hkt, hD2 k hkl] at HD4
        generalize decPX (m.take k) = X at HD4
        generalize decPN (m.take k) = Y at HD4
        have EQ2 := eqP p p
        rw [decide_eq_true rfl] at EQ2
        have hkp : k ≤ pcap := by omega
        have hpp : 0 ≤ pcap := by omega
        have hm1 : (m.length : Int) ≤ 18 := by omega
        clear HD3 HD hkt pc mc pcm mcm q0 q00 hD2
        by_cases h9 : n < 0
        · obtain rfl := hk0 h9
          clear hk0 hk1
          go_wp2_with (first | (with_reducible refine wpList_alloc_z rfl 26 rfl Px.zero.cs 18 z_px ?_))
          refine HD4.mono ?_
          rintro e w24 ⟨rfl, hb24⟩
          have h24 : Below w23.heap.size w23 w24 := hb24
          clear HD4
          have Sw25 := st_px (q := X) (Blk.new w24 26 Px.zero.cs)
          rw [World.setRow_alloc_new] at Sw25
          obtain ⟨w25, hww25⟩ : ∃ x, w24.alloc (.cells X.cs 26) = x := ⟨_, rfl⟩
          rw [hww25] at Sw25
          have hbw25 : Below w24.heap.size w24 w25 := by rw [← hww25]; exact (Below.refl _ _).alloc (Nat.le_refl _) _
          have L3 := px_p (bw23.later (bel_trans h24 hbw25))
          have h025 : Below w25.heap.size w25 w25 := Below.refl _ _
          have h25 : Below W1.heap.size W1 w25 := bel_trans h23 (bel_trans h24 hbw25)
          go_wp2_with (first | (with_reducible refine wpList_alloc_z rfl 26 rfl Px.zero.cs 18 z_px ?_))
          go_ret
          exact ⟨rfl, bel_trans HB.out h25⟩
        · have h9 : 0 ≤ n := by omega
          have hk2 := hk1 h9
          clear hk0 hk1
          go_wp2_with (first | (with_reducible refine wpList_alloc_z rfl 26 rfl Px.zero.cs 18 z_px ?_))
          refine HD4.mono ?_
          rintro e w24 ⟨rfl, hb24⟩
          have h24 : Below w23.heap.size w23 w24 := hb24
          clear HD4
          have Sw25 := st_px (q := X) (Blk.new w24 26 Px.zero.cs)
          rw [World.setRow_alloc_new] at Sw25
          obtain ⟨w25, hww25⟩ : ∃ x, w24.alloc (.cells X.cs 26) = x := ⟨_, rfl⟩
          rw [hww25] at Sw25
          have hbw25 : Below w24.heap.size w24 w25 := by rw [← hww25]; exact (Below.refl _ _).alloc (Nat.le_refl _) _
          have L3 := px_p (bw23.later (bel_trans h24 hbw25))
          have h025 : Below w25.heap.size w25 w25 := Below.refl _ _
          have h25 : Below W1.heap.size W1 w25 := bel_trans h23 (bel_trans h24 hbw25)
          go_wp2_with (first | (with_reducible refine wpList_alloc_z rfl 26 rfl Px.zero.cs 18 z_px ?_))
          go_ret
          exact ⟨rfl, bel_trans HB.out h25⟩
      · rw [eP_no hP] at HEP
        refine HEP.mono ?_
        rintro e w14 ⟨v, rfl, _, png, hb14⟩
        obtain rfl := png hP
        clear png HEP
        go_wp2_with fail
        go_ret
        exact ⟨rfl, bel_trans HB.out (bel_trans h6 hb14)⟩
end Go.Proofs.YtobnjpdanpjhjaaDoor
