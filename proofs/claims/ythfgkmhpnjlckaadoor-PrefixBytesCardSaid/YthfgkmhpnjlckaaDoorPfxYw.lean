/-
  The walk of PrefixBytes. Nothing here is a statement of the document.
-/
import Derived.Test.YthfgkmhpnjlckaaDoorPfxU
import Derived.Test.YthfgkmhpnjlckaaDoorOctF
import Derived.Test.YthfgkmhpnjlckaaDoorOctH
import Derived.Test.YthfgkmhpnjlckaaDoorOctL
namespace Go.Proofs.YthfgkmhpnjlckaaDoor
open Go.RowKit Go.Shelf
set_option linter.unusedVariables false
attribute [local go_sem ↓] load_b16_rule store_b16_rule load_ad_rule store_ad_rule load_px_rule store_px_rule eq_b16_rule eq_ad_rule eq_px_rule build_ad_rule build_px_rule build_b16_rule

theorem own0 (w : World) : (w.alloc (.cells #[] 5)).ownsRow w.heap.size 5 1 (.slice (some ⟨w.heap.size, 0, none⟩) 0 0) 0 [] :=
  ⟨rfl, .inr ⟨w.heap.size, 0, #[], rfl, Nat.le_refl _, heap_alloc_new _ _, Nat.le_refl _, by unfold maxLen; omega, rfl, rfl⟩⟩
theorem row_cap {w : World} {a : Option Addr} {len cap : Nat} {zs : List Int} (h : IsRow .u8 w a len cap zs) : len ≤ cap ∧ cap ≤ 9223372036854775807 ∧ (a = none → cap = 0) := by
  rcases h with ⟨rfl, rfl, rfl, _⟩ | ⟨x, rfl, h1, h2, _⟩
  · exact ⟨Nat.le_refl _, by omega, fun _ => rfl⟩
  · exact ⟨h1, by unfold maxLen at h2; omega, fun h => by cases h⟩

set_option maxRecDepth 100000 in
set_option maxHeartbeats 1600000 in
theorem bytes_walk (a : Ad) (_fa : (Lit.int .i64 a.v).wf = true) (p : Px) (_fp : (Lit.int .i64 p.n).wf = true) (_gp : (Lit.int .i64 p.a.v).wf = true) (ra : Option Addr) (len cap : Nat) (zs : List Int) {w : World} (hz : IsRow .u8 w ra len cap zs) (hW : Wid w) :
    Calls Tryd.prog 6 #[.agg a.cs, .agg p.cs, .slice ra len cap] w fun e w' => e = .returned (.bool true) ∧ Below w.heap.size w w' := by
  clear _fa _fp _gp
  obtain ⟨L, hl, _, hL, hB⟩ := hz.bytes
  obtain ⟨hcap, hcm, hcn⟩ := row_cap hz
  clear hz
  subst hl
  obtain ⟨W1, hW1⟩ : ∃ W1, (w.alloc (.cells a.cs 24)).alloc (.cells p.cs 26) = W1 := ⟨_, rfl⟩
  have hb1 : Below w.heap.size w W1 := by rw [← hW1]; exact (((Below.refl w.heap.size w).alloc (Nat.le_refl _) _).alloc (by simp) _)
  have b1 : Blk W1 (w.heap.size) 24 a.cs := by
    have h9 := Blk.new w 24 a.cs
    rw [← hW1]; exact (h9.alloc _)
  have b2 : Blk W1 (w.heap.size + 1) 26 p.cs := by
    have h9 := Blk.new (w.alloc (.cells a.cs 24)) 26 p.cs
    rw [World.size_alloc] at h9
    rw [← hW1]; exact h9
  have LAa := ad_a b1
  have LBa := ad_b b1
  have LVa := ad_v b1
  have LPp := px_p b2
  have LAp := px_a b2
  have LBp := px_b b2
  have LVp := px_v b2
  have LNp := px_n b2
  have HW : ∀ w', Below W1.heap.size W1 w' → Wid w' := fun w' h => (hW.later hb1).later h
  have HWK := fun w' h => wakes_any w' (HW w' h)
  have h0 : Below W1.heap.size W1 W1 := Below.refl _ _
  have HB := Lib.hid hb1
  clear hb1 b1 b2
  have LD := bel_drew_all W1
  have LE := bel_alloc_all W1
  have HLL := Lib.hid (And.intro hB (fun w' (h : Below W1.heap.size W1 w') => hL.kept (bel_trans HB.out h)))
  clear hL hB
  by_cases hbig : 1000 < L.length
  · have d1 : decide ((1000 : Int) < (L.length : Int)) = true := decide_eq_true (by omega)
    have d1' : decide (1000 < L.length) = true := decide_eq_true hbig
    go_enter Tryd.func6, Tryd.ntmps6
    go_wp2_with (first | (go_at_call 10; refine (HWK _ (by assumption)).mono ?_; rintro e w2 ⟨rfl, hb2⟩; have hk2 : Below W1.heap.size W1 w2 := bel_trans (by assumption) hb2; clear hb2))
    go_ret
    exact ⟨rfl, bel_trans HB.out (by assumption)⟩
  · have d1 : decide ((1000 : Int) < (L.length : Int)) = false := decide_eq_false (by omega)
    have d1' : decide (1000 < L.length) = false := decide_eq_false hbig
    go_enter Tryd.func6, Tryd.ntmps6
    go_wp2_with (first | (go_at_call 10; refine (HWK _ (by assumption)).mono ?_; rintro e w2 ⟨rfl, hb2⟩; have hk2 : Below W1.heap.size W1 w2 := bel_trans (by assumption) hb2; clear hb2) | (at_builtin; refine wpList_append_got rfl _ _ rfl _ _ 0 [] rfl (own0 _) _ cap L rfl (HLL.out.2 _ (LE _ _ (by assumption))) hcn (by omega) (by simp) ?_))
    intro v3 wa3 hown3 hgrow3
    have hba3 : Below W1.heap.size W1 wa3 := ((hk2).alloc (hk2).size _).grown hgrow3 (by have := (hk2).size; simp; omega) (fun j hj => Nat.le_trans (hk2).size ((own0 w2).lt j hj).1)
    obtain ⟨ra3, cap3, rfl, hL3, hc3, hcm3, _⟩ := own_lies (l := L) (by simpa using hown3)
    clear hown3 hgrow3
    go_wp2_with fail
    refine (decodeaddr_any ra3 cap3 L wa3 (HW _ hba3) HLL.out.1 (by omega) hc3 hcm3 hL3).mono ?_
    rintro e w5 ⟨rfl, hb5⟩
    have h5 : Below W1.heap.size W1 w5 := bel_trans hba3 hb5
    have Sw6 := st_ad (q := decAX L) (Blk.new w5 24 Ad.zero.cs)
    rw [World.setRow_alloc_new] at Sw6
    obtain ⟨w6, hww6⟩ : ∃ x, w5.alloc (.cells (decAX L).cs 24) = x := ⟨_, rfl⟩
    rw [hww6] at Sw6
    have bw6 : Blk w6 w5.heap.size 24 (decAX L).cs := by rw [← hww6]; exact Blk.new _ _ _
    have hbw6 : Below w5.heap.size w5 w6 := by rw [← hww6]; exact (Below.refl _ _).alloc (Nat.le_refl _) _
    have h6 : Below W1.heap.size W1 w6 := bel_trans h5 hbw6
    clear hba3 hc3 hcm3 hL3 hb5
    go_wp2_with (first | (with_reducible refine wpList_alloc_z rfl 24 rfl Ad.zero.cs 17 z_ad ?_))
    refine (refdecodeaddr_any ra cap L HLL.out.1 (by omega) w6 (HLL.out.2 _ h6)).mono ?_
    rintro e w7 ⟨rfl, hb7⟩
    have Sw8 := st_ad (q := decAX L) (Blk.new w7 24 Ad.zero.cs)
    rw [World.setRow_alloc_new] at Sw8
    obtain ⟨w8, hww8⟩ : ∃ x, w7.alloc (.cells (decAX L).cs 24) = x := ⟨_, rfl⟩
    rw [hww8] at Sw8
    have bw8 : Blk w8 w7.heap.size 24 (decAX L).cs := by rw [← hww8]; exact Blk.new _ _ _
    have hbw8 : Below w7.heap.size w7 w8 := by rw [← hww8]; exact (Below.refl _ _).alloc (Nat.le_refl _) _
    have h68 : Below w6.heap.size w6 w8 := bel_trans hb7 hbw8
    have h8 : Below W1.heap.size W1 w8 := bel_trans h6 h68
    clear hb7
    go_wp2_with (first | (with_reducible refine wpList_alloc_z rfl 24 rfl Ad.zero.cs 17 z_ad ?_) | (at_builtin; refine wpList_append_got rfl _ _ rfl _ _ 0 [] rfl (own0 _) _ cap L rfl (HLL.out.2 _ (LE _ _ (by assumption))) hcn (by omega) (by simp) ?_))
    intro v9 wa9 hown9 hgrow9
    have hba9 : Below w8.heap.size w8 wa9 := ((Below.refl _ _).alloc (Nat.le_refl _) _).grown hgrow9 (by simp) (fun j hj => ((own0 w8).lt j hj).1)
    obtain ⟨ra9, cap9, rfl, hL9, hc9, hcm9, _⟩ := own_lies (l := L) (by simpa using hown9)
    clear hown9 hgrow9
    go_wp2_with fail
    refine (decode_any ra9 cap9 L wa9 (HW _ (bel_trans h8 hba9)) HLL.out.1 (by omega) hc9 hcm9 hL9).mono ?_
    rintro e w10 ⟨rfl, hb10⟩
    have Sw11 := st_px (q := decPX L) (Blk.new w10 26 Px.zero.cs)
    rw [World.setRow_alloc_new] at Sw11
    obtain ⟨w11, hww11⟩ : ∃ x, w10.alloc (.cells (decPX L).cs 26) = x := ⟨_, rfl⟩
    rw [hww11] at Sw11
    have bw11 : Blk w11 w10.heap.size 26 (decPX L).cs := by rw [← hww11]; exact Blk.new _ _ _
    have hbw11 : Below w10.heap.size w10 w11 := by rw [← hww11]; exact (Below.refl _ _).alloc (Nat.le_refl _) _
    have h811 : Below w8.heap.size w8 w11 := bel_trans (bel_trans hba9 hb10) hbw11
    have h11 : Below W1.heap.size W1 w11 := bel_trans h8 h811
    clear hba9 hc9 hcm9 hL9 hb10
    go_wp2_with (first | (with_reducible refine wpList_alloc_z rfl 26 rfl Px.zero.cs 18 z_px ?_))
    refine (refdecode_any ra cap L HLL.out.1 (by omega) w11 (HLL.out.2 _ h11)).mono ?_
    rintro e w12 ⟨rfl, hb12⟩
    have Sw13 := st_px (q := decPX L) (Blk.new w12 26 Px.zero.cs)
    rw [World.setRow_alloc_new] at Sw13
    obtain ⟨w13, hww13⟩ : ∃ x, w12.alloc (.cells (decPX L).cs 26) = x := ⟨_, rfl⟩
    rw [hww13] at Sw13
    have bw13 : Blk w13 w12.heap.size 26 (decPX L).cs := by rw [← hww13]; exact Blk.new _ _ _
    have hbw13 : Below w12.heap.size w12 w13 := by rw [← hww13]; exact (Below.refl _ _).alloc (Nat.le_refl _) _
    have h1113 : Below w11.heap.size w11 w13 := bel_trans hb12 hbw13
    have h13 : Below W1.heap.size W1 w13 := bel_trans h11 h1113
    have h813 := bel_trans h811 h1113
    have L1 := ad_a (((bw6.later h68).later h811).later h1113)
    have L2 := ad_a ((bw8.later h811).later h1113)
    have L3 := px_p (bw11.later h1113)
    have L4 := px_p bw13
    have EQ1 := eqA (decAX L) (decAX L)
    rw [decide_eq_true rfl] at EQ1
    have EQ2 := eqP (decPX L) (decPX L)
    rw [decide_eq_true rfl] at EQ2
    have LA13 := fun w' h => LAa w' (bel_trans h13 h)
    have LP13 := fun w' h => LPp w' (bel_trans h13 h)
    have HW13 : ∀ w', Below w13.heap.size w13 w' → Wid w' := fun w' h => HW _ (bel_trans h13 h)
    have HB13 := Lib.hid (bel_trans HB.out h13)
    have h0 : Below w13.heap.size w13 w13 := Below.refl _ _
    clear LAa LBa LVa LPp LAp LBp LVp LNp HW HWK hb12 hbw13 hbw11 hbw8 hbw6 bw6 bw8 bw11 bw13 h13 h1113 h811 h813 h11 h8 h68 h6 h5 LD LE hww13 hww11 hww8 hww6
    have LD := bel_drew_all w13
    have LE := bel_alloc_all w13
    generalize decAX L = x at *
    generalize decPX L = y at *
    generalize decAN L = n1 at *
    generalize decPN L = n2 at *
    generalize decAE L = e1 at *
    generalize decPE L = e2 at *
    have q1 : ((n1 : Int) != (n1 : Int)) = false := by simp
    have q2 : ((n2 : Int) != (n2 : Int)) = false := by simp
    have q3 : (e1 != e1) = false := by simp
    have q4 : (e2 != e2) = false := by simp
    go_wp2_with (first | (with_reducible refine wpList_alloc_z rfl 26 rfl Px.zero.cs 18 z_px ?_))
    clear EQ1 EQ2 q1 q2 q3 q4 L1 L2 L3 L4
    have HEA := encodeaddr_any a w13 (HW13 _ h0)
    have HEP := fun w' h => encode_any p w' (HW13 w' h)
    have HRA := refrightaddr_any a
    have HRP := refright_any p
    by_cases hA : okA a
    · rw [eA_ok hA] at HEA
      rw [decide_eq_true hA] at HRA
      refine HEA.mono ?_
      rintro e w14 ⟨v, rfl, hg, _, hb14⟩
      obtain ⟨va, vcap, rfl, vL, vc, vcm, _⟩ := own_lies (hg hA)
      clear hg HEA
      have HAB := fun w' => refaddrbytes_any a w' hA
      have vl : (encA a).length ≤ 9223372036854775807 := Nat.le_trans vc vcm
      generalize encA a = l at *
      by_cases hP : okP p
      · rw [eP_ok hP] at HEP
        rw [decide_eq_true hP] at HRP
        go_wp2_with fail
        refine (HEP w14 hb14).mono ?_
        rintro e w15 ⟨u, rfl, kg, _, hb15⟩
        obtain ⟨ua, ucap, rfl, uL, uc, ucm, _⟩ := own_lies (kg hP)
        clear kg HEP
        have HPB := fun w' => refbytes_any p w' hP
        have ul : (encP p).length ≤ 9223372036854775807 := Nat.le_trans uc ucm
        generalize encP p = m at *
        have vL2 := vL.kept hb15
        have h15 : Below w13.heap.size w13 w15 := bel_trans hb14 hb15
        clear vL hb14 hb15
        have el : (l == l) = true := by simp
        have em : (m == m) = true := by simp
        go_wp2_with (first | (go_at_call 13; refine (HRA _).mono ?_; rintro e w16 ⟨rfl, hb16⟩; have hk16 : Below w13.heap.size w13 w16 := bel_trans h15 hb16; have vL16 := vL2.kept hb16; have uL16 := uL.kept hb16))
        refine (HAB _).mono ?_
        rintro e w17 ⟨t, rfl, tg, hb17⟩
        obtain ⟨ta, tcap, rfl, tL, _, tcm, _⟩ := own_lies tg
        have HSA := same_any va ta l.length vcap l.length tcap l l w17 rfl rfl vl vl (vL16.kept hb17) tL
        rw [el] at HSA
        go_wp2_with fail
        refine HSA.mono ?_
        rintro e w18 ⟨rfl, hd⟩
        have hk18 : Below w13.heap.size w13 w18 := bel_trans (bel_trans hk16 hb17) (hd.below _)
        have uL18 := (uL16.kept hb17).kept (hd.below _)
        clear tg tL HSA hb17 hd
        go_wp2_with (first | (go_at_call 14; refine (HRP _).mono ?_; rintro e w19 ⟨rfl, hb19⟩; have hk19 : Below w13.heap.size w13 w19 := bel_trans hk18 hb19; have uL19 := uL18.kept hb19))
        refine (HPB _).mono ?_
        rintro e w20 ⟨t, rfl, tg, hb20⟩
        obtain ⟨ta, tcap, rfl, tL, _, tcm, _⟩ := own_lies tg
        have HSB := same_any ua ta m.length ucap m.length tcap m m w20 rfl rfl ul ul (uL19.kept hb20) tL
        rw [em] at HSB
        go_wp2_with fail
        refine HSB.mono ?_
        rintro e w21 ⟨rfl, hd⟩
        have hk21 : Below w13.heap.size w13 w21 := bel_trans (bel_trans hk19 hb20) (hd.below _)
        clear tg tL HSB hb20 hd
        go_wp2_with fail
        go_ret
        exact ⟨rfl, bel_trans HB13.out hk21⟩
      · rw [eP_no hP] at HEP
        rw [decide_eq_false hP] at HRP
        go_wp2_with fail
        refine (HEP w14 hb14).mono ?_
        rintro e w15 ⟨u, rfl, _, kng, hb15⟩
        obtain rfl := kng hP
        clear kng HEP
        have h15 : Below w13.heap.size w13 w15 := bel_trans hb14 hb15
        have vL2 := vL.kept hb15
        clear vL hb14 hb15
        have el : (l == l) = true := by simp
        go_wp2_with (first | (go_at_call 13; refine (HRA _).mono ?_; rintro e w16 ⟨rfl, hb16⟩; have hk16 : Below w13.heap.size w13 w16 := bel_trans h15 hb16; have vL16 := vL2.kept hb16))
        refine (HAB _).mono ?_
        rintro e w17 ⟨t, rfl, tg, hb17⟩
        obtain ⟨ta, tcap, rfl, tL, _, tcm, _⟩ := own_lies tg
        have HSA := same_any va ta l.length vcap l.length tcap l l w17 rfl rfl vl vl (vL16.kept hb17) tL
        rw [el] at HSA
        go_wp2_with fail
        refine HSA.mono ?_
        rintro e w18 ⟨rfl, hd⟩
        have hk18 : Below w13.heap.size w13 w18 := bel_trans (bel_trans hk16 hb17) (hd.below _)
        clear tg tL HSA hb17 hd
        go_wp2_with (first | (go_at_call 14; refine (HRP _).mono ?_; rintro e w19 ⟨rfl, hb19⟩; have hk19 : Below w13.heap.size w13 w19 := bel_trans hk18 hb19))
        go_ret
        exact ⟨rfl, bel_trans HB13.out hk19⟩
    · rw [eA_no hA] at HEA
      rw [decide_eq_false hA] at HRA
      refine HEA.mono ?_
      rintro e w14 ⟨v, rfl, _, hng, hb14⟩
      obtain rfl := hng hA
      clear hng HEA
      by_cases hP : okP p
      · rw [eP_ok hP] at HEP
        rw [decide_eq_true hP] at HRP
        go_wp2_with fail
        refine (HEP w14 hb14).mono ?_
        rintro e w15 ⟨u, rfl, kg, _, hb15⟩
        obtain ⟨ua, ucap, rfl, uL, uc, ucm, _⟩ := own_lies (kg hP)
        clear kg HEP
        have HPB := fun w' => refbytes_any p w' hP
        have ul : (encP p).length ≤ 9223372036854775807 := Nat.le_trans uc ucm
        generalize encP p = m at *
        have h15 : Below w13.heap.size w13 w15 := bel_trans hb14 hb15
        clear hb14 hb15
        have em : (m == m) = true := by simp
        go_wp2_with (first | (go_at_call 13; refine (HRA _).mono ?_; rintro e w18 ⟨rfl, hb18⟩; have hk18 : Below w13.heap.size w13 w18 := bel_trans h15 hb18; have uL18 := uL.kept hb18) | (go_at_call 14; refine (HRP _).mono ?_; rintro e w19 ⟨rfl, hb19⟩; have hk19 : Below w13.heap.size w13 w19 := bel_trans hk18 hb19; have uL19 := uL18.kept hb19))
        refine (HPB _).mono ?_
        rintro e w20 ⟨t, rfl, tg, hb20⟩
        obtain ⟨ta, tcap, rfl, tL, _, tcm, _⟩ := own_lies tg
        have HSB := same_any ua ta m.length ucap m.length tcap m m w20 rfl rfl ul ul (uL19.kept hb20) tL
        rw [em] at HSB
        go_wp2_with fail
        refine HSB.mono ?_
        rintro e w21 ⟨rfl, hd⟩
        have hk21 : Below w13.heap.size w13 w21 := bel_trans (bel_trans hk19 hb20) (hd.below _)
        clear tg tL HSB hb20 hd
        go_wp2_with fail
        go_ret
        exact ⟨rfl, bel_trans HB13.out hk21⟩
      · rw [eP_no hP] at HEP
        rw [decide_eq_false hP] at HRP
        go_wp2_with fail
        refine (HEP w14 hb14).mono ?_
        rintro e w15 ⟨u, rfl, _, kng, hb15⟩
        obtain rfl := kng hP
        clear kng HEP
        have h15 : Below w13.heap.size w13 w15 := bel_trans hb14 hb15
        clear hb14 hb15
        go_wp2_with (first | (go_at_call 13; refine (HRA _).mono ?_; rintro e w18 ⟨rfl, hb18⟩; have hk18 : Below w13.heap.size w13 w18 := bel_trans h15 hb18) | (go_at_call 14; refine (HRP _).mono ?_; rintro e w19 ⟨rfl, hb19⟩; have hk19 : Below w13.heap.size w13 w19 := bel_trans hk18 hb19))
        go_ret
        exact ⟨rfl, bel_trans HB13.out hk19⟩
end Go.Proofs.YthfgkmhpnjlckaaDoor
