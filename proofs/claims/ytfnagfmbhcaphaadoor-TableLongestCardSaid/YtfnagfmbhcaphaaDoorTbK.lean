/-
  The walk of TableLongest. Nothing here is a statement of the document.
-/
import Derived.Test.YtfnagfmbhcaphaaDoorTbJ
namespace Go.Proofs.YtfnagfmbhcaphaaDoor
open Go.RowKit Go.Shelf
set_option linter.unusedVariables false
set_option maxRecDepth 100000

theorem rt_n {W : World} {g : Nat} {r : Rt} (h : Blk W g 43 r.cs) : ∀ w', Below W.heap.size W w' → w'.cell? ⟨g, 17, none⟩ = some (.int .i64 r.p.n) :=
  fun w' k => ((h.later k).cell 17).trans ((r.cp 17 (by omega)).trans r.p.cn)
/-- Whether the row has been met among the first k. -/
noncomputable def metQ (L : List Rt) (x : Ad) (M : Rt) (k : Nat) : Bool := @decide (∃ j, j < k ∧ hasM (rt L j).p x ∧ rt L j = M) (Classical.propDecidable _)
theorem met_zero (L : List Rt) (x : Ad) (M : Rt) : metQ L x M 0 = false := by
  unfold metQ
  rw [decide_eq_false_iff_not]
  exact fun ⟨j, h, _⟩ => by omega
theorem met_miss {L : List Rt} {x : Ad} {M : Rt} {k : Nat} (h : ¬ hasM (rt L k).p x) : metQ L x M (k + 1) = metQ L x M k := by
  rw [Bool.eq_iff_iff]
  unfold metQ
  simp only [decide_eq_true_eq]
  constructor
  · rintro ⟨j, h1, h2, h3⟩
    by_cases e : j = k
    · rw [e] at h2; exact absurd h2 h
    · exact ⟨j, by omega, h2, h3⟩
  · rintro ⟨j, h1, h2, h3⟩
    exact ⟨j, by omega, h2, h3⟩
theorem met_hit {L : List Rt} {x : Ad} {M : Rt} {k : Nat} (h : hasM (rt L k).p x) : metQ L x M (k + 1) = (metQ L x M k || decide (rt L k = M)) := by
  rw [Bool.eq_iff_iff]
  unfold metQ
  simp only [Bool.or_eq_true, decide_eq_true_eq]
  constructor
  · rintro ⟨j, h1, h2, h3⟩
    by_cases e : j = k
    · rw [e] at h3; exact .inr h3
    · exact .inl ⟨j, by omega, h2, h3⟩
  · rintro (⟨j, h1, h2, h3⟩ | h3)
    · exact ⟨j, by omega, h2, h3⟩
    · exact ⟨k, by omega, h, h3⟩
theorem met_all {L : List Rt} {x : Ad} {M : Rt} {T : Bool} (h : (T = true ∧ Long L x M) ∨ (T = false ∧ M = Rt.zero ∧ ∀ y ∈ L, ¬ hasM y.p x)) : metQ L x M L.length = T := by
  rcases h with ⟨rfl, h1, h2, _⟩ | ⟨rfl, _, h3⟩
  · obtain ⟨i, hi, e⟩ := mem_rt h1
    unfold metQ
    exact (@decide_eq_true_iff _ (Classical.propDecidable _)).2 ⟨i, hi, by rw [e]; exact h2, e⟩
  · unfold metQ
    rw [decide_eq_false_iff_not]
    exact fun ⟨j, hj, h4, _⟩ => h3 _ (rt_mem hj) h4
attribute [local go_sem ↓] load_b16_rule store_b16_rule load_ad_rule store_ad_rule load_px_rule store_px_rule eq_b16_rule eq_ad_rule eq_px_rule load_rt_rule store_rt_rule build_ad_rule build_px_rule build_b16_rule build_rt_rule load_tab_rule build_tab_rule store_tab_rule tbuild_rule tapp_rule tcopy_rule eq_rt_rule

set_option maxHeartbeats 8000000 in
theorem tlongest_walk (a : Option Addr) (n c : Nat) (L : List Rt) (x : Ad) (r : Rt) (w : World) (hW : Wid w) (hn : L.length = n) (hT : Tbl w a c L) :
    Calls Tryd.prog 7 #[.agg #[.slice a n c], .agg x.cs, .agg r.cs] w fun e w' => e = .returned (.bool true) ∧ Below w.heap.size w w' := by
  have hR := hT.at'
  have hm : n ≤ 9223372036854775807 := by have := hT.le; have := hT.cap; unfold maxLen at this; omega
  obtain ⟨W0, hW0⟩ : ∃ W0, (w.alloc (.cells #[.slice a n c] 24)).alloc (.cells x.cs 27) = W0 := ⟨_, rfl⟩
  obtain ⟨W1, hW1⟩ : ∃ W1, W0.alloc (.cells r.cs 43) = W1 := ⟨_, rfl⟩
  have sz0 : W0.heap.size = w.heap.size + 2 := by rw [← hW0]; simp
  have hb0 : Below w.heap.size w W0 := by rw [← hW0]; exact (((Below.refl w.heap.size w).alloc (Nat.le_refl _) _).alloc (by simp) _)
  have hb01 : Below W0.heap.size W0 W1 := by rw [← hW1]; exact (Below.refl _ _).alloc (Nat.le_refl _) _
  have hb1 : Below w.heap.size w W1 := bel_trans hb0 hb01
  have b3 : Blk W1 W0.heap.size 43 r.cs := by rw [← hW1]; exact Blk.new _ _ _
  have b1 : Blk W1 w.heap.size 24 #[.slice a n c] := by
    have h9 := (Blk.new w 24 #[.slice a n c]).alloc (.cells x.cs 27)
    rw [hW0] at h9
    exact h9.later hb01
  have b2 : Blk W1 (w.heap.size + 1) 27 x.cs := by
    have h9 := Blk.new (w.alloc (.cells #[.slice a n c] 24)) 27 x.cs
    rw [World.size_alloc, hW0] at h9
    exact h9.later hb01
  have LT := tab_t b1
  have CT := tab_c b1
  have LX := ad_a b2
  have HR : ∀ w', Below W1.heap.size W1 w' → RowsAt w' a L := fun w' h => (hR.later hb1).later h
  have HW : ∀ w', Below W1.heap.size W1 w' → Wid w' := fun w' h => (hW.later hb1).later h
  have h0 : Below W1.heap.size W1 W1 := Below.refl _ _
  have HB := Lib.hid (And.intro hb1 (And.intro b3 sz0))
  have LRr := rt_r b3
  have LRp := rt_p b3
  have LRh := rt_h b3
  have HWK := fun w' h => wakes9_any w' (HW w' h)
  have HX := Lib.hid (And.intro hn (And.intro hT (And.intro hW hb1)))
  have hTW : ∀ w', Below W1.heap.size W1 w' → Tbl w' a c L := fun w' h => (hT.later hb1).later h
  clear hR hW hT b1 b2 b3 hb0 hb01 sz0 hb1
  by_cases h200 : 200 < n
  · have d1 : decide (200 < (n : Int)) = true := decide_eq_true (by omega)
    clear h200
    go_enter Tryd.func7, Tryd.ntmps7
    go_wp2_with (first | (go_at_call 9; refine (HWK _ (by assumption)).mono ?_; rintro e w2 ⟨rfl, hb2⟩; have hk2 : Below W1.heap.size W1 w2 := (by first | exact bel_trans (by assumption) hb2 | (subst hb2; assumption)); clear hb2))
    all_goals go_ret
    all_goals exact ⟨rfl, bel_trans HB.out.1 (by assumption)⟩
  · have d1 : decide (200 < (n : Int)) = false := decide_eq_false (by omega)
    have H200 := Lib.hid h200
    clear h200
    have HL := fun w' h => longest_any a n c L x w' (HW w' h) hn hm (HR w' h)
    obtain ⟨T, hTT⟩ : ∃ T, lgB L x = T := ⟨_, rfl⟩
    obtain ⟨M, hMM⟩ : ∃ M, lgR L x = M := ⟨_, rfl⟩
    obtain ⟨E, hEE⟩ : ∃ E, lgE L x = E := ⟨_, rfl⟩
    rw [hTT, hMM, hEE] at HL
    by_cases hE0 : E = 0
    · have dE : (E != 0) = false := by simp [hE0]
      have HE := Lib.hid (And.intro hTT (And.intro hMM (And.intro hEE hE0)))
      clear hTT hMM hEE hE0
      go_enter Tryd.func7, Tryd.ntmps7
      go_wp2_with (first | (go_at_call 9; refine (HWK _ (by assumption)).mono ?_; rintro e w2 ⟨rfl, hb2⟩; have hk2 : Below W1.heap.size W1 w2 := (by first | exact bel_trans (by assumption) hb2 | (subst hb2; assumption)); clear hb2))
      refine (HL _ (by assumption)).mono ?_
      rintro e w2 ⟨rfl, hb2⟩
      have hk2 : Below W1.heap.size W1 w2 := bel_trans (by assumption) hb2
      have S2 := st_rt (q := M) (Blk.new w2 43 Rt.zero.cs)
      rw [World.setRow_alloc_new] at S2
      obtain ⟨w3, hw3⟩ : ∃ w3, w2.alloc (.cells M.cs 43) = w3 := ⟨_, rfl⟩
      rw [hw3] at S2
      have b3 : Blk w3 w2.heap.size 43 M.cs := by rw [← hw3]; exact Blk.new _ _ _
      have k23 : Below w2.heap.size w2 w3 := by rw [← hw3]; exact (Below.refl _ _).alloc (Nat.le_refl _) _
      have hk3 := bel_trans hk2 k23
      have C3 := CT w3 hk3
      have H3 := Lib.hid (And.intro b3 hk3)
      clear hb2 hk2 b3 k23 hk3 HL HWK
      go_wp2_with (with_reducible refine wpList_alloc_z rfl 43 rfl Rt.zero.cs 19 z_rt ?_)
      have hTF : (T = true ∧ Long L x M) ∨ (T = false ∧ M = Rt.zero ∧ ∀ y ∈ L, ¬ hasM y.p x) := by
        have e0 : lgE L x = 0 := HE.out.2.2.1.trans HE.out.2.2.2
        have hL : okT L := by
          by_cases h : okT L
          · exact h
          · unfold lgE at e0; rw [if_pos h] at e0; omega
        have e1 := HE.out.1
        have e2 := HE.out.2.1
        unfold lgB at e1
        unfold lgR at e2
        rw [if_pos e0] at e1 e2
        rw [← e1, ← e2]
        exact long_ways hL.2.2 x
      have HTF := Lib.hid hTF
      have HLR := Lib.hid (And.intro LRr (And.intro LRp (And.intro LRh (And.intro LX LT))))
      clear hTF LRr LRp LRh LT
      have HRW := Lib.hid (And.intro HR (And.intro HW (And.intro hTW CT)))
      clear HR HW hTW CT C3
      go_loopw [10, 36] (fun m i wr => ∃ k : Nat, k ≤ n ∧ i = .int .i64 k ∧ m = .bool (metQ L x M k) ∧ Below w3.heap.size w3 wr) (fun m i _ => n - (intOf i).toNat)
      case atStart => exact ⟨0, Nat.zero_le _, rfl, by rw [met_zero], Below.refl _ _⟩
      case round =>
        obtain ⟨k, hk, rfl, rfl, hkb⟩ := hrel
        by_cases hlt : k < n
        · have hkl : k < L.length := by have := HX.out.1; omega
          have hk13 : Below W1.heap.size W1 wr := bel_trans H3.out.2 hkb
          obtain ⟨g, o, rfl, hrow⟩ := (HRW.out.1 wr hk13).spot hkl
          have LR := hrow.load hkl
          obtain ⟨W2, hW2⟩ : ∃ W2, wr.alloc (.cells (rt L k).cs 43) = W2 := ⟨_, rfl⟩
          have S4 := st_rt (q := rt L k) (Blk.new wr 43 Rt.zero.cs)
          rw [World.setRow_alloc_new, hW2] at S4
          have b4 : Blk W2 wr.heap.size 43 (rt L k).cs := by rw [← hW2]; exact Blk.new _ _ _
          have hb2 : Below wr.heap.size wr W2 := by rw [← hW2]; exact (Below.refl _ _).alloc (Nat.le_refl _) _
          have hb12 : Below W1.heap.size W1 W2 := bel_trans hk13 hb2
          have hb32 : Below w3.heap.size w3 W2 := bel_trans hkb hb2
          have LP := rt_p b4
          have LRk := rt_r b4
          have LNk := rt_n b4
          have LX2 : ∀ w', Below W2.heap.size W2 w' → (loadSem 27 (.pointer (some ⟨w.heap.size + 1, 0, none⟩))).run Tryd.prog w' = .ok (.agg x.cs) w' := fun w' h => LX w' (bel_trans hb12 h)
          have LM : ∀ w', Below W2.heap.size W2 w' → (loadSem 43 (.pointer (some ⟨w2.heap.size, 0, none⟩))).run Tryd.prog w' = .ok (.agg M.cs) w' := fun w' h => rt_r H3.out.1 w' (bel_trans hb32 h)
          have LNM : ∀ w', Below W2.heap.size W2 w' → w'.cell? ⟨w2.heap.size, 17, none⟩ = some (.int .i64 M.p.n) := fun w' h => rt_n H3.out.1 w' (bel_trans hb32 h)
          have HH := fun w' (h : Below W2.heap.size W2 w') => has_any (rt L k).p x w' ((HX.out.2.2.1.later HB.out.1).later (bel_trans hb12 h))
          have h02 : Below W2.heap.size W2 W2 := Below.refl _ _
          have HK := Lib.hid (And.intro hb32 hkl)
          clear hkb hk13 hrow b4 hb2 hb12 hb32 LX hW2
          by_cases hh : hasM (rt L k).p x
          · rw [decide_eq_true hh] at HH
            have hmh := Lib.hid (met_hit (M := M) hh)
            obtain ⟨hT1, hLg⟩ : T = true ∧ Long L x M := by
              rcases HTF.out with h | ⟨_, _, h⟩
              · exact h
              · exact absurd hh (h _ (rt_mem hkl))
            have hle := hLg.2.2 _ (rt_mem hkl) hh
            have dle : decide (M.p.n < (rt L k).p.n) = false := decide_eq_false (by omega)
            have EQ := eqR (rt L k) M
            obtain ⟨q, hq⟩ : ∃ q, decide (rt L k = M) = q := ⟨_, rfl⟩
            rw [hq] at EQ
            have HQ := Lib.hid hq
            obtain ⟨mk, hmk⟩ : ∃ mk, metQ L x M k = mk := ⟨_, rfl⟩
            rw [hmk]
            have HMK := Lib.hid hmk
            clear hh hq hmk hle hLg hkl
            subst hT1
            cases mk with
            | true =>
              go_wp2_with (first | (with_reducible refine wpList_alloc_z rfl 43 rfl Rt.zero.cs 19 z_rt ?_) | (go_at_call 31; refine (HH _ (by assumption)).mono ?_; rintro e w2 ⟨rfl, hb2⟩; have hk2 : Below W2.heap.size W2 w2 := (by first | exact bel_trans (by assumption) hb2 | (subst hb2; assumption)); clear hb2))
              go_roundw
              case rel => exact ⟨k + 1, by omega, by go_num, by rw [hmh.out, HMK.out]; rfl, bel_trans HK.out.1 (by assumption)⟩
              case measure => simp [intOf]; omega
            | false =>
              go_wp2_with (first | (with_reducible refine wpList_alloc_z rfl 43 rfl Rt.zero.cs 19 z_rt ?_) | (go_at_call 31; refine (HH _ (by assumption)).mono ?_; rintro e w2 ⟨rfl, hb2⟩; have hk2 : Below W2.heap.size W2 w2 := (by first | exact bel_trans (by assumption) hb2 | (subst hb2; assumption)); clear hb2))
              go_roundw
              case rel => exact ⟨k + 1, by omega, by go_num, by rw [hmh.out, HMK.out, HQ.out]; rfl, bel_trans HK.out.1 (by assumption)⟩
              case measure => simp [intOf]; omega
          · rw [decide_eq_false hh] at HH
            have hmh := Lib.hid (met_miss (M := M) hh)
            generalize metQ L x M k = mk at *
            clear hh hkl
            go_wp2_with (first | (with_reducible refine wpList_alloc_z rfl 43 rfl Rt.zero.cs 19 z_rt ?_) | (go_at_call 31; refine (HH _ (by assumption)).mono ?_; rintro e w2 ⟨rfl, hb2⟩; have hk2 : Below W2.heap.size W2 w2 := (by first | exact bel_trans (by assumption) hb2 | (subst hb2; assumption)); clear hb2))
            go_roundw
            case rel => exact ⟨k + 1, by omega, by go_num, by rw [hmh.out], bel_trans HK.out.1 (by assumption)⟩
            case measure => simp [intOf]; omega
        · obtain rfl : n = k := by omega
          have hma := met_all HTF.out
          rw [HX.out.1] at hma
          rw [hma]
          have dT : (T != T) = false := by simp
          have hk13 : Below W1.heap.size W1 wr := bel_trans H3.out.2 hkb
          have HK := Lib.hid (And.intro hk13 hkb)
          clear hma hkb
          have LTr := HLR.out.2.2.2.2 wr hk13
          have LRpr := HLR.out.2.1 wr hk13
          have LRhr := HLR.out.2.2.1 wr hk13
          have HS := set_any a n c L r.p r.h wr (HRW.out.2.1 wr hk13) HX.out.1 (HRW.out.2.2.1 wr hk13)
          clear hk13
          go_wp2_with fail
          refine HS.mono ?_
          rintro e w4 ⟨a4, c4, rfl, t4, _, hb4⟩
          obtain ⟨n4, hn4⟩ : ∃ n4, (setM L r.p r.h).length = n4 := ⟨_, rfl⟩
          rw [hn4]
          have ST4 := st_tab (a2 := a4) (n2 := n4) (c2 := c4) (Blk.new w4 24 #[.slice none 0 0])
          rw [World.setRow_alloc_new] at ST4
          obtain ⟨w5, hw5⟩ : ∃ w5, w4.alloc (.cells #[.slice a4 n4 c4] 24) = w5 := ⟨_, rfl⟩
          rw [hw5] at ST4
          have b5 : Blk w5 w4.heap.size 24 #[.slice a4 n4 c4] := by rw [← hw5]; exact Blk.new _ _ _
          have k45 : Below w4.heap.size w4 w5 := by rw [← hw5]; exact (Below.refl _ _).alloc (Nat.le_refl _) _
          have kr5 := bel_trans hb4 k45
          have k15 := bel_trans HK.out.1 kr5
          have k35 := bel_trans HK.out.2 kr5
          have H5 := Lib.hid (And.intro b5 (And.intro (t4.later k45) (And.intro k15 (And.intro k35 (And.intro hn4 (bel_trans HB.out.1 k15))))))
          clear hb4 t4 b5 k45 kr5 k15 k35 hn4 HS LTr LRpr LRhr hw5
          by_cases hs0 : setE L r.p r.h = 0
          · rw [hs0]
            have HS0 := Lib.hid hs0
            clear hs0
            have L5t := tab_t H5.out.1 w5 (Below.refl _ _)
            have L5x := HLR.out.2.2.2.1 w5 H5.out.2.2.1
            have U := longest_any a4 n4 c4 (setM L r.p r.h) x w5 (HRW.out.2.1 w5 H5.out.2.2.1) H5.out.2.2.2.2.1 (by have := H5.out.2.1.le; have := H5.out.2.1.cap; have := H5.out.2.2.2.2.1; unfold maxLen at this; unfold maxLen at *; omega) H5.out.2.1.at'
            have okx : okA x := by
              have e0 : lgE L x = 0 := HE.out.2.2.1.trans HE.out.2.2.2
              by_cases h : okA x
              · exact h
              · unfold lgE at e0; rw [if_pos h] at e0; split at e0 <;> omega
            have uE : lgE (setM L r.p r.h) x = 0 := by unfold lgE; rw [if_neg (by simp only [Classical.not_not]; exact setM_okT _ _ _), if_neg (by simp only [Classical.not_not]; exact okx)]
            have uB : lgB (setM L r.p r.h) x = longB (setM L r.p r.h) x := if_pos uE
            have uR : lgR (setM L r.p r.h) x = longR (setM L r.p r.h) x := if_pos uE
            rw [uE, uB, uR] at U
            obtain ⟨N, hN⟩ : ∃ N, longR (setM L r.p r.h) x = N := ⟨_, rfl⟩
            obtain ⟨IS, hIS⟩ : ∃ IS, longB (setM L r.p r.h) x = IS := ⟨_, rfl⟩
            rw [hN, hIS] at U
            have HN := Lib.hid (And.intro hN hIS)
            clear hN hIS uE uB uR okx
            go_wp2_with (with_reducible refine wpList_alloc_z rfl 24 rfl #[.slice none 0 0] 1 z_tab ?_)
            refine U.mono ?_
            rintro e w6 ⟨rfl, hb6⟩
            have S6 := st_rt (q := N) (Blk.new w6 43 Rt.zero.cs)
            rw [World.setRow_alloc_new] at S6
            obtain ⟨w7, hw7⟩ : ∃ w7, w6.alloc (.cells N.cs 43) = w7 := ⟨_, rfl⟩
            rw [hw7] at S6
            have b7 : Blk w7 w6.heap.size 43 N.cs := by rw [← hw7]; exact Blk.new _ _ _
            have k67 : Below w6.heap.size w6 w7 := by rw [← hw7]; exact (Below.refl _ _).alloc (Nat.le_refl _) _
            have k57 := bel_trans hb6 k67
            have k17 := bel_trans H5.out.2.2.1 k57
            have k37 := bel_trans H5.out.2.2.2.1 k57
            have L7t := tab_t H5.out.1 w7 k57
            have t7 := H5.out.2.1.later k57
            have CK := fun w' (h : Below w7.heap.size w7 w') => tcheck_any a4 n4 c4 (setM L r.p r.h) w' (HRW.out.2.1 w' (bel_trans k17 h)) H5.out.2.2.2.2.1 (by have := t7.le; have := t7.cap; have := H5.out.2.2.2.2.1; unfold maxLen at *; omega) (t7.later h).at'
            rw [eT_ok (setM_okT _ _ _)] at CK
            have L7t2 : ∀ w', Below w7.heap.size w7 w' → (loadSem 24 (.pointer (some ⟨w4.heap.size, 0, none⟩))).run Tryd.prog w' = .ok (.agg #[.slice a4 n4 c4]) w' := fun w' h => tab_t H5.out.1 w' (bel_trans k57 h)
            have LRp7 : ∀ w', Below w7.heap.size w7 w' → (loadSem 29 (.pointer (some ⟨W0.heap.size, 0, none⟩))).run Tryd.prog w' = .ok (.agg r.p.cs) w' := fun w' h => HLR.out.2.1 w' (bel_trans k17 h)
            have LRr7 : ∀ w', Below w7.heap.size w7 w' → (loadSem 43 (.pointer (some ⟨W0.heap.size, 0, none⟩))).run Tryd.prog w' = .ok (.agg r.cs) w' := fun w' h => HLR.out.1 w' (bel_trans k17 h)
            have LX7 : ∀ w', Below w7.heap.size w7 w' → (loadSem 27 (.pointer (some ⟨w.heap.size + 1, 0, none⟩))).run Tryd.prog w' = .ok (.agg x.cs) w' := fun w' h => HLR.out.2.2.2.1 w' (bel_trans k17 h)
            have LM7 : ∀ w', Below w7.heap.size w7 w' → (loadSem 43 (.pointer (some ⟨w2.heap.size, 0, none⟩))).run Tryd.prog w' = .ok (.agg M.cs) w' := fun w' h => rt_r H3.out.1 w' (bel_trans k37 h)
            have LN7 : ∀ w', Below w7.heap.size w7 w' → (loadSem 43 (.pointer (some ⟨w6.heap.size, 0, none⟩))).run Tryd.prog w' = .ok (.agg N.cs) w' := fun w' h => rt_r b7 w' h
            have CM7 : ∀ w', Below w7.heap.size w7 w' → w'.cell? ⟨w2.heap.size, 17, none⟩ = some (.int .i64 M.p.n) := fun w' h => rt_n H3.out.1 w' (bel_trans k37 h)
            have CR7 : ∀ w', Below w7.heap.size w7 w' → w'.cell? ⟨W0.heap.size, 17, none⟩ = some (.int .i64 r.p.n) := fun w' h => rt_n HB.out.2.1 w' (bel_trans k17 h)
            have HH := fun w' (h : Below w7.heap.size w7 w') => has_any r.p x w' (HRW.out.2.1 w' (bel_trans k17 h))
            have h07 : Below w7.heap.size w7 w7 := Below.refl _ _
            have H7 := Lib.hid (And.intro b7 (And.intro k17 k37))
            clear U hb6 hw7 b7 k67 k57 k17 k37 t7 L5t L5x L7t
            have hLT : longB L x = T ∧ longR L x = M := by
              have e0 : lgE L x = 0 := HE.out.2.2.1.trans HE.out.2.2.2
              have e1 := HE.out.1
              have e2 := HE.out.2.1
              unfold lgB at e1
              unfold lgR at e2
              rw [if_pos e0] at e1 e2
              exact ⟨e1, e2⟩
            by_cases hh : hasM r.p x
            · rw [decide_eq_true hh] at HH
              by_cases hTM : T = true ∧ r.p.n < M.p.n
              · obtain ⟨hT1, hlt2⟩ := hTM
                obtain ⟨q1, q2⟩ := set_shorter HS0.out (hLT.1.trans hT1) (by rw [hLT.2]; exact hlt2)
                have eN : N = M := by rw [← HN.out.1, q2, hLT.2]
                have eI : IS = true := by rw [← HN.out.2, q1]
                have EQ := eqR M M
                rw [decide_eq_true rfl] at EQ
                have dlt : decide (r.p.n < M.p.n) = true := decide_eq_true hlt2
                subst eN eI hT1
                clear hLT q1 q2 hh hlt2
                go_wp2_with (first | (with_reducible refine wpList_alloc_z rfl 43 rfl Rt.zero.cs 19 z_rt ?_) | (go_at_call 20; refine (CK _ (by assumption)).mono ?_; rintro e w2 ⟨rfl, hb2⟩; have hk2 : Below w7.heap.size w7 w2 := (by first | exact bel_trans (by assumption) hb2 | (subst hb2; assumption)); clear hb2) | (go_at_call 31; refine (HH _ (by assumption)).mono ?_; rintro e w2 ⟨rfl, hb2⟩; have hk2 : Below w7.heap.size w7 w2 := (by first | exact bel_trans (by assumption) hb2 | (subst hb2; assumption)); clear hb2))
                all_goals go_ret
                all_goals exact ⟨rfl, bel_trans (bel_trans HB.out.1 H7.out.2.1) (by assumption)⟩
              · obtain ⟨q1, q2⟩ := set_longer HS0.out hh (fun hb => by
                  rw [hLT.2]
                  have hT1 := hLT.1.symm.trans hb
                  by_cases hc : r.p.n < M.p.n
                  · exact absurd ⟨hT1, hc⟩ hTM
                  · omega)
                have eN : N = r := by rw [← HN.out.1, q2]
                have eI : IS = true := by rw [← HN.out.2, q1]
                have EQ := eqR r r
                rw [decide_eq_true rfl] at EQ
                subst eN eI
                clear hLT q1 q2 hh
                cases T with
                | true =>
                  have dlt : decide (N.p.n < M.p.n) = false := decide_eq_false (fun h => hTM ⟨rfl, h⟩)
                  clear hTM
                  go_wp2_with (first | (with_reducible refine wpList_alloc_z rfl 43 rfl Rt.zero.cs 19 z_rt ?_) | (go_at_call 20; refine (CK _ (by assumption)).mono ?_; rintro e w2 ⟨rfl, hb2⟩; have hk2 : Below w7.heap.size w7 w2 := (by first | exact bel_trans (by assumption) hb2 | (subst hb2; assumption)); clear hb2) | (go_at_call 31; refine (HH _ (by assumption)).mono ?_; rintro e w2 ⟨rfl, hb2⟩; have hk2 : Below w7.heap.size w7 w2 := (by first | exact bel_trans (by assumption) hb2 | (subst hb2; assumption)); clear hb2))
                  all_goals go_ret
                  all_goals exact ⟨rfl, bel_trans (bel_trans HB.out.1 H7.out.2.1) (by assumption)⟩
                | false =>
                  clear hTM
                  go_wp2_with (first | (with_reducible refine wpList_alloc_z rfl 43 rfl Rt.zero.cs 19 z_rt ?_) | (go_at_call 20; refine (CK _ (by assumption)).mono ?_; rintro e w2 ⟨rfl, hb2⟩; have hk2 : Below w7.heap.size w7 w2 := (by first | exact bel_trans (by assumption) hb2 | (subst hb2; assumption)); clear hb2) | (go_at_call 31; refine (HH _ (by assumption)).mono ?_; rintro e w2 ⟨rfl, hb2⟩; have hk2 : Below w7.heap.size w7 w2 := (by first | exact bel_trans (by assumption) hb2 | (subst hb2; assumption)); clear hb2))
                  all_goals go_ret
                  all_goals exact ⟨rfl, bel_trans (bel_trans HB.out.1 H7.out.2.1) (by assumption)⟩
            · rw [decide_eq_false hh] at HH
              obtain ⟨q1, q2⟩ := set_miss HS0.out hh
              have eN : N = M := by rw [← HN.out.1, q2, hLT.2]
              have eI : IS = T := by rw [← HN.out.2, q1, hLT.1]
              have EQ := eqR M M
              rw [decide_eq_true rfl] at EQ
              subst eN eI
              have dII : (IS == IS) = true := by simp
              clear hLT q1 q2 hh
              go_wp2_with (first | (with_reducible refine wpList_alloc_z rfl 43 rfl Rt.zero.cs 19 z_rt ?_) | (go_at_call 20; refine (CK _ (by assumption)).mono ?_; rintro e w2 ⟨rfl, hb2⟩; have hk2 : Below w7.heap.size w7 w2 := (by first | exact bel_trans (by assumption) hb2 | (subst hb2; assumption)); clear hb2) | (go_at_call 31; refine (HH _ (by assumption)).mono ?_; rintro e w2 ⟨rfl, hb2⟩; have hk2 : Below w7.heap.size w7 w2 := (by first | exact bel_trans (by assumption) hb2 | (subst hb2; assumption)); clear hb2))
              all_goals go_ret
              all_goals exact ⟨rfl, bel_trans (bel_trans HB.out.1 H7.out.2.1) (by assumption)⟩
          · have dS : (setE L r.p r.h != 0) = true := by simp [hs0]
            clear hs0
            go_wp2_with (with_reducible refine wpList_alloc_z rfl 24 rfl #[.slice none 0 0] 1 z_tab ?_)
            go_ret
            exact ⟨rfl, H5.out.2.2.2.2.2⟩
    · have dE : (E != 0) = true := by simp [hE0]
      have hT0 : T = false := by
        rw [← hTT]
        unfold lgB
        rw [hEE, if_neg hE0]
      subst hT0
      clear hTT hMM hEE hE0
      go_enter Tryd.func7, Tryd.ntmps7
      go_wp2_with (first | (go_at_call 9; refine (HWK _ (by assumption)).mono ?_; rintro e w2 ⟨rfl, hb2⟩; have hk2 : Below W1.heap.size W1 w2 := (by first | exact bel_trans (by assumption) hb2 | (subst hb2; assumption)); clear hb2))
      refine (HL _ (by assumption)).mono ?_
      rintro e w2 ⟨rfl, hb2⟩
      have hk2 : Below W1.heap.size W1 w2 := bel_trans (by assumption) hb2
      have S2 := st_rt (q := M) (Blk.new w2 43 Rt.zero.cs)
      rw [World.setRow_alloc_new] at S2
      obtain ⟨w3, hw3⟩ : ∃ w3, w2.alloc (.cells M.cs 43) = w3 := ⟨_, rfl⟩
      rw [hw3] at S2
      have k23 : Below w2.heap.size w2 w3 := by rw [← hw3]; exact (Below.refl _ _).alloc (Nat.le_refl _) _
      have hk3 := bel_trans hk2 k23
      clear hb2 hk2 k23 HL HWK
      go_wp2_with (with_reducible refine wpList_alloc_z rfl 43 rfl Rt.zero.cs 19 z_rt ?_)
      go_ret
      exact ⟨rfl, bel_trans HB.out.1 hk3⟩
end Go.Proofs.YtfnagfmbhcaphaaDoor
