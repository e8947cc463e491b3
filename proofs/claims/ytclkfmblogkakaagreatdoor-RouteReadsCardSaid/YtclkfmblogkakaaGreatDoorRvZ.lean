/-
  The contracts of the reference's Decode and DecodeBatch. Nothing here is a statement of the document.
-/
import Derived.Test.YtclkfmblogkakaaGreatDoorRvY
import Derived.Test.YtclkfmblogkakaaGreatDoorTdA
import Derived.Test.YtclkfmblogkakaaGreatDoorRtW
import Derived.Test.YtclkfmblogkakaaGreatDoorRtY
namespace Go.Proofs.YtclkfmblogkakaaGreatDoor
open Go.RowKit Go.Shelf
set_option linter.unusedVariables false
set_option maxRecDepth 100000
theorem ro3_short {p : Px} {D : List Nat} (h : D.length < 3) : ro3 p D = (7, Ro.zero, []) := by
  rcases D with _ | ⟨s, _ | ⟨f, _ | ⟨k, R⟩⟩⟩
  · rfl
  · rfl
  · rfl
  · simp at h; omega
theorem up4_short2 {p : Px} {D : List Nat} (h : D.length < 2) : up4 p D = (7, Up.zero, []) := by
  rcases D with _ | ⟨s, _ | ⟨f, R⟩⟩
  · rfl
  · rfl
  · simp at h; omega
theorem up4_gt {p : Px} {s b : Nat} {D : List Nat} (h : 1 < b) : up4 p (s :: b :: D) = (210, Up.zero, []) := by
  rcases D with _ | ⟨f, _ | ⟨k, R⟩⟩ <;> simp [up4, h]
theorem up4_short4 {p : Px} {s b : Nat} {D : List Nat} (h : ¬ 1 < b) (h2 : (s :: b :: D).length < 4) : up4 p (s :: b :: D) = (7, Up.zero, []) := by
  rcases D with _ | ⟨f, _ | ⟨k, R⟩⟩
  · simp [up4, h]
  · simp [up4, h]
  · simp at h2; omega
theorem up4_ok {p : Px} {s b f k : Nat} {D : List Nat} (h : ¬ 1 < b) : up4 p (s :: b :: f :: k :: D) = (0, ⟨p, s, decide (b = 1), f, k⟩, D) := by simp [up4, h]
theorem wrap_nn {n j : Nat} (h : j ≤ n) (h2 : n ≤ 6000) : wrap64 ((n : Int) - (j : Int)) = ((n - j : Nat) : Int) := by unfold wrap64; omega
theorem wrap_pp {j n m : Nat} (h : j + n = m) (h2 : m ≤ 6001) : wrap64 ((j : Int) + (n : Int)) = (m : Int) := by subst h; unfold wrap64; omega
theorem wrap_p {j n m : Nat} (h : j + n = m) (h2 : m ≤ 6010) : wrap64 ((j : Int) + ((n : Nat) : Int)) = (m : Int) := by subst h; unfold wrap64; omega
theorem wrap_c8 {j : Nat} {c : Int} (h : 0 ≤ c) (h1 : c ≤ 10) (h2 : j ≤ 6001) : wrap64 ((j : Int) + c) = (j : Int) + c := by unfold wrap64; omega
theorem wrap_b8 {k : Nat} (h : k ≤ 100000) : IntKind.i64.wrap (k : Int) = (k : Int) := by
  unfold IntKind.wrap
  simp [IntKind.bits, IntKind.signed]
  omega
theorem meas8 {cnt k : Nat} (h : k < cnt) (hw : wrap64 ((k : Int) + 1) = (k : Int) + 1) : cnt - (intOf (.int .i64 (wrap64 ((k : Int) + 1)))).toNat < cnt - (intOf (.int .i64 (k : Int))).toNat := by
  rw [hw]
  simp only [intOf]
  omega
attribute [local go_sem ↓] load_b16_rule store_b16_rule load_ad_rule store_ad_rule load_px_rule store_px_rule build_rib_rule build_bat_rule load_rib_rule9 store_rib_rule9 load_bat_rule9 store_bat_rule9 robuild_rule upbuild_rule build_ro_rule build_upd_rule cutB_rule
set_option maxHeartbeats 8000000 in
theorem refro_any (a : Option Addr) (n cap : Nat) (L : List Nat) (w : World) (hB : Bys L) (hn : L.length = n) (hlm : n ≤ 5900) (hc : n ≤ cap) (hL : Lies w a L) :
    Calls Tryz.prog 6 #[.slice a n cap] w fun e w' => ∃ v, e = .returned (.tuple #[.agg #[v], .int .i64 (decRo L).1]) ∧ OwnRo w' w.heap.size v (decRo L).2 ∧ Below w.heap.size w w' := by
  obtain ⟨W1, hW1⟩ : ∃ W1, w.alloc (.cells #[.slice none 0 0] 26) = W1 := ⟨_, rfl⟩
  have s1 : W1.heap.size = w.heap.size + 1 := by rw [← hW1]; simp
  have hb1 : Below w.heap.size w W1 := by rw [← hW1]; exact (Below.refl _ _).alloc (Nat.le_refl _) _
  have b1 : Blk W1 w.heap.size 26 #[.slice none 0 0] := by rw [← hW1]; exact Blk.new _ _ _
  have BZ := build_rib0
  by_cases h0 : n = 0
  · have hLn : L = [] := List.length_eq_zero_iff.1 (by omega)
    have d0 : decide ((n : Int) < 1) = true := decide_eq_true (by omega)
    subst hLn
    have HF := Lib.hid (show decRo [] = (7, []) by unfold decRo; rw [takeA]; simp)
    have ST := st_rib (a2 := none) (n2 := 0) (c2 := 0) b1
    have HB := Lib.hid (And.intro hb1 b1)
    clear hL hB hb1 b1 h0 hn s1 hc hlm
    go_enter Tryz.func6, Tryz.ntmps6
    go_wp2_with (with_reducible refine wpList_alloc_z rfl 26 rfl #[.slice none 0 0] 1 z_rib ?_)
    refine bodyPost_ret (results_blk rfl _ _ w.heap.size _ _ rfl (HB.out.2.row #[.slice none 0 0]) Tryz.underlying26 rfl s_rib1) rfl ?_
    exact ⟨.slice none 0 0, by rw [HF.out]; rfl, by rw [HF.out]; exact World.ownsRow_nil _ _ _ _, below_setRow HB.out.1 (Nat.le_refl _) _⟩
  · have d0 : decide ((n : Int) < 1) = false := decide_eq_false (by omega)
    obtain ⟨W2, hW2⟩ : ∃ W2, W1.alloc (.cells #[.slice none 0 0] 26) = W2 := ⟨_, rfl⟩
    have s2 : W2.heap.size = w.heap.size + 2 := by rw [← hW2]; simp [s1]
    have k12 : Below W1.heap.size W1 W2 := by rw [← hW2]; exact (Below.refl _ _).alloc (Nat.le_refl _) _
    have b2 : Blk W2 W1.heap.size 26 #[.slice none 0 0] := by rw [← hW2]; exact Blk.new _ _ _
    have hbw2 : Below w.heap.size w W2 := bel_trans hb1 k12
    obtain ⟨g0, o0, ea, hcell⟩ := hL.byte (i := 0) (by omega)
    have hgl : g0 < w.heap.size := by
      rcases hL with h | ⟨b, off, e, hb, _⟩
      · exact absurd (by rw [← hn, h]; rfl) h0
      · rw [ea] at e; cases e; exact hb
    obtain ⟨cnt, R, hLR⟩ : ∃ cnt R, L = cnt :: R := by
      cases L with
      | nil => exact absurd (by rw [← hn]; rfl) h0
      | cons x R => exact ⟨x, R, rfl⟩
    have hc256 : cnt < 256 := hB cnt (by rw [hLR]; simp)
    obtain ⟨E0, L0, hq⟩ : ∃ E0 L0, takeN roR 211 cnt R [] = (E0, L0) := ⟨_, _, rfl⟩
    have hdec : decRo L = if E0 = 0 then (if okRib L0 then (0, L0) else (211, [])) else (E0, []) := by
      unfold decRo; rw [hLR, takeA, hq]
    have hR1 : L.drop 1 = R := by rw [hLR]; rfl
    have hg0 : L.getD 0 0 = cnt := by rw [hLR]; rfl
    have LBY : ∀ w', Below w.heap.size w w' → ∀ j, j < L.length → w'.cell? ⟨g0, o0 + j, none⟩ = some (.int .u8 (L.getD j 0 : Nat)) := fun w' h j hj => (h.cell (p := ⟨g0, o0 + j, none⟩) hgl).trans (hcell j hj)
    have hz : 0 < n := by omega
    subst ea
    obtain ⟨DD, hDD⟩ : ∃ DD, decRo L = DD := ⟨_, rfl⟩
    rw [hDD] at hdec ⊢
    have HD := Lib.hid hdec
    clear hDD
    have HB := Lib.hid (And.intro hbw2 (And.intro (b1.later k12) (And.intro b2 (And.intro hn (And.intro hg0 (And.intro (And.intro hR1 hq) (And.intro hc256 (And.intro (And.intro s1 s2) (And.intro hL (And.intro hB (And.intro hc (And.intro hlm LBY))))))))))))
    clear hb1 b1 b2 hbw2 hn hg0 hR1 hq hc256 hB hL hcell hgl k12 h0 hc hlm s1 s2 LBY hdec hLR
    go_enter Tryz.func6, Tryz.ntmps6
    go_wp2_with (with_reducible refine wpList_alloc_z rfl 26 rfl #[.slice none 0 0] 1 z_rib ?_)
    clear hW2 hW1
    have H3 := Lib.hid (And.intro HB.out.1 (And.intro HB.out.2.1 HB.out.2.2.1))
    go_loopw [5, 6] (fun r i wr => ∃ (k j : Nat) (v : Option Addr) (vc : Nat) (T : List Ro), r = .int .i64 (j : Int) ∧ i = .int .i64 (k : Int) ∧ j ≤ n ∧ k ≤ cnt ∧ T.length = k ∧ Blk wr W1.heap.size 26 #[.slice v k vc] ∧ Blk wr w.heap.size 26 #[.slice none 0 0] ∧ OwnRo wr W2.heap.size (.slice v k vc) T ∧ Below w.heap.size w wr ∧ W2.heap.size ≤ wr.heap.size ∧ takeN roR 211 (cnt - k) (L.drop j) T = (E0, L0)) (fun r i _ => cnt - (intOf i).toNat)
    case atStart => exact ⟨0, 1, none, 0, [], rfl, rfl, hz, Nat.zero_le _, rfl, H3.out.2.2, H3.out.2.1, ⟨rfl, .inl ⟨rfl, rfl⟩⟩, H3.out.1, Nat.le_refl _, by rw [HB.out.2.2.2.2.2.1.1]; exact HB.out.2.2.2.2.2.1.2⟩
    case round =>
      obtain ⟨k, j, v, vc, T, rfl, rfl, hjn, hk, hTk, hbt, hbr, hown, hkb, hsz, hT⟩ := hrel
      have hc0 := HB.out.2.2.2.2.2.2.2.2.2.2.2.2 wr hkb 0 (by have := HB.out.2.2.2.1; omega)
      rw [HB.out.2.2.2.2.1, Nat.add_zero] at hc0
      have hcv : IntKind.i64.wrap (cnt : Int) = (cnt : Int) := wrap_b8 (by have := HB.out.2.2.2.2.2.2.1; omega)
      by_cases hlt : k < cnt
      · have dk : decide ((k : Int) < (cnt : Int)) = true := decide_eq_true (by omega)
        have dk2 : decide (k < cnt) = true := decide_eq_true hlt
        obtain ⟨l, hl⟩ : ∃ l, L.drop j = l := ⟨_, rfl⟩
        rw [hl] at hT
        have hll : l.length = n - j := by rw [← hl, List.length_drop, HB.out.2.2.2.1]
        obtain ⟨x', hct, hlx⟩ := cutB_run HB.out.2.2.2.1 HB.out.2.2.2.2.2.2.2.2.2.2.1 HB.out.2.2.2.2.2.2.2.2.1 j hjn
        rw [hl] at hlx
        have hBl : Bys l := by rw [← hl]; exact HB.out.2.2.2.2.2.2.2.2.2.1.drop9 j
        have hlm := HB.out.2.2.2.2.2.2.2.2.2.2.2.1
        have HFI := refdecode_any x' (cap - j) l hBl (by omega) wr (hlx.kept hkb)
        rw [hll] at HFI
        obtain ⟨E, hE⟩ : ∃ E, decPE l = E := ⟨_, rfl⟩
        obtain ⟨N, hN⟩ : ∃ N, decPN l = N := ⟨_, rfl⟩
        obtain ⟨X, hX⟩ : ∃ X, decPX l = X := ⟨_, rfl⟩
        have hNl : E = 0 → N ≤ n - j := fun h => by rw [← hN, ← hll]; exact (enc_dec hBl (hE.trans h)).2.2
        have hone : roR l = if E = 0 then ro3 X (l.drop N) else if E = 7 then (7, Ro.zero, []) else (211, Ro.zero, []) := by
          unfold roR; rw [hE, hN, hX]
        rw [hE, hN, hX] at HFI
        obtain ⟨q, hq⟩ : ∃ q, cnt - k = q + 1 := ⟨cnt - k - 1, by omega⟩
        rw [hq, takeN] at hT
        have HR := Lib.hid (And.intro hl (And.intro hll (And.intro hBl (And.intro hTk (And.intro hbt (And.intro hbr (And.intro hown (And.intro hkb (And.intro hsz (And.intro hT (And.intro hq hone)))))))))))
        clear hl hll hBl hE hN hX hTk hbt hbr hown hkb hsz hT hq hlx hone
        go_wp2_with fail
        refine HFI.mono ?_
        rintro e w4 ⟨rfl, hb4⟩
        obtain ⟨W5, hW5⟩ : ∃ W5, w4.alloc (.cells X.cs 43) = W5 := ⟨_, rfl⟩
        have S5 := st_px (q := X) (Blk.new w4 43 Px.zero.cs)
        rw [World.setRow_alloc_new, hW5] at S5
        have b5 : Blk W5 w4.heap.size 43 X.cs := by rw [← hW5]; exact Blk.new _ _ _
        have k45 : Below w4.heap.size w4 W5 := by rw [← hW5]; exact (Below.refl _ _).alloc (Nat.le_refl _) _
        have kr5 : Below wr.heap.size wr W5 := bel_trans hb4 k45
        obtain ⟨hl, hll, hBl, hTk, hbt, hbr, hown, hkb, hsz, hT, hq, hone⟩ := HR.out
        have br5 := hbr.later kr5
        have STZ := st_rib (a2 := none) (n2 := 0) (c2 := 0) br5
        have H5 := Lib.hid (And.intro b5 (And.intro (hkb.trans (kr5.mono hkb.size)) br5))
        have H6 := Lib.hid (And.intro kr5 hb4.size)
        clear hb4 b5 k45 kr5 br5 HFI hW5 hc0 hcv hct hl hll hBl hTk hbt hbr hown hkb hsz hq
        by_cases h7 : E = 7
        · rw [hone, if_neg (show ¬ E = 0 by omega), if_pos h7, if_neg (show ¬ ((7 : Int), Ro.zero, ([] : List Nat)).1 = 0 by simp)] at hT
          injection hT with e1 e2
          have HF := Lib.hid (show DD = ((7 : Int), ([] : List Ro)) by rw [HD.out, ← e1]; rfl)
          clear e1 e2 hNl hone
          subst h7
          go_wp2_with (with_reducible refine wpList_alloc_z rfl 43 rfl Px.zero.cs 18 z_px ?_)
          refine bodyPost_ret (results_blk rfl _ _ w.heap.size _ _ rfl (H5.out.2.2.row #[.slice none 0 0]) Tryz.underlying26 rfl s_rib1) rfl ?_
          exact ⟨.slice none 0 0, by rw [HF.out]; rfl, by rw [HF.out]; exact World.ownsRow_nil _ _ _ _, below_setRow H5.out.2.1 (Nat.le_refl _) _⟩
        · by_cases h0 : E = 0
          · rw [hone, if_pos h0] at hT
            have hNl2 := hNl h0
            have hll := HR.out.2.1
            obtain ⟨D, hD⟩ : ∃ D, l.drop N = D := ⟨_, rfl⟩
            have hDl : D.length = n - j - N := by rw [← hD, List.length_drop, hll]
            rw [hD] at hT
            obtain ⟨JN, hJN⟩ : ∃ JN, j + N = JN := ⟨_, rfl⟩
            have hJn : JN ≤ n := by omega
            have hlm6 : n ≤ 6000 := by omega
            have hJ61 : JN ≤ 6001 := by omega
            have wN : wrap64 ((j : Int) + (N : Int)) = (JN : Int) := wrap_pp hJN hJ61
            have wS : wrap64 ((n : Int) - (JN : Int)) = ((n - JN : Nat) : Int) := wrap_nn hJn hlm6
            have HWS := Lib.hid (And.intro wN wS)
            clear wN wS
            have hDD : L.drop JN = D := by rw [← hD, ← HR.out.1, List.drop_drop, hJN]
            subst h0
            clear h7 hNl hNl2 hone hll
            by_cases hsh : D.length < 3
            · rw [ro3_short hsh, if_neg (show ¬ ((7 : Int), Ro.zero, ([] : List Nat)).1 = 0 by simp)] at hT
              injection hT with e1 e2
              have HF := Lib.hid (show DD = ((7 : Int), ([] : List Ro)) by rw [HD.out, ← e1]; rfl)
              have d3 : decide (((n - JN : Nat) : Int) < 3) = true := decide_eq_true (by omega)
              have d4 : decide (n - JN < 3) = true := decide_eq_true (by omega)
              clear e1 e2 hD hDl hJN hJn hDD hsh hlm6 hJ61
              have wN := HWS.out.1
              have wS := HWS.out.2
              go_wp2_with (with_reducible refine wpList_alloc_z rfl 43 rfl Px.zero.cs 18 z_px ?_)
              refine bodyPost_ret (results_blk rfl _ _ w.heap.size _ _ rfl (H5.out.2.2.row #[.slice none 0 0]) Tryz.underlying26 rfl s_rib1) rfl ?_
              exact ⟨.slice none 0 0, by rw [HF.out]; rfl, by rw [HF.out]; exact World.ownsRow_nil _ _ _ _, below_setRow H5.out.2.1 (Nat.le_refl _) _⟩
            · obtain ⟨s0, f0, h0, D2, rfl⟩ : ∃ s0 f0 h0 D2, D = s0 :: f0 :: h0 :: D2 := by
                rcases D with _ | ⟨s, _ | ⟨f, _ | ⟨h, D2⟩⟩⟩
                · simp at hsh
                · simp at hsh
                · simp at hsh
                · exact ⟨s, f, h, D2, rfl⟩
              obtain ⟨ρ, hρ⟩ : ∃ ρ : Ro, Ro.mk X (s0 : Int) (f0 : Int) (h0 : Int) = ρ := ⟨_, rfl⟩
              have hT : takeN roR 211 q D2 (T ++ [ρ]) = (E0, L0) := by
                rw [ro3] at hT
                rw [if_pos rfl] at hT
                rw [← hρ]; exact hT
              have hBD : Bys (s0 :: f0 :: h0 :: D2) := by rw [← hDD]; exact HB.out.2.2.2.2.2.2.2.2.2.1.drop9 JN
              have ss : s0 < 256 := hBD s0 (by simp)
              have sf : f0 < 256 := hBD f0 (by simp)
              have sh : h0 < 256 := hBD h0 (by simp)
              have hlD : JN + 3 ≤ n := by simp at hDl; omega
              have g0e : L.getD JN 0 = s0 := by
                have : L.getD JN 0 = (L.drop JN).getD 0 0 := by simp [List.getD_eq_getElem?_getD]
                rw [this, hDD]; rfl
              have g1e : L.getD (JN + 1) 0 = f0 := by
                have : L.getD (JN + 1) 0 = (L.drop JN).getD 1 0 := by simp [List.getD_eq_getElem?_getD]
                rw [this, hDD]; rfl
              have g2e : L.getD (JN + 2) 0 = h0 := by
                have : L.getD (JN + 2) 0 = (L.drop JN).getD 2 0 := by simp [List.getD_eq_getElem?_getD]
                rw [this, hDD]; rfl
              have hD3 : L.drop (JN + 3) = D2 := by
                have : L.drop (JN + 3) = (L.drop JN).drop 3 := by rw [List.drop_drop]
                rw [this, hDD]; rfl
              have kr5 := H6.out.1
              have bt5 := HR.out.2.2.2.2.1.later kr5
              have ow5 := HR.out.2.2.2.2.2.2.1.later kr5
              obtain ⟨X0, hX0⟩ : ∃ X0, W5.drew = X0 := ⟨_, rfl⟩
              have k50 : Below W5.heap.size W5 X0 := by rw [← hX0]; exact (Below.refl _ _).drew
              have bt0 := bt5.later k50
              have ow0 := ow5.later k50
              have bX0 := H5.out.1.later k50
              have kw0 : Below w.heap.size w X0 := bel_trans H5.out.2.1 k50
              have hsz0 : W2.heap.size ≤ X0.heap.size := by have := HR.out.2.2.2.2.2.2.2.2.1; have := kr5.size; have := k50.size; omega
              have hs12 := HB.out.2.2.2.2.2.2.2.1
              have BR := build_ro4 X (s0 : Int) (f0 : Int) (h0 : Int)
              rw [hρ] at BR
              obtain ⟨v8, c8, X4, r7, o4, k4, kb⟩ := roappB_one ow0 (by have := HR.out.2.2.2.1; have := HB.out.2.2.2.2.2.2.1; omega) hsz0 ρ
              obtain ⟨X3, hX3⟩ : ∃ X3, X0.alloc (.cells ρ.cs 57) = X3 := ⟨_, rfl⟩
              have r3 := roone_run ρ X0
              rw [hX3] at r3 r7
              have k03 : Below X0.heap.size X0 X3 := by rw [← hX3]; exact (Below.refl _ _).alloc (Nat.le_refl _) _
              obtain ⟨S5p, hSp⟩ : ∃ S5p : World → Prop, S5p = fun w' => Blk w' W1.heap.size 26 #[.slice v k vc] ∧ Blk w' w4.heap.size 43 X.cs ∧ Below w.heap.size w w' := ⟨_, rfl⟩
              have co : ∀ w', S5p w' → w'.cell? ⟨W1.heap.size, 0, none⟩ = some (.slice v k vc) := fun w' h => by rw [hSp] at h; exact h.1.cell 0
              have cp : ∀ w', S5p w' → (loadSem 43 (.pointer (some ⟨w4.heap.size, 0, none⟩))).run Tryz.prog w' = .ok (.agg X.cs) w' := fun w' h => by rw [hSp] at h; exact px_p h.2.1 w' (Below.refl _ _)
              have cb0 : ∀ w', S5p w' → w'.cell? ⟨g0, o0 + JN, none⟩ = some (.int .u8 (s0 : Int)) := fun w' h => by
                rw [hSp] at h
                have := HB.out.2.2.2.2.2.2.2.2.2.2.2.2 w' h.2.2 JN (by have := HB.out.2.2.2.1; omega)
                rwa [g0e] at this
              have cb1 : ∀ w', S5p w' → w'.cell? ⟨g0, o0 + (JN + 1), none⟩ = some (.int .u8 (f0 : Int)) := fun w' h => by
                rw [hSp] at h
                have := HB.out.2.2.2.2.2.2.2.2.2.2.2.2 w' h.2.2 (JN + 1) (by have := HB.out.2.2.2.1; omega)
                rwa [g1e] at this
              have cb2 : ∀ w', S5p w' → w'.cell? ⟨g0, o0 + (JN + 2), none⟩ = some (.int .u8 (h0 : Int)) := fun w' h => by
                rw [hSp] at h
                have := HB.out.2.2.2.2.2.2.2.2.2.2.2.2 w' h.2.2 (JN + 2) (by have := HB.out.2.2.2.1; omega)
                rwa [g2e] at this
              have hS0 : S5p X0 := by rw [hSp]; exact ⟨bt0, bX0, kw0⟩
              have hS3 : S5p X3 := by rw [hSp]; exact ⟨bt0.later k03, bX0.later k03, bel_trans kw0 k03⟩
              have bt4 := kb _ _ _ bt0 (by decide)
              have bX4 := kb _ _ _ bX0 (by decide)
              have br4 := kb _ _ _ (H5.out.2.2.later k50) (by decide)
              have kw4 : Below w.heap.size w X4 := kw0.trans (k4.mono (by omega))
              have hS4 : S5p X4 := by rw [hSp]; exact ⟨bt4, bX4, kw4⟩
              have cz : X4.cell? ⟨W1.heap.size, 0, none⟩ = some (.slice v k vc) := bt4.cell 0
              have fz := bt4.free 0
              have hszX : W2.heap.size ≤ X4.heap.size := Nat.le_trans hsz0 k4.size
              have d3 : decide (((n - JN : Nat) : Int) < 3) = false := decide_eq_false (by omega)
              have d4 : decide (n - JN < 3) = false := decide_eq_false (by omega)
              have y0 : JN < n := by omega
              have y1 : JN + 1 < n := by omega
              have y2 : JN + 2 < n := by omega
              have hks : k + 1 ≤ 256 := by have := HB.out.2.2.2.2.2.2.1; omega
              have hJs : JN + 3 ≤ 5900 := by omega
              have z1 : (0 : Int) ≤ (JN : Int) + 1 := by omega
              have z2 : (0 : Int) ≤ (JN : Int) + 2 := by omega
              have z3 : (JN : Int) + 1 < (n : Int) := by omega
              have z4 : (JN : Int) + 2 < (n : Int) := by omega
              have HCV := Lib.hid (And.intro (show IntKind.i64.wrap (s0 : Int) = (s0 : Int) from wrap_b8 (by omega)) (And.intro (show IntKind.i64.wrap (f0 : Int) = (f0 : Int) from wrap_b8 (by omega)) (show IntKind.i64.wrap (h0 : Int) = (h0 : Int) from wrap_b8 (by omega))))
              have HX := Lib.hid (And.intro kw4 (And.intro o4 (And.intro bt4 (And.intro br4 (And.intro hszX (And.intro hT (And.intro hD3 hlD)))))))
              clear k50 o4 k4 kb bt4 bX4 bX0 ow0 ow5 bt0 bt5 hsz0 br4 hs12 hSp k03 hX3 kw4 kw0 hszX hT hD3 hlD g0e g1e g2e hρ kr5 ss sf sh hBD hDD hDl hD hJN hJn hsh STZ BZ dk2 hz hlm hlm6 hJ61
              have wN := HWS.out.1
              have wS := HWS.out.2
              go_wp2_with (with_reducible refine wpList_alloc_z rfl 43 rfl Px.zero.cs 18 z_px ?_)
              have cv0 := HCV.out.1
              have cv1 := HCV.out.2.1
              have cv2 := HCV.out.2.2
              simp only [wN]
              clear wN wS
              refine wp_region_linF S5p 24 [21, 22, 24] [0, 1, 2, 3, 4, 5, 6, 7, 8, 9, 10, 11, 12, 13, 14, 15, 16, 17, 18, 19, 20, 21, 22, 23, 24] (by kernel_rfl) (by kernel_rfl) (by rw [hX0]; exact hS0) ?_
              rw [hX0]
              (refine linF_op (v := ?_) rfl rfl (by rfl) (fun w9 hS9 => ?_) ?_; rotate_left; (focus ((go_simp; (try go_bits)) <;> with_reducible rfl)); (try simp only [Act.put, List.getElem_toArray, List.getElem_cons_zero, List.getElem_cons_succ, List.setIfInBounds_toArray, List.set_cons_zero, List.set_cons_succ]))
              (refine linF_op (v := ?_) rfl rfl (by rfl) (fun w9 hS9 => ?_) ?_; rotate_left; (focus ((have k9 := co w9 hS9; go_simp; (try go_bits)) <;> with_reducible rfl)); (try simp only [Act.put, List.getElem_toArray, List.getElem_cons_zero, List.getElem_cons_succ, List.setIfInBounds_toArray, List.set_cons_zero, List.set_cons_succ]))
              (refine linF_op (v := ?_) rfl rfl (by rfl) (fun w9 hS9 => ?_) ?_; rotate_left; (focus ((have k9 := cp w9 hS9; go_simp; (try go_bits)) <;> with_reducible rfl)); (try simp only [Act.put, List.getElem_toArray, List.getElem_cons_zero, List.getElem_cons_succ, List.setIfInBounds_toArray, List.set_cons_zero, List.set_cons_succ]))
              iterate 3 (refine linF_op (v := ?_) rfl rfl (by rfl) (fun w9 hS9 => ?_) ?_; rotate_left; (focus ((go_simp; (try go_bits)) <;> with_reducible rfl)); (try simp only [Act.put, List.getElem_toArray, List.getElem_cons_zero, List.getElem_cons_succ, List.setIfInBounds_toArray, List.set_cons_zero, List.set_cons_succ]))
              (refine linF_op (v := ?_) rfl rfl (by rfl) (fun w9 hS9 => ?_) ?_; rotate_left; (focus ((have k9 := cb0 w9 hS9; go_simp; (try go_bits)) <;> with_reducible rfl)); (try simp only [Act.put, List.getElem_toArray, List.getElem_cons_zero, List.getElem_cons_succ, List.setIfInBounds_toArray, List.set_cons_zero, List.set_cons_succ]))
              iterate 5 (refine linF_op (v := ?_) rfl rfl (by rfl) (fun w9 hS9 => ?_) ?_; rotate_left; (focus ((go_simp; (try go_bits)) <;> with_reducible rfl)); (try simp only [Act.put, List.getElem_toArray, List.getElem_cons_zero, List.getElem_cons_succ, List.setIfInBounds_toArray, List.set_cons_zero, List.set_cons_succ]))
              (refine linF_op (v := ?_) rfl rfl (by rfl) (fun w9 hS9 => ?_) ?_; rotate_left; (focus ((have k9 := cb1 w9 hS9; go_simp; (try go_bits)) <;> with_reducible rfl)); (try simp only [Act.put, List.getElem_toArray, List.getElem_cons_zero, List.getElem_cons_succ, List.setIfInBounds_toArray, List.set_cons_zero, List.set_cons_succ]))
              iterate 5 (refine linF_op (v := ?_) rfl rfl (by rfl) (fun w9 hS9 => ?_) ?_; rotate_left; (focus ((go_simp; (try go_bits)) <;> with_reducible rfl)); (try simp only [Act.put, List.getElem_toArray, List.getElem_cons_zero, List.getElem_cons_succ, List.setIfInBounds_toArray, List.set_cons_zero, List.set_cons_succ]))
              (refine linF_op (v := ?_) rfl rfl (by rfl) (fun w9 hS9 => ?_) ?_; rotate_left; (focus ((have k9 := cb2 w9 hS9; go_simp; (try go_bits)) <;> with_reducible rfl)); (try simp only [Act.put, List.getElem_toArray, List.getElem_cons_zero, List.getElem_cons_succ, List.setIfInBounds_toArray, List.set_cons_zero, List.set_cons_succ]))
              iterate 2 (refine linF_op (v := ?_) rfl rfl (by rfl) (fun w9 hS9 => ?_) ?_; rotate_left; (focus ((go_simp; (try go_bits)) <;> with_reducible rfl)); (try simp only [Act.put, List.getElem_toArray, List.getElem_cons_zero, List.getElem_cons_succ, List.setIfInBounds_toArray, List.set_cons_zero, List.set_cons_succ]))
              refine linF_do (v := .slice (some ⟨X0.heap.size, 0, none⟩) 1 1) (w' := X3) rfl rfl (by rfl) (by go_simp) hS3 ?_
              (try simp only [Act.put, List.getElem_toArray, List.getElem_cons_zero, List.getElem_cons_succ, List.setIfInBounds_toArray, List.set_cons_zero, List.set_cons_succ])
              refine linF_do (v := .slice v8 (k + 1) c8) (w' := X4) rfl rfl (by rfl) (by have r := r7 24; simp [execOp, resolve, invoke, builtin, Act.eval, r, Result.andThen]) hS4 ?_
              (try simp only [Act.put, List.getElem_toArray, List.getElem_cons_zero, List.getElem_cons_succ, List.setIfInBounds_toArray, List.set_cons_zero, List.set_cons_succ])
              (refine linF_op (v := ?_) rfl rfl (by rfl) (fun w9 hS9 => ?_) ?_; rotate_left; (focus ((go_simp; (try go_bits)) <;> with_reducible rfl)); (try simp only [Act.put, List.getElem_toArray, List.getElem_cons_zero, List.getElem_cons_succ, List.setIfInBounds_toArray, List.set_cons_zero, List.set_cons_succ]))
              refine linF_fin (w' := X4.setCell ⟨W1.heap.size, 0, none⟩ (.slice v8 (k + 1) c8)) rfl rfl (by rfl) (by go_simp) ?_
              (try simp only [Act.put, List.getElem_toArray, List.getElem_cons_zero, List.getElem_cons_succ, List.setIfInBounds_toArray, List.set_cons_zero, List.set_cons_succ])
              have k5 : Kept [W1.heap.size] X4 (X4.setCell ⟨W1.heap.size, 0, none⟩ (.slice v8 (k + 1) c8)) := (Kept.refl [W1.heap.size] X4).setCell (p := ⟨W1.heap.size, 0, none⟩) (.inl (by simp)) _
              have b5 : Blk (X4.setCell ⟨W1.heap.size, 0, none⟩ (.slice v8 (k + 1) c8)) W1.heap.size 26 #[.slice v8 (k + 1) c8] := by
                have := HX.out.2.2.1.set 0 (.slice v8 (k + 1) c8)
                simpa using this
              have hs12 := HB.out.2.2.2.2.2.2.2.1
              have br5 := HX.out.2.2.2.1.kept k5 (by simp; omega)
              have kwS : Below w.heap.size w (X4.setCell ⟨W1.heap.size, 0, none⟩ (.slice v8 (k + 1) c8)) := HX.out.1.trans (k5.below (by simp; omega) HX.out.1.size)
              have oS := HX.out.2.1.kept9 k5 (by intro g9 h9; have := (roown_above HX.out.2.1 g9 h9).1; simp; omega)
              have hszS : X4.heap.size ≤ (X4.setCell ⟨W1.heap.size, 0, none⟩ (.slice v8 (k + 1) c8)).heap.size := k5.size
              generalize (X4.setCell ⟨W1.heap.size, 0, none⟩ (.slice v8 (k + 1) c8)) = X5 at *
              have hszX : W2.heap.size ≤ X5.heap.size := by have := HX.out.2.2.2.2.1; omega
              have HQ := Lib.hid (And.intro b5 (And.intro br5 (And.intro kwS (And.intro oS hszX))))
              clear b5 br5 kwS oS hszX hszS k5 hs12 hS0 hS3 hS4 co cp cb0 cb1 cb2 cz fz hX0 r3 r7 S5
              go_wp2_with fail
              clear cv0 cv1 cv2
              go_roundw
              case rel =>
                exact ⟨k + 1, JN + 3, v8, c8, T ++ [ρ], by go_num, by go_num, HX.out.2.2.2.2.2.2.2, by omega, by simp [HR.out.2.2.2.1], HQ.out.1, HQ.out.2.1, HQ.out.2.2.2.1, HQ.out.2.2.1, HQ.out.2.2.2.2, by rw [HX.out.2.2.2.2.2.2.1, show cnt - (k + 1) = q by have := HR.out.2.2.2.2.2.2.2.2.2.2.1; omega]; exact HX.out.2.2.2.2.2.1⟩
              case measure =>
                simp [intOf]; omega
          · rw [hone, if_neg h0, if_neg h7, if_neg (show ¬ ((211 : Int), Ro.zero, ([] : List Nat)).1 = 0 by simp)] at hT
            injection hT with e1 e2
            have HF := Lib.hid (show DD = ((211 : Int), ([] : List Ro)) by rw [HD.out, ← e1]; rfl)
            have d7 : (E == 7) = false := by simpa using h7
            have d8 : (E != 0) = true := by simpa using h0
            clear e1 e2 h7 h0 hNl hone
            go_wp2_with (with_reducible refine wpList_alloc_z rfl 43 rfl Px.zero.cs 18 z_px ?_)
            refine bodyPost_ret (results_blk rfl _ _ w.heap.size _ _ rfl (H5.out.2.2.row #[.slice none 0 0]) Tryz.underlying26 rfl s_rib1) rfl ?_
            exact ⟨.slice none 0 0, by rw [HF.out]; rfl, by rw [HF.out]; exact World.ownsRow_nil _ _ _ _, below_setRow H5.out.2.1 (Nat.le_refl _) _⟩
      · obtain rfl : k = cnt := by omega
        rw [Nat.sub_self, takeN] at hT
        have dk : decide ((k : Int) < (k : Int)) = false := decide_eq_false (by omega)
        obtain ⟨va, vca, e8, _, _, hat, _⟩ := hown.lies
        rw [hTk] at e8
        injection e8 with e81 e82 e83
        subst e81 e83
        have hk256 := HB.out.2.2.2.2.2.2.1
        by_cases hjj : j = n
        · have hl0 : L.drop j = [] := List.drop_eq_nil_of_le (by rw [HB.out.2.2.2.1]; omega)
          rw [if_pos hl0] at hT
          injection hT with e1 e2
          subst e1 e2 hjj
          have d9 : ((j : Int) != (j : Int)) = false := by simp
          have HCK := rright11_any v k vc T wr hTk (by omega) hat
          have HG := Lib.hid (And.intro hkb (And.intro hbr (And.intro hown (And.intro hTk (And.intro hbt hsz)))))
          have LT0 := rib_t hbt wr (Below.refl _ _)
          by_cases hTok : okRib T
          · rw [decide_eq_true hTok] at HCK
            have HF := Lib.hid (show DD = (0, T) by rw [HD.out, if_pos rfl, if_pos hTok])
            clear hkb hbr hTk hbt hown hTok e82 hl0 hat hsz hk256
            go_wp2_with fail
            refine HCK.mono ?_
            rintro e w2 ⟨rfl, hb2⟩
            have LT2 := rib_t HG.out.2.2.2.2.1 w2 hb2
            have STT := st_rib (a2 := v) (n2 := k) (c2 := vc) (HG.out.2.1.later hb2)
            have HH := Lib.hid hb2
            clear hb2 HCK LT0 hc0
            go_wp2_with fail
            refine bodyPost_ret (results_blk rfl _ _ w.heap.size _ _ rfl ((HG.out.2.1.later HH.out).row _) Tryz.underlying26 rfl s_rib1) rfl ?_
            have o9 := HG.out.2.2.1.later HH.out
            have k9 : Kept [w.heap.size] w2 (w2.setRow w.heap.size #[.slice v k vc]) := (Kept.refl _ w2).setRow (.inl (by simp)) _
            have hs12 := HB.out.2.2.2.2.2.2.2.1
            exact ⟨.slice v k vc, by rw [HF.out]; rfl, by rw [HF.out]; exact (o9.kept9 k9 (by intro g9 h9; have := (roown_above o9 g9 h9).1; simp; omega)).less9 (by omega), below_setRow (HG.out.1.trans (HH.out.mono HG.out.1.size)) (Nat.le_refl _) _⟩
          · rw [decide_eq_false hTok] at HCK
            have HF := Lib.hid (show DD = ((211 : Int), ([] : List Ro)) by rw [HD.out, if_pos rfl, if_neg hTok])
            clear hkb hbr hTk hbt hown hTok e82 hl0 hat hsz hk256
            go_wp2_with fail
            refine HCK.mono ?_
            rintro e w2 ⟨rfl, hb2⟩
            have STT := st_rib (a2 := none) (n2 := 0) (c2 := 0) (HG.out.2.1.later hb2)
            have HH := Lib.hid hb2
            clear hb2 HCK LT0 hc0
            go_wp2_with fail
            refine bodyPost_ret (results_blk rfl _ _ w.heap.size _ _ rfl ((HG.out.2.1.later HH.out).row _) Tryz.underlying26 rfl s_rib1) rfl ?_
            exact ⟨.slice none 0 0, by rw [HF.out]; rfl, by rw [HF.out]; exact World.ownsRow_nil _ _ _ _, below_setRow (HG.out.1.trans (HH.out.mono HG.out.1.size)) (Nat.le_refl _) _⟩
        · have hl0 : ¬ L.drop j = [] := fun h => hjj (by have := List.drop_eq_nil_iff.1 h; have := HB.out.2.2.2.1; omega)
          rw [if_neg hl0] at hT
          injection hT with e1 e2
          have d9 : ((j : Int) != (n : Int)) = true := by simp; omega
          have HF := Lib.hid (show DD = ((211 : Int), ([] : List Ro)) by rw [HD.out, ← e1]; rfl)
          have STZ := st_rib (a2 := none) (n2 := 0) (c2 := 0) hbr
          have HG := Lib.hid (And.intro hkb hbr)
          clear hkb hbr hTk hbt hown e82 hjj e1 e2 hl0 hat hsz hk256
          go_wp2_with fail
          refine bodyPost_ret (results_blk rfl _ _ w.heap.size _ _ rfl (HG.out.2.row #[.slice none 0 0]) Tryz.underlying26 rfl s_rib1) rfl ?_
          exact ⟨.slice none 0 0, by rw [HF.out]; rfl, by rw [HF.out]; exact World.ownsRow_nil _ _ _ _, below_setRow HG.out.1 (Nat.le_refl _) _⟩
set_option maxHeartbeats 8000000 in
theorem refup_any (a : Option Addr) (n cap : Nat) (L : List Nat) (w : World) (hB : Bys L) (hn : L.length = n) (hlm : n ≤ 5900) (hc : n ≤ cap) (hL : Lies w a L) :
    Calls Tryz.prog 8 #[.slice a n cap] w fun e w' => ∃ v, e = .returned (.tuple #[.agg #[v], .int .i64 (decUp L).1]) ∧ OwnUp w' w.heap.size v (decUp L).2 ∧ Below w.heap.size w w' := by
  obtain ⟨W1, hW1⟩ : ∃ W1, w.alloc (.cells #[.slice none 0 0] 32) = W1 := ⟨_, rfl⟩
  have s1 : W1.heap.size = w.heap.size + 1 := by rw [← hW1]; simp
  have hb1 : Below w.heap.size w W1 := by rw [← hW1]; exact (Below.refl _ _).alloc (Nat.le_refl _) _
  have b1 : Blk W1 w.heap.size 32 #[.slice none 0 0] := by rw [← hW1]; exact Blk.new _ _ _
  have BZ := build_bat0
  by_cases h0 : n = 0
  · have hLn : L = [] := List.length_eq_zero_iff.1 (by omega)
    have d0 : decide ((n : Int) < 1) = true := decide_eq_true (by omega)
    subst hLn
    have HF := Lib.hid (show decUp [] = (7, []) by unfold decUp; rw [takeA]; simp)
    have ST := st_bat (a2 := none) (n2 := 0) (c2 := 0) b1
    have HB := Lib.hid (And.intro hb1 b1)
    clear hL hB hb1 b1 h0 hn s1 hc hlm
    go_enter Tryz.func8, Tryz.ntmps8
    go_wp2_with (with_reducible refine wpList_alloc_z rfl 32 rfl #[.slice none 0 0] 1 z_bat ?_)
    refine bodyPost_ret (results_blk rfl _ _ w.heap.size _ _ rfl (HB.out.2.row #[.slice none 0 0]) Tryz.underlying32 rfl s_bat1) rfl ?_
    exact ⟨.slice none 0 0, by rw [HF.out]; rfl, by rw [HF.out]; exact World.ownsRow_nil _ _ _ _, below_setRow HB.out.1 (Nat.le_refl _) _⟩
  · have d0 : decide ((n : Int) < 1) = false := decide_eq_false (by omega)
    obtain ⟨W2, hW2⟩ : ∃ W2, W1.alloc (.cells #[.slice none 0 0] 32) = W2 := ⟨_, rfl⟩
    have s2 : W2.heap.size = w.heap.size + 2 := by rw [← hW2]; simp [s1]
    have k12 : Below W1.heap.size W1 W2 := by rw [← hW2]; exact (Below.refl _ _).alloc (Nat.le_refl _) _
    have b2 : Blk W2 W1.heap.size 32 #[.slice none 0 0] := by rw [← hW2]; exact Blk.new _ _ _
    have hbw2 : Below w.heap.size w W2 := bel_trans hb1 k12
    obtain ⟨g0, o0, ea, hcell⟩ := hL.byte (i := 0) (by omega)
    have hgl : g0 < w.heap.size := by
      rcases hL with h | ⟨b, off, e, hb, _⟩
      · exact absurd (by rw [← hn, h]; rfl) h0
      · rw [ea] at e; cases e; exact hb
    obtain ⟨cnt, R, hLR⟩ : ∃ cnt R, L = cnt :: R := by
      cases L with
      | nil => exact absurd (by rw [← hn]; rfl) h0
      | cons x R => exact ⟨x, R, rfl⟩
    have hc256 : cnt < 256 := hB cnt (by rw [hLR]; simp)
    obtain ⟨E0, L0, hq⟩ : ∃ E0 L0, takeN upR 210 cnt R [] = (E0, L0) := ⟨_, _, rfl⟩
    have hdec : decUp L = if E0 = 0 then (if okBat L0 then (0, L0) else (210, [])) else (E0, []) := by
      unfold decUp; rw [hLR, takeA, hq]
    have hR1 : L.drop 1 = R := by rw [hLR]; rfl
    have hg0 : L.getD 0 0 = cnt := by rw [hLR]; rfl
    have LBY : ∀ w', Below w.heap.size w w' → ∀ j, j < L.length → w'.cell? ⟨g0, o0 + j, none⟩ = some (.int .u8 (L.getD j 0 : Nat)) := fun w' h j hj => (h.cell (p := ⟨g0, o0 + j, none⟩) hgl).trans (hcell j hj)
    have hz : 0 < n := by omega
    subst ea
    obtain ⟨DD, hDD⟩ : ∃ DD, decUp L = DD := ⟨_, rfl⟩
    rw [hDD] at hdec ⊢
    have HD := Lib.hid hdec
    clear hDD
    have HB := Lib.hid (And.intro hbw2 (And.intro (b1.later k12) (And.intro b2 (And.intro hn (And.intro hg0 (And.intro (And.intro hR1 hq) (And.intro hc256 (And.intro (And.intro s1 s2) (And.intro hL (And.intro hB (And.intro hc (And.intro hlm LBY))))))))))))
    clear hb1 b1 b2 hbw2 hn hg0 hR1 hq hc256 hB hL hcell hgl k12 h0 hc hlm s1 s2 LBY hdec hLR
    go_enter Tryz.func8, Tryz.ntmps8
    go_wp2_with (with_reducible refine wpList_alloc_z rfl 32 rfl #[.slice none 0 0] 1 z_bat ?_)
    clear hW2 hW1
    have H3 := Lib.hid (And.intro HB.out.1 (And.intro HB.out.2.1 HB.out.2.2.1))
    go_loopw [5, 6] (fun r i wr => ∃ (k j : Nat) (v : Option Addr) (vc : Nat) (T : List Up), r = .int .i64 (j : Int) ∧ i = .int .i64 (k : Int) ∧ j ≤ n ∧ k ≤ cnt ∧ T.length = k ∧ Blk wr W1.heap.size 32 #[.slice v k vc] ∧ Blk wr w.heap.size 32 #[.slice none 0 0] ∧ OwnUp wr W2.heap.size (.slice v k vc) T ∧ Below w.heap.size w wr ∧ W2.heap.size ≤ wr.heap.size ∧ takeN upR 210 (cnt - k) (L.drop j) T = (E0, L0)) (fun r i _ => cnt - (intOf i).toNat)
    case atStart => exact ⟨0, 1, none, 0, [], rfl, rfl, hz, Nat.zero_le _, rfl, H3.out.2.2, H3.out.2.1, ⟨rfl, .inl ⟨rfl, rfl⟩⟩, H3.out.1, Nat.le_refl _, by rw [HB.out.2.2.2.2.2.1.1]; exact HB.out.2.2.2.2.2.1.2⟩
    case round =>
      obtain ⟨k, j, v, vc, T, rfl, rfl, hjn, hk, hTk, hbt, hbr, hown, hkb, hsz, hT⟩ := hrel
      have hc0 := HB.out.2.2.2.2.2.2.2.2.2.2.2.2 wr hkb 0 (by have := HB.out.2.2.2.1; omega)
      rw [HB.out.2.2.2.2.1, Nat.add_zero] at hc0
      have hcv : IntKind.i64.wrap (cnt : Int) = (cnt : Int) := wrap_b8 (by have := HB.out.2.2.2.2.2.2.1; omega)
      by_cases hlt : k < cnt
      · have dk : decide ((k : Int) < (cnt : Int)) = true := decide_eq_true (by omega)
        have dk2 : decide (k < cnt) = true := decide_eq_true hlt
        obtain ⟨l, hl⟩ : ∃ l, L.drop j = l := ⟨_, rfl⟩
        rw [hl] at hT
        have hll : l.length = n - j := by rw [← hl, List.length_drop, HB.out.2.2.2.1]
        obtain ⟨x', hct, hlx⟩ := cutB_run HB.out.2.2.2.1 HB.out.2.2.2.2.2.2.2.2.2.2.1 HB.out.2.2.2.2.2.2.2.2.1 j hjn
        rw [hl] at hlx
        have hBl : Bys l := by rw [← hl]; exact HB.out.2.2.2.2.2.2.2.2.2.1.drop9 j
        have hlm := HB.out.2.2.2.2.2.2.2.2.2.2.2.1
        have HFI := refdecode_any x' (cap - j) l hBl (by omega) wr (hlx.kept hkb)
        rw [hll] at HFI
        obtain ⟨E, hE⟩ : ∃ E, decPE l = E := ⟨_, rfl⟩
        obtain ⟨N, hN⟩ : ∃ N, decPN l = N := ⟨_, rfl⟩
        obtain ⟨X, hX⟩ : ∃ X, decPX l = X := ⟨_, rfl⟩
        have hNl : E = 0 → N ≤ n - j := fun h => by rw [← hN, ← hll]; exact (enc_dec hBl (hE.trans h)).2.2
        have hone : upR l = if E = 0 then up4 X (l.drop N) else if E = 7 then (7, Up.zero, []) else (210, Up.zero, []) := by
          unfold upR; rw [hE, hN, hX]
        rw [hE, hN, hX] at HFI
        obtain ⟨q, hq⟩ : ∃ q, cnt - k = q + 1 := ⟨cnt - k - 1, by omega⟩
        rw [hq, takeN] at hT
        have HR := Lib.hid (And.intro hl (And.intro hll (And.intro hBl (And.intro hTk (And.intro hbt (And.intro hbr (And.intro hown (And.intro hkb (And.intro hsz (And.intro hT (And.intro hq hone)))))))))))
        clear hl hll hBl hE hN hX hTk hbt hbr hown hkb hsz hT hq hlx hone
        go_wp2_with fail
        refine HFI.mono ?_
        rintro e w4 ⟨rfl, hb4⟩
        obtain ⟨W5, hW5⟩ : ∃ W5, w4.alloc (.cells X.cs 43) = W5 := ⟨_, rfl⟩
        have S5 := st_px (q := X) (Blk.new w4 43 Px.zero.cs)
        rw [World.setRow_alloc_new, hW5] at S5
        have b5 : Blk W5 w4.heap.size 43 X.cs := by rw [← hW5]; exact Blk.new _ _ _
        have k45 : Below w4.heap.size w4 W5 := by rw [← hW5]; exact (Below.refl _ _).alloc (Nat.le_refl _) _
        have kr5 : Below wr.heap.size wr W5 := bel_trans hb4 k45
        obtain ⟨hl, hll, hBl, hTk, hbt, hbr, hown, hkb, hsz, hT, hq, hone⟩ := HR.out
        have br5 := hbr.later kr5
        have STZ := st_bat (a2 := none) (n2 := 0) (c2 := 0) br5
        have H5 := Lib.hid (And.intro b5 (And.intro (hkb.trans (kr5.mono hkb.size)) br5))
        have H6 := Lib.hid (And.intro kr5 hb4.size)
        clear hb4 b5 k45 kr5 br5 HFI hW5 hc0 hcv hct hl hll hBl hTk hbt hbr hown hkb hsz hq
        by_cases h7 : E = 7
        · rw [hone, if_neg (show ¬ E = 0 by omega), if_pos h7, if_neg (show ¬ ((7 : Int), Up.zero, ([] : List Nat)).1 = 0 by simp)] at hT
          injection hT with e1 e2
          have HF := Lib.hid (show DD = ((7 : Int), ([] : List Up)) by rw [HD.out, ← e1]; rfl)
          clear e1 e2 hNl hone
          subst h7
          go_wp2_with (with_reducible refine wpList_alloc_z rfl 43 rfl Px.zero.cs 18 z_px ?_)
          refine bodyPost_ret (results_blk rfl _ _ w.heap.size _ _ rfl (H5.out.2.2.row #[.slice none 0 0]) Tryz.underlying32 rfl s_bat1) rfl ?_
          exact ⟨.slice none 0 0, by rw [HF.out]; rfl, by rw [HF.out]; exact World.ownsRow_nil _ _ _ _, below_setRow H5.out.2.1 (Nat.le_refl _) _⟩
        · by_cases h0 : E = 0
          · rw [hone, if_pos h0] at hT
            have hNl2 := hNl h0
            have hll := HR.out.2.1
            obtain ⟨D, hD⟩ : ∃ D, l.drop N = D := ⟨_, rfl⟩
            have hDl : D.length = n - j - N := by rw [← hD, List.length_drop, hll]
            rw [hD] at hT
            obtain ⟨JN, hJN⟩ : ∃ JN, j + N = JN := ⟨_, rfl⟩
            have hJn : JN ≤ n := by omega
            have hlm6 : n ≤ 6000 := by omega
            have hJ61 : JN ≤ 6001 := by omega
            have wN : wrap64 ((j : Int) + (N : Int)) = (JN : Int) := wrap_pp hJN hJ61
            have wS : wrap64 ((n : Int) - (JN : Int)) = ((n - JN : Nat) : Int) := wrap_nn hJn hlm6
            have HWS := Lib.hid (And.intro wN wS)
            clear wN wS
            have hDD : L.drop JN = D := by rw [← hD, ← HR.out.1, List.drop_drop, hJN]
            subst h0
            clear h7 hNl hNl2 hone hll
            by_cases hsh : D.length < 2
            · rw [up4_short2 hsh, if_neg (show ¬ ((7 : Int), Up.zero, ([] : List Nat)).1 = 0 by simp)] at hT
              injection hT with e1 e2
              have HF := Lib.hid (show DD = ((7 : Int), ([] : List Up)) by rw [HD.out, ← e1]; rfl)
              have da : decide ((2 : Int) ≤ ((n - JN : Nat) : Int)) = false := decide_eq_false (by omega)
              have db : decide (2 ≤ n - JN) = false := decide_eq_false (by omega)
              have xa : decide ((2 : Int) ≤ (n : Int) - (JN : Int)) = false := decide_eq_false (by omega)
              have x3 : decide ((n : Int) - (JN : Int) < 4) = true := decide_eq_true (by omega)
              have d3 : decide (((n - JN : Nat) : Int) < 4) = true := decide_eq_true (by omega)
              have d4 : decide (n - JN < 4) = true := decide_eq_true (by omega)
              clear e1 e2 hD hDl hJN hJn hDD hsh hlm6 hJ61
              have wN := HWS.out.1
              have wS := HWS.out.2
              go_wp2_with (with_reducible refine wpList_alloc_z rfl 43 rfl Px.zero.cs 18 z_px ?_)
              refine bodyPost_ret (results_blk rfl _ _ w.heap.size _ _ rfl (H5.out.2.2.row #[.slice none 0 0]) Tryz.underlying32 rfl s_bat1) rfl ?_
              exact ⟨.slice none 0 0, by rw [HF.out]; rfl, by rw [HF.out]; exact World.ownsRow_nil _ _ _ _, below_setRow H5.out.2.1 (Nat.le_refl _) _⟩
            · obtain ⟨s0, b0, D3, rfl⟩ : ∃ s0 b0 D3, D = s0 :: b0 :: D3 := by
                rcases D with _ | ⟨s, _ | ⟨f, D3⟩⟩
                · simp at hsh
                · simp at hsh
                · exact ⟨s, f, D3, rfl⟩
              have hBD : Bys (s0 :: b0 :: D3) := by rw [← hDD]; exact HB.out.2.2.2.2.2.2.2.2.2.1.drop9 JN
              have g1e : L.getD (JN + 1) 0 = b0 := by
                have : L.getD (JN + 1) 0 = (L.drop JN).getD 1 0 := by simp [List.getD_eq_getElem?_getD]
                rw [this, hDD]; rfl
              have hl2 : JN + 2 ≤ n := by simp at hDl; omega
              have cg : W5.cell? ⟨g0, o0 + (JN + 1), none⟩ = some (.int .u8 (b0 : Int)) := by
                have := HB.out.2.2.2.2.2.2.2.2.2.2.2.2 W5 H5.out.2.1 (JN + 1) (by have := HB.out.2.2.2.1; omega)
                rwa [g1e] at this
              have da : decide ((2 : Int) ≤ ((n - JN : Nat) : Int)) = true := decide_eq_true (by omega)
              have db : decide (2 ≤ n - JN) = true := decide_eq_true (by omega)
              have xa : decide ((2 : Int) ≤ (n : Int) - (JN : Int)) = true := decide_eq_true (by omega)
              have z1 : (0 : Int) ≤ (JN : Int) + 1 := by omega
              have z3 : (JN : Int) + 1 < (n : Int) := by omega
              have y1 : JN + 1 < n := by omega
              have w1 : wrap64 ((JN : Int) + 1) = (JN : Int) + 1 := wrap_c8 (by decide) (by decide) (by omega)
              have HW1 := Lib.hid w1
              clear w1
              by_cases hgt : 1 < b0
              · rw [up4_gt hgt, if_neg (show ¬ ((210 : Int), Up.zero, ([] : List Nat)).1 = 0 by simp)] at hT
                injection hT with e1 e2
                have HF := Lib.hid (show DD = ((210 : Int), ([] : List Up)) by rw [HD.out, ← e1]; rfl)
                have dg : decide ((1 : Int) < (b0 : Int)) = true := decide_eq_true (by omega)
                have dg2 : decide (1 < b0) = true := decide_eq_true hgt
                clear e1 e2 hD hDl hJN hJn hDD hsh hlm6 hJ61 hgt hBD g1e hl2
                have wN := HWS.out.1
                go_upto_region 14 with (with_reducible refine wpList_alloc_z rfl 43 rfl Px.zero.cs 18 z_px ?_)
                simp only [wN]
                clear wN
                have wS := HWS.out.2
                have w1 := HW1.out
                go_wp2_with (with_reducible refine wpList_alloc_z rfl 43 rfl Px.zero.cs 18 z_px ?_)
                refine bodyPost_ret (results_blk rfl _ _ w.heap.size _ _ rfl (H5.out.2.2.row #[.slice none 0 0]) Tryz.underlying32 rfl s_bat1) rfl ?_
                exact ⟨.slice none 0 0, by rw [HF.out]; rfl, by rw [HF.out]; exact World.ownsRow_nil _ _ _ _, below_setRow H5.out.2.1 (Nat.le_refl _) _⟩
              · have dg : decide ((1 : Int) < (b0 : Int)) = false := decide_eq_false (by omega)
                have dg2 : decide (1 < b0) = false := decide_eq_false hgt
                by_cases hs4 : (s0 :: b0 :: D3).length < 4
                · rw [up4_short4 hgt hs4, if_neg (show ¬ ((7 : Int), Up.zero, ([] : List Nat)).1 = 0 by simp)] at hT
                  injection hT with e1 e2
                  have HF := Lib.hid (show DD = ((7 : Int), ([] : List Up)) by rw [HD.out, ← e1]; rfl)
                  have d3 : decide (((n - JN : Nat) : Int) < 4) = true := decide_eq_true (by omega)
                  have d4 : decide (n - JN < 4) = true := decide_eq_true (by omega)
                  have x3 : decide ((n : Int) - (JN : Int) < 4) = true := decide_eq_true (by omega)
                  clear e1 e2 hD hDl hJN hJn hDD hsh hlm6 hJ61 hgt hBD g1e hl2 hs4
                  have wN := HWS.out.1
                  go_upto_region 14 with (with_reducible refine wpList_alloc_z rfl 43 rfl Px.zero.cs 18 z_px ?_)
                  simp only [wN]
                  clear wN
                  have wS := HWS.out.2
                  have w1 := HW1.out
                  go_wp2_with (with_reducible refine wpList_alloc_z rfl 43 rfl Px.zero.cs 18 z_px ?_)
                  refine bodyPost_ret (results_blk rfl _ _ w.heap.size _ _ rfl (H5.out.2.2.row #[.slice none 0 0]) Tryz.underlying32 rfl s_bat1) rfl ?_
                  exact ⟨.slice none 0 0, by rw [HF.out]; rfl, by rw [HF.out]; exact World.ownsRow_nil _ _ _ _, below_setRow H5.out.2.1 (Nat.le_refl _) _⟩
                · clear z1 z3 y1
                  obtain ⟨f0, h0, D2, rfl⟩ : ∃ f0 h0 D2, D3 = f0 :: h0 :: D2 := by
                    rcases D3 with _ | ⟨f, _ | ⟨h, D2⟩⟩
                    · simp at hs4
                    · simp at hs4
                    · exact ⟨f, h, D2, rfl⟩
                  obtain ⟨ρ, hρ⟩ : ∃ ρ : Up, Up.mk X (s0 : Int) (decide (b0 = 1)) (f0 : Int) (h0 : Int) = ρ := ⟨_, rfl⟩
                  have hT : takeN upR 210 q D2 (T ++ [ρ]) = (E0, L0) := by
                    rw [up4_ok hgt] at hT
                    rw [if_pos rfl] at hT
                    rw [← hρ]; exact hT
                  have hb01 : b0 = 0 ∨ b0 = 1 := by omega
                  have ss : s0 < 256 := hBD s0 (by simp)
                  have sf : f0 < 256 := hBD f0 (by simp)
                  have sh : h0 < 256 := hBD h0 (by simp)
                  have hlD : JN + 4 ≤ n := by simp at hDl; omega
                  have g0e : L.getD JN 0 = s0 := by
                    have : L.getD JN 0 = (L.drop JN).getD 0 0 := by simp [List.getD_eq_getElem?_getD]
                    rw [this, hDD]; rfl
                  have g2e : L.getD (JN + 2) 0 = f0 := by
                    have : L.getD (JN + 2) 0 = (L.drop JN).getD 2 0 := by simp [List.getD_eq_getElem?_getD]
                    rw [this, hDD]; rfl
                  have g3e : L.getD (JN + 3) 0 = h0 := by
                    have : L.getD (JN + 3) 0 = (L.drop JN).getD 3 0 := by simp [List.getD_eq_getElem?_getD]
                    rw [this, hDD]; rfl
                  have hD3 : L.drop (JN + 4) = D2 := by
                    have : L.drop (JN + 4) = (L.drop JN).drop 4 := by rw [List.drop_drop]
                    rw [this, hDD]; rfl
                  have kr5 := H6.out.1
                  have bt5 := HR.out.2.2.2.2.1.later kr5
                  have ow5 := HR.out.2.2.2.2.2.2.1.later kr5
                  obtain ⟨X0, hX0⟩ : ∃ X0, W5.drew = X0 := ⟨_, rfl⟩
                  have k50 : Below W5.heap.size W5 X0 := by rw [← hX0]; exact (Below.refl _ _).drew
                  have bt0 := bt5.later k50
                  have ow0 := ow5.later k50
                  have bX0 := H5.out.1.later k50
                  have kw0 : Below w.heap.size w X0 := bel_trans H5.out.2.1 k50
                  have hsz0 : W2.heap.size ≤ X0.heap.size := by have := HR.out.2.2.2.2.2.2.2.2.1; have := kr5.size; have := k50.size; omega
                  have hs12 := HB.out.2.2.2.2.2.2.2.1
                  have BR := build_up5 X (s0 : Int) (f0 : Int) (h0 : Int) (decide (b0 = 1))
                  rw [hρ] at BR
                  obtain ⟨v8, c8, X4, r7, o4, k4, kb⟩ := upappB_one ow0 (by have := HR.out.2.2.2.1; have := HB.out.2.2.2.2.2.2.1; omega) hsz0 ρ
                  obtain ⟨X3, hX3⟩ : ∃ X3, X0.alloc (.cells ρ.cs 46) = X3 := ⟨_, rfl⟩
                  have r3 := upone_run ρ X0
                  rw [hX3] at r3 r7
                  have k03 : Below X0.heap.size X0 X3 := by rw [← hX3]; exact (Below.refl _ _).alloc (Nat.le_refl _) _
                  obtain ⟨S5p, hSp⟩ : ∃ S5p : World → Prop, S5p = fun w' => Blk w' W1.heap.size 32 #[.slice v k vc] ∧ Blk w' w4.heap.size 43 X.cs ∧ Below w.heap.size w w' := ⟨_, rfl⟩
                  have co : ∀ w', S5p w' → w'.cell? ⟨W1.heap.size, 0, none⟩ = some (.slice v k vc) := fun w' h => by rw [hSp] at h; exact h.1.cell 0
                  have cp : ∀ w', S5p w' → (loadSem 43 (.pointer (some ⟨w4.heap.size, 0, none⟩))).run Tryz.prog w' = .ok (.agg X.cs) w' := fun w' h => by rw [hSp] at h; exact px_p h.2.1 w' (Below.refl _ _)
                  have cb0 : ∀ w', S5p w' → w'.cell? ⟨g0, o0 + JN, none⟩ = some (.int .u8 (s0 : Int)) := fun w' h => by
                    rw [hSp] at h
                    have := HB.out.2.2.2.2.2.2.2.2.2.2.2.2 w' h.2.2 JN (by have := HB.out.2.2.2.1; omega)
                    rwa [g0e] at this
                  have cb1 : ∀ w', S5p w' → w'.cell? ⟨g0, o0 + (JN + 1), none⟩ = some (.int .u8 (b0 : Int)) := fun w' h => by
                    rw [hSp] at h
                    have := HB.out.2.2.2.2.2.2.2.2.2.2.2.2 w' h.2.2 (JN + 1) (by have := HB.out.2.2.2.1; omega)
                    rwa [g1e] at this
                  have cb2 : ∀ w', S5p w' → w'.cell? ⟨g0, o0 + (JN + 2), none⟩ = some (.int .u8 (f0 : Int)) := fun w' h => by
                    rw [hSp] at h
                    have := HB.out.2.2.2.2.2.2.2.2.2.2.2.2 w' h.2.2 (JN + 2) (by have := HB.out.2.2.2.1; omega)
                    rwa [g2e] at this
                  have cb3 : ∀ w', S5p w' → w'.cell? ⟨g0, o0 + (JN + 3), none⟩ = some (.int .u8 (h0 : Int)) := fun w' h => by
                    rw [hSp] at h
                    have := HB.out.2.2.2.2.2.2.2.2.2.2.2.2 w' h.2.2 (JN + 3) (by have := HB.out.2.2.2.1; omega)
                    rwa [g3e] at this
                  have hS0 : S5p X0 := by rw [hSp]; exact ⟨bt0, bX0, kw0⟩
                  have hS3 : S5p X3 := by rw [hSp]; exact ⟨bt0.later k03, bX0.later k03, bel_trans kw0 k03⟩
                  have bt4 := kb _ _ _ bt0 (by decide)
                  have bX4 := kb _ _ _ bX0 (by decide)
                  have br4 := kb _ _ _ (H5.out.2.2.later k50) (by decide)
                  have kw4 : Below w.heap.size w X4 := kw0.trans (k4.mono (by omega))
                  have hS4 : S5p X4 := by rw [hSp]; exact ⟨bt4, bX4, kw4⟩
                  have cz : X4.cell? ⟨W1.heap.size, 0, none⟩ = some (.slice v k vc) := bt4.cell 0
                  have fz := bt4.free 0
                  have hszX : W2.heap.size ≤ X4.heap.size := Nat.le_trans hsz0 k4.size
                  have d3 : decide (((n - JN : Nat) : Int) < 4) = false := decide_eq_false (by omega)
                  have d4 : decide (n - JN < 4) = false := decide_eq_false (by omega)
                  have x3 : decide ((n : Int) - (JN : Int) < 4) = false := decide_eq_false (by omega)
                  have y0 : JN < n := by omega
                  have y1 : JN + 1 < n := by omega
                  have y2 : JN + 2 < n := by omega
                  have hks : k + 1 ≤ 256 := by have := HB.out.2.2.2.2.2.2.1; omega
                  have hJs : JN + 4 ≤ 5900 := by omega
                  have z1 : (0 : Int) ≤ (JN : Int) + 1 := by omega
                  have z2 : (0 : Int) ≤ (JN : Int) + 2 := by omega
                  have z3 : (JN : Int) + 1 < (n : Int) := by omega
                  have z4 : (JN : Int) + 2 < (n : Int) := by omega
                  have z5 : (0 : Int) ≤ (JN : Int) + 3 := by omega
                  have z6 : (JN : Int) + 3 < (n : Int) := by omega
                  have y3 : JN + 3 < n := by omega
                  have HCV := Lib.hid (And.intro (show IntKind.i64.wrap (s0 : Int) = (s0 : Int) from wrap_b8 (by omega)) (And.intro (show IntKind.i64.wrap (f0 : Int) = (f0 : Int) from wrap_b8 (by omega)) (show IntKind.i64.wrap (h0 : Int) = (h0 : Int) from wrap_b8 (by omega))))
                  have HX := Lib.hid (And.intro kw4 (And.intro o4 (And.intro bt4 (And.intro br4 (And.intro hszX (And.intro hT (And.intro hD3 hlD)))))))
                  clear k50 o4 k4 kb bt4 bX4 bX0 ow0 ow5 bt0 bt5 hsz0 br4 hs12 hSp k03 hX3 kw4 kw0 hszX hT hD3 hlD g0e g1e g2e g3e hρ kr5 ss sf sh hBD hgt hs4 hl2 hDD hDl hD hJN hJn hsh STZ BZ dk2 hz hlm hlm6 hJ61
                  have wN := HWS.out.1
                  go_upto_region 14 with (with_reducible refine wpList_alloc_z rfl 43 rfl Px.zero.cs 18 z_px ?_)
                  simp only [wN]
                  clear wN
                  have wS := HWS.out.2
                  have w1 := HW1.out
                  go_wp2_with fail
                  have cv0 := HCV.out.1
                  have cv1 := HCV.out.2.1
                  have cv2 := HCV.out.2.2
                  clear wS w1 dg dg2 da db cg
                  have EQ1 : ((b0 : Int) == 1) = decide (b0 = 1) := by rcases hb01 with rfl | rfl <;> rfl
                  refine wp_region_linF S5p 30 [27, 28, 30] [0, 1, 2, 3, 4, 5, 6, 7, 8, 9, 10, 11, 12, 13, 14, 15, 16, 17, 18, 19, 20, 21, 22, 23, 24, 25, 26, 27, 28, 29, 30] (by kernel_rfl) (by kernel_rfl) (by rw [hX0]; exact hS0) ?_
                  rw [hX0]
                  (refine linF_op (v := ?_) rfl rfl (by rfl) (fun w9 hS9 => ?_) ?_; rotate_left; (focus ((go_simp; (try go_bits)) <;> with_reducible rfl)); (try simp only [Act.put, List.getElem_toArray, List.getElem_cons_zero, List.getElem_cons_succ, List.setIfInBounds_toArray, List.set_cons_zero, List.set_cons_succ]))
                  (refine linF_op (v := ?_) rfl rfl (by rfl) (fun w9 hS9 => ?_) ?_; rotate_left; (focus ((have k9 := co w9 hS9; go_simp; (try go_bits)) <;> with_reducible rfl)); (try simp only [Act.put, List.getElem_toArray, List.getElem_cons_zero, List.getElem_cons_succ, List.setIfInBounds_toArray, List.set_cons_zero, List.set_cons_succ]))
                  (refine linF_op (v := ?_) rfl rfl (by rfl) (fun w9 hS9 => ?_) ?_; rotate_left; (focus ((have k9 := cp w9 hS9; go_simp; (try go_bits)) <;> with_reducible rfl)); (try simp only [Act.put, List.getElem_toArray, List.getElem_cons_zero, List.getElem_cons_succ, List.setIfInBounds_toArray, List.set_cons_zero, List.set_cons_succ]))
                  iterate 3 (refine linF_op (v := ?_) rfl rfl (by rfl) (fun w9 hS9 => ?_) ?_; rotate_left; (focus ((go_simp; (try go_bits)) <;> with_reducible rfl)); (try simp only [Act.put, List.getElem_toArray, List.getElem_cons_zero, List.getElem_cons_succ, List.setIfInBounds_toArray, List.set_cons_zero, List.set_cons_succ]))
                  (refine linF_op (v := ?_) rfl rfl (by rfl) (fun w9 hS9 => ?_) ?_; rotate_left; (focus ((have k9 := cb0 w9 hS9; go_simp; (try go_bits)) <;> with_reducible rfl)); (try simp only [Act.put, List.getElem_toArray, List.getElem_cons_zero, List.getElem_cons_succ, List.setIfInBounds_toArray, List.set_cons_zero, List.set_cons_succ]))
                  iterate 5 (refine linF_op (v := ?_) rfl rfl (by rfl) (fun w9 hS9 => ?_) ?_; rotate_left; (focus ((go_simp; (try go_bits)) <;> with_reducible rfl)); (try simp only [Act.put, List.getElem_toArray, List.getElem_cons_zero, List.getElem_cons_succ, List.setIfInBounds_toArray, List.set_cons_zero, List.set_cons_succ]))
                  (refine linF_op (v := ?_) rfl rfl (by rfl) (fun w9 hS9 => ?_) ?_; rotate_left; (focus ((have k9 := cb1 w9 hS9; go_simp; (try go_bits)) <;> with_reducible rfl)); (try simp only [Act.put, List.getElem_toArray, List.getElem_cons_zero, List.getElem_cons_succ, List.setIfInBounds_toArray, List.set_cons_zero, List.set_cons_succ]))
                  iterate 5 (refine linF_op (v := ?_) rfl rfl (by rfl) (fun w9 hS9 => ?_) ?_; rotate_left; (focus ((go_simp; (try go_bits)) <;> with_reducible rfl)); (try simp only [Act.put, List.getElem_toArray, List.getElem_cons_zero, List.getElem_cons_succ, List.setIfInBounds_toArray, List.set_cons_zero, List.set_cons_succ]))
                  (refine linF_op (v := ?_) rfl rfl (by rfl) (fun w9 hS9 => ?_) ?_; rotate_left; (focus ((have k9 := cb2 w9 hS9; go_simp; (try go_bits)) <;> with_reducible rfl)); (try simp only [Act.put, List.getElem_toArray, List.getElem_cons_zero, List.getElem_cons_succ, List.setIfInBounds_toArray, List.set_cons_zero, List.set_cons_succ]))
                  iterate 5 (refine linF_op (v := ?_) rfl rfl (by rfl) (fun w9 hS9 => ?_) ?_; rotate_left; (focus ((go_simp; (try go_bits)) <;> with_reducible rfl)); (try simp only [Act.put, List.getElem_toArray, List.getElem_cons_zero, List.getElem_cons_succ, List.setIfInBounds_toArray, List.set_cons_zero, List.set_cons_succ]))
                  (refine linF_op (v := ?_) rfl rfl (by rfl) (fun w9 hS9 => ?_) ?_; rotate_left; (focus ((have k9 := cb3 w9 hS9; go_simp; (try go_bits)) <;> with_reducible rfl)); (try simp only [Act.put, List.getElem_toArray, List.getElem_cons_zero, List.getElem_cons_succ, List.setIfInBounds_toArray, List.set_cons_zero, List.set_cons_succ]))
                  iterate 2 (refine linF_op (v := ?_) rfl rfl (by rfl) (fun w9 hS9 => ?_) ?_; rotate_left; (focus ((go_simp; (try go_bits)) <;> with_reducible rfl)); (try simp only [Act.put, List.getElem_toArray, List.getElem_cons_zero, List.getElem_cons_succ, List.setIfInBounds_toArray, List.set_cons_zero, List.set_cons_succ]))
                  refine linF_do (v := .slice (some ⟨X0.heap.size, 0, none⟩) 1 1) (w' := X3) rfl rfl (by rfl) (by go_simp) hS3 ?_
                  (try simp only [Act.put, List.getElem_toArray, List.getElem_cons_zero, List.getElem_cons_succ, List.setIfInBounds_toArray, List.set_cons_zero, List.set_cons_succ])
                  refine linF_do (v := .slice v8 (k + 1) c8) (w' := X4) rfl rfl (by rfl) (by have r := r7 30; simp [execOp, resolve, invoke, builtin, Act.eval, r, Result.andThen]) hS4 ?_
                  (try simp only [Act.put, List.getElem_toArray, List.getElem_cons_zero, List.getElem_cons_succ, List.setIfInBounds_toArray, List.set_cons_zero, List.set_cons_succ])
                  (refine linF_op (v := ?_) rfl rfl (by rfl) (fun w9 hS9 => ?_) ?_; rotate_left; (focus ((go_simp; (try go_bits)) <;> with_reducible rfl)); (try simp only [Act.put, List.getElem_toArray, List.getElem_cons_zero, List.getElem_cons_succ, List.setIfInBounds_toArray, List.set_cons_zero, List.set_cons_succ]))
                  refine linF_fin (w' := X4.setCell ⟨W1.heap.size, 0, none⟩ (.slice v8 (k + 1) c8)) rfl rfl (by rfl) (by go_simp) ?_
                  (try simp only [Act.put, List.getElem_toArray, List.getElem_cons_zero, List.getElem_cons_succ, List.setIfInBounds_toArray, List.set_cons_zero, List.set_cons_succ])
                  have k5 : Kept [W1.heap.size] X4 (X4.setCell ⟨W1.heap.size, 0, none⟩ (.slice v8 (k + 1) c8)) := (Kept.refl [W1.heap.size] X4).setCell (p := ⟨W1.heap.size, 0, none⟩) (.inl (by simp)) _
                  have b5 : Blk (X4.setCell ⟨W1.heap.size, 0, none⟩ (.slice v8 (k + 1) c8)) W1.heap.size 32 #[.slice v8 (k + 1) c8] := by
                    have := HX.out.2.2.1.set 0 (.slice v8 (k + 1) c8)
                    simpa using this
                  have hs12 := HB.out.2.2.2.2.2.2.2.1
                  have br5 := HX.out.2.2.2.1.kept k5 (by simp; omega)
                  have kwS : Below w.heap.size w (X4.setCell ⟨W1.heap.size, 0, none⟩ (.slice v8 (k + 1) c8)) := HX.out.1.trans (k5.below (by simp; omega) HX.out.1.size)
                  have oS := HX.out.2.1.kept9 k5 (by intro g9 h9; have := (upown_above HX.out.2.1 g9 h9).1; simp; omega)
                  have hszS : X4.heap.size ≤ (X4.setCell ⟨W1.heap.size, 0, none⟩ (.slice v8 (k + 1) c8)).heap.size := k5.size
                  generalize (X4.setCell ⟨W1.heap.size, 0, none⟩ (.slice v8 (k + 1) c8)) = X5 at *
                  have hszX : W2.heap.size ≤ X5.heap.size := by have := HX.out.2.2.2.2.1; omega
                  have HQ := Lib.hid (And.intro b5 (And.intro br5 (And.intro kwS (And.intro oS hszX))))
                  clear b5 br5 kwS oS hszX hszS k5 hs12 hS0 hS3 hS4 co cp cb0 cb1 cb2 cz fz hX0 r3 r7 S5
                  go_wp2_with fail
                  clear cv0 cv1 cv2
                  go_roundw
                  case rel =>
                    exact ⟨k + 1, JN + 4, v8, c8, T ++ [ρ], by go_num, by go_num, HX.out.2.2.2.2.2.2.2, by omega, by simp [HR.out.2.2.2.1], HQ.out.1, HQ.out.2.1, HQ.out.2.2.2.1, HQ.out.2.2.1, HQ.out.2.2.2.2, by rw [HX.out.2.2.2.2.2.2.1, show cnt - (k + 1) = q by have := HR.out.2.2.2.2.2.2.2.2.2.2.1; omega]; exact HX.out.2.2.2.2.2.1⟩
                  case measure =>
                    simp [intOf]; omega
          · rw [hone, if_neg h0, if_neg h7, if_neg (show ¬ ((210 : Int), Up.zero, ([] : List Nat)).1 = 0 by simp)] at hT
            injection hT with e1 e2
            have HF := Lib.hid (show DD = ((210 : Int), ([] : List Up)) by rw [HD.out, ← e1]; rfl)
            have d7 : (E == 7) = false := by simpa using h7
            have d8 : (E != 0) = true := by simpa using h0
            clear e1 e2 h7 h0 hNl hone
            go_wp2_with (with_reducible refine wpList_alloc_z rfl 43 rfl Px.zero.cs 18 z_px ?_)
            refine bodyPost_ret (results_blk rfl _ _ w.heap.size _ _ rfl (H5.out.2.2.row #[.slice none 0 0]) Tryz.underlying32 rfl s_bat1) rfl ?_
            exact ⟨.slice none 0 0, by rw [HF.out]; rfl, by rw [HF.out]; exact World.ownsRow_nil _ _ _ _, below_setRow H5.out.2.1 (Nat.le_refl _) _⟩
      · obtain rfl : k = cnt := by omega
        rw [Nat.sub_self, takeN] at hT
        have dk : decide ((k : Int) < (k : Int)) = false := decide_eq_false (by omega)
        obtain ⟨va, vca, e8, _, _, hat, _⟩ := hown.lies
        rw [hTk] at e8
        injection e8 with e81 e82 e83
        subst e81 e83
        have hk256 := HB.out.2.2.2.2.2.2.1
        by_cases hjj : j = n
        · have hl0 : L.drop j = [] := List.drop_eq_nil_of_le (by rw [HB.out.2.2.2.1]; omega)
          rw [if_pos hl0] at hT
          injection hT with e1 e2
          subst e1 e2 hjj
          have d9 : ((j : Int) != (j : Int)) = false := by simp
          have HCK := rrbat_any v k vc T wr hTk (by omega) hat
          have HG := Lib.hid (And.intro hkb (And.intro hbr (And.intro hown (And.intro hTk (And.intro hbt hsz)))))
          have LT0 := bat_t9 hbt wr (Below.refl _ _)
          by_cases hTok : okBat T
          · rw [decide_eq_true hTok] at HCK
            have HF := Lib.hid (show DD = (0, T) by rw [HD.out, if_pos rfl, if_pos hTok])
            clear hkb hbr hTk hbt hown hTok e82 hl0 hat hsz hk256
            go_wp2_with fail
            refine HCK.mono ?_
            rintro e w2 ⟨rfl, hb2⟩
            have LT2 := bat_t9 HG.out.2.2.2.2.1 w2 hb2
            have STT := st_bat (a2 := v) (n2 := k) (c2 := vc) (HG.out.2.1.later hb2)
            have HH := Lib.hid hb2
            clear hb2 HCK LT0 hc0
            go_wp2_with fail
            refine bodyPost_ret (results_blk rfl _ _ w.heap.size _ _ rfl ((HG.out.2.1.later HH.out).row _) Tryz.underlying32 rfl s_bat1) rfl ?_
            have o9 := HG.out.2.2.1.later HH.out
            have k9 : Kept [w.heap.size] w2 (w2.setRow w.heap.size #[.slice v k vc]) := (Kept.refl _ w2).setRow (.inl (by simp)) _
            have hs12 := HB.out.2.2.2.2.2.2.2.1
            exact ⟨.slice v k vc, by rw [HF.out]; rfl, by rw [HF.out]; exact (o9.kept9 k9 (by intro g9 h9; have := (upown_above o9 g9 h9).1; simp; omega)).less9 (by omega), below_setRow (HG.out.1.trans (HH.out.mono HG.out.1.size)) (Nat.le_refl _) _⟩
          · rw [decide_eq_false hTok] at HCK
            have HF := Lib.hid (show DD = ((210 : Int), ([] : List Up)) by rw [HD.out, if_pos rfl, if_neg hTok])
            clear hkb hbr hTk hbt hown hTok e82 hl0 hat hsz hk256
            go_wp2_with fail
            refine HCK.mono ?_
            rintro e w2 ⟨rfl, hb2⟩
            have STT := st_bat (a2 := none) (n2 := 0) (c2 := 0) (HG.out.2.1.later hb2)
            have HH := Lib.hid hb2
            clear hb2 HCK LT0 hc0
            go_wp2_with fail
            refine bodyPost_ret (results_blk rfl _ _ w.heap.size _ _ rfl ((HG.out.2.1.later HH.out).row _) Tryz.underlying32 rfl s_bat1) rfl ?_
            exact ⟨.slice none 0 0, by rw [HF.out]; rfl, by rw [HF.out]; exact World.ownsRow_nil _ _ _ _, below_setRow (HG.out.1.trans (HH.out.mono HG.out.1.size)) (Nat.le_refl _) _⟩
        · have hl0 : ¬ L.drop j = [] := fun h => hjj (by have := List.drop_eq_nil_iff.1 h; have := HB.out.2.2.2.1; omega)
          rw [if_neg hl0] at hT
          injection hT with e1 e2
          have d9 : ((j : Int) != (n : Int)) = true := by simp; omega
          have HF := Lib.hid (show DD = ((210 : Int), ([] : List Up)) by rw [HD.out, ← e1]; rfl)
          have STZ := st_bat (a2 := none) (n2 := 0) (c2 := 0) hbr
          have HG := Lib.hid (And.intro hkb hbr)
          clear hkb hbr hTk hbt hown e82 hjj e1 e2 hl0 hat hsz hk256
          go_wp2_with fail
          refine bodyPost_ret (results_blk rfl _ _ w.heap.size _ _ rfl (HG.out.2.row #[.slice none 0 0]) Tryz.underlying32 rfl s_bat1) rfl ?_
          exact ⟨.slice none 0 0, by rw [HF.out]; rfl, by rw [HF.out]; exact World.ownsRow_nil _ _ _ _, below_setRow HG.out.1 (Nat.le_refl _) _⟩
end Go.Proofs.YtclkfmblogkakaaGreatDoor
