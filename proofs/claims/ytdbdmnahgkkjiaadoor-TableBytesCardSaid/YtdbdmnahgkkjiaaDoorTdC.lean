/-
  The contract of the reference's Decode. Nothing here is a statement of the document.
-/
import Derived.Test.YtdbdmnahgkkjiaaDoorTdB
import Derived.Test.YtdbdmnahgkkjiaaDoorPfxU
import Derived.Test.YtdbdmnahgkkjiaaDoorTbL
namespace Go.Proofs.YtdbdmnahgkkjiaaDoor
open Go.RowKit Go.Shelf
set_option linter.unusedVariables false
set_option maxRecDepth 100000
theorem meas9 {cnt k : Nat} (h : k < cnt) (hw : wrap64 ((k : Int) + 1) = ((k + 1 : Nat) : Int)) : cnt - (intOf (.int .i64 (wrap64 ((k : Int) + 1)))).toNat < cnt - (intOf (.int .i64 (k : Int))).toNat := by
  rw [hw]
  simp only [intOf]
  omega
theorem wrap_one9 {j : Nat} (h : j + 1 ≤ 4001) : wrap64 ((j : Int) + 1) = ((j + 1 : Nat) : Int) := by unfold wrap64; omega
theorem wrap_to9 {j n m : Nat} (h : j + n = m) (h2 : m ≤ 4001) : wrap64 ((j : Int) + (n : Int)) = (m : Int) := by subst h; unfold wrap64; omega
theorem wrap_small9 {k : Nat} (h : k ≤ 100000) : IntKind.i64.wrap (k : Int) = (k : Int) := by
  unfold IntKind.wrap
  simp [IntKind.bits, IntKind.signed]
  omega
theorem wrap_sub9 {j n : Nat} (h : j ≤ n) (h2 : n ≤ 4000) : wrap64 ((j : Int) + ((n - j : Nat) : Int)) = (n : Int) := by unfold wrap64; omega
theorem wrap_add9 {j n : Nat} (h : j + n ≤ 100000) : wrap64 ((j : Int) + (n : Int)) = ((j + n : Nat) : Int) := by unfold wrap64; omega
theorem decPE_three (L : List Nat) : decPE L = 0 ∨ decPE L = 7 ∨ decPE L = 151 := by
  unfold decPE bodyE
  split
  · simp
  · split
    · simp
    · split
      · simp
      · split
        · simp
        · split
          · simp
          · split <;> simp
attribute [local go_sem ↓] load_b16_rule store_b16_rule load_ad_rule store_ad_rule load_px_rule store_px_rule eq_b16_rule eq_ad_rule eq_px_rule load_rt_rule store_rt_rule build_ad_rule build_px_rule build_b16_rule build_rt_rule load_tab_rule build_tab_rule store_tab_rule tbuild_rule tapp_rule tcopy_rule eq_rt_rule cutB_rule tbuild_rule store_tab_rule
set_option maxHeartbeats 8000000 in
theorem rdecode_any (a : Option Addr) (n cap : Nat) (L : List Nat) (w : World) (hW : Wid w) (hB : Bys L) (hn : L.length = n) (hlm : n ≤ 4000) (hc : n ≤ cap) (hL : Lies w a L) :
    Calls Tryd.prog 14 #[.slice a n cap] w fun e w' => ∃ a' c', e = .returned (.tuple #[.agg #[.slice a' (dtR L).length c'], .int .i64 (dtE L)]) ∧ Tbl w' a' c' (dtR L) ∧ Below w.heap.size w w' := by
  obtain ⟨W1, hW1⟩ : ∃ W1, w.alloc (.cells #[.slice none 0 0] 24) = W1 := ⟨_, rfl⟩
  have s1 : W1.heap.size = w.heap.size + 1 := by rw [← hW1]; simp
  have hb1 : Below w.heap.size w W1 := by rw [← hW1]; exact (Below.refl _ _).alloc (Nat.le_refl _) _
  have b1 : Blk W1 w.heap.size 24 #[.slice none 0 0] := by rw [← hW1]; exact Blk.new _ _ _
  have BZ := build_tab0
  by_cases h0 : n = 0
  · have hLn : L = [] := List.length_eq_zero_iff.1 (by omega)
    have d0 : decide ((n : Int) < 1) = true := decide_eq_true (by omega)
    subst hLn
    have HF := Lib.hid dt_nil
    have ST := st_tab (a2 := none) (n2 := 0) (c2 := 0) b1
    have HB := Lib.hid (And.intro hb1 b1)
    clear hL hB hW hb1 b1 h0 hn s1 hc hlm
    go_enter Tryd.func14, Tryd.ntmps14
    go_wp2_with (with_reducible refine wpList_alloc_z rfl 24 rfl #[.slice none 0 0] 1 z_tab ?_)
    refine bodyPost_ret (results_blk rfl _ _ w.heap.size _ _ rfl (HB.out.2.row #[.slice none 0 0]) Tryd.underlying24 rfl s_tab1) rfl ?_
    exact ⟨none, 0, by rw [HF.out.1, HF.out.2]; rfl, by rw [HF.out.2]; exact Tbl.none _, below_setRow HB.out.1 (Nat.le_refl _) _⟩
  · have hLne : L ≠ [] := fun h => h0 (by rw [← hn, h]; rfl)
    have d0 : decide ((n : Int) < 1) = false := decide_eq_false (by omega)
    obtain ⟨W2, hW2⟩ : ∃ W2, W1.alloc (.cells #[.slice none 0 0] 24) = W2 := ⟨_, rfl⟩
    have s2 : W2.heap.size = w.heap.size + 2 := by rw [← hW2]; simp [s1]
    have k12 : Below W1.heap.size W1 W2 := by rw [← hW2]; exact (Below.refl _ _).alloc (Nat.le_refl _) _
    have b2 : Blk W2 W1.heap.size 24 #[.slice none 0 0] := by rw [← hW2]; exact Blk.new _ _ _
    have hbw2 : Below w.heap.size w W2 := bel_trans hb1 k12
    obtain ⟨g0, o0, ea, hcell⟩ := hL.byte (i := 0) (by omega)
    have hgl : g0 < w.heap.size := by
      rcases hL with h | ⟨b, off, e, hb, _⟩
      · exact absurd h hLne
      · rw [ea] at e; cases e; exact hb
    obtain ⟨cnt, hcnt⟩ : ∃ cnt, L.getD 0 0 = cnt := ⟨_, rfl⟩
    have hc256 : cnt < 256 := by
      rw [← hcnt]
      have hlen : 0 < L.length := by omega
      simp only [List.getD_eq_getElem?_getD, List.getElem?_eq_getElem hlen, Option.getD_some]
      exact hB _ (List.getElem_mem hlen)
    have LBY : ∀ w', Below w.heap.size w w' → ∀ j, j < L.length → w'.cell? ⟨g0, o0 + j, none⟩ = some (.int .u8 (L.getD j 0 : Nat)) := fun w' h j hj => (h.cell (p := ⟨g0, o0 + j, none⟩) hgl).trans (hcell j hj)
    have hz : 0 < n := by omega
    subst ea
    have HB := Lib.hid (And.intro hbw2 (And.intro (b1.later k12) (And.intro b2 (And.intro hn (And.intro hLne (And.intro hcnt (And.intro hc256 (And.intro (And.intro s1 s2) (And.intro hW (And.intro hL (And.intro hB (And.intro hc (And.intro hlm LBY)))))))))))))
    clear hb1 b1 b2 hbw2 hn hLne hcnt hc256 hW hB hL hcell hgl k12 h0 hc hlm s1 s2 LBY
    go_enter Tryd.func14, Tryd.ntmps14
    go_wp2_with (with_reducible refine wpList_alloc_z rfl 24 rfl #[.slice none 0 0] 1 z_tab ?_)
    clear hW2 hW1
    have H3 := Lib.hid (And.intro HB.out.1 (And.intro HB.out.2.1 HB.out.2.2.1))
    go_loopw [5, 6] (fun r i wr => ∃ (k j : Nat) (v : Option Addr) (vc : Nat) (T : List Rt), r = .int .i64 (j : Int) ∧ i = .int .i64 (k : Int) ∧ j ≤ n ∧ k ≤ cnt ∧ T.length = k ∧ Blk wr W1.heap.size 24 #[.slice v k vc] ∧ Blk wr w.heap.size 24 #[.slice none 0 0] ∧ OwnT wr W2.heap.size (.slice v k vc) T ∧ Below w.heap.size w wr ∧ W2.heap.size ≤ wr.heap.size ∧ (decR cnt (L.drop 1)).1 = T ++ (decR (cnt - k) (L.drop j)).1 ∧ (decR cnt (L.drop 1)).2 = (decR (cnt - k) (L.drop j)).2) (fun r i _ => cnt - (intOf i).toNat)
    case atStart => exact ⟨0, 1, none, 0, [], rfl, rfl, hz, Nat.zero_le _, rfl, H3.out.2.2, H3.out.2.1, ⟨rfl, .inl ⟨rfl, rfl⟩⟩, H3.out.1, Nat.le_refl _, by simp, rfl⟩
    case round =>
      obtain ⟨k, j, v, vc, T, rfl, rfl, hjn, hk, hTk, hbt, hbr, hown, hkb, hsz, hd1, hd2⟩ := hrel
      have hc0 := HB.out.2.2.2.2.2.2.2.2.2.2.2.2.2 wr hkb 0 (by have := HB.out.2.2.2.1; omega)
      rw [HB.out.2.2.2.2.2.1, Nat.add_zero] at hc0
      have hcv : IntKind.i64.wrap (cnt : Int) = (cnt : Int) := wrap_small9 (by have := HB.out.2.2.2.2.2.2.1; omega)
      by_cases hlt : k < cnt
      · have dk : decide ((k : Int) < (cnt : Int)) = true := decide_eq_true (by omega)
        have dk2 : decide (k < cnt) = true := decide_eq_true hlt
        obtain ⟨l, hl⟩ : ∃ l, L.drop j = l := ⟨_, rfl⟩
        rw [hl] at hd1 hd2
        have hll : l.length = n - j := by rw [← hl, List.length_drop, HB.out.2.2.2.1]
        obtain ⟨x', hct, hlx⟩ := cutB_run HB.out.2.2.2.1 HB.out.2.2.2.2.2.2.2.2.2.2.2.1 HB.out.2.2.2.2.2.2.2.2.2.1 j hjn
        rw [hl] at hlx
        have hBl : Bys l := by rw [← hl]; exact HB.out.2.2.2.2.2.2.2.2.2.2.1.drop9 j
        have HFI := refdecode_any x' (cap - j) l hBl (by have := HB.out.2.2.2.2.2.2.2.2.2.2.2.2.1; omega) wr (hlx.kept hkb)
        rw [hll] at HFI
        obtain ⟨E, hE⟩ : ∃ E, decPE l = E := ⟨_, rfl⟩
        obtain ⟨N, hN⟩ : ∃ N, decPN l = N := ⟨_, rfl⟩
        obtain ⟨X, hX⟩ : ∃ X, decPX l = X := ⟨_, rfl⟩
        rw [hE, hN, hX] at HFI
        obtain ⟨q, hq⟩ : ∃ q, cnt - k = q + 1 := ⟨cnt - k - 1, by omega⟩
        rw [hq] at hd1 hd2
        have HR := Lib.hid (And.intro hl (And.intro hll (And.intro hBl (And.intro hE (And.intro hN (And.intro hX (And.intro hTk (And.intro hbt (And.intro hbr (And.intro hown (And.intro hkb (And.intro hsz (And.intro hd1 (And.intro hd2 hq))))))))))))))
        clear hl hll hBl hE hN hX hTk hbt hbr hown hkb hsz hd1 hd2 hq hlx
        go_wp2_with fail
        refine HFI.mono ?_
        rintro e w4 ⟨rfl, hb4⟩
        obtain ⟨W5, hW5⟩ : ∃ W5, w4.alloc (.cells X.cs 38) = W5 := ⟨_, rfl⟩
        have S5 := st_px (q := X) (Blk.new w4 38 Px.zero.cs)
        rw [World.setRow_alloc_new, hW5] at S5
        have b5 : Blk W5 w4.heap.size 38 X.cs := by rw [← hW5]; exact Blk.new _ _ _
        have k45 : Below w4.heap.size w4 W5 := by rw [← hW5]; exact (Below.refl _ _).alloc (Nat.le_refl _) _
        have kr5 : Below wr.heap.size wr W5 := bel_trans hb4 k45
        have br5 := HR.out.2.2.2.2.2.2.2.2.1.later kr5
        have STZ := st_tab (a2 := none) (n2 := 0) (c2 := 0) br5
        have H5 := Lib.hid (And.intro b5 (And.intro kr5 (And.intro br5 hb4.size)))
        clear hb4 b5 k45 kr5 br5 HFI hW5 hc0 hcv hct
        by_cases h7 : E = 7
        · subst h7
          have hst : (decR (L.getD 0 0) (L.drop 1)).2 = (l, 7) := by
            have e1 := (f_short (l := l) (by rw [HR.out.2.2.2.1]; omega) (.inl (by rw [HR.out.2.2.2.1]; omega))).1
            rw [HB.out.2.2.2.2.2.1, HR.out.2.2.2.2.2.2.2.2.2.2.2.2.2.1, decR_stop (by rw [e1]; omega), e1]
          have HF := Lib.hid (dt_stop HB.out.2.2.2.2.1 hst (by omega))
          clear hst
          go_wp2_with (with_reducible refine wpList_alloc_z rfl 38 rfl Px.zero.cs 18 z_px ?_)
          refine bodyPost_ret (results_blk rfl _ _ w.heap.size _ _ rfl (H5.out.2.2.1.row #[.slice none 0 0]) Tryd.underlying24 rfl s_tab1) rfl ?_
          exact ⟨none, 0, by rw [HF.out.1, HF.out.2]; rfl, by rw [HF.out.2]; exact Tbl.none _, below_setRow (HR.out.2.2.2.2.2.2.2.2.2.2.1.trans (H5.out.2.1.mono HR.out.2.2.2.2.2.2.2.2.2.2.1.size)) (Nat.le_refl _) _⟩
        · by_cases h1 : E = 151
          · subst h1
            have hst : (decR (L.getD 0 0) (L.drop 1)).2 = (l, 190) := by
              have e1 := (f_bad (l := l) HR.out.2.2.2.1).1
              rw [HB.out.2.2.2.2.2.1, HR.out.2.2.2.2.2.2.2.2.2.2.2.2.2.1, decR_stop (by rw [e1]; omega), e1]
            have HF := Lib.hid (dt_stop HB.out.2.2.2.2.1 hst (by omega))
            clear hst
            go_wp2_with (with_reducible refine wpList_alloc_z rfl 38 rfl Px.zero.cs 18 z_px ?_)
            refine bodyPost_ret (results_blk rfl _ _ w.heap.size _ _ rfl (H5.out.2.2.1.row #[.slice none 0 0]) Tryd.underlying24 rfl s_tab1) rfl ?_
            exact ⟨none, 0, by rw [HF.out.1, HF.out.2]; rfl, by rw [HF.out.2]; exact Tbl.none _, below_setRow (HR.out.2.2.2.2.2.2.2.2.2.2.1.trans (H5.out.2.1.mono HR.out.2.2.2.2.2.2.2.2.2.2.1.size)) (Nat.le_refl _) _⟩
          · have h0 : E = 0 := by
              have := decPE_three l
              rw [HR.out.2.2.2.1] at this
              omega
            subst h0
            clear h7 h1
            by_cases hNn : N = l.length
            · have hst : (decR (L.getD 0 0) (L.drop 1)).2 = (l, 7) := by
                have e1 := (f_short (l := l) (by rw [HR.out.2.2.2.1]; omega) (.inr (by rw [HR.out.2.2.2.2.1]; exact hNn))).1
                rw [HB.out.2.2.2.2.2.1, HR.out.2.2.2.2.2.2.2.2.2.2.2.2.2.1, decR_stop (by rw [e1]; omega), e1]
              have HF := Lib.hid (dt_stop HB.out.2.2.2.2.1 hst (by omega))
              obtain rfl : N = n - j := by rw [hNn]; exact HR.out.2.1
              have wN : wrap64 ((j : Int) + ((n - j : Nat) : Int)) = (n : Int) := wrap_sub9 hjn HB.out.2.2.2.2.2.2.2.2.2.2.2.2.1
              have dge : decide ((n : Int) ≤ (n : Int)) = true := by simp
              clear hst hNn hjn
              go_wp2_with (with_reducible refine wpList_alloc_z rfl 38 rfl Px.zero.cs 18 z_px ?_)
              refine bodyPost_ret (results_blk rfl _ _ w.heap.size _ _ rfl (H5.out.2.2.1.row #[.slice none 0 0]) Tryd.underlying24 rfl s_tab1) rfl ?_
              exact ⟨none, 0, by rw [HF.out.1, HF.out.2]; rfl, by rw [HF.out.2]; exact Tbl.none _, below_setRow (HR.out.2.2.2.2.2.2.2.2.2.2.1.trans (H5.out.2.1.mono HR.out.2.2.2.2.2.2.2.2.2.2.1.size)) (Nat.le_refl _) _⟩
            · have e1 := f_ok (l := l) HR.out.2.2.1 HR.out.2.2.2.1 (by rw [HR.out.2.2.2.2.1]; exact hNn)
              have hfR : fR l = ⟨X, (l.getD N 0 : Nat)⟩ := by rw [e1.2.1, HR.out.2.2.2.2.1, HR.out.2.2.2.2.2.1]
              have hfN : fN l = N + 1 := by rw [e1.2.2.1, HR.out.2.2.2.2.1]
              have hNl : N < l.length := by rw [← HR.out.2.2.2.2.1]; exact e1.2.2.2
              have hlln := HR.out.2.1
              have hjN : j + N < n := by omega
              have dge : decide ((n : Int) ≤ ((j + N : Nat) : Int)) = false := decide_eq_false (by omega)
              have dge2 : decide (n ≤ j + N) = false := decide_eq_false (by omega)
              obtain ⟨hp, hhp⟩ : ∃ hp, l.getD N 0 = hp := ⟨_, rfl⟩
              have hhp2 : L.getD (j + N) 0 = hp := by rw [← hhp, ← HR.out.1]; simp [List.getD_eq_getElem?_getD]
              have hp256 : hp < 256 := by
                rw [← hhp]
                simp only [List.getD_eq_getElem?_getD, List.getElem?_eq_getElem hNl, Option.getD_some]
                exact HR.out.2.2.1 _ (List.getElem_mem hNl)
              obtain ⟨JN, hJN⟩ : ∃ JN, j + N = JN := ⟨_, rfl⟩
              rw [hJN] at dge dge2 hhp2 hjN
              have kw5 : Below w.heap.size w W5 := HR.out.2.2.2.2.2.2.2.2.2.2.1.trans (H5.out.2.1.mono HR.out.2.2.2.2.2.2.2.2.2.2.1.size)
              have bt5 := HR.out.2.2.2.2.2.2.2.1.later H5.out.2.1
              have ow5 := HR.out.2.2.2.2.2.2.2.2.2.1.later H5.out.2.1
              obtain ⟨X0, hX0⟩ : ∃ X0, W5.drew = X0 := ⟨_, rfl⟩
              have k50 : Below W5.heap.size W5 X0 := by rw [← hX0]; exact (Below.refl _ _).drew
              have bt0 := bt5.later k50
              have ow0 := ow5.later k50
              have bX0 := H5.out.1.later k50
              have kw0 : Below w.heap.size w X0 := bel_trans kw5 k50
              have hsz0 : W2.heap.size ≤ X0.heap.size := by have := HR.out.2.2.2.2.2.2.2.2.2.2.2.1; have := H5.out.2.1.size; have := k50.size; omega
              obtain ⟨R, hR⟩ : ∃ R : Rt, Rt.mk X (hp : Int) = R := ⟨_, rfl⟩
              have BR := build_rt X (hp : Int)
              rw [hR] at BR
              obtain ⟨v8, c8, X4, r7, o4, k4, q4, q5⟩ := tappB_one ow0 (by have := HR.out.2.2.2.2.2.2.1; have := HB.out.2.2.2.2.2.2.1; omega) hsz0 R
              obtain ⟨X3, hX3⟩ : ∃ X3, X0.alloc (.cells R.cs 48) = X3 := ⟨_, rfl⟩
              have r3 := tbuild1_run R X0
              rw [hX3] at r3 r7
              have k03 : Below X0.heap.size X0 X3 := by rw [← hX3]; exact (Below.refl _ _).alloc (Nat.le_refl _) _
              have hs12 := HB.out.2.2.2.2.2.2.2.1
              obtain ⟨S5p, hSp⟩ : ∃ S5p : World → Prop, S5p = fun w' => Blk w' W1.heap.size 24 #[.slice v k vc] ∧ Blk w' w4.heap.size 38 X.cs ∧ Below w.heap.size w w' := ⟨_, rfl⟩
              have ct : ∀ w', S5p w' → w'.cell? ⟨W1.heap.size, 0, none⟩ = some (.slice v k vc) := fun w' h => by rw [hSp] at h; exact h.1.cell 0
              have cR : ∀ w', S5p w' → (loadSem 38 (.pointer (some ⟨w4.heap.size, 0, none⟩))).run Tryd.prog w' = .ok (.agg X.cs) w' := fun w' h => by rw [hSp] at h; exact px_p h.2.1 w' (Below.refl _ _)
              have cB : ∀ w', S5p w' → w'.cell? ⟨g0, o0 + JN, none⟩ = some (.int .u8 (hp : Int)) := fun w' h => by
                rw [hSp] at h
                have := HB.out.2.2.2.2.2.2.2.2.2.2.2.2.2 w' h.2.2 JN (by have := HB.out.2.2.2.1; omega)
                rwa [hhp2] at this
              have hS0 : S5p X0 := by rw [hSp]; exact ⟨bt0, bX0, kw0⟩
              have hS3 : S5p X3 := by rw [hSp]; exact ⟨bt0.later k03, bX0.later k03, bel_trans kw0 k03⟩
              have bt4 : Blk X4 W1.heap.size 24 #[.slice v k vc] := blk_at bt0 (q5 _ bt0.lt (fun e => by have := (ow0.lt _ e).1; omega))
              have bX4 : Blk X4 w4.heap.size 38 X.cs := blk_at bX0 (q5 _ bX0.lt (fun e => by have := (HR.out.2.2.2.2.2.2.2.2.2.1.lt _ e).2; have := H5.out.2.2.2; omega))
              have kw4 : Below w.heap.size w X4 := kw0.trans (k4.mono (by omega))
              have hS4 : S5p X4 := by rw [hSp]; exact ⟨bt4, bX4, kw4⟩
              have cz : X4.cell? ⟨W1.heap.size, 0, none⟩ = some (.slice v k vc) := bt4.cell 0
              have fz := bt4.free 0
              have br4 : Blk X4 w.heap.size 24 #[.slice none 0 0] := blk_at (H5.out.2.2.1.later k50) (q5 _ (H5.out.2.2.1.later k50).lt (fun e => by have := (ow0.lt _ e).1; omega))
              have hszX : W2.heap.size ≤ X4.heap.size := by omega
              have HX := Lib.hid (And.intro kw4 (And.intro o4 (And.intro bt4 (And.intro br4 (And.intro hszX (And.intro hfR (And.intro hfN (And.intro hhp (And.intro hR (And.intro hJN e1.1))))))))))
              have hJs : JN ≤ 4001 := by have := HB.out.2.2.2.2.2.2.2.2.2.2.2.2.1; omega
              have hJs1 : JN + 1 ≤ 4001 := by have := HB.out.2.2.2.2.2.2.2.2.2.2.2.2.1; omega
              have hks : k + 1 ≤ 4001 := by have := HB.out.2.2.2.2.2.2.1; omega
              have hps : hp ≤ 100000 := by omega
              clear kw5 k50 o4 k4 q4 q5 bt4 bX4 bX0 ow0 ow5 bt0 bt5 hsz0 br4 hs12 hSp k03 hX3 kw4 kw0 hszX e1 hfR hfN hNl hlln hp256 hhp hhp2 hNn hR hJN STZ BZ dk2 hz
              have hcv : IntKind.i64.wrap (hp : Int) = (hp : Int) := wrap_small9 hps
              have wN := wrap_to9 HX.out.2.2.2.2.2.2.2.2.2.1 hJs
              have wk : wrap64 ((k : Int) + 1) = ((k + 1 : Nat) : Int) := wrap_one9 hks
              have wN1 : wrap64 ((JN : Int) + 1) = ((JN + 1 : Nat) : Int) := wrap_one9 hJs1
              clear hJs hps hJs1 hks
              go_wp2_with (with_reducible refine wpList_alloc_z rfl 38 rfl Px.zero.cs 18 z_px ?_)
              refine wp_region_linG S5p 14 [11, 12, 14] [] [0, 1, 2, 3, 4, 5, 6, 7, 8, 9, 10, 11, 12, 13, 14] (by kernel_rfl) (by kernel_rfl) (by rw [hX0]; exact hS0) ?_
              rw [hX0]
              (first | (refine linG_op (v := ?_) rfl rfl rfl (by rfl) (fun w9 hS9 => ?_) ?_; rotate_left; (focus (((try dsimp only at hS9);  go_simp; (try go_bits)) <;> with_reducible rfl)); (try simp only [Act.put, List.getElem_toArray, List.getElem_cons_zero, List.getElem_cons_succ, List.setIfInBounds_toArray, List.set_cons_zero, List.set_cons_succ])) | (refine linG_free (v := ?_) rfl rfl (by rfl) (fun w9 => ?_) ?_; rotate_left; (focus ((go_simp; (try go_bits)) <;> with_reducible rfl)); (try simp only [Act.put, List.getElem_toArray, List.getElem_cons_zero, List.getElem_cons_succ, List.setIfInBounds_toArray, List.set_cons_zero, List.set_cons_succ])))
              (first | (refine linG_op (v := ?_) rfl rfl rfl (by rfl) (fun w9 hS9 => ?_) ?_; rotate_left; (focus (((try dsimp only at hS9); have k9 := ct w9 hS9;  go_simp; (try go_bits)) <;> with_reducible rfl)); (try simp only [Act.put, List.getElem_toArray, List.getElem_cons_zero, List.getElem_cons_succ, List.setIfInBounds_toArray, List.set_cons_zero, List.set_cons_succ])) | (refine linG_free (v := ?_) rfl rfl (by rfl) (fun w9 => ?_) ?_; rotate_left; (focus ((go_simp; (try go_bits)) <;> with_reducible rfl)); (try simp only [Act.put, List.getElem_toArray, List.getElem_cons_zero, List.getElem_cons_succ, List.setIfInBounds_toArray, List.set_cons_zero, List.set_cons_succ])))
              (first | (refine linG_op (v := ?_) rfl rfl rfl (by rfl) (fun w9 hS9 => ?_) ?_; rotate_left; (focus (((try dsimp only at hS9); have k9 := cR w9 hS9;  go_simp; (try go_bits)) <;> with_reducible rfl)); (try simp only [Act.put, List.getElem_toArray, List.getElem_cons_zero, List.getElem_cons_succ, List.setIfInBounds_toArray, List.set_cons_zero, List.set_cons_succ])) | (refine linG_free (v := ?_) rfl rfl (by rfl) (fun w9 => ?_) ?_; rotate_left; (focus ((go_simp; (try go_bits)) <;> with_reducible rfl)); (try simp only [Act.put, List.getElem_toArray, List.getElem_cons_zero, List.getElem_cons_succ, List.setIfInBounds_toArray, List.set_cons_zero, List.set_cons_succ])))
              iterate 5 (first | (refine linG_op (v := ?_) rfl rfl rfl (by rfl) (fun w9 hS9 => ?_) ?_; rotate_left; (focus (((try dsimp only at hS9);  go_simp; (try go_bits)) <;> with_reducible rfl)); (try simp only [Act.put, List.getElem_toArray, List.getElem_cons_zero, List.getElem_cons_succ, List.setIfInBounds_toArray, List.set_cons_zero, List.set_cons_succ])) | (refine linG_free (v := ?_) rfl rfl (by rfl) (fun w9 => ?_) ?_; rotate_left; (focus ((go_simp; (try go_bits)) <;> with_reducible rfl)); (try simp only [Act.put, List.getElem_toArray, List.getElem_cons_zero, List.getElem_cons_succ, List.setIfInBounds_toArray, List.set_cons_zero, List.set_cons_succ])))
              (first | (refine linG_op (v := ?_) rfl rfl rfl (by rfl) (fun w9 hS9 => ?_) ?_; rotate_left; (focus (((try dsimp only at hS9); have k9 := cB w9 hS9;  go_simp; (try go_bits)) <;> with_reducible rfl)); (try simp only [Act.put, List.getElem_toArray, List.getElem_cons_zero, List.getElem_cons_succ, List.setIfInBounds_toArray, List.set_cons_zero, List.set_cons_succ])) | (refine linG_free (v := ?_) rfl rfl (by rfl) (fun w9 => ?_) ?_; rotate_left; (focus ((go_simp; (try go_bits)) <;> with_reducible rfl)); (try simp only [Act.put, List.getElem_toArray, List.getElem_cons_zero, List.getElem_cons_succ, List.setIfInBounds_toArray, List.set_cons_zero, List.set_cons_succ])))
              iterate 2 (first | (refine linG_op (v := ?_) rfl rfl rfl (by rfl) (fun w9 hS9 => ?_) ?_; rotate_left; (focus (((try dsimp only at hS9);  go_simp; (try go_bits)) <;> with_reducible rfl)); (try simp only [Act.put, List.getElem_toArray, List.getElem_cons_zero, List.getElem_cons_succ, List.setIfInBounds_toArray, List.set_cons_zero, List.set_cons_succ])) | (refine linG_free (v := ?_) rfl rfl (by rfl) (fun w9 => ?_) ?_; rotate_left; (focus ((go_simp; (try go_bits)) <;> with_reducible rfl)); (try simp only [Act.put, List.getElem_toArray, List.getElem_cons_zero, List.getElem_cons_succ, List.setIfInBounds_toArray, List.set_cons_zero, List.set_cons_succ])))
              refine linG_do (v := .slice (some ⟨X0.heap.size, 0, none⟩) 1 1) (w' := X3) rfl rfl (by rfl) (by go_simp) hS3 ?_
              (try simp only [Act.put, List.getElem_toArray, List.getElem_cons_zero, List.getElem_cons_succ, List.setIfInBounds_toArray, List.set_cons_zero, List.set_cons_succ])
              refine linG_do (v := .slice v8 (k + 1) c8) (w' := X4) rfl rfl (by rfl) (by have r := r7 22; simp [execOp, resolve, invoke, builtin, Act.eval, r, Result.andThen]) hS4 ?_
              (try simp only [Act.put, List.getElem_toArray, List.getElem_cons_zero, List.getElem_cons_succ, List.setIfInBounds_toArray, List.set_cons_zero, List.set_cons_succ])
              (first | (refine linG_op (v := ?_) rfl rfl rfl (by rfl) (fun w9 hS9 => ?_) ?_; rotate_left; (focus (((try dsimp only at hS9);  go_simp; (try go_bits)) <;> with_reducible rfl)); (try simp only [Act.put, List.getElem_toArray, List.getElem_cons_zero, List.getElem_cons_succ, List.setIfInBounds_toArray, List.set_cons_zero, List.set_cons_succ])) | (refine linG_free (v := ?_) rfl rfl (by rfl) (fun w9 => ?_) ?_; rotate_left; (focus ((go_simp; (try go_bits)) <;> with_reducible rfl)); (try simp only [Act.put, List.getElem_toArray, List.getElem_cons_zero, List.getElem_cons_succ, List.setIfInBounds_toArray, List.set_cons_zero, List.set_cons_succ])))
              refine linG_fin (w' := X4.setCell ⟨W1.heap.size, 0, none⟩ (.slice v8 (k + 1) c8)) rfl rfl (by rfl) (by go_simp) ?_
              (try simp only [Act.put, List.getElem_toArray, List.getElem_cons_zero, List.getElem_cons_succ, List.setIfInBounds_toArray, List.set_cons_zero, List.set_cons_succ])
              refine linG_nil ?_
              have k5 : Kept [W1.heap.size] X4 (X4.setCell ⟨W1.heap.size, 0, none⟩ (.slice v8 (k + 1) c8)) := (Kept.refl [W1.heap.size] X4).setCell (p := ⟨W1.heap.size, 0, none⟩) (.inl (by simp)) _
              have b5 : Blk (X4.setCell ⟨W1.heap.size, 0, none⟩ (.slice v8 (k + 1) c8)) W1.heap.size 24 #[.slice v8 (k + 1) c8] := by
                have := HX.out.2.2.1.set 0 (.slice v8 (k + 1) c8)
                simpa using this
              have hs12 := HB.out.2.2.2.2.2.2.2.1
              have br5 : Blk (X4.setCell ⟨W1.heap.size, 0, none⟩ (.slice v8 (k + 1) c8)) w.heap.size 24 #[.slice none 0 0] := (k5.block _ HX.out.2.2.2.1.lt (by simp; omega)).trans HX.out.2.2.2.1
              have kwS : Below w.heap.size w (X4.setCell ⟨W1.heap.size, 0, none⟩ (.slice v8 (k + 1) c8)) := HX.out.1.trans (k5.below (by simp; omega) HX.out.1.size)
              have oS : OwnT (X4.setCell ⟨W1.heap.size, 0, none⟩ (.slice v8 (k + 1) c8)) W2.heap.size (.slice v8 (k + 1) c8) (T ++ [R]) := own_sameT HX.out.2.1 (fun g hg hl => k5.block g hl (by simp; omega))
              have hszS : X4.heap.size ≤ (X4.setCell ⟨W1.heap.size, 0, none⟩ (.slice v8 (k + 1) c8)).heap.size := k5.size
              generalize (X4.setCell ⟨W1.heap.size, 0, none⟩ (.slice v8 (k + 1) c8)) = X5 at *
              have hszX : W2.heap.size ≤ X5.heap.size := by have := HX.out.2.2.2.2.1; omega
              have HQ := Lib.hid (And.intro b5 (And.intro br5 (And.intro kwS (And.intro oS hszX))))
              clear b5 br5 kwS oS hszX hszS k5 hs12 hS0 hS3 hS4 ct cR cB cz fz hX0 r3 r7 S5
              go_wp2_with fail
              have HW9 := Lib.hid (And.intro wN1 wk)
              clear wN wN1 wk hcv
              go_roundw
              case rel =>
                refine ⟨k + 1, JN + 1, v8, c8, T ++ [R], by rw [HW9.out.1], by rw [HW9.out.2], by omega, by omega, by simp [HR.out.2.2.2.2.2.2.1], HQ.out.1, HQ.out.2.1, HQ.out.2.2.2.1, HQ.out.2.2.1, HQ.out.2.2.2.2, ?_, ?_⟩
                · rw [HR.out.2.2.2.2.2.2.2.2.2.2.2.2.1, decR_next HX.out.2.2.2.2.2.2.2.2.2.2, HX.out.2.2.2.2.2.1, HX.out.2.2.2.2.2.2.1, HX.out.2.2.2.2.2.2.2.1, HX.out.2.2.2.2.2.2.2.2.1, ← HR.out.1, List.drop_drop, show cnt - (k + 1) = q by have := HR.out.2.2.2.2.2.2.2.2.2.2.2.2.2.2; omega, show j + (N + 1) = JN + 1 by have := HX.out.2.2.2.2.2.2.2.2.2.1; omega]
                  simp
                · rw [HR.out.2.2.2.2.2.2.2.2.2.2.2.2.2.1, decR_next HX.out.2.2.2.2.2.2.2.2.2.2, HX.out.2.2.2.2.2.2.1, ← HR.out.1, List.drop_drop, show cnt - (k + 1) = q by have := HR.out.2.2.2.2.2.2.2.2.2.2.2.2.2.2; omega, show j + (N + 1) = JN + 1 by have := HX.out.2.2.2.2.2.2.2.2.2.1; omega]
              case measure =>
                exact meas9 hlt HW9.out.2
      · obtain rfl : k = cnt := by omega
        rw [Nat.sub_self] at hd1 hd2
        simp only [decR, List.append_nil] at hd1 hd2
        have hne := HB.out.2.2.2.2.1
        rw [← HB.out.2.2.2.2.2.1] at hd1 hd2
        have dk : decide ((k : Int) < (k : Int)) = false := decide_eq_false (by omega)
        have STZ := st_tab (a2 := none) (n2 := 0) (c2 := 0) hbr
        obtain ⟨va, vca, e8, htbl⟩ := hown.tbl
        rw [hTk] at e8
        injection e8 with e81 e82 e83
        subst e81 e83
        by_cases hjj : j = n
        · have hl0 : L.drop j = [] := List.drop_eq_nil_of_le (by rw [HB.out.2.2.2.1]; omega)
          rw [hl0] at hd2
          subst hjj
          have d9 : ((j : Int) != (j : Int)) = false := by simp
          have HCK := rright_any v k vc T wr hTk (by have := HB.out.2.2.2.2.2.2.1; omega) htbl.at'
          have HG := Lib.hid (And.intro hkb (And.intro hbr (And.intro htbl (And.intro hTk hbt))))
          have LT0 := tab_t hbt wr (Below.refl _ _)
          by_cases hT : okT T
          · rw [decide_eq_true hT] at HCK
            have HF := Lib.hid (dt_ok hne hd1 hd2 hT)
            clear hkb hbr htbl hTk hbt hown hd1 hd2 hT e82 STZ hl0
            go_wp2_with fail
            refine HCK.mono ?_
            rintro e w2 ⟨rfl, hb2⟩
            have LT2 := tab_t HG.out.2.2.2.2 w2 hb2
            have STT := st_tab (a2 := v) (n2 := k) (c2 := vc) (HG.out.2.1.later hb2)
            have HH := Lib.hid hb2
            clear hb2 HCK LT0 hc0
            go_wp2_with fail
            refine bodyPost_ret (results_blk rfl _ _ w.heap.size _ _ rfl ((HG.out.2.1.later HH.out).row _) Tryd.underlying24 rfl s_tab1) rfl ?_
            refine ⟨v, vc, by rw [HF.out.1, HF.out.2, HG.out.2.2.2.1]; rfl, by rw [HF.out.2]; exact Tbl.box (HG.out.2.1.later HH.out) (HG.out.2.2.1.later HH.out) _, below_setRow (HG.out.1.trans (HH.out.mono HG.out.1.size)) (Nat.le_refl _) _⟩
          · rw [decide_eq_false hT] at HCK
            have HF := Lib.hid (dt_bad hne hd1 hd2 (.inr hT))
            clear hkb hbr htbl hTk hbt hown hd1 hd2 hT e82 STZ hl0
            go_wp2_with fail
            refine HCK.mono ?_
            rintro e w2 ⟨rfl, hb2⟩
            have STT := st_tab (a2 := none) (n2 := 0) (c2 := 0) (HG.out.2.1.later hb2)
            have HH := Lib.hid hb2
            clear hb2 HCK LT0 hc0
            go_wp2_with fail
            refine bodyPost_ret (results_blk rfl _ _ w.heap.size _ _ rfl ((HG.out.2.1.later HH.out).row _) Tryd.underlying24 rfl s_tab1) rfl ?_
            exact ⟨none, 0, by rw [HF.out.1, HF.out.2]; rfl, by rw [HF.out.2]; exact Tbl.none _, below_setRow (HG.out.1.trans (HH.out.mono HG.out.1.size)) (Nat.le_refl _) _⟩
        · have d9 : ((j : Int) != (n : Int)) = true := by simp; omega
          have HF := Lib.hid (dt_bad hne hd1 hd2 (.inl (fun h => hjj (by have := List.drop_eq_nil_iff.1 h; have := HB.out.2.2.2.1; omega))))
          have HG := Lib.hid (And.intro hkb hbr)
          clear hkb hbr htbl hTk hbt hown hd1 hd2 e82 hjj
          go_wp2_with fail
          refine bodyPost_ret (results_blk rfl _ _ w.heap.size _ _ rfl (HG.out.2.row #[.slice none 0 0]) Tryd.underlying24 rfl s_tab1) rfl ?_
          exact ⟨none, 0, by rw [HF.out.1, HF.out.2]; rfl, by rw [HF.out.2]; exact Tbl.none _, below_setRow HG.out.1 (Nat.le_refl _) _⟩
end Go.Proofs.YtdbdmnahgkkjiaaDoor
