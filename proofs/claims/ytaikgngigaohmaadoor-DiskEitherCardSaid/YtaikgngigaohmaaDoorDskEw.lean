/-
  The walk of DiskEither. Nothing here is a statement of the document.
-/
import Derived.Test.YtaikgngigaohmaaDoorDskEi
import Derived.Deep.DeepCutAuto
import Derived.Deep.CutBlock
namespace Go.Proofs.YtaikgngigaohmaaDoor
open Go.RowKit Go.Shelf
set_option linter.unusedVariables false

/-- While the sectors are looked at: three arrays of blocks and the map stand. -/
structure Three (w W : World) (gm gl gs gb : Nat) (M P S : List Bk) (xs : List Int) : Prop where
  hb : Below w.heap.size w W
  m : Blk W gm 32 (arr M)
  l : Blk W gl 32 (arr P)
  s : Blk W gs 32 (arr S)
  ix : Idx W gb xs
  hgb : w.heap.size ≤ gb
theorem Three.later {w W W' : World} {gm gl gs gb : Nat} {M P S : List Bk} {xs : List Int} (h : Three w W gm gl gs gb M P S xs) (hb : Below W.heap.size W W') : Three w W' gm gl gs gb M P S xs :=
  ⟨h.hb.trans (hb.mono h.hb.size), h.m.kept (Kept.of_below [] hb) (by simp), h.l.kept (Kept.of_below [] hb) (by simp), h.s.kept (Kept.of_below [] hb) (by simp), h.ix.below hb, h.hgb⟩

theorem blk_ne_idx {W : World} {g b : Nat} {t : TypeId} {cs : Array Value} {xs : List Int} (h : Blk W g t cs) (hi : Idx W b xs) : g ≠ b := by
  rintro rfl
  obtain ⟨D0, ⟨es, ck, h5, _⟩, _⟩ := hi
  unfold Blk at h
  rw [h5] at h
  cases h
theorem cell_idx {W : World} {b j : Nat} {xs : List Int} (hi : Idx W b xs) : W.cell? ⟨b, j, none⟩ = none := by
  obtain ⟨D0, ⟨es, ck, h5, _⟩, _⟩ := hi
  simp [World.cell?, h5]
theorem Three.put {w W W' : World} {gm gl gs gb : Nat} {M P S : List Bk} {xs xs' : List Int} (h : Three w W gm gl gs gb M P S xs) (hg : W.grownBy W' (some gb)) (hi : Idx W' gb xs') : Three w W' gm gl gs gb M P S xs' := by
  have hk : Kept [gb] W W' := (Kept.refl _ _).grown hg (by intro q9 hq9; injection hq9 with hq9; subst hq9; simp)
  exact ⟨h.hb.trans (hk.below (by simpa using h.hgb) h.hb.size), h.m.kept hk (by simpa using blk_ne_idx h.m h.ix), h.l.kept hk (by simpa using blk_ne_idx h.l h.ix), h.s.kept hk (by simpa using blk_ne_idx h.s h.ix), hi, h.hgb⟩

theorem lblk1 {W : World} {g : Nat} {b : Bk} (h : Blk W g 31 b.cs) : (loadSem 31 (.pointer (some ⟨g, 0, none⟩))).run Tryd.prog W = .ok (.agg b.cs) W :=
  loadRes_of (o := 0) h (fun q _ => by rw [Nat.zero_add]) _ Tryd.underlying31 rfl (s_blk b)
theorem sblk1 {W : World} {g : Nat} {b : Bk} (h : Blk W g 31 b.cs) (b' : Bk) : (storeSem 31 (.pointer (some ⟨g, 0, none⟩)) (.agg b'.cs)).run Tryd.prog W = .ok () (W.setRow g b'.cs) := by
  have := storeRes_of (P := Tryd.prog) (ty := 31) (o := 0) (vs := b'.cs) h (by rw [Bk.size, Bk.size]; omega) (s_blk b') b'.one
  rwa [over_all (by rw [Bk.size, Bk.size])] at this
theorem Three.drew {w W : World} {gm gl gs gb : Nat} {M P S : List Bk} {xs : List Int} (h : Three w W gm gl gs gb M P S xs) : Three w W.drew gm gl gs gb M P S xs := h.later ⟨rfl, rfl, rfl, Nat.le_refl _, fun _ _ => rfl⟩

attribute [local go_sem ↓] load_blk_rule store_blk_rule load_arr_rule store_arr_rule eq_rule eq_arr_rule
set_option maxRecDepth 100000 in
set_option maxHeartbeats 8000000 in
theorem either_walk (aA : Option Addr) (capA : Nat) (lA : List (Deed × List Bool)) (aK : Option Addr) (capK : Nat) (ks : List Bool) (w : World) (hG : AllYes w) (hA : Deeds w aA lA) (hlA : lA.length ≤ 9223372036854775807) (hks : Bools w aK ks) (hkl : ks.length ≤ capK) (hcK : capK ≤ 9223372036854775807) :
    Calls Tryd.prog 4 #[.slice aA lA.length capA, .slice aK ks.length capK] w fun e w' => e = .returned (.bool true) ∧ Below w.heap.size w w' := by
  have HLA := Lib.hid hA
  have HK := Lib.hid (And.intro hks (And.intro hkl hcK))
  have hcap := hkl
  have hcap2 := hcK
  obtain ⟨ga, gc, hg1, hg2⟩ := hG
  have HG := Lib.hid (And.intro hg1 hg2)
  obtain ⟨kt, hkt⟩ : ∃ kt, ks.take 30 = kt := ⟨_, rfl⟩
  clear hA hks hg1 hg2
  go_enter Tryd.func4, Tryd.ntmps4
  go_wp2_with fail
  refine (wakes_any w).mono ?_
  rintro e W1 ⟨rfl, hb1⟩
  have hbs := hb1.size
  have hpl := played_any aA capA lA W1 (HLA.out.later hb1) hlA
  have H1 := Lib.hid hb1
  clear hb1
  go_wp2_with fail
  refine hpl.mono ?_
  rintro e W2 ⟨bv, D, rfl, hD, h14, hb2⟩
  have hbw2 := H1.out.trans (hb2.mono hbs)
  have hg := hbw2.cell (p := ⟨0, 0, none⟩) (cell_lt HG.out.1)
  rw [HG.out.1] at hg
  generalize W1.heap.size = B at *
  have H2 := Lib.hid (And.intro hD hbw2)
  clear H1 hpl hD hb2 hbw2 HLA
  obtain ⟨m, hm⟩ : ∃ m, kt.length = m := ⟨_, rfl⟩
  have hm30 : m ≤ 30 := by rw [← hm, ← hkt, List.length_take]; omega
  have hbk : Bools w aK kt := by
    rcases HK.out.1 with h9 | ⟨b', off', h2, h3, h4⟩
    · exact .inl (by rw [← hkt, h9]; rfl)
    · refine .inr ⟨b', off', h2, h3, fun i hi => ?_⟩
      rw [← hkt] at hi ⊢
      simp only [List.length_take] at hi
      rw [h4 i (by omega)]
      rw [List.getD_eq_getElem?_getD, List.getD_eq_getElem?_getD, List.getElem?_take_of_lt (by omega)]
  have HKT := Lib.hid hbk
  clear hbk
  go_upto_region 6 with (fail)
  go_cut [1] from 20 (fun v1 wd => v1 = .slice aK m capK ∧ wd = W2)
  case first =>
    by_cases h30 : 30 < ks.length
    · obtain rfl : m = 30 := by rw [← hm, ← hkt, List.length_take]; omega
      go_wp2_with fail
      go_meet
      exact ⟨rfl, rfl⟩
    · obtain rfl : m = ks.length := by rw [← hm, ← hkt, List.length_take]; omega
      go_wp2_with fail
      go_meet
      exact ⟨rfl, rfl⟩
  case rest =>
    obtain ⟨rfl, rfl⟩ := hcut
    have hok := H2.out.1.ok
    have hD := H2.out.1
    have hsa := shown_any hD h14 ga gc (List.replicate 8 true) (HG.out.2.later H2.out.2) (by simp)
    obtain ⟨M, hM⟩ : ∃ M, (crashM D (List.replicate 8 true)).plate = M := ⟨_, rfl⟩
    obtain ⟨P, hP⟩ : ∃ P, D.plate = P := ⟨_, rfl⟩
    obtain ⟨S, hS⟩ : ∃ S, (crashM D kt).plate = S := ⟨_, rfl⟩
    have hM14 : M.length = 14 := by rw [← hM, crashM_len]; exact h14
    have hP14 : P.length = 14 := by rw [← hP]; exact h14
    have hS14 : S.length = 14 := by rw [← hS, crashM_len]; exact h14
    have HE := Lib.hid (And.intro hM (And.intro hP (And.intro hS hok)))
    rw [List.length_replicate, hM] at hsa
    clear hM hP hS hD
    go_wp2_with fail
    clear hg
    refine hsa.mono ?_
    rintro e W3 ⟨rfl, hb3⟩
    obtain ⟨W4, hW4⟩ : ∃ W4, (W3.alloc (.cells (arr z14) 32)).setRow W3.heap.size (arr M) = W4 := ⟨_, rfl⟩
    have SW4 : (storeSem 32 (.pointer (some ⟨W3.heap.size, 0, none⟩)) (.agg (arr M))).run Tryd.prog (W3.alloc (.cells (arr z14) 32)) = .ok () W4 := by rw [← hW4]; exact sarr (Blk.new W3 _ _) z14_len hM14
    have bW4 : Blk W4 W3.heap.size 32 (arr M) := by rw [← hW4]; exact (Blk.new W3 _ _).row _
    have hbW3W4 : Below W3.heap.size W3 W4 := by rw [← hW4]; exact below_setRow ((Below.refl _ _).alloc (Nat.le_refl _) _) (Nat.le_refl _) _

    have hb24 := hb3.trans (hbW3W4.mono hb3.size)
    have hD4 := H2.out.1.later hb24
    have hsl := shown_any hD4 h14 none 0 [] (.inl rfl) (by simp)
    rw [crash_none, HE.out.2.1, List.length_nil] at hsl
    have H4 := Lib.hid (And.intro bW4 (And.intro hD4 (H2.out.2.trans (hb24.mono H2.out.2.size))))
    clear hsa hb3 hW4 bW4 hbW3W4 hb24 hD4
    go_wp2_with (with_reducible refine wpList_alloc_z rfl 32 rfl (arr z14) 896 z_arr' ?_)
    refine hsl.mono ?_
    rintro e W5 ⟨rfl, hb5⟩
    obtain ⟨W6, hW6⟩ : ∃ W6, (W5.alloc (.cells (arr z14) 32)).setRow W5.heap.size (arr P) = W6 := ⟨_, rfl⟩
    have SW6 : (storeSem 32 (.pointer (some ⟨W5.heap.size, 0, none⟩)) (.agg (arr P))).run Tryd.prog (W5.alloc (.cells (arr z14) 32)) = .ok () W6 := by rw [← hW6]; exact sarr (Blk.new W5 _ _) z14_len hP14
    have bW6 : Blk W6 W5.heap.size 32 (arr P) := by rw [← hW6]; exact (Blk.new W5 _ _).row _
    have hbW5W6 : Below W5.heap.size W5 W6 := by rw [← hW6]; exact below_setRow ((Below.refl _ _).alloc (Nat.le_refl _) _) (Nat.le_refl _) _
    have hb46 := hb5.trans (hbW5W6.mono hb5.size)
    have hD6 := H4.out.2.1.later hb46
    have hss := shown_any hD6 h14 aK capK kt (HKT.out.later (H4.out.2.2.trans (hb46.mono H4.out.2.2.size))) (by omega)
    rw [HE.out.2.2.1, hm] at hss
    have H6 := Lib.hid (And.intro (H4.out.1.kept (Kept.of_below [] hb46) (by simp)) (And.intro bW6 (And.intro hD6 (H4.out.2.2.trans (hb46.mono H4.out.2.2.size)))))
    clear hsl hb5 hW6 bW6 hbW5W6 hb46 hD6
    go_wp2_with (with_reducible refine wpList_alloc_z rfl 32 rfl (arr z14) 896 z_arr' ?_)
    refine hss.mono ?_
    rintro e W7 ⟨rfl, hb7⟩
    obtain ⟨W8, hW8⟩ : ∃ W8, (W7.alloc (.cells (arr z14) 32)).setRow W7.heap.size (arr S) = W8 := ⟨_, rfl⟩
    have SW8 : (storeSem 32 (.pointer (some ⟨W7.heap.size, 0, none⟩)) (.agg (arr S))).run Tryd.prog (W7.alloc (.cells (arr z14) 32)) = .ok () W8 := by rw [← hW8]; exact sarr (Blk.new W7 _ _) z14_len hS14
    have bW8 : Blk W8 W7.heap.size 32 (arr S) := by rw [← hW8]; exact (Blk.new W7 _ _).row _
    have hbW7W8 : Below W7.heap.size W7 W8 := by rw [← hW8]; exact below_setRow ((Below.refl _ _).alloc (Nat.le_refl _) _) (Nat.le_refl _) _
    have hb68 := hb7.trans (hbW7W8.mono hb7.size)
    obtain ⟨W9, hW9⟩ : ∃ W9, W8.alloc (.map #[] 0) = W9 := ⟨_, rfl⟩
    have hb9 : Below W8.heap.size W8 W9 := by rw [← hW9]; exact (Below.refl _ _).alloc (Nat.le_refl _) _
    have hI9 : Idx W9 W8.heap.size [] := by rw [← hW9]; exact Idx.new W8
    have hmk : (Instr.makeMap 45 none).run Tryd.prog W8 = .ok (.map (some W8.heap.size)) W9 := by rw [← hW9]; exact run_makeMap _ _
    have hb69 := hb68.trans (hb9.mono hb68.size)
    have hD9 := H6.out.2.2.1.later hb69
    have hpe := pending_any hD9
    have hT9 : Three w W9 _ _ _ _ M P S [] := ⟨H6.out.2.2.2.trans (hb69.mono H6.out.2.2.2.size), H6.out.1.kept (Kept.of_below [] hb69) (by simp), H6.out.2.1.kept (Kept.of_below [] hb69) (by simp), bW8.kept (Kept.of_below [] hb9) (by simp), hI9, (H6.out.2.2.2.trans (hb68.mono H6.out.2.2.2.size)).size⟩
    have H9 := Lib.hid hT9
    clear hss hb7 hW8 bW8 hbW7W8 hb68 hW9 hb9 hI9 hb69 hD9 hT9
    go_wp2_with (with_reducible refine wpList_alloc_z rfl 32 rfl (arr z14) 896 z_arr' ?_)
    clear SW4 SW6 SW8 hmk
    refine hpe.mono ?_
    rintro e WA ⟨v, rfl, hownA, hbA⟩
    obtain ⟨va, vc, rfl, hcA⟩ := pend_of hownA
    have hTA := H9.out.later hbA
    have HA := Lib.hid (And.intro hTA hcA)
    clear hpe hownA hTA hcA hbA
    generalize W3.heap.size = gm at *
    generalize W5.heap.size = gl at *
    generalize W7.heap.size = gs at *
    generalize W8.heap.size = gb at *
    go_wp2_with fail
    go_loopw [65] (fun i wi => ∃ j : Nat, j ≤ D.rows.length ∧ i = .int .i64 j ∧ Three w wi gm gl gs gb M P S ((D.rows.take j).map (fun r => (r.s : Int))) ∧ Kept [gb] WA wi) (fun i _ => D.rows.length - (intOf i).toNat)
    case atStart => exact ⟨0, Nat.zero_le _, rfl, HA.out.1, Kept.refl _ _⟩
    case round =>
      obtain ⟨j, hj, rfl, hT, hK⟩ := hrel
      by_cases hjl : j < D.rows.length
      · obtain ⟨r, hr⟩ : ∃ r, D.rows[j]? = some r := ⟨_, List.getElem?_eq_getElem hjl⟩
        obtain ⟨g, rfl, hgl, hcg⟩ := HA.out.2 j r hr
        have hne : g ≠ gb := by
          rintro rfl
          rw [cell_idx HA.out.1.ix] at hcg
          cases hcg
        have hcg1 : wr.cell? ⟨g, j, none⟩ = some (.int .i64 (r.s : Int)) := by
          refine (World.cell?_of_block (w := WA) (hK.block g hgl (by simpa using hne))).trans hcg
        have hmem : r ∈ D.rows := List.mem_of_getElem? hr
        have hs14 : r.s < 14 := by have := HE.out.2.2.2.at_ r hmem; omega
        have hlen8 := HE.out.2.2.2.held
        have hnm : (r.s : Int) ∉ (D.rows.take j).map (fun r => (r.s : Int)) := by
          intro hm
          obtain ⟨r2, hr2, he2⟩ := List.mem_map.1 hm
          obtain ⟨i2, hi2, hri⟩ := List.mem_iff_getElem.1 hr2
          have hi2j : i2 < j := by simp only [List.length_take] at hi2; omega
          rw [List.getElem_take] at hri
          have hnd := HE.out.2.2.2.once
          refine (List.pairwise_iff_getElem.1 hnd) i2 j (by simp; omega) (by simpa using hjl) hi2j ?_
          have hrj : D.rows[j] = r := by
            have h9 := List.getElem?_eq_getElem hjl
            rw [hr] at h9
            injection h9 with h9
            exact h9.symm
          rw [List.getElem_map, List.getElem_map, hri, hrj]
          omega
        have hwf : (Lit.int .i64 (r.s : Int)).wf = true := by
          rw [Lit.wf_int_iff]
          have e1 : IntKind.i64.min = -9223372036854775808 := by decide
          have e2 : IntKind.i64.max = 9223372036854775807 := by decide
          rw [e1, e2]
          omega
        have hxl : ((D.rows.take j).map (fun r => (r.s : Int))).length = j := by rw [List.length_map, List.length_take]; omega
        obtain ⟨wn, hput, hM', hg'⟩ := hT.ix.put (r.s : Int) hwf (by rw [hxl]; unfold maxLen; omega) hnm
        rw [hxl] at hput
        have htk : (D.rows.take (j + 1)).map (fun r => (r.s : Int)) = (D.rows.take j).map (fun r => (r.s : Int)) ++ [(r.s : Int)] := by
          rw [List.take_add_one, hr]
          simp
        rw [← htk] at hM'
        have hK' : Kept [gb] WA wn := hK.grown hg' (by intro q9 hq9; injection hq9 with hq9; subst hq9; simp)
        have HM := Lib.hid (And.intro (hT.put hg' hM') hK')
        generalize ((r.s : Nat) : Int) = sv at *
        have hji : (j : Int) < (D.rows.length : Int) := by omega
        clear hT hK hM' hK' hnm hwf htk hcg hmem hs14 hr hg' hgl hne hxl
        go_wp2
        go_roundw
        case rel => exact ⟨j + 1, by omega, by go_num, HM.out.1, HM.out.2⟩
        case measure => simp [intOf]; omega
      · obtain rfl : j = D.rows.length := by omega
        rw [List.take_length] at hT
        have HT := Lib.hid hT
        clear hT hK HA H9 H4 H6 H2
        go_wp2
        go_loopw [74] (fun i wi => ∃ k : Nat, k ≤ 14 ∧ i = .int .i64 k ∧ Three w wi gm gl gs gb M P S (D.rows.map (fun r => (r.s : Int)))) (fun i _ => 14 - (intOf i).toNat)
        case atStart => exact ⟨0, Nat.zero_le _, rfl, HT.out⟩
        case round =>
          obtain ⟨k, hk, rfl, hT⟩ := hrel
          clear HT
          by_cases hlt : k < 14
          · have hki : (k : Int) < 14 := by omega
            obtain ⟨sb, hsb⟩ : ∃ sb, P.getD k Bk.zero = sb := ⟨_, rfl⟩
            have L9 := larr_at hT.l hP14 hlt
            rw [hsb] at L9
            obtain ⟨WX, hWX⟩ : ∃ WX, (wr.alloc (.cells Bk.zero.cs 31)).setRow wr.heap.size sb.cs = WX := ⟨_, rfl⟩
            have SX : (storeSem 31 (.pointer (some ⟨wr.heap.size, 0, none⟩)) (.agg sb.cs)).run Tryd.prog (wr.alloc (.cells Bk.zero.cs 31)) = .ok () WX := by rw [← hWX]; exact sblk1 (Blk.new wr _ _) sb
            have bX : Blk WX wr.heap.size 31 sb.cs := by rw [← hWX]; exact (Blk.new wr 31 Bk.zero.cs).row _
            have hbX : Below wr.heap.size wr WX := by rw [← hWX]; exact below_setRow ((Below.refl _ _).alloc (Nat.le_refl _) _) (Nat.le_refl _) _
            have hTX := hT.later hbX
            have hwf : (Lit.int .i64 (k : Int)).wf = true := by
              rw [Lit.wf_int_iff]
              have e1 : IntKind.i64.min = -9223372036854775808 := by decide
              have e2 : IntKind.i64.max = 9223372036854775807 := by decide
              rw [e1, e2]
              omega
            have hlook := hTX.ix.look (k : Int) hwf
            have EQ := fun w => eqSem_same sb w
            by_cases hrow : ∃ (j : Nat) (r : Rw), D.rows[j]? = some r ∧ r.s = k
            · obtain ⟨j, r, hr, hrk⟩ := hrow
              have lk := hlook.1 j (by rw [List.getElem?_map, hr, ← hrk]; rfl)
              have hsv := crash_row HE.out.2.2.2 kt hr
              have hmv := crash_row HE.out.2.2.2 (List.replicate 8 true) hr
              have hj8 : j < 8 := by have h1 := (List.getElem?_eq_some_iff.1 hr).1; have h2 := HE.out.2.2.2.held; omega
              have hy : ∀ k, k < 8 → (List.replicate 8 true).getD k false = true := by decide
              rw [HE.out.2.2.1, HE.out.2.1, hrk, hsb] at hsv
              rw [HE.out.1, hy j hj8, if_pos rfl, hrk] at hmv
              by_cases hkj : kt.getD j false = true
              · rw [if_pos hkj] at hsv
                have hjm : j < m := by
                  rw [← hm]
                  by_cases h9 : j < kt.length
                  · exact h9
                  · rw [List.getD_eq_getElem?_getD, List.getElem?_eq_none (by omega)] at hkj
                    cases hkj
                obtain ⟨b', off', rfl, hbl, hcc⟩ : ∃ b off, aK = some ⟨b, off, none⟩ ∧ b < w.heap.size ∧ ∀ i, i < kt.length → w.cell? ⟨b, off + i, none⟩ = some (.bool (kt.getD i false)) := by
                  rcases HKT.out with h9 | h9
                  · rw [h9] at hm
                    simp at hm
                    omega
                  · exact h9
                have ck := (hTX.hb.cell (p := ⟨b', off' + j, none⟩) hbl).trans (hcc j (by omega))
                rw [hkj] at ck
                have LM := larr_at hTX.m hM14 hlt
                rw [hmv] at LM
                have SY := sblk1 bX r.b
                have bY := bX.row r.b.cs
                have hbY := below_setRow hbX (Nat.le_refl _) r.b.cs
                obtain ⟨WY, hWY⟩ : ∃ WY, WX.setRow wr.heap.size r.b.cs = WY := ⟨_, rfl⟩
                rw [hWY] at SY bY hbY
                have hTY := (hT.later hbY).drew
                have LS := larr_at hTY.s hS14 hlt
                rw [hsv] at LS
                have LW := lblk1 bY.drew
                have EQ2 := fun w => eqSem_same r.b w
                have HF := Lib.hid hTY
                have hji : (j : Int) < (m : Int) := by omega
                clear hT bX hbX hTX hwf hlook hr hrk hsv hmv hy hkj hbl hcc bY hbY hWY hTY hWX hsb EQ
                go_wp2_with (with_reducible refine wpList_alloc_z rfl 31 rfl Bk.zero.cs 64 z_blk ?_)
                go_region
                all_goals
                  go_wp2_with fail
                  go_roundw
                  case rel => first | exact ⟨k + 1, by omega, by go_num, HF.out⟩ | ((repeat apply Exists.intro); exact ⟨⟨k + 1, by omega, by go_num, HF.out⟩, rfl⟩)
                  case measure => simp [intOf]; omega
              · rw [if_neg hkj] at hsv
                have hTd := hTX.drew.drew
                have LS := larr_at hTd.s hS14 hlt
                rw [hsv] at LS
                have LW := lblk1 bX.drew.drew
                have HF := Lib.hid hTd
                by_cases hjm : j < m
                · obtain ⟨b', off', rfl, hbl, hcc⟩ : ∃ b off, aK = some ⟨b, off, none⟩ ∧ b < w.heap.size ∧ ∀ i, i < kt.length → w.cell? ⟨b, off + i, none⟩ = some (.bool (kt.getD i false)) := by
                    rcases HKT.out with h9 | h9
                    · rw [h9] at hm
                      simp at hm
                      omega
                    · exact h9
                  have ck := (hTX.hb.cell (p := ⟨b', off' + j, none⟩) hbl).trans (hcc j (by omega))
                  have hkf : kt.getD j false = false := by simpa using hkj
                  rw [hkf] at ck
                  have hji : (j : Int) < (m : Int) := by omega
                  clear hT bX hbX hTX hwf hlook hr hrk hsv hmv hy hkj hkf hbl hcc hTd hWX hsb
                  go_wp2_with (with_reducible refine wpList_alloc_z rfl 31 rfl Bk.zero.cs 64 z_blk ?_)
                  go_region
                  all_goals
                    go_wp2_with fail
                    go_region
                    all_goals
                      go_wp2_with fail
                      go_roundw
                      case rel => first | exact ⟨k + 1, by omega, by go_num, HF.out⟩ | ((repeat apply Exists.intro); exact ⟨⟨k + 1, by omega, by go_num, HF.out⟩, rfl⟩)
                      case measure => simp [intOf]; omega
                · have hji : ¬ (j : Int) < (m : Int) := by omega
                  clear hT bX hbX hTX hwf hlook hr hrk hsv hmv hy hkj hTd hWX hsb
                  go_wp2_with (with_reducible refine wpList_alloc_z rfl 31 rfl Bk.zero.cs 64 z_blk ?_)
                  go_region
                  all_goals
                    go_wp2_with fail
                    go_region
                    all_goals
                      go_wp2_with fail
                      go_roundw
                      case rel => first | exact ⟨k + 1, by omega, by go_num, HF.out⟩ | ((repeat apply Exists.intro); exact ⟨⟨k + 1, by omega, by go_num, HF.out⟩, rfl⟩)
                      case measure => simp [intOf]; omega
            · have hne : ∀ r ∈ D.rows, r.s ≠ k := fun r hr h9 => hrow (by
                obtain ⟨j, hj⟩ := List.getElem?_of_mem hr
                exact ⟨j, r, hj, h9⟩)
              have lk := hlook.2 (fun h9 => by
                obtain ⟨r, hr, h8⟩ := List.mem_map.1 h9
                exact hne r hr (by omega))
              have hsv := crash_rest kt hne
              have hmv := crash_rest (List.replicate 8 true) hne
              rw [HE.out.2.2.1, HE.out.2.1, hsb] at hsv
              rw [HE.out.1, HE.out.2.1, hsb] at hmv
              have hTd1 := hTX.drew
              have LM1 := larr_at hTd1.m hM14 hlt
              rw [hmv] at LM1
              have LP1 := larr_at hTd1.l hP14 hlt
              rw [hsb] at LP1
              have hTd := hTX.drew.drew
              have LS := larr_at hTd.s hS14 hlt
              rw [hsv] at LS
              have LW := lblk1 bX.drew.drew
              have HF := Lib.hid hTd
              clear hT bX hbX hTX hwf hlook hrow hne hsv hmv hTd hTd1 hWX hsb
              go_wp2_with (with_reducible refine wpList_alloc_z rfl 31 rfl Bk.zero.cs 64 z_blk ?_)
              go_region
              all_goals
                go_wp2_with fail
                go_region
                all_goals
                  go_wp2_with fail
                  go_roundw
                  case rel => first | exact ⟨k + 1, by omega, by go_num, HF.out⟩ | ((repeat apply Exists.intro); exact ⟨⟨k + 1, by omega, by go_num, HF.out⟩, rfl⟩)
                  case measure => simp [intOf]; omega
          · obtain rfl : k = 14 := by omega
            have HF := Lib.hid hT.hb
            clear hT
            go_wp2_with fail
            go_ret
            exact ⟨rfl, HF.out⟩
end Go.Proofs.YtaikgngigaohmaaDoor
