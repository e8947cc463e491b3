/-
  The walk of ArenaDecodes: row by row both Decodes answer the same, and what they tell does the same. Nothing here is a statement of the document.
-/
import Derived.Test.YtgnpoehcmlmajaaRhT
import Derived.Test.YtgnpoehcmlmajaaRgB
import Derived.Deep.DeepCutAuto
import Derived.Deep.CutBlock
namespace Go.Proofs.Ytgnpoehcmlmajaa
open Go.RowKit Go.Shelf
set_option linter.unusedVariables false
theorem lies_pre2 {w : World} {a : Option Addr} {l : List Nat} (h : Lies w a l) (k : Nat) : Lies w a (l.take k) := by
  rcases h with rfl | ⟨b, off, rfl, hlt, hc⟩
  · exact .inl (by simp)
  · refine .inr ⟨b, off, rfl, hlt, fun i hi => ?_⟩
    rw [List.length_take] at hi
    rw [hc i (by omega)]
    simp only [List.getD_eq_getElem?_getD]
    rw [List.getElem?_take, if_pos (by omega)]
section
attribute [local go_sem ↓] load_ra_rule store_ra_rule load_op_rule store_op_rule
set_option maxRecDepth 100000 in
set_option maxHeartbeats 8000000 in
theorem adec_walk (hdec : ∀ (l : List Nat) (len : Nat), l.length = len → Bys l → len ≤ 1400 → (∃ err, DecNo l len err) ∨ ∃ ws bs, DecYes l len ws bs) (ar : Option Addr) (nr cr : Nat) (a : Option Addr) (cap : Nat) (l : List OpM) (w : World) (hR : RowsB w ar nr) (hnr : nr ≤ 9223372036854775807) (h : Ops w a l) (hl : l.length ≤ 9223372036854775807) :
    Calls Try.prog 4 #[.slice ar nr cr, .slice a l.length cap] w fun e w' => e = .returned (.bool true) ∧ Below w.heap.size w w' := by
  obtain ⟨i0, hi, hz0, hz1, hz2⟩ := info_parts Try.info5
  have HL := Lib.hid (And.intro h (And.intro hR hdec))
  clear h hR hdec
  go_enter Try.func4, Try.ntmps4
  go_wp2_with fail
  refine (wakes6_any w).mono ?_
  rintro e W1 ⟨rfl, hb1⟩
  have H1 := Lib.hid hb1
  clear hb1
  go_wp2_with fail
  go_loopw [20] (fun i wr => ∃ k : Nat, k ≤ nr ∧ i = .int .i64 k ∧ Below w.heap.size w wr) (fun i _ => nr - (intOf i).toNat)
  case atStart => exact ⟨0, Nat.zero_le _, rfl, H1.out⟩
  case round =>
    obtain ⟨k, hk, rfl, hbb⟩ := hrel
    clear H1
    by_cases hlt : k < nr
    · obtain ⟨rb, ro, rfl, ad, x, rc, hc, hL, hB, h1, h2, h3⟩ := HL.out.2.1 k hlt
      have hcell : wr.cell? ⟨rb, ro + k, none⟩ = some (.slice ad x.length rc) := by
        rw [← hc]; exact hbb.cell (p := ⟨rb, ro + k, none⟩) (acell_lt hc)
      have hLr := hL.kept hbb
      have hki : (k : Int) < (nr : Int) := by omega
      clear hc hL
      by_cases h6 : k = 6
      · subst h6
        have HE := Lib.hid hbb
        clear hbb hLr
        go_wp2_with fail
        go_ret
        exact ⟨rfl, HE.out⟩
      · have h6i : ¬ (k : Int) = 6 := by omega
        have d6 : ((k : Int) == 6) = false := by simp; omega
        obtain ⟨y, hy⟩ : ∃ y, x.take 1400 = y := ⟨_, rfl⟩
        have hyl : y.length = min 1400 x.length := by rw [← hy, List.length_take]
        have hyB : Bys y := by rw [← hy]; exact fun n hn => hB n (List.mem_of_mem_take hn)
        have hyL : Lies wr ad y := by rw [← hy]; exact lies_pre2 hLr 1400
        have hn1 : y.length ≤ 1400 := by omega
        have hn2 : y.length ≤ x.length := by omega
        obtain ⟨N, hN⟩ : ∃ N, x.length = N := ⟨_, rfl⟩
        rw [hN] at hcell h1 hn2 hyl
        have hmi : (if (1400 : Int) < (N : Int) then (1400 : Int) else (N : Int)) = ((y.length : Nat) : Int) := by
          rcases Nat.lt_or_ge 1400 N with h9 | h9
          · rw [if_pos (by omega)]; omega
          · rw [if_neg (by omega)]; omega
        have hyr : ((y.length : Nat) : Int) ≤ (rc : Int) := by omega
        have hyn : ¬ ((y.length : Nat) : Int) < 0 := by omega
        have HD := Lib.hid (HL.out.2.2 y y.length rfl hyB hn1)
        have HY := Lib.hid (And.intro hyL (And.intro hyB (And.intro hn1 hbb)))
        clear hy hyl hyB hyL hLr hB hN hn1 hn2 hbb
        go_wp2_with (at_builtin; refine wpList_append_got rfl _ _ rfl _ _ 0 [] rfl (ownb _) _ rc y rfl (HY.out.1.kept ((Below.refl _ _).alloc (Nat.le_refl _) _)) h3 (by have := HY.out.2.2.1; omega) (by simp) ?_)
        intro v7 W7 own7 grow7
        have hb7 : Below wr.heap.size wr W7 := ((Below.refl wr.heap.size wr).alloc (Nat.le_refl _) _).grown grow7 (by simp) (fun j hj => ((ownb wr).lt j hj).1)
        obtain ⟨ab, cb, rfl, hLb, hcb, hcn, hab, hgb⟩ := own_copy own7
        clear own7 grow7 hcell
        have HB7 := Lib.hid (And.intro hb7 (And.intro hLb (And.intro hcb hgb)))
        rcases HD.out with ⟨err, hd⟩ | ⟨ws, bs, hd⟩
        · have hp := hd.p ab cb hcb hab W7 hLb
          have hne := hd.ne
          have HR := Lib.hid hd.r
          clear hd hb7 hLb hcb hgb hab HD hmi hyr hyn
          rcases hne with rfl | rfl
          all_goals
            go_wp2_with fail
            refine hp.mono ?_
            rintro e W8 ⟨rfl, hb8⟩
            clear hp
            have HB8 := Lib.hid hb8
            clear hb8
            go_wp2_with (at_builtin; refine wpList_append_got rfl _ _ rfl _ _ 0 [] rfl (ownb _) _ cb y rfl ((HB7.out.2.1.kept HB8.out).kept ((Below.refl _ _).alloc (Nat.le_refl _) _)) hcn (by have := HY.out.2.2.1; omega) (by simp) ?_)
            intro v9 W9 own9 grow9
            have hb9 : Below W8.heap.size W8 W9 := ((Below.refl W8.heap.size W8).alloc (Nat.le_refl _) _).grown grow9 (by simp) (fun j hj => ((ownb W8).lt j hj).1)
            obtain ⟨ab2, cb2, rfl, hLb2, hcb2, hcn2, hab2, _⟩ := own_copy own9
            have hr := HR.out ab2 cb2 hcb2 hab2 W9 hLb2
            have HB9 := Lib.hid hb9
            clear own9 grow9 hLb2 hcb2 hcn2 hab2 hb9
            go_wp2_with fail
            refine hr.mono ?_
            rintro e W10 ⟨rfl, hb10⟩
            have hst := sra_new W10 (V := zeroRa) rfl zeroRa_one
            have HB10 := Lib.hid (show Below w.heap.size w W10 from bel_later HY.out.2.2.2 (bel_later HB7.out.1 (bel_later HB8.out (bel_later HB9.out hb10))))
            clear hr hb10
            unfold zeroRa at hst ⊢
            go_wp2_with fail
            go_roundw
            case rel => exact ⟨k + 1, by omega, by go_num, HB10.out.alloc HB10.out.size _⟩
            case measure => simp [intOf]; omega
        · have hbig := hd.big
          obtain ⟨gb, C, rfl, hge, hCb, hCs⟩ : ∃ g C, ab = some ⟨g, 0, none⟩ ∧ wr.heap.size ≤ g ∧ Blk W7 g 5 C ∧ C.size = cb := by
            rcases hgb with h9 | h9
            · rw [h9] at hbig; simp at hbig
            · exact h9
          have hp := hd.p gb cb hcb W7 hLb
          have hcb2 : ((y.length : Nat) : Int) ≤ (cb : Int) := by omega
          have HR := Lib.hid (And.intro hd.r (And.intro hge (And.intro hCb (And.intro hCs (And.intro hbig hcb)))))
          clear hd hb7 hLb hcb hgb hab HD hge hCb hCs hmi hyr hbig
          go_wp2_with fail
          refine hp.mono ?_
          rintro e W8 ⟨ga, pp, qq, rfl, hA8, hb8, hg1, hg2, hg3⟩
          clear hp
          have HB8 := Lib.hid (And.intro hb8 (And.intro hA8 (And.intro hg1 (And.intro hg2 hg3))))
          clear hb8 hA8 hg1 hg2 hg3
          go_wp2_with (at_builtin; refine wpList_append_got rfl _ _ rfl _ _ 0 [] rfl (ownb _) _ cb y rfl ((HB7.out.2.1.kept HB8.out.1).kept ((Below.refl _ _).alloc (Nat.le_refl _) _)) hcn (by have := HY.out.2.2.1; omega) (by simp) ?_)
          intro v9 W9 own9 grow9
          have hb9 : Below W8.heap.size W8 W9 := ((Below.refl W8.heap.size W8).alloc (Nat.le_refl _) _).grown grow9 (by simp) (fun j hj => ((ownb W8).lt j hj).1)
          obtain ⟨ab2, cb2, rfl, hLb2, hcb2, hcn2, hab2, _⟩ := own_copy own9
          obtain ⟨gb2, rfl⟩ := hab2 HR.out.2.2.2.2.1
          have hr := HR.out.1 gb2 cb2 hcb2 W9 hLb2
          have HB9 := Lib.hid hb9
          clear own9 grow9 hLb2 hcb2 hcn2 hab2 hb9
          go_wp2_with fail
          refine hr.mono ?_
          rintro e W10 ⟨M, lo, bv, ls, vs, rfl, hRf, hlo1, hlo2, hP, hb10⟩
          clear hr
          have hA10 : Ar W10 ga pp qq ws bs := (HB8.out.2.1.later HB9.out).later hb10
          have s7 := HR.out.2.2.1.lt
          have s8 := HB8.out.1.size
          have s9 := HB9.out.size
          have s10 := hb10.size
          have g1 := HB8.out.2.1.box.lt
          have g2 := HB8.out.2.1.wds.lt
          have g3 := HB8.out.2.1.bgs.lt
          have hag : Agr W10 ga pp qq lo ws bs bv ls vs M := ⟨hA10, hP, hRf, by omega, by omega, by omega, hlo2⟩
          have hst := sra_new W10 (V := M.vals bv ls) rfl hRf.vals_one
          obtain ⟨W11, hW11⟩ : ∃ W11, W10.alloc (.cells (M.vals bv ls) 36) = W11 := ⟨_, rfl⟩
          have kb11 : Below W10.heap.size W10 W11 := by rw [← hW11]; exact (Below.refl _ _).alloc (Nat.le_refl _) _
          have b11 : Blk W11 W10.heap.size 36 (M.vals bv ls) := by rw [← hW11]; exact Blk.new _ _ _
          rw [hW11] at hst
          have hbw : Below w.heap.size w W11 := bel_later HY.out.2.2.2 (bel_later HB7.out.1 (bel_later HB8.out.1 (bel_later HB9.out (bel_later hb10 kb11))))
          have hb711 : Below W7.heap.size W7 W11 := bel_later HB8.out.1 (bel_later HB9.out (bel_later hb10 kb11))
          have hCb11 := HR.out.2.2.1.kept (Kept.of_below [] hb711) (by simp)
          obtain ⟨m7, hm7⟩ : ∃ m7, W10.heap.size = m7 := ⟨_, rfl⟩
          have hsw := HY.out.2.2.2.size
          have hsg := HR.out.2.1
          have HT := Lib.hid (show Agr W11 ga pp qq lo ws bs bv ls vs M ∧ Blk W11 m7 36 (M.vals bv ls) ∧ (ga < m7 ∧ pp < m7 ∧ qq < m7) ∧ Below w.heap.size w W11 ∧ Blk W11 gb 5 C ∧ (w.heap.size ≤ gb ∧ w.heap.size ≤ pp ∧ w.heap.size ≤ qq ∧ w.heap.size ≤ m7) ∧ gb ≠ ga ∧ gb ≠ pp ∧ gb ≠ qq ∧ gb ≠ m7 ∧ gb < lo from
            ⟨hag.later kb11, by rw [← hm7]; exact b11, ⟨by omega, by omega, by omega⟩, hbw, hCb11, ⟨by omega, by have := HB8.out.2.2.2.1; have := HB7.out.1.size; omega, by have := HB8.out.2.2.2.2; have := HB7.out.1.size; omega, by have := HB7.out.1.size; omega⟩, by have := HB8.out.2.2.1; omega, by have := HB8.out.2.2.2.1; omega, by have := HB8.out.2.2.2.2; omega, by omega, by omega⟩)
          rw [hm7] at hst
          clear hb10 hRf hlo1 hlo2 hP hA10 s7 s8 s9 s10 g1 g2 g3 hag kb11 b11 hbw hb711 hCb11 hsw hsg hW11
          go_wp2_with fail
          clear hst hm7
          go_loopw [60] (fun i wq => ∃ j : Nat, j ≤ y.length ∧ i = .int .i64 j ∧ ∃ C' : Array Value, C'.size = cb ∧ Blk wq gb 5 C' ∧ Kept [gb] W11 wq) (fun i _ => y.length - (intOf i).toNat)
          case atStart => exact ⟨0, Nat.zero_le _, rfl, C, HR.out.2.2.2.1, HT.out.2.2.2.2.1, Kept.refl _ _⟩
          case round =>
            obtain ⟨j, hj, rfl, C', hC's, hC'b, hkp⟩ := hrel
            rename World => wq
            have hy14 : y.length ≤ 1400 := HY.out.2.2.1
            by_cases hjl : j < y.length
            · have hji : (j : Int) < ((y.length : Nat) : Int) := by omega
              have hjc : j < C'.size := by omega
              have hcj : wq.cell? ⟨gb, j, none⟩ = some C'[j] := by rw [hC'b.cell j]; exact Array.getElem?_eq_getElem hjc
              have hfj := hC'b.free j
              have HN := Lib.hid (show Blk (wq.setCell ⟨gb, j, none⟩ (.int .u8 99)) gb 5 (C'.setIfInBounds j (.int .u8 99)) ∧ Kept [gb] W11 (wq.setCell ⟨gb, j, none⟩ (.int .u8 99)) from ⟨hC'b.set j _, hkp.setCell (.inl (by simp)) _⟩)
              generalize C'[j] = u9 at *
              have HC := Lib.hid hC's
              clear hC's hC'b hkp hjc
              go_wp2_with fail
              go_roundw
              case rel => exact ⟨j + 1, by omega, by go_num, _, by rw [Array.size_setIfInBounds]; exact HC.out, HN.out.1, HN.out.2⟩
              case measure => simp [intOf]; omega
            · have hji : ¬ (j : Int) < ((y.length : Nat) : Int) := by omega
              have hk11 := hkp
              have n1 : ga ∉ [gb] := by simp; exact fun h9 => HT.out.2.2.2.2.2.2.1 h9.symm
              have n2 : pp ∉ [gb] := by simp; exact fun h9 => HT.out.2.2.2.2.2.2.2.1 h9.symm
              have n3 : qq ∉ [gb] := by simp; exact fun h9 => HT.out.2.2.2.2.2.2.2.2.1 h9.symm
              have n4 : ∀ s ∈ [gb], s < lo := by
                intro s hs
                rw [List.mem_singleton] at hs
                rw [hs]
                exact HT.out.2.2.2.2.2.2.2.2.2.2
              have hag : Agr wq ga pp qq lo ws bs bv ls vs M := ⟨HT.out.1.ar.kept hkp n1 n2 n3, HT.out.1.pur, HT.out.1.rf.kept hkp n4, HT.out.1.hg, HT.out.1.hp, HT.out.1.hq, Nat.le_trans HT.out.1.hl hkp.size⟩
              have hbx : Blk wq m7 36 (M.vals bv ls) := HT.out.2.1.kept hkp (by simp; exact fun h9 => HT.out.2.2.2.2.2.2.2.2.2.1 h9.symm)
              have hbq : Below w.heap.size w wq := HT.out.2.2.2.1.trans (hkp.below (by simp; exact HT.out.2.2.2.2.2.1.1) HT.out.2.2.2.1.size)
              have HQ := Lib.hid (show Pair2 w wq ga pp qq m7 from ⟨lo, ws, bs, bv, ls, vs, M, hag, hbx, HT.out.2.2.1.1, HT.out.2.2.1.2.1, HT.out.2.2.1.2.2, hbq⟩)
              have hl7 := lra hbx rfl
              have hgr := agrees_any hag
              have HG := Lib.hid (And.intro HT.out.2.2.2.2.2.1 HT.out.2.2.1)
              clear n1 n2 n3 n4 hk11 hag hbx hbq hkp hC's hC'b
              obtain ⟨V, hV⟩ : ∃ V, M.vals bv ls = V := ⟨_, rfl⟩
              rw [hV] at hl7 hgr
              clear hV HT
              go_wp2_with fail
              refine hgr.mono ?_
              rintro e W12 ⟨rfl, hb12⟩
              have HQ2 := Lib.hid (HQ.out.later hb12)
              clear hgr hb12 hl7 HQ
              go_wp2_with fail
              go_loopw [73] (fun i wz => ∃ k2 : Nat, k2 ≤ l.length ∧ i = .int .i64 k2 ∧ Pair2 w wz ga pp qq m7) (fun i _ => l.length - (intOf i).toNat)
              case atStart => exact ⟨0, Nat.zero_le _, rfl, HQ2.out⟩
              case round =>
                obtain ⟨k2, hk2, rfl, lo, ws, bs, bv, ls, vs, M, hag, hbx, hg7, hp7, hq7, hbb⟩ := hrel
                rename World => wz
                clear HQ2
                by_cases hlt2 : k2 < l.length
                · obtain ⟨y, hy⟩ : ∃ y, l[k2]? = some y := ⟨_, List.getElem?_eq_getElem hlt2⟩
                  obtain ⟨b0, o0, rfl, hc, ho⟩ := HL.out.1.at hy
                  have hcc : ∀ j, j < 7 → wz.cell? ⟨b0, o0 + k2 * 7 + j, none⟩ = (y.cs)[j]? := by
                    intro j hj
                    have h9 := hc j hj
                    rw [← h9]
                    have h8 : ∃ v, w.cell? ⟨b0, o0 + k2 * 7 + j, none⟩ = some v := by
                      rw [h9]
                      have : j < y.cs.size := by simp [OpM.cs]; omega
                      exact ⟨_, Array.getElem?_eq_getElem this⟩
                    obtain ⟨v, hv⟩ := h8
                    exact hbb.cell (p := ⟨b0, o0 + k2 * 7 + j, none⟩) (acell_lt hv)
                  have hlo := run_loadAt_mid (P := Try.prog) wz b0 (o0 + k2 * 7) 38 y.cs.toList _ (fun j u hj => by
                    have hl7 : j < 7 := (List.getElem?_eq_some_iff.1 hj).1
                    rw [hcc j hl7]; simpa using hj) Try.underlying38 rfl (by exact s_op)
                  have hlo' : (loadSem 38 (.pointer (some ⟨b0, o0 + k2 * 7, none⟩))).run Try.prog wz = .ok (.agg y.cs) wz := hlo
                  have hsn := sto_new wz y
                  obtain ⟨W5, hW5⟩ : ∃ W5, wz.alloc (.cells y.cs 38) = W5 := ⟨_, rfl⟩
                  have kb5 : Below wz.heap.size wz W5 := by rw [← hW5]; exact (Below.refl _ _).alloc (Nat.le_refl _) _
                  have bo5 : Blk W5 wz.heap.size 38 y.cs := by rw [← hW5]; exact Blk.new _ _ _
                  rw [hW5] at hsn
                  have hag5 := hag.later kb5
                  have hb5 := hbx.kept (Kept.of_below [] kb5) (by simp)
                  have hl9 := ld_op bo5
                  have hl7 := lra hb5 rfl
                  have hdo := does_any hag5 y ho
                  have HP5 := Lib.hid (show Pair2 w W5 ga pp qq m7 from ⟨lo, ws, bs, bv, ls, vs, M, hag5, hb5, hg7, hp7, hq7, bel_later hbb kb5⟩)
                  have HQ5 := Lib.hid (And.intro hb5 (bel_later hbb kb5))
                  have hki2 : (k2 : Int) < (l.length : Int) := by omega
                  clear hag hbx hbb hc hcc hlo kb5 bo5 hag5 hb5 hy ho hW5
                  obtain ⟨VO, hVO⟩ : ∃ VO, y.cs = VO := ⟨_, rfl⟩
                  rw [hVO] at hlo' hsn hl9 hdo
                  clear hVO
                  obtain ⟨V, hV⟩ : ∃ V, M.vals bv ls = V := ⟨_, rfl⟩
                  have HV := Lib.hid hV
                  rw [hV] at hl7 hdo
                  clear hV
                  by_cases h66 : k2 = 6
                  · subst h66
                    clear hdo hl7 hl9
                    go_wp2_with fail
                    obtain ⟨_, _, _, _, _, _, _, _, _, _, _, _, hfin⟩ := HP5.out
                    exact ⟨⟨k + 1, by omega, by go_num, hfin⟩, by simp [intOf]; omega⟩
                  · have h6j : ¬ (k2 : Int) = 6 := by omega
                    have d6j : ((k2 : Int) == 6) = false := by simp; omega
                    go_wp2_with fail
                    refine hdo.mono ?_
                    rintro e W6 ⟨v, rfl, hdn⟩
                    obtain ⟨V', rfl, hs7, hb7, h13, ⟨lo', ws', bs', bv', ls', vs', M', hVe, hag7⟩, hp2⟩ := Pair2.step (w0 := w) HQ5.out.1 rfl hg7 hp7 hq7 HQ5.out.2 ⟨HG.out.1.2.1, HG.out.1.2.2.1, HG.out.1.2.2.2⟩ hdn
                    have hl7' := lra hb7 h13
                    have hgr := agrees_any hag7
                    rw [← hVe] at hgr
                    have HR := Lib.hid hp2
                    clear hdo hdn hb7 h13 hVe hag7 hp2 hl9 hl7 hsn hlo'
                    obtain ⟨W7, hW7⟩ : ∃ W7, W6.setRow m7 V' = W7 := ⟨_, rfl⟩
                    rw [hW7] at hs7 hl7' hgr HR
                    clear hW7
                    go_wp2_with fail
                    refine hgr.mono ?_
                    rintro e W8 ⟨rfl, hb8⟩
                    have HX := Lib.hid (HR.out.later hb8)
                    clear hgr hb8 hs7 hl7'
                    go_wp2_with fail
                    go_roundw
                    case rel => exact ⟨k2 + 1, by omega, by go_num, HX.out⟩
                    case measure => simp [intOf]; omega
                · have HX := Lib.hid (show Pair2 w wz ga pp qq m7 from ⟨lo, ws, bs, bv, ls, vs, M, hag, hbx, hg7, hp7, hq7, hbb⟩)
                  clear hag hbx hbb
                  go_wp2_with fail
                  obtain ⟨_, _, _, _, _, _, _, _, _, _, _, _, hfin⟩ := HX.out
                  exact ⟨⟨k + 1, by omega, by go_num, hfin⟩, by simp [intOf]; omega⟩
    · have HE := Lib.hid hbb
      clear hbb
      go_wp2_with fail
      go_ret
      exact ⟨rfl, HE.out⟩
end
end Go.Proofs.Ytgnpoehcmlmajaa
