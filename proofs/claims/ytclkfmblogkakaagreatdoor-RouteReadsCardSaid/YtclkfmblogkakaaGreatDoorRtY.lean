/-
  Whether a batch may be: the contract of the reference's RightBatch. Nothing here is a statement of the document.
-/
import Derived.Test.YtclkfmblogkakaaGreatDoorRvU
namespace Go.Proofs.YtclkfmblogkakaaGreatDoor
open Go.RowKit Go.Shelf
set_option linter.unusedVariables false
set_option maxRecDepth 100000
attribute [local go_sem ↓] load_b16_rule store_b16_rule load_ad_rule store_ad_rule load_px_rule store_px_rule eq_b16_rule eq_ad_rule eq_px_rule load_ro_rule store_ro_rule load_up_rule store_up_rule build_ro_rule
/-- The candidate of an update, as it is asked whether it may be. -/
def saidF (u : Up) : Ro := if u.g then ⟨u.p, u.s, u.f, 1⟩ else said u
theorem okUp_gone {u : Up} (hg : u.g = true) : okUp u ↔ (u.f = 0 ∧ u.h = 0) ∧ okRo (saidF u) := by
  unfold okUp saidF
  rw [if_pos hg, if_pos hg]
  constructor
  · rintro ⟨h1, h2, h3, h4⟩
    exact ⟨⟨h3, h4⟩, h1, h2, by show 0 ≤ u.f ∧ u.f ≤ 255; omega, by show (1 : Int) ≤ 1 ∧ (1 : Int) ≤ 255; omega⟩
  · rintro ⟨⟨h3, h4⟩, h1, h2, _, _⟩
    exact ⟨h1, h2, h3, h4⟩
theorem okUp_not {u : Up} (hg : u.g = false) : okUp u ↔ okRo (saidF u) := by
  unfold okUp saidF
  rw [if_neg (by simp [hg]), if_neg (by simp [hg])]
theorem ro_hop (r : Ro) (h : Int) : r.cs.setIfInBounds 20 (.int .i64 h) = (Ro.mk r.p r.s r.f h).cs := by
  unfold Ro.cs
  rw [Array.setIfInBounds_append, if_neg (by rw [Px.size]; omega), Px.size]
  rfl
set_option maxHeartbeats 8000000 in
theorem rrbat_any (a : Option Addr) (n c : Nat) (L : List Up) (w : World) (hn : L.length = n) (hs : n ≤ 1000000) (hR : UpAt w a L) :
    Calls Tryz.prog 22 #[.agg #[.slice a n c]] w fun e w' => e = .returned (.bool (decide (okBat L))) ∧ Below w.heap.size w w' := by
  obtain ⟨W1, hW1⟩ : ∃ W1, w.alloc (.cells #[.slice a n c] 32) = W1 := ⟨_, rfl⟩
  have hb1 : Below w.heap.size w W1 := by rw [← hW1]; exact (Below.refl _ _).alloc (Nat.le_refl _) _
  have b1 : Blk W1 w.heap.size 32 #[.slice a n c] := by rw [← hW1]; exact Blk.new _ _ _
  have CT : ∀ w', Below W1.heap.size W1 w' → w'.cell? ⟨w.heap.size, 0, none⟩ = some (.slice a n c) := fun w' k => (b1.later k).cell 0
  have HR := Lib.hid (fun (w' : World) (h : Below W1.heap.size W1 w') => (hR.later hb1).later h)
  have CT1 := CT W1 (Below.refl _ _)
  have HB := Lib.hid (And.intro hb1 hn)
  clear hb1 b1 hR hn
  by_cases h0 : n < 1
  · have HV := Lib.hid (decide_eq_false (fun h : okBat L => by have := h.1; have := HB.out.2; omega))
    have d0 : (n : Int) < 1 := by omega
    clear CT
    go_enter Tryz.func22, Tryz.ntmps22
    go_wp2
    all_goals go_ret
    all_goals exact ⟨by rw [HV.out]; rfl, HB.out.1⟩
  have d0 : ¬ ((n : Int) < 1) := by omega
  by_cases h8 : 8 < n
  · have HV := Lib.hid (decide_eq_false (fun h : okBat L => by have := h.1; have := HB.out.2; omega))
    have d8 : (8 : Int) < (n : Int) := by omega
    clear CT
    go_enter Tryz.func22, Tryz.ntmps22
    go_wp2
    all_goals go_ret
    all_goals exact ⟨by rw [HV.out]; rfl, HB.out.1⟩
  have d8 : ¬ ((8 : Int) < (n : Int)) := by omega
  go_enter Tryz.func22, Tryz.ntmps22
  go_wp2_with fail
  go_loopw [3] (fun i wr => ∃ k : Nat, k ≤ n ∧ i = .int .i64 (k : Int) ∧ (∀ j, j < k → okUp (upg L j)) ∧ (∀ j, j < k → ∀ i, i < j → ¬ spk (upg L j) (said (upg L i))) ∧ Below W1.heap.size W1 wr) (fun i _ => n - (intOf i).toNat)
  case atStart => exact ⟨0, Nat.zero_le _, rfl, fun j hj => absurd hj (Nat.not_lt_zero _), fun j hj => absurd hj (Nat.not_lt_zero _), Below.refl _ _⟩
  case round =>
    obtain ⟨k, hk, rfl, hok, hup, hkb⟩ := hrel
    obtain ⟨wo, hwo⟩ : ∃ wo, wo = wr := ⟨_, rfl⟩
    subst hwo
    clear CT1
    have CT2 := CT wo hkb
    by_cases hlt : k < n
    · have hkl : k < L.length := by have := HB.out.2; omega
      obtain ⟨g, o, hao, hrow⟩ := (HR.out wo hkb).spot hkl
      have LK := hrow.load hkl
      obtain ⟨u, hu⟩ : ∃ u, upg L k = u := ⟨_, rfl⟩
      rw [hu] at LK
      obtain ⟨W3, hst, hblk, hb3⟩ : ∃ W, (storeSem 46 (.pointer (some ⟨wo.heap.size, 0, none⟩)) (.agg u.cs)).run Tryz.prog (wo.alloc (.cells Up.zero.cs 46)) = .ok () W ∧ Blk W wo.heap.size 46 u.cs ∧ Below wo.heap.size wo W := ⟨_, st_up (Blk.new wo _ _), Blk.row (Blk.new wo _ _) _, below_setRow ((Below.refl _ _).alloc (Nat.le_refl _) _) (Nat.le_refl _) _⟩
      have hb13 := bel_trans hkb hb3
      have U1 := up_p hblk W3 (Below.refl _ _)
      have U2 := up_s hblk W3 (Below.refl _ _)
      have U3 := up_f hblk W3 (Below.refl _ _)
      have U4 := up_h hblk W3 (Below.refl _ _)
      have BR := build_ro4 u.p u.s u.f u.h W3
      rw [show Ro.mk u.p u.s u.f u.h = said u from rfl] at BR
      obtain ⟨W4, hst4, hbx, hb4⟩ : ∃ W, (storeSem 57 (.pointer (some ⟨W3.heap.size, 0, none⟩)) (.agg (said u).cs)).run Tryz.prog (W3.alloc (.cells Ro.zero.cs 57)) = .ok () W ∧ Blk W W3.heap.size 57 (said u).cs ∧ Below W3.heap.size W3 W := ⟨_, st_ro (Blk.new W3 _ _), Blk.row (Blk.new W3 _ _) _, below_setRow ((Below.refl _ _).alloc (Nat.le_refl _) _) (Nat.le_refl _) _⟩
      have hbu4 := hblk.later hb4
      have G4 := up_g hbu4 W4 (Below.refl _ _)
      have F4 := up_f hbu4 W4 (Below.refl _ _)
      have H4 := up_h hbu4 W4 (Below.refl _ _)
      have hb14 := bel_trans hb13 hb4
      have HK := Lib.hid (And.intro hok (And.intro hup (And.intro hkb (And.intro hb14 (And.intro hkl (And.intro hbu4 (And.intro hbx hblk.lt)))))))
      have HU := Lib.hid hu
      have HCT := Lib.hid CT
      clear hrow hok hup hkb hb3 hb4 hblk CT hb13 hkl hu hbu4 hb14 hbx
      subst hao
      -- the inner loop, from whatever world the candidate's check leaves
      cases hg : u.g
      · rw [hg] at G4
        have hsF : saidF u = said u := by unfold saidF; rw [if_neg (by simp [hg])]
        have HC := rfits_any (said u) W4
        have LX := ro_r HK.out.2.2.2.2.2.2.1 W4 (Below.refl _ _)
        have HOK := Lib.hid (show okUp u ↔ okRo (said u) by rw [okUp_not hg, hsF])
        clear hg hsF
        by_cases he : okRo (said u)
        · rw [decide_eq_true he] at HC
          have HE := Lib.hid (HOK.out.2 he)
          clear he
          go_wp2_with (first | (with_reducible refine wpList_alloc_z rfl 46 rfl Up.zero.cs 22 z_up ?_) | (with_reducible refine wpList_alloc_z rfl 57 rfl Ro.zero.cs 21 z_ro ?_))
          refine HC.mono ?_
          rintro e W5 ⟨rfl, hb5⟩
          have H5 := Lib.hid (And.intro (bel_trans HK.out.2.2.2.1 hb5) (HK.out.2.2.2.2.2.1.later hb5))
          clear hb5 HC LX G4 F4 H4 U1 U2 U3 U4 hst hst4 BR LK
          have hb15 : Below W1.heap.size W1 W5 := H5.out.1
          have CT5 := HCT.out W5 hb15
          clear hb15
          go_wp2_with fail
          clear CT5 CT2
          go_loopw [6] (fun i wr => ∃ j : Nat, j ≤ k ∧ i = .int .i64 (j : Int) ∧ (∀ i, i < j → ¬ spk u (said (upg L i))) ∧ Below W5.heap.size W5 wr) (fun i _ => k - (intOf i).toNat)
          case atStart => exact ⟨0, Nat.zero_le _, rfl, fun j hj => absurd hj (Nat.not_lt_zero _), Below.refl _ _⟩
          case round =>
            obtain ⟨j, hj, rfl, hno, hjb⟩ := hrel
            have hb1r : Below W1.heap.size W1 wr := bel_trans H5.out.1 hjb
            by_cases hjk : j < k
            · have hjl : j < L.length := by have := HK.out.2.2.2.2.1; omega
              have hrow2 : Ups wr g o L := by
                rcases HR.out wr hb1r with h9 | ⟨g2, o2, h9, h8⟩
                · exact absurd h9 (by intro h7; rw [h7] at hjl; simp at hjl)
                · cases h9; exact h8
              have L1 : ∀ w', Below wr.heap.size wr w' → (loadSem 43 (.pointer (some ⟨g, o + j * 22, none⟩))).run Tryz.prog w' = .ok (.agg (upg L j).p.cs) w' := fun w' h => (hrow2.later h).loadp hjl
              have L2 : ∀ w', Below wr.heap.size wr w' → w'.cell? ⟨g, o + j * 22 + 18, none⟩ = some (.int .i64 (upg L j).s) := fun w' h => (hrow2.later h).s hjl
              have hbur := H5.out.2.later hjb
              have L3 := up_p hbur
              have L4 := up_s hbur
              have CT6 : ∀ w', Below wr.heap.size wr w' → w'.cell? ⟨w.heap.size, 0, none⟩ = some (.slice (some ⟨g, o, none⟩) n c) := fun w' h => HCT.out w' (bel_trans hb1r h)
              have h03 : Below wr.heap.size wr wr := Below.refl _ _
              have EQ := eqP (upg L j).p u.p
              have i1 : (j : Int) < (n : Int) := by omega
              have HJ := Lib.hid (And.intro hno (And.intro hjb (And.intro hb1r hjl)))
              clear hrow2 hno hjb hb1r hbur hjl
              by_cases hep : (upg L j).p = u.p
              · rw [decide_eq_true hep] at EQ
                have HP := Lib.hid hep
                clear hep
                by_cases hes : (upg L j).s = u.s
                · have d2 : ((upg L j).s == u.s) = true := by simp [hes]
                  have HV := Lib.hid (decide_eq_false (fun h : okBat L => h.2.2 k HK.out.2.2.2.2.1 j hjk (by rw [HU.out]; exact ⟨HP.out.symm, hes.symm⟩)))
                  clear hes
                  go_upto_region 17 with fail
                  refine wp_region_lin (fun w' => Below wr.heap.size wr w') (by kernel_rfl) (by kernel_rfl) (bel_drew h03) ?_
                  (repeat (first | (refine lin_off (by rfl) ?_; (try simp only [Act.put, List.setIfInBounds_toArray, List.set_cons_zero, List.set_cons_succ])) | (refine lin_op (v := ?_) (by rfl) (fun w9 hS9 => ?_) ?_; rotate_left; (focus (((try dsimp only at hS9); go_simp; (try go_bits)) <;> with_reducible rfl)); (try simp only [Act.put, List.setIfInBounds_toArray, List.set_cons_zero, List.set_cons_succ]))))
                  refine lin_nil (fun w7 hb7 => ?_)
                  go_wp2
                  go_ret
                  exact ⟨by rw [HV.out]; first | rfl | (simp; done), bel_trans HB.out.1 (bel_trans HJ.out.2.2.1 hb7)⟩
                · have d2 : ((upg L j).s == u.s) = false := by simpa using hes
                  have HN := Lib.hid (show ¬ spk u (said (upg L j)) from fun h => hes h.2.symm)
                  clear hes
                  go_upto_region 17 with fail
                  refine wp_region_lin (fun w' => Below wr.heap.size wr w') (by kernel_rfl) (by kernel_rfl) (bel_drew h03) ?_
                  (repeat (first | (refine lin_off (by rfl) ?_; (try simp only [Act.put, List.setIfInBounds_toArray, List.set_cons_zero, List.set_cons_succ])) | (refine lin_op (v := ?_) (by rfl) (fun w9 hS9 => ?_) ?_; rotate_left; (focus (((try dsimp only at hS9); go_simp; (try go_bits)) <;> with_reducible rfl)); (try simp only [Act.put, List.setIfInBounds_toArray, List.set_cons_zero, List.set_cons_succ]))))
                  refine lin_nil (fun w7 hb7 => ?_)
                  go_wp2
                  go_roundw
                  case rel => exact ⟨j + 1, by omega, by go_num, fun i hi => by
                    by_cases e : i = j
                    · rw [e]; exact HN.out
                    · exact HJ.out.1 i (by omega), bel_trans HJ.out.2.1 hb7⟩
                  case measure => simp [intOf]; omega
              · rw [decide_eq_false hep] at EQ
                have HN := Lib.hid (show ¬ spk u (said (upg L j)) from fun h => hep h.1.symm)
                clear hep
                go_upto_region 17 with fail
                refine wp_region_lin (fun w' => Below wr.heap.size wr w') (by kernel_rfl) (by kernel_rfl) (bel_drew h03) ?_
                (repeat (first | (refine lin_off (by rfl) ?_; (try simp only [Act.put, List.setIfInBounds_toArray, List.set_cons_zero, List.set_cons_succ])) | (refine lin_op (v := ?_) (by rfl) (fun w9 hS9 => ?_) ?_; rotate_left; (focus (((try dsimp only at hS9); go_simp; (try go_bits)) <;> with_reducible rfl)); (try simp only [Act.put, List.setIfInBounds_toArray, List.set_cons_zero, List.set_cons_succ]))))
                refine lin_nil (fun w7 hb7 => ?_)
                go_wp2
                go_roundw
                case rel => exact ⟨j + 1, by omega, by go_num, fun i hi => by
                  by_cases e : i = j
                  · rw [e]; exact HN.out
                  · exact HJ.out.1 i (by omega), bel_trans HJ.out.2.1 hb7⟩
                case measure => simp [intOf]; omega
            · have hjk2 : j = k := by omega
              have i3 : ¬ ((j : Int) < (k : Int)) := by omega
              have HJ := Lib.hid (And.intro hno (And.intro hb1r hjk2))
              clear hno hjb hb1r hjk2
              go_wp2
              go_roundw
              case rel => exact ⟨k + 1, by omega, by go_num, fun i hi => by
                by_cases e : i = k
                · rw [e, HU.out]; exact HE.out
                · exact HK.out.1 i (by omega), fun i hi m hm => by
                by_cases e : i = k
                · subst e; rw [HU.out]; exact HJ.out.1 m (by rw [HJ.out.2.2]; exact hm)
                · exact HK.out.2.1 i (by omega) m hm, HJ.out.2.1⟩
              case measure => simp [intOf]; omega
        · rw [decide_eq_false he] at HC
          have HV := Lib.hid (decide_eq_false (fun h : okBat L => he (HOK.out.1 (by rw [← HU.out]; exact h.2.1 k HK.out.2.2.2.2.1))))
          clear he
          go_wp2_with (first | (with_reducible refine wpList_alloc_z rfl 46 rfl Up.zero.cs 22 z_up ?_) | (with_reducible refine wpList_alloc_z rfl 57 rfl Ro.zero.cs 21 z_ro ?_))
          refine HC.mono ?_
          rintro e W5 ⟨rfl, hb5⟩
          go_wp2
          go_ret
          exact ⟨by rw [HV.out]; rfl, bel_trans HB.out.1 (bel_trans HK.out.2.2.2.1 hb5)⟩
      · rw [hg] at G4
        have HG := Lib.hid hg
        clear hg
        by_cases hf0 : u.f = 0
        · by_cases hh0 : u.h = 0
          · have d1 : (u.f != 0) = false := by simp [hf0]
            have d2 : (u.h != 0) = false := by simp [hh0]
            have HF0 := Lib.hid (And.intro hf0 hh0)
            clear hf0 hh0
            have CX4 : W4.cell? ⟨W3.heap.size, 20, none⟩ = some (.int .i64 u.h) := (HK.out.2.2.2.2.2.2.1.cell 20).trans (said u).qh
            have FX4 := HK.out.2.2.2.2.2.2.1.free 20
            obtain ⟨W6, hW6⟩ : ∃ W6, W4.setCell ⟨W3.heap.size, 20, none⟩ (.int .i64 1) = W6 := ⟨_, rfl⟩
            have hbx6 : Blk W6 W3.heap.size 57 (saidF u).cs := by
              have h9 := HK.out.2.2.2.2.2.2.1.set 20 (.int .i64 1)
              rw [hW6, ro_hop] at h9
              rw [show saidF u = Ro.mk (said u).p (said u).s (said u).f 1 by unfold saidF; rw [if_pos HG.out]; rfl]
              exact h9
            have hbu6 : Blk W6 wo.heap.size 46 u.cs := by
              rw [← hW6]
              exact HK.out.2.2.2.2.2.1.far (by have := HK.out.2.2.2.2.2.2.2; show wo.heap.size ≠ W3.heap.size; omega) _
            have hb16 : Below W1.heap.size W1 W6 := by
              rw [← hW6]
              exact HK.out.2.2.2.1.setCell (by have := HK.out.2.2.2.2.2.2.2; have := HK.out.2.2.1.size; show W1.heap.size ≤ W3.heap.size; omega) _
            have HC := rfits_any (saidF u) W6
            have LX := ro_r hbx6 W6 (Below.refl _ _)
            have HX := Lib.hid (And.intro hbu6 hb16)
            have HOK := Lib.hid (show okUp u ↔ okRo (saidF u) from (okUp_gone HG.out).trans ⟨fun h => h.2, fun h => ⟨HF0.out, h⟩⟩)
            clear hbx6 hbu6 hb16
            by_cases he : okRo (saidF u)
            · rw [decide_eq_true he] at HC
              have HE := Lib.hid (HOK.out.2 he)
              clear he
              go_wp2_with (first | (with_reducible refine wpList_alloc_z rfl 46 rfl Up.zero.cs 22 z_up ?_) | (with_reducible refine wpList_alloc_z rfl 57 rfl Ro.zero.cs 21 z_ro ?_))
              refine HC.mono ?_
              rintro e W5 ⟨rfl, hb5⟩
              have H5 := Lib.hid (And.intro (bel_trans HX.out.2 hb5) (HX.out.1.later hb5))
              clear hb5 HC LX G4 F4 H4 U1 U2 U3 U4 hst hst4 BR LK CX4 FX4 hW6 d1 d2
              have hb15 : Below W1.heap.size W1 W5 := H5.out.1
              have CT5 := HCT.out W5 hb15
              clear hb15
              go_wp2_with fail
              clear CT5 CT2
              go_loopw [6] (fun i wr => ∃ j : Nat, j ≤ k ∧ i = .int .i64 (j : Int) ∧ (∀ i, i < j → ¬ spk u (said (upg L i))) ∧ Below W5.heap.size W5 wr) (fun i _ => k - (intOf i).toNat)
              case atStart => exact ⟨0, Nat.zero_le _, rfl, fun j hj => absurd hj (Nat.not_lt_zero _), Below.refl _ _⟩
              case round =>
                obtain ⟨j, hj, rfl, hno, hjb⟩ := hrel
                have hb1r : Below W1.heap.size W1 wr := bel_trans H5.out.1 hjb
                by_cases hjk : j < k
                · have hjl : j < L.length := by have := HK.out.2.2.2.2.1; omega
                  have hrow2 : Ups wr g o L := by
                    rcases HR.out wr hb1r with h9 | ⟨g2, o2, h9, h8⟩
                    · exact absurd h9 (by intro h7; rw [h7] at hjl; simp at hjl)
                    · cases h9; exact h8
                  have L1 : ∀ w', Below wr.heap.size wr w' → (loadSem 43 (.pointer (some ⟨g, o + j * 22, none⟩))).run Tryz.prog w' = .ok (.agg (upg L j).p.cs) w' := fun w' h => (hrow2.later h).loadp hjl
                  have L2 : ∀ w', Below wr.heap.size wr w' → w'.cell? ⟨g, o + j * 22 + 18, none⟩ = some (.int .i64 (upg L j).s) := fun w' h => (hrow2.later h).s hjl
                  have hbur := H5.out.2.later hjb
                  have L3 := up_p hbur
                  have L4 := up_s hbur
                  have CT6 : ∀ w', Below wr.heap.size wr w' → w'.cell? ⟨w.heap.size, 0, none⟩ = some (.slice (some ⟨g, o, none⟩) n c) := fun w' h => HCT.out w' (bel_trans hb1r h)
                  have h03 : Below wr.heap.size wr wr := Below.refl _ _
                  have EQ := eqP (upg L j).p u.p
                  have i1 : (j : Int) < (n : Int) := by omega
                  have HJ := Lib.hid (And.intro hno (And.intro hjb (And.intro hb1r hjl)))
                  clear hrow2 hno hjb hb1r hbur hjl
                  by_cases hep : (upg L j).p = u.p
                  · rw [decide_eq_true hep] at EQ
                    have HP := Lib.hid hep
                    clear hep
                    by_cases hes : (upg L j).s = u.s
                    · have d2 : ((upg L j).s == u.s) = true := by simp [hes]
                      have HV := Lib.hid (decide_eq_false (fun h : okBat L => h.2.2 k HK.out.2.2.2.2.1 j hjk (by rw [HU.out]; exact ⟨HP.out.symm, hes.symm⟩)))
                      clear hes
                      go_upto_region 17 with fail
                      refine wp_region_lin (fun w' => Below wr.heap.size wr w') (by kernel_rfl) (by kernel_rfl) (bel_drew h03) ?_
                      (repeat (first | (refine lin_off (by rfl) ?_; (try simp only [Act.put, List.setIfInBounds_toArray, List.set_cons_zero, List.set_cons_succ])) | (refine lin_op (v := ?_) (by rfl) (fun w9 hS9 => ?_) ?_; rotate_left; (focus (((try dsimp only at hS9); go_simp; (try go_bits)) <;> with_reducible rfl)); (try simp only [Act.put, List.setIfInBounds_toArray, List.set_cons_zero, List.set_cons_succ]))))
                      refine lin_nil (fun w7 hb7 => ?_)
                      go_wp2
                      go_ret
                      exact ⟨by rw [HV.out]; first | rfl | (simp; done), bel_trans HB.out.1 (bel_trans HJ.out.2.2.1 hb7)⟩
                    · have d2 : ((upg L j).s == u.s) = false := by simpa using hes
                      have HN := Lib.hid (show ¬ spk u (said (upg L j)) from fun h => hes h.2.symm)
                      clear hes
                      go_upto_region 17 with fail
                      refine wp_region_lin (fun w' => Below wr.heap.size wr w') (by kernel_rfl) (by kernel_rfl) (bel_drew h03) ?_
                      (repeat (first | (refine lin_off (by rfl) ?_; (try simp only [Act.put, List.setIfInBounds_toArray, List.set_cons_zero, List.set_cons_succ])) | (refine lin_op (v := ?_) (by rfl) (fun w9 hS9 => ?_) ?_; rotate_left; (focus (((try dsimp only at hS9); go_simp; (try go_bits)) <;> with_reducible rfl)); (try simp only [Act.put, List.setIfInBounds_toArray, List.set_cons_zero, List.set_cons_succ]))))
                      refine lin_nil (fun w7 hb7 => ?_)
                      go_wp2
                      go_roundw
                      case rel => exact ⟨j + 1, by omega, by go_num, fun i hi => by
                        by_cases e : i = j
                        · rw [e]; exact HN.out
                        · exact HJ.out.1 i (by omega), bel_trans HJ.out.2.1 hb7⟩
                      case measure => simp [intOf]; omega
                  · rw [decide_eq_false hep] at EQ
                    have HN := Lib.hid (show ¬ spk u (said (upg L j)) from fun h => hep h.1.symm)
                    clear hep
                    go_upto_region 17 with fail
                    refine wp_region_lin (fun w' => Below wr.heap.size wr w') (by kernel_rfl) (by kernel_rfl) (bel_drew h03) ?_
                    (repeat (first | (refine lin_off (by rfl) ?_; (try simp only [Act.put, List.setIfInBounds_toArray, List.set_cons_zero, List.set_cons_succ])) | (refine lin_op (v := ?_) (by rfl) (fun w9 hS9 => ?_) ?_; rotate_left; (focus (((try dsimp only at hS9); go_simp; (try go_bits)) <;> with_reducible rfl)); (try simp only [Act.put, List.setIfInBounds_toArray, List.set_cons_zero, List.set_cons_succ]))))
                    refine lin_nil (fun w7 hb7 => ?_)
                    go_wp2
                    go_roundw
                    case rel => exact ⟨j + 1, by omega, by go_num, fun i hi => by
                      by_cases e : i = j
                      · rw [e]; exact HN.out
                      · exact HJ.out.1 i (by omega), bel_trans HJ.out.2.1 hb7⟩
                    case measure => simp [intOf]; omega
                · have hjk2 : j = k := by omega
                  have i3 : ¬ ((j : Int) < (k : Int)) := by omega
                  have HJ := Lib.hid (And.intro hno (And.intro hb1r hjk2))
                  clear hno hjb hb1r hjk2
                  go_wp2
                  go_roundw
                  case rel => exact ⟨k + 1, by omega, by go_num, fun i hi => by
                    by_cases e : i = k
                    · rw [e, HU.out]; exact HE.out
                    · exact HK.out.1 i (by omega), fun i hi m hm => by
                    by_cases e : i = k
                    · subst e; rw [HU.out]; exact HJ.out.1 m (by rw [HJ.out.2.2]; exact hm)
                    · exact HK.out.2.1 i (by omega) m hm, HJ.out.2.1⟩
                  case measure => simp [intOf]; omega
            · rw [decide_eq_false he] at HC
              have HV := Lib.hid (decide_eq_false (fun h : okBat L => he (HOK.out.1 (by rw [← HU.out]; exact h.2.1 k HK.out.2.2.2.2.1))))
              clear he
              go_wp2_with (first | (with_reducible refine wpList_alloc_z rfl 46 rfl Up.zero.cs 22 z_up ?_) | (with_reducible refine wpList_alloc_z rfl 57 rfl Ro.zero.cs 21 z_ro ?_))
              refine HC.mono ?_
              rintro e W5 ⟨rfl, hb5⟩
              go_wp2
              go_ret
              exact ⟨by rw [HV.out]; rfl, bel_trans HB.out.1 (bel_trans HX.out.2 hb5)⟩
          · have d1 : (u.f != 0) = false := by simp [hf0]
            have d2 : (u.h != 0) = true := by simp [hh0]
            have HV := Lib.hid (decide_eq_false (fun h : okBat L => hh0 ((okUp_gone HG.out).1 (by rw [← HU.out]; exact h.2.1 k HK.out.2.2.2.2.1)).1.2))
            clear hf0 hh0
            go_wp2_with (first | (with_reducible refine wpList_alloc_z rfl 46 rfl Up.zero.cs 22 z_up ?_) | (with_reducible refine wpList_alloc_z rfl 57 rfl Ro.zero.cs 21 z_ro ?_))
            go_ret
            exact ⟨by rw [HV.out]; rfl, bel_trans HB.out.1 HK.out.2.2.2.1⟩
        · have d1 : (u.f != 0) = true := by simp [hf0]
          have HV := Lib.hid (decide_eq_false (fun h : okBat L => hf0 ((okUp_gone HG.out).1 (by rw [← HU.out]; exact h.2.1 k HK.out.2.2.2.2.1)).1.1))
          clear hf0
          go_wp2_with (first | (with_reducible refine wpList_alloc_z rfl 46 rfl Up.zero.cs 22 z_up ?_) | (with_reducible refine wpList_alloc_z rfl 57 rfl Ro.zero.cs 21 z_ro ?_))
          go_ret
          exact ⟨by rw [HV.out]; rfl, bel_trans HB.out.1 HK.out.2.2.2.1⟩
    · have i1 : ¬ ((k : Int) < (n : Int)) := by omega
      have HV := Lib.hid (decide_eq_true (show okBat L from ⟨by have := HB.out.2; omega, fun j hj => hok j (by have := HB.out.2; omega), fun j hj => hup j (by have := HB.out.2; omega)⟩))
      clear hok hup CT
      go_wp2
      go_ret
      exact ⟨by rw [HV.out]; rfl, bel_trans HB.out.1 hkb⟩
end Go.Proofs.YtclkfmblogkakaaGreatDoor
