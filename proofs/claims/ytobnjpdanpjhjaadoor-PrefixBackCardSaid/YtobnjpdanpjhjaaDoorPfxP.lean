/-
  The contracts of the law's ten and wakes. Nothing here is a statement of the document.
-/
import Derived.Test.YtobnjpdanpjhjaaDoorPfxM
namespace Go.Proofs.YtobnjpdanpjhjaaDoor
open Go.RowKit Go.Shelf
set_option linter.unusedVariables false

theorem build_b16_rule (ps : Array (Nat × Value)) : Instr.build 22 ps = buildSem 22 ps := rfl
def tenB : B16 := ⟨[10, 1, 2, 3, 0, 0, 0, 0, 0, 0, 0, 0, 0, 0, 0, 0], rfl, by unfold Bys; decide⟩
def ten8 : B16 := ⟨[10, 0, 0, 0, 0, 0, 0, 0, 0, 0, 0, 0, 0, 0, 0, 0], rfl, by unfold Bys; decide⟩
def tenA : Ad := ⟨4, tenB⟩
def tenP : Px := ⟨⟨4, ten8⟩, 8⟩
theorem build_ten (w : World) : (buildSem 22 #[(0, .int .u8 10), (1, .int .u8 1), (2, .int .u8 2), (3, .int .u8 3)]).run Tryd.prog w = .ok (.agg tenB.cs) w := by kernel_rfl
theorem ten_kept : keptB tenB 8 = ten8 := B16.same rfl
theorem ten8_kept : keptB ten8 8 = ten8 := B16.same rfl
theorem ten_clear : clear tenB 32 := by
  have : ∀ i, i < 128 → 32 ≤ i → bt tenB i = false := by decide +kernel
  exact fun i h1 h2 => this i h2 h1
theorem ten8_clear : clear ten8 8 := (kept_iff _ _).1 ten8_kept
theorem ten_okA : okA tenA := ⟨by decide, ten_clear⟩
theorem ten_okP : okP tenP := ⟨⟨by decide, clear_mono ten8_clear (by decide)⟩, by decide, by decide, ten8_clear⟩
theorem ten_ofP : ofP tenA 8 = tenP := by
  have : ofP tenA 8 = ⟨⟨4, keptB tenB 8⟩, 8⟩ := if_pos ⟨ten_okA, by decide, by decide⟩
  rw [this, ten_kept]
  rfl
theorem ten_ofE : ofE tenA 8 = 0 := by
  unfold ofE
  rw [if_pos ten_okA, if_pos (by decide)]
theorem ten_hasM : hasM tenP tenA := ⟨ten_okP, ten_okA, rfl, ten_kept.symm⟩
theorem ten_enc : encP tenP = [4, 8, 10] := rfl
theorem ten_decE : decPE [4, 8, 10] = 0 := by
  unfold decPE
  rw [if_neg (by decide), if_neg (by decide), if_neg (by decide), if_neg (by decide)]
  unfold bodyE
  have e : padF [4, 8, 10] 2 (by1 [4, 8, 10]) = ten8 := B16.same rfl
  rw [if_neg (by decide), e, show by1 [4, 8, 10] = 8 from rfl, if_pos ten8_kept]
theorem ten_decX : decPX [4, 8, 10] = tenP := by
  have h : decPX [4, 8, 10] = ⟨⟨(by0 [4, 8, 10] : Int), padF [4, 8, 10] 2 (by1 [4, 8, 10])⟩, (by1 [4, 8, 10] : Int)⟩ := if_pos ten_decE
  have e : padF [4, 8, 10] 2 (by1 [4, 8, 10]) = ten8 := B16.same rfl
  rw [h, e]
  rfl
theorem ten_decN : decPN [4, 8, 10] = 3 := by
  have h : decPN [4, 8, 10] = 2 + fill8 (by1 [4, 8, 10]) := if_pos ten_decE
  rw [h]
  rfl
theorem ten_nib : nibW tenA 1 = 10 := by
  unfold nibW
  rw [if_pos (by decide)]
  unfold nibV bitV
  rw [if_pos ⟨ten_okA, by decide, by decide⟩, if_pos ⟨ten_okA, by decide, by decide⟩, if_pos ⟨ten_okA, by decide, by decide⟩, if_pos ⟨ten_okA, by decide, by decide⟩]
  decide +kernel
/-- What owns a row of bytes lies. -/
theorem own_lies {w : World} {B : Nat} {v : Value} {l : List Nat} (h : w.ownsRow B 5 1 v l.length (l.map byc)) : ∃ a cap, v = .slice a l.length cap ∧ Lies w a l ∧ l.length ≤ cap ∧ cap ≤ 9223372036854775807 ∧ (a = none → l = []) := by
  rcases h.2 with ⟨rfl, h0⟩ | ⟨g, cap, cur, rfl, hb, hg, hc, hm, hs, ht⟩
  · have : l = [] := List.eq_nil_of_length_eq_zero h0
    subst this
    exact ⟨none, 0, rfl, .inl rfl, Nat.le_refl _, by omega, fun _ => rfl⟩
  · refine ⟨_, cap, rfl, ?_, hc, by unfold maxLen at hm; omega, fun e => by cases e⟩
    refine .inr ⟨g, 0, rfl, (Array.getElem?_eq_some_iff.1 hg).1, fun i hi => ?_⟩
    rw [Nat.zero_add]
    have h1 : cur.toList[i]? = (l.map byc)[i]? := by
      rw [← ht, List.getElem?_take, if_pos (by omega)]
    have h2 : w.cell? ⟨g, i, none⟩ = cur[i]? := cell_of_row w g i cur _ (0, 0) hg
    rw [h2, ← Array.getElem?_toList, h1]
    simp [byc, hi]
attribute [local go_sem ↓] load_b16_rule store_b16_rule load_ad_rule store_ad_rule load_px_rule store_px_rule eq_b16_rule eq_ad_rule eq_px_rule build_ad_rule build_px_rule build_b16_rule

set_option maxRecDepth 100000 in
set_option maxHeartbeats 1600000 in
theorem ten_any (w : World) : Calls Tryd.prog 9 #[] w fun e w' => e = .returned (.agg tenA.cs) ∧ Below w.heap.size w w' := by
  have B1 := build_ten
  have B2 := build_ad 4 tenB
  have S := st_ad (q := tenA) (Blk.new w 24 Ad.zero.cs)
  rw [World.setRow_alloc_new] at S
  have hb := Blk.new w 24 tenA.cs
  have HX := Lib.hid (And.intro hb (show Below w.heap.size w (w.alloc (.cells tenA.cs 24)) from (Below.refl _ _).alloc (Nat.le_refl _) _))
  have e : (Ad.mk 4 tenB).cs = tenA.cs := rfl
  rw [e] at B2
  clear hb e
  go_enter Tryd.func9, Tryd.ntmps9
  go_wp2_with (with_reducible refine wpList_alloc_z rfl 24 rfl Ad.zero.cs 17 z_ad ?_)
  refine bodyPost_ret (results_cell_row rfl _ _ w.heap.size 24 _ (0, 0) _ rfl HX.out.1 Tryd.underlying24 rfl (s_ad _)) rfl ?_
  exact ⟨rfl, HX.out.2⟩

set_option maxRecDepth 100000 in
set_option maxHeartbeats 1600000 in
theorem wakes_any (w : World) (hW : Wid w) : Calls Tryd.prog 4 #[] w fun e w' => e = .returned (.bool true) ∧ Below w.heap.size w w' := by
  go_enter Tryd.func4, Tryd.ntmps4
  go_wp2_with fail
  refine (ten_any w).mono ?_
  rintro e w1 ⟨rfl, hb1⟩
  have hof := of_any tenA 8 w1 (hW.later hb1)
  rw [ten_ofP, ten_ofE] at hof
  go_wp2_with fail
  refine hof.mono ?_
  rintro e w2 ⟨rfl, hb2⟩
  have hb02 := bel_trans hb1 hb2
  have S2 := st_px (q := tenP) (Blk.new w2 26 Px.zero.cs)
  rw [World.setRow_alloc_new] at S2
  obtain ⟨w3, hw3⟩ : ∃ w3, w2.alloc (.cells tenP.cs 26) = w3 := ⟨_, rfl⟩
  rw [hw3] at S2
  have b3 : Blk w3 w2.heap.size 26 tenP.cs := by rw [← hw3]; exact Blk.new _ _ _
  have hb03 : Below w.heap.size w w3 := by rw [← hw3]; exact hb02.alloc hb02.size _
  have L3 := px_p b3 w3 (Below.refl _ _)
  have hen := encode_any tenP w3 (hW.later hb03)
  rw [eP_ok ten_okP] at hen
  have H3 := Lib.hid (And.intro b3 hb03)
  clear hof hb1 hb2 hb02 hw3 b3 hb03
  go_wp2_with (with_reducible refine wpList_alloc_z rfl 26 rfl Px.zero.cs 18 z_px ?_)
  refine hen.mono ?_
  rintro e w4 ⟨v, rfl, hg, _, hb4⟩
  obtain ⟨a, cap, rfl, hL, hc, hcm, _⟩ := own_lies (hg ten_okP)
  have hb04 := bel_trans H3.out.2 hb4
  have hde := decode_any a cap (encP tenP) w4 (hW.later hb04) (by rw [ten_enc]; unfold Bys; decide) (by rw [ten_enc]; decide) hc hcm hL
  rw [ten_enc, ten_decX, ten_decN, ten_decE] at hde
  rw [ten_enc]
  clear hg hL hc hcm L3 hen S2
  go_wp2_with fail
  refine hde.mono ?_
  rintro e w5 ⟨rfl, hb5⟩
  have hb05 := bel_trans hb04 hb5
  have S5 := st_px (q := tenP) (Blk.new w5 26 Px.zero.cs)
  rw [World.setRow_alloc_new] at S5
  obtain ⟨w6, hw6⟩ : ∃ w6, w5.alloc (.cells tenP.cs 26) = w6 := ⟨_, rfl⟩
  rw [hw6] at S5
  have b6 : Blk w6 w5.heap.size 26 tenP.cs := by rw [← hw6]; exact Blk.new _ _ _
  have hb56 : Below w5.heap.size w5 w6 := by rw [← hw6]; exact (Below.refl _ _).alloc (Nat.le_refl _) _
  have b36 : Blk w6 w2.heap.size 26 tenP.cs := ((H3.out.1.later hb4).later hb5).later hb56
  have hb06 : Below w.heap.size w w6 := bel_trans hb05 hb56
  have hW6 := hW.later hb06
  have LP := px_p b6
  have LQ := px_p b36
  have LN := px_n b36
  have EQ := eqP tenP tenP
  rw [decide_eq_true rfl] at EQ
  have HH := fun w' (h : Below w6.heap.size w6 w') => has_any tenP tenA w' (hW6.later h)
  rw [decide_eq_true ten_hasM] at HH
  have HN := fun w' (h : Below w6.heap.size w6 w') => nib5_any tenA 1 w' (hW6.later h)
  rw [ten_nib] at HN
  have h06 : Below w6.heap.size w6 w6 := Below.refl _ _
  have HB := Lib.hid hb06
  have e8 : tenP.n = 8 := rfl
  rw [e8] at LN
  clear hde hb4 hb04 hb5 hb05 hw6 b6 hb56 b36 hb06 hW6 e8
  go_wp2_with (first  | (with_reducible refine wpList_alloc_z rfl 26 rfl Px.zero.cs 18 z_px ?_) | (refine wp_region_lin (fun w' => Below w6.heap.size w6 w') (by kernel_rfl) (by kernel_rfl) (bel_drew (by assumption)) ?_; (repeat (first | (refine lin_fn (f := 9) (by rfl) rfl rfl (enters_of Tryd.func9 (by kernel_rfl) rfl) (fun w9 hS9 => (ten_any w9).mono (fun e w' h => ⟨h.1, bel_trans hS9 h.2⟩)) ?_ ?_; (focus (simp [Act.eval]; done)); (try simp only [Act.put, List.setIfInBounds_toArray, List.set_cons_zero, List.set_cons_succ])) | (refine lin_fn (f := 10) (by rfl) rfl rfl (enters_of Tryd.func10 (by kernel_rfl) rfl) (fun w9 hS9 => (HH w9 hS9).mono (fun e w' h => ⟨h.1, bel_trans hS9 h.2⟩)) ?_ ?_; (focus (simp [Act.eval]; done)); (try simp only [Act.put, List.setIfInBounds_toArray, List.set_cons_zero, List.set_cons_succ])) | (refine lin_fn (f := 11) (by rfl) rfl rfl (enters_of Tryd.func11 (by kernel_rfl) rfl) (fun w9 hS9 => (HN w9 hS9).mono (fun e w' h => ⟨h.1, bel_trans hS9 h.2⟩)) ?_ ?_; (focus (simp [Act.eval]; done)); (try simp only [Act.put, List.setIfInBounds_toArray, List.set_cons_zero, List.set_cons_succ])) | (refine lin_off (by rfl) ?_; (try simp only [Act.put, List.setIfInBounds_toArray, List.set_cons_zero, List.set_cons_succ])) | (refine lin_op (v := ?_) (by rfl) (fun w9 hS9 => ?_) ?_; rotate_left; (focus (((try dsimp only at hS9); go_simp; (try go_bits)) <;> with_reducible rfl)); (try simp only [Act.put, List.setIfInBounds_toArray, List.set_cons_zero, List.set_cons_succ])) )); refine lin_nil (fun w8 hS8 => ?_)))
  all_goals go_ret
  all_goals exact ⟨rfl, bel_trans HB.out (by assumption)⟩
end Go.Proofs.YtobnjpdanpjhjaaDoor
