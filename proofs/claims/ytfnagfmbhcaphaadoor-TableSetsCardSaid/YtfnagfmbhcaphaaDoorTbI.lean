/-
  The contracts of the law's eight and wakes. Nothing here is a statement of the document.
-/
import Derived.Test.YtfnagfmbhcaphaaDoorTbH
namespace Go.Proofs.YtfnagfmbhcaphaaDoor
open Go.RowKit Go.Shelf
set_option linter.unusedVariables false
set_option maxRecDepth 100000

def q16B : B16 := ⟨[10, 1, 0, 0, 0, 0, 0, 0, 0, 0, 0, 0, 0, 0, 0, 0], rfl, by unfold Bys; decide⟩
def tw2B : B16 := ⟨[10, 2, 0, 0, 0, 0, 0, 0, 0, 0, 0, 0, 0, 0, 0, 0], rfl, by unfold Bys; decide⟩
def q16 : Px := ⟨⟨4, q16B⟩, 16⟩
def tw2 : Ad := ⟨4, tw2B⟩
theorem q16_kept : keptB q16B 16 = q16B := B16.same rfl
theorem q16_clear : clear q16B 16 := (kept_iff _ _).1 q16_kept
theorem q16_okP : okP q16 := ⟨⟨by decide, clear_mono q16_clear (by decide)⟩, by decide, by decide, q16_clear⟩
theorem tw2_kept : keptB tw2B 16 = tw2B := B16.same rfl
theorem tw2_okA : okA tw2 := ⟨by decide, clear_mono ((kept_iff _ _).1 tw2_kept) (by decide)⟩
theorem q16_has : hasM q16 tenA := ⟨q16_okP, ten_okA, rfl, (B16.same rfl : keptB tenB 16 = q16B).symm⟩
theorem ten_has2 : hasM tenP tw2 := ⟨ten_okP, tw2_okA, rfl, (B16.same rfl : keptB tw2B 8 = ten8).symm⟩
theorem q16_not : ¬ hasM q16 tw2 := fun h => by
  have h1 : q16B = keptB tw2B 16 := h.2.2.2
  rw [tw2_kept] at h1
  have := congrArg B16.l h1
  revert this
  decide
noncomputable def T1 : List Rt := setM [] tenP 1
noncomputable def T2 : List Rt := setM T1 q16 2
theorem T1_E : setE [] tenP 1 = 0 := by
  unfold setE
  rw [if_neg (by simp [okT]), if_neg (by simp only [Classical.not_not]; exact ⟨ten_okP, by decide, by decide⟩), if_neg (fun h => by have := h.2; simp at this)]
theorem T1_len : T1.length ≤ 1 := by
  unfold T1 setM
  rw [if_pos T1_E, setL_len]
  split <;> simp
theorem T2_E : setE T1 q16 2 = 0 := by
  unfold setE
  rw [if_neg (by simp only [Classical.not_not]; exact setM_okT _ _ _), if_neg (by simp only [Classical.not_not]; exact ⟨q16_okP, by decide, by decide⟩), if_neg (fun h => by have := h.2; have := T1_len; omega)]
theorem T1_mem (x : Rt) : x ∈ T1 ↔ x = ⟨tenP, 1⟩ := by
  unfold T1 setM
  rw [if_pos T1_E, setL_mem List.Pairwise.nil]
  simp
theorem T2_mem (x : Rt) : x ∈ T2 ↔ x = ⟨q16, 2⟩ ∨ (x = ⟨tenP, 1⟩ ∧ x.p ≠ q16) := by
  unfold T2
  unfold setM
  rw [if_pos T2_E, setL_mem (show T1.Pairwise ltR from (setM_okT [] tenP 1).2.2), T1_mem]
theorem T2_okT : okT T2 := setM_okT _ _ _
theorem ten_ne : tenP ≠ q16 := fun h => by
  have h1 := congrArg Px.n h
  revert h1
  decide
theorem T2_a : lgE T2 tenA = 0 ∧ lgR T2 tenA = ⟨q16, 2⟩ ∧ lgB T2 tenA = true := by
  have e : lgE T2 tenA = 0 := by unfold lgE; rw [if_neg (by simpa using T2_okT), if_neg (by simpa using ten_okA)]
  have h : Long T2 tenA ⟨q16, 2⟩ := ⟨(T2_mem _).2 (.inl rfl), q16_has, fun y hy _ => by
    rcases (T2_mem y).1 hy with h | ⟨h, _⟩
    · rw [h]; exact Int.le_refl _
    · rw [h]; decide⟩
  obtain ⟨h1, h2⟩ := long_is T2_okT.2.2 h
  exact ⟨e, by unfold lgR; rw [if_pos e, h2], by unfold lgB; rw [if_pos e, h1]⟩
theorem T2_b : lgE T2 tw2 = 0 ∧ lgR T2 tw2 = ⟨tenP, 1⟩ ∧ lgB T2 tw2 = true := by
  have e : lgE T2 tw2 = 0 := by unfold lgE; rw [if_neg (by simpa using T2_okT), if_neg (by simpa using tw2_okA)]
  have h : Long T2 tw2 ⟨tenP, 1⟩ := ⟨(T2_mem _).2 (.inr ⟨rfl, ten_ne⟩), ten_has2, fun y hy hh => by
    rcases (T2_mem y).1 hy with h | ⟨h, _⟩
    · rw [h] at hh; exact absurd hh q16_not
    · rw [h]; exact Int.le_refl _⟩
  obtain ⟨h1, h2⟩ := long_is T2_okT.2.2 h
  exact ⟨e, by unfold lgR; rw [if_pos e, h2], by unfold lgB; rw [if_pos e, h1]⟩
theorem build_b1 (w : World) : (buildSem 25 #[(0, .int .u8 10)]).run Tryd.prog w = .ok (.agg ten8.cs) w := by kernel_rfl
theorem build_b2 (w : World) : (buildSem 25 #[(0, .int .u8 10), (1, .int .u8 1)]).run Tryd.prog w = .ok (.agg q16B.cs) w := by kernel_rfl
theorem build_b3 (w : World) : (buildSem 25 #[(0, .int .u8 10), (1, .int .u8 2)]).run Tryd.prog w = .ok (.agg tw2B.cs) w := by kernel_rfl
attribute [local go_sem ↓] load_b16_rule store_b16_rule load_ad_rule store_ad_rule load_px_rule store_px_rule eq_b16_rule eq_ad_rule eq_px_rule load_rt_rule store_rt_rule build_ad_rule build_px_rule build_b16_rule build_rt_rule load_tab_rule build_tab_rule store_tab_rule tbuild_rule tapp_rule tcopy_rule

set_option maxHeartbeats 1600000 in
theorem eight_any (w : World) : Calls Tryd.prog 33 #[] w fun e w' => e = .returned (.agg tenP.cs) ∧ Below w.heap.size w w' := by
  have B1 := build_b1
  have B2 := build_ad 4 ten8
  have B3 := build_px ⟨4, ten8⟩ 8
  have S := st_px (q := tenP) (Blk.new w 29 Px.zero.cs)
  rw [World.setRow_alloc_new] at S
  have hb := Blk.new w 29 tenP.cs
  have HX := Lib.hid (And.intro hb (show Below w.heap.size w (w.alloc (.cells tenP.cs 29)) from (Below.refl _ _).alloc (Nat.le_refl _) _))
  have e : (Px.mk ⟨4, ten8⟩ 8).cs = tenP.cs := rfl
  rw [e] at B3
  clear hb e
  go_enter Tryd.func33, Tryd.ntmps33
  go_wp2_with (with_reducible refine wpList_alloc_z rfl 29 rfl Px.zero.cs 18 z_px ?_)
  refine bodyPost_ret (results_cell_row rfl _ _ w.heap.size 29 _ (0, 0) _ rfl HX.out.1 Tryd.underlying29 rfl (s_px _)) rfl ?_
  exact ⟨rfl, HX.out.2⟩

set_option maxHeartbeats 4000000 in
theorem wakes9_any (w : World) (hW : Wid w) : Calls Tryd.prog 9 #[] w fun e w' => e = .returned (.bool true) ∧ Below w.heap.size w w' := by
  have BZ := build_tab0
  go_enter Tryd.func9, Tryd.ntmps9
  go_wp2_with fail
  refine (eight_any w).mono ?_
  rintro e w1 ⟨rfl, hb1⟩
  have hs1 := set_any none 0 0 [] tenP 1 w1 (hW.later hb1) rfl (Tbl.none _)
  rw [T1_E, show setM [] tenP 1 = T1 from rfl] at hs1
  go_wp2_with fail
  refine hs1.mono ?_
  rintro e w2 ⟨a2, c2, rfl, t2, _, hb2⟩
  obtain ⟨n2, hn2⟩ : ∃ n2, T1.length = n2 := ⟨_, rfl⟩
  rw [hn2]
  have hb02 := bel_trans hb1 hb2
  have ST2 := st_tab (a2 := a2) (n2 := n2) (c2 := c2) (Blk.new w2 24 #[.slice none 0 0])
  rw [World.setRow_alloc_new] at ST2
  obtain ⟨w3, hw3⟩ : ∃ w3, w2.alloc (.cells #[.slice a2 n2 c2] 24) = w3 := ⟨_, rfl⟩
  rw [hw3] at ST2
  have b3 : Blk w3 w2.heap.size 24 #[.slice a2 n2 c2] := by rw [← hw3]; exact Blk.new _ _ _
  have k23 : Below w2.heap.size w2 w3 := by rw [← hw3]; exact (Below.refl _ _).alloc (Nat.le_refl _) _
  have hb03 := bel_trans hb02 k23
  have L3 := tab_t b3 w3 (Below.refl _ _)
  have B2 := build_b2
  have B4 := build_ad 4 q16B
  have B5 := build_px ⟨4, q16B⟩ 16
  have hs2 := set_any a2 n2 c2 T1 q16 2 w3 (hW.later hb03) hn2 (t2.later k23)
  rw [T2_E, show setM T1 q16 2 = T2 from rfl] at hs2
  have e4 : (Px.mk ⟨4, q16B⟩ 16).cs = q16.cs := rfl
  rw [e4] at B5
  have H3 := Lib.hid (And.intro b3 (And.intro hb03 (And.intro hb02.size b3.lt)))
  clear hs1 hb1 hb2 b3 k23 hb03 e4 t2 hw3 hb02
  go_wp2_with (with_reducible refine wpList_alloc_z rfl 24 rfl #[.slice none 0 0] 1 z_tab ?_)
  refine hs2.mono ?_
  rintro e w4 ⟨a4, c4, rfl, t4, hf4, hb4⟩
  obtain ⟨n4, hn4⟩ : ∃ n4, T2.length = n4 := ⟨_, rfl⟩
  rw [hn4]
  have b4 := H3.out.1.later hb4
  have ST4 := st_tab (a2 := a4) (n2 := n4) (c2 := c4) b4
  obtain ⟨w5, hw5⟩ : ∃ w5, w4.setRow w2.heap.size #[.slice a4 n4 c4] = w5 := ⟨_, rfl⟩
  rw [hw5] at ST4
  have b5 : Blk w5 w2.heap.size 24 #[.slice a4 n4 c4] := by rw [← hw5]; exact b4.row _
  have t5 : Tbl w5 a4 c4 T2 := by rw [← hw5]; exact t4.kept ((Kept.refl [w2.heap.size] w4).setRow (.inl (by simp)) _) (fun x hx => by have := hf4 x hx; have := H3.out.2.2.2; simp; omega)
  have hb05 : Below w.heap.size w w5 := by rw [← hw5]; exact below_setRow (bel_trans H3.out.2.1 hb4) H3.out.2.2.1 _
  have L5 := tab_t b5 w5 (Below.refl _ _)
  have B6 := build_ten
  have B7 := build_ad 4 tenB
  have HL := longest_any a4 n4 c4 T2 tenA w5 (hW.later hb05) hn4 (by have := t5.le; have := t5.cap; unfold maxLen at this; omega) t5.at'
  rw [T2_a.1, T2_a.2.1, T2_a.2.2] at HL
  have e5 : (Ad.mk 4 tenB).cs = tenA.cs := rfl
  rw [e5] at B7
  have H5 := Lib.hid (And.intro b5 (And.intro t5 hb05))
  clear hs2 b4 hb4 hw5 b5 t5 hb05 e5 t4 hf4 B2 B4 B5 L3
  go_wp2_with fail
  refine HL.mono ?_
  rintro e w6 ⟨rfl, hb6⟩
  have S6 := st_rt (q := ⟨q16, 2⟩) (Blk.new w6 43 Rt.zero.cs)
  rw [World.setRow_alloc_new] at S6
  obtain ⟨w7, hw7⟩ : ∃ w7, w6.alloc (.cells (Rt.mk q16 2).cs 43) = w7 := ⟨_, rfl⟩
  rw [hw7] at S6
  have b7 : Blk w7 w6.heap.size 43 (Rt.mk q16 2).cs := by rw [← hw7]; exact Blk.new _ _ _
  have k67 : Below w6.heap.size w6 w7 := by rw [← hw7]; exact (Below.refl _ _).alloc (Nat.le_refl _) _
  have k57 := bel_trans hb6 k67
  have hb07 := bel_trans H5.out.2.2 k57
  have L7 := tab_t H5.out.1 w7 k57
  have B8 := build_b3
  have B9 := build_ad 4 tw2B
  have e9 : (Ad.mk 4 tw2B).cs = tw2.cs := rfl
  rw [e9] at B9
  have t7 := H5.out.2.1.later k57
  have HL7 := longest_any a4 n4 c4 T2 tw2 w7 (hW.later hb07) hn4 (by have := t7.le; have := t7.cap; unfold maxLen at this; omega) t7.at'
  rw [T2_b.1, T2_b.2.1, T2_b.2.2] at HL7
  have H7 := Lib.hid (And.intro b7 hb07)
  clear hb6 hw7 b7 k67 k57 hb07 e9 t7 HL B6 B7 L5
  go_wp2_with (with_reducible refine wpList_alloc_z rfl 43 rfl Rt.zero.cs 19 z_rt ?_)
  refine HL7.mono ?_
  rintro e w8 ⟨rfl, hb8⟩
  have S8 := st_rt (q := ⟨tenP, 1⟩) (Blk.new w8 43 Rt.zero.cs)
  rw [World.setRow_alloc_new] at S8
  obtain ⟨w9, hw9⟩ : ∃ w9, w8.alloc (.cells (Rt.mk tenP 1).cs 43) = w9 := ⟨_, rfl⟩
  rw [hw9] at S8
  have b9 : Blk w9 w8.heap.size 43 (Rt.mk tenP 1).cs := by rw [← hw9]; exact Blk.new _ _ _
  have k89 : Below w8.heap.size w8 w9 := by rw [← hw9]; exact (Below.refl _ _).alloc (Nat.le_refl _) _
  have k79 := bel_trans hb8 k89
  have H9 := Lib.hid (bel_trans H7.out.2 k79)
  have C1 := rt_h H7.out.1 w9 k79
  have C2 := rt_h b9 w9 (Below.refl _ _)
  clear hb8 hw9 b9 k89 k79 HL7 B8 B9 L7
  go_wp2_with (with_reducible refine wpList_alloc_z rfl 43 rfl Rt.zero.cs 19 z_rt ?_)
  go_ret
  exact ⟨rfl, H9.out⟩
end Go.Proofs.YtfnagfmbhcaphaaDoor
