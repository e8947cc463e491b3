/-
  The walk of RouteTells. Nothing here is a statement of the document.
-/
import Derived.Test.YtclkfmblogkakaaDoorRvC
import Derived.Test.YtclkfmblogkakaaDoorRvG
import Derived.Test.YtclkfmblogkakaaDoorRtU
import Derived.Test.YtclkfmblogkakaaDoorTbS
import Derived.Test.YtclkfmblogkakaaDoorLinF
namespace Go.Proofs.YtclkfmblogkakaaDoor
open Go.RowKit Go.Shelf
set_option linter.unusedVariables false
set_option maxRecDepth 100000
/-- A table in a new box. -/
theorem tab_box (w : World) (a : Option Addr) (n c : Nat) : ∃ W, (storeSem 41 (.pointer (some ⟨w.heap.size, 0, none⟩)) (.agg #[.slice a n c])).run Tryd.prog (w.alloc (.cells #[.slice none 0 0] 41)) = .ok () W ∧ Blk W w.heap.size 41 #[.slice a n c] ∧ Below w.heap.size w W :=
  ⟨_, st_tab (Blk.new w _ _), Blk.row (Blk.new w _ _) _, below_setRow ((Below.refl _ _).alloc (Nat.le_refl _) _) (Nat.le_refl _) _⟩
/-- Three boxes, one behind the other. -/
theorem blk_new3 (w : World) (o o2 : Obj) (t : TypeId) (cs : Array Value) : Blk (((w.alloc o).alloc o2).alloc (.cells cs t)) (w.heap.size + 2) t cs := by
  have h := Blk.new ((w.alloc o).alloc o2) t cs
  rwa [World.size_alloc, World.size_alloc] at h
attribute [local go_sem ↓] load_rib_rule store_rib_rule load_bat_rule store_bat_rule load_tab_rule store_tab_rule
set_option maxHeartbeats 4000000 in
theorem rtells_walk (a : Option Addr) (n c : Nat) (L : List Ro) (a1 : Option Addr) (n1 c1 : Nat) (M : List Ro) (a2 : Option Addr) (n2 c2 : Nat) (U : List Up) (w : World) (hW : Wid w) (hn : L.length = n) (hR : RoAt w a L) (hc : n ≤ c ∧ c ≤ maxLen ∧ (a = none → c = 0))
    (hn1 : M.length = n1) (hR1 : RoAt w a1 M) (hc1 : n1 ≤ c1 ∧ c1 ≤ maxLen ∧ (a1 = none → c1 = 0))
    (hn2 : U.length = n2) (hR2 : UpAt w a2 U) (hc2 : n2 ≤ c2 ∧ c2 ≤ maxLen ∧ (a2 = none → c2 = 0)) :
    Calls Tryd.prog 4 #[.agg #[.slice a n c], .agg #[.slice a1 n1 c1], .agg #[.slice a2 n2 c2]] w fun e w' => e = .returned (.bool true) ∧ Below w.heap.size w w' := by
  obtain ⟨W1, hW1⟩ : ∃ W1, ((w.alloc (.cells #[.slice a n c] 24)).alloc (.cells #[.slice a1 n1 c1] 24)).alloc (.cells #[.slice a2 n2 c2] 27) = W1 := ⟨_, rfl⟩
  have hb1 : Below w.heap.size w W1 := by rw [← hW1]; exact (((Below.refl _ _).alloc (Nat.le_refl _) _).alloc (by simp) _).alloc (by simp; omega) _
  have b1 : Blk W1 w.heap.size 24 #[.slice a n c] := by rw [← hW1]; exact ((Blk.new _ _ _).alloc _).alloc _
  have b2 : Blk W1 (w.heap.size + 1) 24 #[.slice a1 n1 c1] := by rw [← hW1]; exact (blk_new2 _ _ _ _).alloc _
  have b3 : Blk W1 (w.heap.size + 2) 27 #[.slice a2 n2 c2] := by rw [← hW1]; exact blk_new3 _ _ _ _ _
  have b3' : Blk W1 (w.heap.size + 1 + 1) 27 #[.slice a2 n2 c2] := b3
  have LR := Lib.hid (rib_t b1)
  have LS := Lib.hid (rib_t b2)
  have LB := Lib.hid (bat_t b3')
  have HWK := wakes11_any W1 (hW.later hb1)
  have HB := Lib.hid (And.intro hb1 (And.intro hn (And.intro hn1 hn2)))
  have HR := Lib.hid (fun (w' : World) (h : Below W1.heap.size W1 w') => And.intro ((hW.later hb1).later h) (And.intro ((hR.later hb1).later h) (And.intro ((hR2.later hb1).later h) ((hR1.later hb1).later h))))
  have HC := Lib.hid (And.intro hc (And.intro hc2 hc1))
  clear hR hR1 hR2 b1 b2 b3 b3' hb1 hc hc1 hc2 hn hn1 hn2 hW
  go_enter Tryd.func4, Tryd.ntmps4
  go_wp2_with fail
  refine HWK.mono ?_
  rintro e w2 ⟨rfl, hb2⟩
  have LR2 := LR.out w2 hb2
  have LB2 := LB.out w2 hb2
  have HOV := over11_any a n c a2 n2 c2 w2 _ rfl
  clear HWK
  by_cases hov : 300 < n ∨ 100 < n2
  · rw [decide_eq_true hov] at HOV
    clear hov
    go_wp2_with fail
    refine HOV.mono ?_
    rintro e w3 ⟨rfl, hb3⟩
    go_wp2_with fail
    go_ret
    exact ⟨rfl, bel_trans HB.out.1 (bel_trans hb2 hb3)⟩
  rw [decide_eq_false hov] at HOV
  have hl1 : n ≤ 300 := by omega
  have hl2 : n2 ≤ 100 := by omega
  clear hov
  go_wp2_with fail
  refine HOV.mono ?_
  rintro e w3 ⟨rfl, hb3⟩
  have hb13 := bel_trans hb2 hb3
  have LS3 := LS.out w3 hb13
  have LB3 := LB.out w3 hb13
  have HOV2 := over11_any a1 n1 c1 a2 n2 c2 w3 _ rfl
  clear HOV LR2 LB2 hb2 hb3
  by_cases hov : 300 < n1 ∨ 100 < n2
  · rw [decide_eq_true hov] at HOV2
    clear hov
    go_wp2_with fail
    refine HOV2.mono ?_
    rintro e w4 ⟨rfl, hb4⟩
    go_wp2_with fail
    go_ret
    exact ⟨rfl, bel_trans HB.out.1 (bel_trans hb13 hb4)⟩
  rw [decide_eq_false hov] at HOV2
  have hl3 : n1 ≤ 300 := by omega
  clear hov
  go_wp2_with fail
  refine HOV2.mono ?_
  rintro e w4 ⟨rfl, hb4⟩
  have hb14 := bel_trans hb13 hb4
  have LR4 := LR.out w4 hb14
  have LB4 := LB.out w4 hb14
  have HOW := own11_any a n c L a2 n2 c2 U w4 HB.out.2.1 (by omega) (HR.out w4 hb14).2.1 HC.out.1.2.2 HB.out.2.2.2 (by omega) (HR.out w4 hb14).2.2.1 HC.out.2.1.2.2
  clear HOV2 LS3 LB3 hb13 hb4
  go_wp2_with fail
  refine HOW.mono ?_
  rintro e w5 ⟨a4, c4, b4, d4, rfl, hO4, hU4, hb5⟩
  have hb15 := bel_trans hb14 hb5
  obtain ⟨W5, W6, SX, SY, bx, bY, hb6⟩ := rib_bat_box w5 a4 n c4 b4 n2 d4
  have hb16 := bel_trans hb15 hb6
  have hO6 := hO4.later hb6
  have hU6 := hU4.later hb6
  have LX := rib_t bx
  have LY := bat_t bY
  have LRx := fun w' (h : Below W6.heap.size W6 w') => LR.out w' (bel_trans hb16 h)
  have LSx := fun w' (h : Below W6.heap.size W6 w') => LS.out w' (bel_trans hb16 h)
  have LBx := fun w' (h : Below W6.heap.size W6 w') => LB.out w' (bel_trans hb16 h)
  have h06 : Below W6.heap.size W6 W6 := Below.refl _ _
  have HX := Lib.hid (And.intro hb16 (And.intro bx (And.intro bY (And.intro hO6 hU6))))
  have HSA := fun w' (h : Below W6.heap.size W6 w') => rosame_any a a1 n c n1 c1 L M w' HB.out.2.1 (by omega) (HR.out w' (bel_trans hb16 h)).2.1 HB.out.2.2.1 (by omega) (HR.out w' (bel_trans hb16 h)).2.2.2
  have HSB := fun w' (h : Below W6.heap.size W6 w') => rorsame_any a a1 n c n1 c1 L M w' HB.out.2.1 (by omega) (HR.out w' (bel_trans hb16 h)).2.1 HB.out.2.2.1 (by omega) (HR.out w' (bel_trans hb16 h)).2.2.2
  have HSC := fun w' (h : Below W6.heap.size W6 w') => upsame_any b4 a2 n2 d4 n2 c2 U U w' HB.out.2.2.2 (by omega) (hU6.lies2.2.2.2.1.later h) HB.out.2.2.2 (by omega) (HR.out w' (bel_trans hb16 h)).2.2.1
  simp only [decide_true] at HSC
  generalize decide (L = M) = lm at HSA HSB
  have dlm : (lm != lm) = false := by cases lm <;> rfl
  clear HOW LR4 LB4 hb14 hb15 hb5 hb6 hb16 hO6 hU6 bx bY hO4 hU4
  go_upto_region 6 with (first | (with_reducible refine wpList_alloc_z rfl 24 rfl #[.slice none 0 0] 1 z_rib ?_) | (with_reducible refine wpList_alloc_z rfl 27 rfl #[.slice none 0 0] 1 z_bat ?_) | (with_reducible refine wpList_alloc_z rfl 41 rfl #[.slice none 0 0] 1 z_tab ?_))
  refine wp_region_lin (fun w' => Below W6.heap.size W6 w') (by kernel_rfl) (by kernel_rfl) (bel_drew h06) ?_
  (repeat (first | (refine lin_off (by rfl) ?_; (try simp only [Act.put, List.setIfInBounds_toArray, List.set_cons_zero, List.set_cons_succ])) | (refine lin_op (v := ?_) (by rfl) (fun w9 hS9 => ?_) ?_; rotate_left; (focus (((try dsimp only at hS9); go_simp; (try go_bits)) <;> with_reducible rfl)); (try simp only [Act.put, List.setIfInBounds_toArray, List.set_cons_zero, List.set_cons_succ])) | (refine lin_fn (f := 15) (args := #[.agg #[.slice a n c], .agg #[.slice a1 n1 c1]]) (by rfl) rfl rfl (enters_of Tryd.func15 (by kernel_rfl) rfl) (fun w9 hS9 => (HSA w9 hS9).mono fun e w' h => ⟨h.1, bel_trans hS9 h.2⟩) ?_ ?_; (focus (simp [Act.eval]; done)); (try simp only [Act.put, List.setIfInBounds_toArray, List.set_cons_zero, List.set_cons_succ])) | (refine lin_fn (f := 13) (args := #[.agg #[.slice a n c], .agg #[.slice a1 n1 c1]]) (by rfl) rfl rfl (enters_of Tryd.func13 (by kernel_rfl) rfl) (fun w9 hS9 => (HSB w9 hS9).mono fun e w' h => ⟨h.1, bel_trans hS9 h.2⟩) ?_ ?_; (focus (simp [Act.eval]; done)); (try simp only [Act.put, List.setIfInBounds_toArray, List.set_cons_zero, List.set_cons_succ])) | (refine lin_fn (f := 16) (args := #[.agg #[.slice b4 n2 d4], .agg #[.slice a2 n2 c2]]) (by rfl) rfl rfl (enters_of Tryd.func16 (by kernel_rfl) rfl) (fun w9 hS9 => (HSC w9 hS9).mono fun e w' h => ⟨h.1, bel_trans hS9 h.2⟩) ?_ ?_; (focus (simp [Act.eval]; done)); (try simp only [Act.put, List.setIfInBounds_toArray, List.set_cons_zero, List.set_cons_succ]))))
  refine lin_nil (fun w7 hb7 => ?_)
  clear HSA HSB HSC LRx LSx
  have LB7 := LBx w7 hb7
  have HRB := rrbat_any a2 n2 c2 U w7 HB.out.2.2.2 (by omega) (HR.out w7 (bel_trans HX.out.1 hb7)).2.2.1
  have HCB := fun w' (h : Below W6.heap.size W6 w') => bcheck_any b4 n2 d4 U w' (HR.out w' (bel_trans HX.out.1 h)).1 HB.out.2.2.2 (by omega) HX.out.2.2.2.2.lies2.2.1 (HX.out.2.2.2.2.lies2.2.2.2.1.later h)
  clear LBx
  by_cases h2 : okBat U
  · rw [decide_eq_true h2] at HRB
    have e2 : batE U = 0 := if_pos h2
    simp only [e2] at HCB
    clear e2 h2
    go_wp2_with fail
    refine HRB.mono ?_
    rintro e w8 ⟨rfl, hb8⟩
    have hb68 := bel_trans hb7 hb8
    have LY8 := LY w8 hb68
    have HCB1 := HCB w8 hb68
    clear HRB LB7 hb7 hb8
    go_wp2_with fail
    refine HCB1.mono ?_
    rintro e w9 ⟨rfl, hb9⟩
    have hb69 := bel_trans hb68 hb9
    clear HCB1 LY8
    have LXb := LX w9 hb69
    have HBE := rbest_any a4 n c4 L w9 (HR.out w9 (bel_trans HX.out.1 hb69)).1 HB.out.2.1 (by omega) (HX.out.2.2.2.1.lies2.2.2.2.1.later hb69) HX.out.2.2.2.1.lies2.2.2.2.2
    clear HCB
    go_wp2_with fail
    refine HBE.mono ?_
    rintro e w11 ⟨a11, c11, T, er, rfl, hO11, hB11, hb11⟩
    obtain ⟨W12, ST, bt, hb12⟩ := tab_box w11 a11 T.length c11
    have hb612 := bel_trans hb69 (bel_trans hb11 hb12)
    have LR12 := LR.out W12 (bel_trans HX.out.1 hb612)
    have HRR := rright11_any a n c L W12 HB.out.2.1 (by omega) (HR.out W12 (bel_trans HX.out.1 hb612)).2.1
    have HY := Lib.hid (And.intro hb612 (And.intro bt (hO11.later hb12)))
    clear HBE LXb hb612 bt hO11 hb12 hb11
    by_cases h1 : okRib L
    · rw [decide_eq_true h1] at HRR
      cases hB11 with
      | rib k => exact absurd h1 k
      | @good S k hS =>
      have HBI := Lib.hid (BI.best (Up2.uniq h1.2.1) hS)
      have HK1 := Lib.hid h1
      generalize List.map roRow (fstL S) = T at *
      go_wp2_with (first | (with_reducible refine wpList_alloc_z rfl 24 rfl #[.slice none 0 0] 1 z_rib ?_) | (with_reducible refine wpList_alloc_z rfl 27 rfl #[.slice none 0 0] 1 z_bat ?_) | (with_reducible refine wpList_alloc_z rfl 41 rfl #[.slice none 0 0] 1 z_tab ?_))
      refine HRR.mono ?_
      rintro e w13 ⟨rfl, hb13⟩
      have hb613 := bel_trans HY.out.1 hb13
      have h013 : Below w13.heap.size w13 w13 := Below.refl _ _
      have LXc := fun w' (h : Below w13.heap.size w13 w') => LX w' (bel_trans hb613 h)
      have LRc := fun w' (h : Below w13.heap.size w13 w') => LR.out w' (bel_trans HX.out.1 (bel_trans hb613 h))
      have LTc := tab_t (HY.out.2.1.later hb13)
      have HOT := Lib.hid (HY.out.2.2.later hb13)
      have hok0 : ribE L = 0 := if_pos HK1.out
      have HCR := fun w' (h : Below w13.heap.size w13 w') => rcheck_any a4 n c4 L w' (HR.out w' (bel_trans HX.out.1 (bel_trans hb613 h))).1 HB.out.2.1 (by omega) (HX.out.2.2.2.1.lies2.2.2.2.1.later (bel_trans hb613 h)) HX.out.2.2.2.1.lies2.2.2.2.2
      simp only [hok0] at HCR
      have HRBE := fun w' (h : Below w13.heap.size w13 w') => rrbest_any a n c L w' (HR.out w' (bel_trans HX.out.1 (bel_trans hb613 h))).1 HB.out.2.1 (by omega) (HR.out w' (bel_trans HX.out.1 (bel_trans hb613 h))).2.1 HK1.out
      have HZ := Lib.hid hb613
      clear HRR LR12 hb13 hb613 hok0 h1 k hS LX LY ST SX SY
      go_upto_region 14 with fail
      refine wp_region_linY (fun w' => Below w13.heap.size w13 w') [1, 10, 11] [0, 1, 2, 3, 4, 5, 6, 7, 8, 9, 10, 11, 12, 13] (by kernel_rfl) (by kernel_rfl) (bel_drew h013) ?_
      (repeat (first | (refine linX_off rfl rfl (by rfl) ?_; (try simp only [Act.put, List.getElem_toArray, List.getElem_cons_zero, List.getElem_cons_succ, List.setIfInBounds_toArray, List.set_cons_zero, List.set_cons_succ])) | (refine linX_op (v := ?_) rfl rfl (by rfl) (fun w9 hS9 => ?_) ?_; rotate_left; (focus (((try dsimp only at hS9); go_simp; (try go_bits)) <;> with_reducible rfl)); (try simp only [Act.put, List.getElem_toArray, List.getElem_cons_zero, List.getElem_cons_succ, List.setIfInBounds_toArray, List.set_cons_zero, List.set_cons_succ]))))
      refine linX_call (f := 21) (args := #[.agg #[.slice a4 n c4]]) rfl rfl (by rfl) rfl rfl (enters_of Tryd.func21 (by kernel_rfl) rfl) (by simp [Act.eval]) ?_
      refine (HCR _ (bel_drew h013)).mono ?_
      rintro e w14 ⟨rfl, hb14⟩
      have hb134 : Below w13.heap.size w13 w14 := bel_trans (bel_drew h013) hb14
      refine ⟨_, rfl, hb134, ?_⟩
      (try simp only [Act.put, List.getElem_toArray, List.getElem_cons_zero, List.getElem_cons_succ, List.setIfInBounds_toArray, List.set_cons_zero, List.set_cons_succ])
      (repeat (first | (refine linX_off rfl rfl (by rfl) ?_; (try simp only [Act.put, List.getElem_toArray, List.getElem_cons_zero, List.getElem_cons_succ, List.setIfInBounds_toArray, List.set_cons_zero, List.set_cons_succ])) | (refine linX_op (v := ?_) rfl rfl (by rfl) (fun w9 hS9 => ?_) ?_; rotate_left; (focus (((try dsimp only at hS9); go_simp; (try go_bits)) <;> with_reducible rfl)); (try simp only [Act.put, List.getElem_toArray, List.getElem_cons_zero, List.getElem_cons_succ, List.setIfInBounds_toArray, List.set_cons_zero, List.set_cons_succ]))))
      refine linX_call (f := 23) (args := #[.agg #[.slice a n c]]) rfl rfl (by rfl) rfl rfl (enters_of Tryd.func23 (by kernel_rfl) rfl) (by simp [Act.eval]) ?_
      refine (HRBE _ hb134).mono ?_
      rintro e w15 ⟨a15, c15, T2, rfl, hT15, hB15, hb15⟩
      have hb135 : Below w13.heap.size w13 w15 := bel_trans hb134 hb15
      obtain rfl := BI.eq hB15 HBI.out
      refine ⟨_, rfl, hb135, ?_⟩
      (try simp only [Act.put, List.getElem_toArray, List.getElem_cons_zero, List.getElem_cons_succ, List.setIfInBounds_toArray, List.set_cons_zero, List.set_cons_succ])
      refine linX_call (f := 22) (args := #[.agg #[.slice a11 T2.length c11], .agg #[.slice a15 T2.length c15]]) rfl rfl (by rfl) rfl rfl (enters_of Tryd.func22 (by kernel_rfl) rfl) (by simp [Act.eval]) ?_
      have hml : T2.length ≤ 9223372036854775807 := by have := hT15.le; have := hT15.cap; unfold maxLen at this; omega
      have HSM := rsame_any a11 a15 T2.length c11 T2.length c15 T2 T2 w15 rfl hml (HOT.out.tbl2.1.at'.later hb135) rfl hml hT15.at'
      simp only [decide_true] at HSM
      refine HSM.mono ?_
      rintro e w16 ⟨rfl, hb16⟩
      refine ⟨_, rfl, bel_trans hb135 hb16, ?_⟩
      (try simp only [Act.put, List.getElem_toArray, List.getElem_cons_zero, List.getElem_cons_succ, List.setIfInBounds_toArray, List.set_cons_zero, List.set_cons_succ])
      (repeat (first | (refine linX_off rfl rfl (by rfl) ?_; (try simp only [Act.put, List.getElem_toArray, List.getElem_cons_zero, List.getElem_cons_succ, List.setIfInBounds_toArray, List.set_cons_zero, List.set_cons_succ])) | (refine linX_op (v := ?_) rfl rfl (by rfl) (fun w9 hS9 => ?_) ?_; rotate_left; (focus (((try dsimp only at hS9); go_simp; (try go_bits)) <;> with_reducible rfl)); (try simp only [Act.put, List.getElem_toArray, List.getElem_cons_zero, List.getElem_cons_succ, List.setIfInBounds_toArray, List.set_cons_zero, List.set_cons_succ]))))
      refine linX_nil ?_
      go_wp2_with fail
      go_ret
      exact ⟨rfl, bel_trans HB.out.1 (bel_trans HX.out.1 (bel_trans HZ.out (bel_trans hb135 hb16)))⟩
    · rw [decide_eq_false h1] at HRR
      cases hB11 with
      | good k => exact absurd k h1
      | rib k =>
      simp only [List.length_nil] at ST
      go_wp2_with (first | (with_reducible refine wpList_alloc_z rfl 24 rfl #[.slice none 0 0] 1 z_rib ?_) | (with_reducible refine wpList_alloc_z rfl 27 rfl #[.slice none 0 0] 1 z_bat ?_) | (with_reducible refine wpList_alloc_z rfl 41 rfl #[.slice none 0 0] 1 z_tab ?_))
      refine HRR.mono ?_
      rintro e w13 ⟨rfl, hb13⟩
      have hb613 := bel_trans HY.out.1 hb13
      have LX13 := LX w13 hb613
      have LTc := tab_c (HY.out.2.1.later hb13)
      simp only [List.length_nil] at LTc
      have HCR := rcheck_any a4 n c4 L w13 (HR.out w13 (bel_trans HX.out.1 hb613)).1 HB.out.2.1 (by omega) (HX.out.2.2.2.1.lies2.2.2.2.1.later hb613) HX.out.2.2.2.1.lies2.2.2.2.2
      have e1 : ribE L = 211 := if_neg h1
      rw [e1] at HCR
      have HZ := Lib.hid hb613
      clear e1 HRR LR12 hb13 hb613 k h1
      go_wp2_with fail
      refine HCR.mono ?_
      rintro e w14 ⟨rfl, hb14⟩
      have LT14 := LTc w14 hb14
      clear LTc
      go_wp2_with fail
      go_ret
      exact ⟨rfl, bel_trans HB.out.1 (bel_trans HX.out.1 (bel_trans HZ.out hb14))⟩
  · rw [decide_eq_false h2] at HRB
    have e2 : batE U = 210 := if_neg h2
    simp only [e2] at HCB
    clear e2 h2
    go_wp2_with fail
    refine HRB.mono ?_
    rintro e w8 ⟨rfl, hb8⟩
    have hb68 := bel_trans hb7 hb8
    have LY8 := LY w8 hb68
    have HCB1 := HCB w8 hb68
    clear HRB LB7 hb7 hb8
    go_wp2_with fail
    refine HCB1.mono ?_
    rintro e w9 ⟨rfl, hb9⟩
    have hb69 := bel_trans hb68 hb9
    clear HCB1 LY8
    have LY9 := LY w9 hb69
    have HCB2 := HCB w9 hb69
    go_wp2_with fail
    refine HCB2.mono ?_
    rintro e w10 ⟨rfl, hb10⟩
    have hb610 := bel_trans hb69 hb10
    clear HCB2 LY9
    have LXb := LX w10 hb610
    have HBE := rbest_any a4 n c4 L w10 (HR.out w10 (bel_trans HX.out.1 hb610)).1 HB.out.2.1 (by omega) (HX.out.2.2.2.1.lies2.2.2.2.1.later hb610) HX.out.2.2.2.1.lies2.2.2.2.2
    clear HCB
    go_wp2_with fail
    refine HBE.mono ?_
    rintro e w11 ⟨a11, c11, T, er, rfl, hO11, hB11, hb11⟩
    obtain ⟨W12, ST, bt, hb12⟩ := tab_box w11 a11 T.length c11
    have hb612 := bel_trans hb610 (bel_trans hb11 hb12)
    have LR12 := LR.out W12 (bel_trans HX.out.1 hb612)
    have HRR := rright11_any a n c L W12 HB.out.2.1 (by omega) (HR.out W12 (bel_trans HX.out.1 hb612)).2.1
    have HY := Lib.hid (And.intro hb612 (And.intro bt (hO11.later hb12)))
    clear HBE LXb hb612 bt hO11 hb12 hb11
    by_cases h1 : okRib L
    · rw [decide_eq_true h1] at HRR
      cases hB11 with
      | rib k => exact absurd h1 k
      | @good S k hS =>
      have HBI := Lib.hid (BI.best (Up2.uniq h1.2.1) hS)
      have HK1 := Lib.hid h1
      generalize List.map roRow (fstL S) = T at *
      go_wp2_with (first | (with_reducible refine wpList_alloc_z rfl 24 rfl #[.slice none 0 0] 1 z_rib ?_) | (with_reducible refine wpList_alloc_z rfl 27 rfl #[.slice none 0 0] 1 z_bat ?_) | (with_reducible refine wpList_alloc_z rfl 41 rfl #[.slice none 0 0] 1 z_tab ?_))
      refine HRR.mono ?_
      rintro e w13 ⟨rfl, hb13⟩
      have hb613 := bel_trans HY.out.1 hb13
      have h013 : Below w13.heap.size w13 w13 := Below.refl _ _
      have LXc := fun w' (h : Below w13.heap.size w13 w') => LX w' (bel_trans hb613 h)
      have LRc := fun w' (h : Below w13.heap.size w13 w') => LR.out w' (bel_trans HX.out.1 (bel_trans hb613 h))
      have LTc := tab_t (HY.out.2.1.later hb13)
      have HOT := Lib.hid (HY.out.2.2.later hb13)
      have hok0 : ribE L = 0 := if_pos HK1.out
      have HCR := fun w' (h : Below w13.heap.size w13 w') => rcheck_any a4 n c4 L w' (HR.out w' (bel_trans HX.out.1 (bel_trans hb613 h))).1 HB.out.2.1 (by omega) (HX.out.2.2.2.1.lies2.2.2.2.1.later (bel_trans hb613 h)) HX.out.2.2.2.1.lies2.2.2.2.2
      simp only [hok0] at HCR
      have HRBE := fun w' (h : Below w13.heap.size w13 w') => rrbest_any a n c L w' (HR.out w' (bel_trans HX.out.1 (bel_trans hb613 h))).1 HB.out.2.1 (by omega) (HR.out w' (bel_trans HX.out.1 (bel_trans hb613 h))).2.1 HK1.out
      have HZ := Lib.hid hb613
      clear HRR LR12 hb13 hb613 hok0 h1 k hS LX LY ST SX SY
      go_upto_region 14 with fail
      refine wp_region_linY (fun w' => Below w13.heap.size w13 w') [1, 10, 11] [0, 1, 2, 3, 4, 5, 6, 7, 8, 9, 10, 11, 12, 13] (by kernel_rfl) (by kernel_rfl) (bel_drew h013) ?_
      (repeat (first | (refine linX_off rfl rfl (by rfl) ?_; (try simp only [Act.put, List.getElem_toArray, List.getElem_cons_zero, List.getElem_cons_succ, List.setIfInBounds_toArray, List.set_cons_zero, List.set_cons_succ])) | (refine linX_op (v := ?_) rfl rfl (by rfl) (fun w9 hS9 => ?_) ?_; rotate_left; (focus (((try dsimp only at hS9); go_simp; (try go_bits)) <;> with_reducible rfl)); (try simp only [Act.put, List.getElem_toArray, List.getElem_cons_zero, List.getElem_cons_succ, List.setIfInBounds_toArray, List.set_cons_zero, List.set_cons_succ]))))
      refine linX_call (f := 21) (args := #[.agg #[.slice a4 n c4]]) rfl rfl (by rfl) rfl rfl (enters_of Tryd.func21 (by kernel_rfl) rfl) (by simp [Act.eval]) ?_
      refine (HCR _ (bel_drew h013)).mono ?_
      rintro e w14 ⟨rfl, hb14⟩
      have hb134 : Below w13.heap.size w13 w14 := bel_trans (bel_drew h013) hb14
      refine ⟨_, rfl, hb134, ?_⟩
      (try simp only [Act.put, List.getElem_toArray, List.getElem_cons_zero, List.getElem_cons_succ, List.setIfInBounds_toArray, List.set_cons_zero, List.set_cons_succ])
      (repeat (first | (refine linX_off rfl rfl (by rfl) ?_; (try simp only [Act.put, List.getElem_toArray, List.getElem_cons_zero, List.getElem_cons_succ, List.setIfInBounds_toArray, List.set_cons_zero, List.set_cons_succ])) | (refine linX_op (v := ?_) rfl rfl (by rfl) (fun w9 hS9 => ?_) ?_; rotate_left; (focus (((try dsimp only at hS9); go_simp; (try go_bits)) <;> with_reducible rfl)); (try simp only [Act.put, List.getElem_toArray, List.getElem_cons_zero, List.getElem_cons_succ, List.setIfInBounds_toArray, List.set_cons_zero, List.set_cons_succ]))))
      refine linX_call (f := 23) (args := #[.agg #[.slice a n c]]) rfl rfl (by rfl) rfl rfl (enters_of Tryd.func23 (by kernel_rfl) rfl) (by simp [Act.eval]) ?_
      refine (HRBE _ hb134).mono ?_
      rintro e w15 ⟨a15, c15, T2, rfl, hT15, hB15, hb15⟩
      have hb135 : Below w13.heap.size w13 w15 := bel_trans hb134 hb15
      obtain rfl := BI.eq hB15 HBI.out
      refine ⟨_, rfl, hb135, ?_⟩
      (try simp only [Act.put, List.getElem_toArray, List.getElem_cons_zero, List.getElem_cons_succ, List.setIfInBounds_toArray, List.set_cons_zero, List.set_cons_succ])
      refine linX_call (f := 22) (args := #[.agg #[.slice a11 T2.length c11], .agg #[.slice a15 T2.length c15]]) rfl rfl (by rfl) rfl rfl (enters_of Tryd.func22 (by kernel_rfl) rfl) (by simp [Act.eval]) ?_
      have hml : T2.length ≤ 9223372036854775807 := by have := hT15.le; have := hT15.cap; unfold maxLen at this; omega
      have HSM := rsame_any a11 a15 T2.length c11 T2.length c15 T2 T2 w15 rfl hml (HOT.out.tbl2.1.at'.later hb135) rfl hml hT15.at'
      simp only [decide_true] at HSM
      refine HSM.mono ?_
      rintro e w16 ⟨rfl, hb16⟩
      refine ⟨_, rfl, bel_trans hb135 hb16, ?_⟩
      (try simp only [Act.put, List.getElem_toArray, List.getElem_cons_zero, List.getElem_cons_succ, List.setIfInBounds_toArray, List.set_cons_zero, List.set_cons_succ])
      (repeat (first | (refine linX_off rfl rfl (by rfl) ?_; (try simp only [Act.put, List.getElem_toArray, List.getElem_cons_zero, List.getElem_cons_succ, List.setIfInBounds_toArray, List.set_cons_zero, List.set_cons_succ])) | (refine linX_op (v := ?_) rfl rfl (by rfl) (fun w9 hS9 => ?_) ?_; rotate_left; (focus (((try dsimp only at hS9); go_simp; (try go_bits)) <;> with_reducible rfl)); (try simp only [Act.put, List.getElem_toArray, List.getElem_cons_zero, List.getElem_cons_succ, List.setIfInBounds_toArray, List.set_cons_zero, List.set_cons_succ]))))
      refine linX_nil ?_
      go_wp2_with fail
      go_ret
      exact ⟨rfl, bel_trans HB.out.1 (bel_trans HX.out.1 (bel_trans HZ.out (bel_trans hb135 hb16)))⟩
    · rw [decide_eq_false h1] at HRR
      cases hB11 with
      | good k => exact absurd k h1
      | rib k =>
      simp only [List.length_nil] at ST
      go_wp2_with (first | (with_reducible refine wpList_alloc_z rfl 24 rfl #[.slice none 0 0] 1 z_rib ?_) | (with_reducible refine wpList_alloc_z rfl 27 rfl #[.slice none 0 0] 1 z_bat ?_) | (with_reducible refine wpList_alloc_z rfl 41 rfl #[.slice none 0 0] 1 z_tab ?_))
      refine HRR.mono ?_
      rintro e w13 ⟨rfl, hb13⟩
      have hb613 := bel_trans HY.out.1 hb13
      have LX13 := LX w13 hb613
      have LTc := tab_c (HY.out.2.1.later hb13)
      simp only [List.length_nil] at LTc
      have HCR := rcheck_any a4 n c4 L w13 (HR.out w13 (bel_trans HX.out.1 hb613)).1 HB.out.2.1 (by omega) (HX.out.2.2.2.1.lies2.2.2.2.1.later hb613) HX.out.2.2.2.1.lies2.2.2.2.2
      have e1 : ribE L = 211 := if_neg h1
      rw [e1] at HCR
      have HZ := Lib.hid hb613
      clear e1 HRR LR12 hb13 hb613 k h1
      go_wp2_with fail
      refine HCR.mono ?_
      rintro e w14 ⟨rfl, hb14⟩
      have LT14 := LTc w14 hb14
      clear LTc
      go_wp2_with fail
      go_ret
      exact ⟨rfl, bel_trans HB.out.1 (bel_trans HX.out.1 (bel_trans HZ.out hb14))⟩
end Go.Proofs.YtclkfmblogkakaaDoor
