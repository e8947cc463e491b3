/-
  The walk of RouteBytes. Nothing here is a statement of the document.
-/
import Derived.Test.YtclkfmblogkakaaDoorRvP
namespace Go.Proofs.YtclkfmblogkakaaDoor
open Go.RowKit Go.Shelf
set_option linter.unusedVariables false
set_option maxRecDepth 100000
theorem OwnB.lies9 {w : World} {B : Nat} {v : Value} {l : List Nat} (h : OwnB w B v l) : ∃ a c, v = .slice a l.length c ∧ l.length ≤ 9223372036854775807 ∧ Lies w a l := by
  obtain ⟨a, c, h1, h2, h3, h4, _⟩ := h.lies
  exact ⟨a, c, h1, by unfold maxLen at h3; omega, h4⟩
attribute [local go_sem ↓] load_rib_rule store_rib_rule load_bat_rule store_bat_rule
set_option maxHeartbeats 4000000 in
theorem rbytes_walk (a : Option Addr) (n c : Nat) (L : List Ro) (a2 : Option Addr) (n2 c2 : Nat) (U : List Up) (w : World) (hW : Wid w) (hn : L.length = n) (hR : RoAt w a L) (hc : n ≤ c ∧ c ≤ maxLen ∧ (a = none → c = 0))
    (hn2 : U.length = n2) (hR2 : UpAt w a2 U) (hc2 : n2 ≤ c2 ∧ c2 ≤ maxLen ∧ (a2 = none → c2 = 0)) :
    Calls Tryd.prog 5 #[.agg #[.slice a n c], .agg #[.slice a2 n2 c2]] w fun e w' => e = .returned (.bool true) ∧ Below w.heap.size w w' := by
  obtain ⟨W1, hW1⟩ : ∃ W1, (w.alloc (.cells #[.slice a n c] 24)).alloc (.cells #[.slice a2 n2 c2] 27) = W1 := ⟨_, rfl⟩
  have hb1 : Below w.heap.size w W1 := by rw [← hW1]; exact ((Below.refl _ _).alloc (Nat.le_refl _) _).alloc (by simp) _
  have b1 : Blk W1 w.heap.size 24 #[.slice a n c] := by rw [← hW1]; exact (Blk.new _ _ _).alloc _
  have b2 : Blk W1 (w.heap.size + 1) 27 #[.slice a2 n2 c2] := by rw [← hW1]; exact blk_new2 _ _ _ _
  have LR := Lib.hid (rib_t b1)
  have LB := Lib.hid (bat_t b2)
  have HWK := wakes11_any W1 (hW.later hb1)
  have HB := Lib.hid (And.intro hb1 (And.intro hn hn2))
  have HR := Lib.hid (fun (w' : World) (h : Below W1.heap.size W1 w') => And.intro ((hW.later hb1).later h) (And.intro ((hR.later hb1).later h) ((hR2.later hb1).later h)))
  have HC := Lib.hid (And.intro hc hc2)
  clear hR hR2 b1 b2 hb1 hc hc2 hn hn2 hW
  go_enter Tryd.func5, Tryd.ntmps5
  go_wp2_with fail
  refine HWK.mono ?_
  rintro e w2 ⟨rfl, hb2⟩
  have LR2 := LR.out w2 hb2
  have LB2 := LB.out w2 hb2
  have HOV := over11_any a n c a2 n2 c2 w2 _ rfl
  clear HWK
  by_cases hov : 300 < n ∨ 100 < n2
  · rw [decide_eq_true hov] at HOV
    clear hov
    go_wp2_with fail
    refine HOV.mono ?_
    rintro e w3 ⟨rfl, hb3⟩
    go_wp2_with fail
    go_ret
    exact ⟨rfl, bel_trans HB.out.1 (bel_trans hb2 hb3)⟩
  rw [decide_eq_false hov] at HOV
  have hl1 : n ≤ 300 := by omega
  have hl2 : n2 ≤ 100 := by omega
  clear hov
  go_wp2_with fail
  refine HOV.mono ?_
  rintro e w3 ⟨rfl, hb3⟩
  have hb13 := bel_trans hb2 hb3
  have LR3 := LR.out w3 hb13
  have HEN := rencode_any a n c L w3 (HR.out w3 hb13).1 HB.out.2.1 (by omega) (HR.out w3 hb13).2.1 HC.out.1.2.2
  clear HOV LR2 LB2 hb2 hb3
  go_wp2_with fail
  refine HEN.mono ?_
  rintro e w4 ⟨x, rfl, hx1, hx2, hb4⟩
  have hb14 := bel_trans hb13 hb4
  have LB4 := LB.out w4 hb14
  have HEB := rencodeb_any a2 n2 c2 U w4 (HR.out w4 hb14).1 HB.out.2.2 (by omega) (HR.out w4 hb14).2.2 HC.out.2.1
  have HX := Lib.hid (And.intro hx1 hx2)
  clear HEN LR3 hb13 hb4 hx1 hx2
  go_wp2_with fail
  refine HEB.mono ?_
  rintro e w5 ⟨y, rfl, hy1, hy2, hb5⟩
  have hb15 := bel_trans hb14 hb5
  have LR5 := LR.out w5 hb15
  have HRR := rright11_any a n c L w5 HB.out.2.1 (by omega) (HR.out w5 hb15).2.1
  have HY := Lib.hid (And.intro hy1 (And.intro hy2 (And.intro hb5 hb15)))
  clear HEB LB4 hb14 hb5 hb15 hy1 hy2
  by_cases h1 : okRib L
  · rw [decide_eq_true h1] at HRR
    have e1 : ribE L = 0 := if_pos h1
    rw [e1]
    obtain ⟨xa, xc, rfl, hxl, _⟩ := (HX.out.1 h1).lies9
    have HO1 := Lib.hid h1
    clear h1 e1
    go_wp2_with fail
    refine HRR.mono ?_
    rintro e w6 ⟨rfl, hb6⟩
    have hb16 := bel_trans HY.out.2.2.2 hb6
    have LR6 := LR.out w6 hb16
    have HBY := rrbytes_any a n c L w6 HB.out.2.1 (HR.out w6 hb16).2.1 HO1.out
    clear HRR LR5
    go_wp2_with fail
    refine HBY.mono ?_
    rintro e w7 ⟨z, rfl, hz, hb7⟩
    obtain ⟨za, zc, rfl, hzl, hzL⟩ := hz.lies9
    obtain ⟨xa2, xc2, ex, _, hxL⟩ := ((HX.out.1 HO1.out).later (bel_trans HY.out.2.2.1 (bel_trans hb6 hb7))).lies9
    have ex2 : xa = xa2 := by injection ex
    subst ex2
    have HSM := same_any xa za (ribB L).length xc (ribB L).length zc (ribB L) (ribB L) w7 rfl rfl hxl hzl hxL hzL
    rw [beq_self_eq_true] at HSM
    have hb17 := bel_trans hb16 hb7
    have hb57 := bel_trans hb6 hb7
    clear HBY LR6 ex hxL hzL hz hb16 hb7 hb6
    go_wp2_with fail
    refine HSM.mono ?_
    rintro e w8 ⟨rfl, hb8⟩
    have hb18 := bel_trans hb17 (hb8.below _)
    have hb58 := bel_trans hb57 (hb8.below _)
    clear HSM hb17 hb57 hb8
    have LB8 := LB.out w8 hb18
    have HRB := rrbat_any a2 n2 c2 U w8 HB.out.2.2 (by omega) (HR.out w8 hb18).2.2
    by_cases h2 : okBat U
    · rw [decide_eq_true h2] at HRB
      have e2 : batE U = 0 := if_pos h2
      rw [e2]
      obtain ⟨ya, yc, rfl, hyl, _⟩ := (HY.out.1 h2).lies9
      have HO2 := Lib.hid h2
      clear h2 e2
      go_wp2_with fail
      refine HRB.mono ?_
      rintro e w9 ⟨rfl, hb9⟩
      have hb19 := bel_trans hb18 hb9
      have LB9 := LB.out w9 hb19
      have HBB := rrbbytes_any a2 n2 c2 U w9 HB.out.2.2 (HR.out w9 hb19).2.2 HO2.out
      clear HRB LB8
      go_wp2_with fail
      refine HBB.mono ?_
      rintro e w10 ⟨z, rfl, hz, hb10⟩
      obtain ⟨za, zc, rfl, hzl, hzL⟩ := hz.lies9
      obtain ⟨ya2, yc2, ey, _, hyL⟩ := ((HY.out.1 HO2.out).later (bel_trans (bel_trans hb58 hb9) hb10)).lies9
      have ey2 : ya = ya2 := by injection ey
      subst ey2
      have HSM := same_any ya za (batB U).length yc (batB U).length zc (batB U) (batB U) w10 rfl rfl hyl hzl hyL hzL
      rw [beq_self_eq_true] at HSM
      have hb110 := bel_trans hb19 hb10
      clear HBB LB9 ey hyL hzL hz hb19 hb10 hb9
      go_wp2_with fail
      refine HSM.mono ?_
      rintro e w11 ⟨rfl, hb11⟩
      have hb111 := bel_trans hb110 (hb11.below _)
      go_wp2_with fail
      go_ret
      exact ⟨rfl, bel_trans HB.out.1 hb111⟩
    · rw [decide_eq_false h2] at HRB
      have e2 : batE U = 210 := if_neg h2
      rw [e2]
      obtain rfl := HY.out.2.1 h2
      clear h2 e2
      go_wp2_with fail
      refine HRB.mono ?_
      rintro e w9 ⟨rfl, hb9⟩
      go_wp2_with fail
      go_ret
      exact ⟨rfl, bel_trans HB.out.1 (bel_trans hb18 hb9)⟩
  · rw [decide_eq_false h1] at HRR
    have e1 : ribE L = 211 := if_neg h1
    rw [e1]
    obtain rfl := HX.out.2 h1
    clear h1 e1
    go_wp2_with fail
    refine HRR.mono ?_
    rintro e w8 ⟨rfl, hb58⟩
    have hb18 := bel_trans HY.out.2.2.2 hb58
    clear HRR LR5
    have LB8 := LB.out w8 hb18
    have HRB := rrbat_any a2 n2 c2 U w8 HB.out.2.2 (by omega) (HR.out w8 hb18).2.2
    by_cases h2 : okBat U
    · rw [decide_eq_true h2] at HRB
      have e2 : batE U = 0 := if_pos h2
      rw [e2]
      obtain ⟨ya, yc, rfl, hyl, _⟩ := (HY.out.1 h2).lies9
      have HO2 := Lib.hid h2
      clear h2 e2
      go_wp2_with fail
      refine HRB.mono ?_
      rintro e w9 ⟨rfl, hb9⟩
      have hb19 := bel_trans hb18 hb9
      have LB9 := LB.out w9 hb19
      have HBB := rrbbytes_any a2 n2 c2 U w9 HB.out.2.2 (HR.out w9 hb19).2.2 HO2.out
      clear HRB LB8
      go_wp2_with fail
      refine HBB.mono ?_
      rintro e w10 ⟨z, rfl, hz, hb10⟩
      obtain ⟨za, zc, rfl, hzl, hzL⟩ := hz.lies9
      obtain ⟨ya2, yc2, ey, _, hyL⟩ := ((HY.out.1 HO2.out).later (bel_trans (bel_trans hb58 hb9) hb10)).lies9
      have ey2 : ya = ya2 := by injection ey
      subst ey2
      have HSM := same_any ya za (batB U).length yc (batB U).length zc (batB U) (batB U) w10 rfl rfl hyl hzl hyL hzL
      rw [beq_self_eq_true] at HSM
      have hb110 := bel_trans hb19 hb10
      clear HBB LB9 ey hyL hzL hz hb19 hb10 hb9
      go_wp2_with fail
      refine HSM.mono ?_
      rintro e w11 ⟨rfl, hb11⟩
      have hb111 := bel_trans hb110 (hb11.below _)
      go_wp2_with fail
      go_ret
      exact ⟨rfl, bel_trans HB.out.1 hb111⟩
    · rw [decide_eq_false h2] at HRB
      have e2 : batE U = 210 := if_neg h2
      rw [e2]
      obtain rfl := HY.out.2.1 h2
      clear h2 e2
      go_wp2_with fail
      refine HRB.mono ?_
      rintro e w9 ⟨rfl, hb9⟩
      go_wp2_with fail
      go_ret
      exact ⟨rfl, bel_trans HB.out.1 (bel_trans hb18 hb9)⟩
end Go.Proofs.YtclkfmblogkakaaDoor
