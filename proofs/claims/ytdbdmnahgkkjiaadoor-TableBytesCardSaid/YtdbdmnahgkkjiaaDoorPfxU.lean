/-
  The contracts of the reference's DecodeAddr and Decode. Nothing here is a statement of the document.
-/
import Derived.Test.YtdbdmnahgkkjiaaDoorPfxT
namespace Go.Proofs.YtdbdmnahgkkjiaaDoor
open Go.RowKit Go.Shelf
set_option linter.unusedVariables false
attribute [local go_sem ↓] load_b16_rule store_b16_rule load_ad_rule store_ad_rule load_px_rule store_px_rule eq_b16_rule eq_ad_rule eq_px_rule build_ad_rule build_px_rule build_b16_rule

theorem wrap_b {x : Nat} (h : x < 256) : wrap64 (x : Int) = (x : Int) := by unfold wrap64; omega

set_option maxRecDepth 100000 in
set_option maxHeartbeats 1600000 in
theorem refdecode_any (a : Option Addr) (cap : Nat) (L : List Nat) (hB : Bys L) (hlm : L.length ≤ 4000) (w : World) (hL : Lies w a L) :
    Calls Tryd.prog 33 #[.slice a L.length cap] w fun e w' => e = .returned (.tuple #[.agg (decPX L).cs, .int .i64 (decPN L : Int), .int .i64 (decPE L)]) ∧ Below w.heap.size w w' := by
  obtain ⟨W1, hW1⟩ : ∃ W1, w.alloc (.cells Px.zero.cs 38) = W1 := ⟨_, rfl⟩
  have hb1 : Below w.heap.size w W1 := by rw [← hW1]; exact (Below.refl _ _).alloc (Nat.le_refl _) _
  have b1 : Blk W1 w.heap.size 38 Px.zero.cs := by rw [← hW1]; exact Blk.new w _ _
  have B0 := build_px0
  have HS := fun q w' (h : Below W1.heap.size W1 w') => st_px (q := q) (b1.later h)
  have HR := Lib.hid (fun q w' (h : Below W1.heap.size W1 w') => And.intro ((b1.later h).row (Px.cs q)) (below_setRow (bel_trans hb1 h) (Nat.le_refl _) (Px.cs q)))
  have h0 : Below W1.heap.size W1 W1 := Below.refl _ _
  have HL := Lib.hid (fun w' (h : Below W1.heap.size W1 w') => hL.kept (bel_trans hb1 h))
  have HLw := Lib.hid (And.intro hL (And.intro hb1 (show W1.heap.size = w.heap.size + 1 by rw [← hW1]; simp)))
  clear hb1 b1 hL
  have HWD := refwidth_any (by0 L : Int)
  by_cases h1 : L.length < 1
  · have d1 : decide ((L.length : Int) < 1) = true := decide_eq_true (by omega)
    have d1' : decide (L.length < 1) = true := decide_eq_true h1
    have hE : decPE L = 7 := if_pos h1
    have HQ := Lib.hid (And.intro hE (And.intro (show decPX L = Px.zero by unfold decPX; rw [hE]; rfl) (show decPN L = 0 by unfold decPN; rw [hE]; rfl)))
    have S0 := HS Px.zero W1 h0
    clear hE HS
    go_enter Tryd.func33, Tryd.ntmps33
    go_wp2_with (first | (with_reducible refine wpList_alloc_z rfl 38 rfl Px.zero.cs 18 z_px ?_; rw [hW1]) | (go_at_call 53; refine (HWD _).mono ?_; rintro e w2 ⟨rfl, rfl⟩))
    refine bodyPost_ret (results_blk2 rfl _ _ w.heap.size _ _ rfl (HR.out Px.zero W1 h0).1 Tryd.underlying38 rfl (s_px _)) rfl ?_
    exact ⟨by rw [HQ.out.1, HQ.out.2.1, HQ.out.2.2]; rfl, (HR.out Px.zero W1 h0).2⟩
  · rcases HLw.out.1 with hn | ⟨b, off, rfl, hbl, hc⟩
    · rw [hn] at h1; simp at h1
    have hc0 := hc 0 (by omega)
    rw [Nat.add_zero] at hc0
    have LC0 : ∀ w', Below W1.heap.size W1 w' → w'.cell? ⟨b, off, none⟩ = some (.int .u8 ((by0 L : Nat) : Int)) := fun w' h => ((bel_trans HLw.out.2.1 h).cell (cell_lt hc0)).trans hc0
    have hw0 := wrap_b (show by0 L < 256 from hB.at 0)
    have hyb : by0 L < 256 := hB.at 0
    have hwl := wid_le (by0 L : Int)
    have d1 : decide ((L.length : Int) < 1) = false := decide_eq_false (by omega)
    have d1' : decide (L.length < 1) = false := decide_eq_false h1
    have d0 : (0 : Int) < (L.length : Int) := by omega
    have d0' : 0 < L.length := by omega
    have hE0 : decPE L = if wid (by0 L : Int) = 0 then 151 else if L.length < 2 then 7 else if wid (by0 L : Int) < by1 L then 151 else bodyE L 2 (by1 L) 151 := if_neg h1
    by_cases h2 : wid (by0 L : Int) = 0
    · rw [h2] at HWD
      have hE : decPE L = 151 := hE0.trans (if_pos h2)
      have HQ := Lib.hid (And.intro hE (And.intro (show decPX L = Px.zero by unfold decPX; rw [hE]; rfl) (show decPN L = 0 by unfold decPN; rw [hE]; rfl)))
      have S0 := HS Px.zero W1 h0
      clear hE HS hE0 hc hc0 h2 hwl hbl
      go_enter Tryd.func33, Tryd.ntmps33
      go_wp2_with (first | (with_reducible refine wpList_alloc_z rfl 38 rfl Px.zero.cs 18 z_px ?_; rw [hW1]) | (go_at_call 53; refine (HWD _).mono ?_; rintro e w2 ⟨rfl, rfl⟩))
      refine bodyPost_ret (results_blk2 rfl _ _ w.heap.size _ _ rfl (HR.out Px.zero W1 h0).1 Tryd.underlying38 rfl (s_px _)) rfl ?_
      exact ⟨by rw [HQ.out.1, HQ.out.2.1, HQ.out.2.2]; rfl, (HR.out Px.zero W1 h0).2⟩
    · have hE1 := hE0.trans (if_neg h2)
      have d2 : (((wid (by0 L : Int) : Nat) : Int) == 0) = false := by simp; omega
      by_cases h3 : L.length < 2
      · have d3 : decide ((L.length : Int) < 2) = true := decide_eq_true (by omega)
        have d3' : decide (L.length < 2) = true := decide_eq_true h3
        have hE : decPE L = 7 := hE1.trans (if_pos h3)
        have HQ := Lib.hid (And.intro hE (And.intro (show decPX L = Px.zero by unfold decPX; rw [hE]; rfl) (show decPN L = 0 by unfold decPN; rw [hE]; rfl)))
        have S0 := HS Px.zero W1 h0
        clear hE HS hE0 hE1 hc hc0 h2 hbl
        go_enter Tryd.func33, Tryd.ntmps33
        go_wp2_with (first | (with_reducible refine wpList_alloc_z rfl 38 rfl Px.zero.cs 18 z_px ?_; rw [hW1]) | (go_at_call 53; refine (HWD _).mono ?_; rintro e w2 ⟨rfl, rfl⟩))
        refine bodyPost_ret (results_blk2 rfl _ _ w.heap.size _ _ rfl (HR.out Px.zero W1 h0).1 Tryd.underlying38 rfl (s_px _)) rfl ?_
        exact ⟨by rw [HQ.out.1, HQ.out.2.1, HQ.out.2.2]; rfl, (HR.out Px.zero W1 h0).2⟩
      · have d3 : decide ((L.length : Int) < 2) = false := decide_eq_false (by omega)
        have d3' : decide (L.length < 2) = false := decide_eq_false h3
        have d4 : (1 : Int) < (L.length : Int) := by omega
        have d4' : 1 < L.length := by omega
        have hE2 := hE1.trans (if_neg h3)
        have hc1 := hc 1 (by omega)
        have LC1 : ∀ w', Below W1.heap.size W1 w' → w'.cell? ⟨b, off + 1, none⟩ = some (.int .u8 ((by1 L : Nat) : Int)) := fun w' h => ((bel_trans HLw.out.2.1 h).cell (cell_lt hc1)).trans hc1
        have hw1 := wrap_b (show by1 L < 256 from hB.at 1)
        have hyb1 : by1 L < 256 := hB.at 1
        by_cases h4 : wid (by0 L : Int) < by1 L
        · have d5 : decide (((wid (by0 L : Int) : Nat) : Int) < ((by1 L : Nat) : Int)) = true := decide_eq_true (by omega)
          have d5' : decide (wid (by0 L : Int) < by1 L) = true := decide_eq_true h4
          have hE : decPE L = 151 := hE2.trans (if_pos h4)
          have HQ := Lib.hid (And.intro hE (And.intro (show decPX L = Px.zero by unfold decPX; rw [hE]; rfl) (show decPN L = 0 by unfold decPN; rw [hE]; rfl)))
          have S0 := HS Px.zero W1 h0
          clear hE HS hE0 hE1 hE2 hc hc0 hc1 h2 hbl
          go_enter Tryd.func33, Tryd.ntmps33
          go_wp2_with (first | (with_reducible refine wpList_alloc_z rfl 38 rfl Px.zero.cs 18 z_px ?_; rw [hW1]) | (go_at_call 53; refine (HWD _).mono ?_; rintro e w2 ⟨rfl, rfl⟩))
          refine bodyPost_ret (results_blk2 rfl _ _ w.heap.size _ _ rfl (HR.out Px.zero W1 h0).1 Tryd.underlying38 rfl (s_px _)) rfl ?_
          exact ⟨by rw [HQ.out.1, HQ.out.2.1, HQ.out.2.2]; rfl, (HR.out Px.zero W1 h0).2⟩
        · have hE := hE2.trans (if_neg h4)
          have d5 : decide (((wid (by0 L : Int) : Nat) : Int) < ((by1 L : Nat) : Int)) = false := decide_eq_false (by omega)
          have d5' : decide (wid (by0 L : Int) < by1 L) = false := decide_eq_false h4
          have hb128 : by1 L ≤ 128 := by omega
          have HSM := fun w' (h : Below W1.heap.size W1 w') => some_any (some ⟨b, off, none⟩) cap L 2 (by1 L) 151 (by omega) (by omega) hb128 (by omega) hB hlm w' (HL.out w' h)
          have hdv : ((by1 L : Int) + 7) / 8 = ((fill8 (by1 L) : Nat) : Int) := by unfold fill8; omega
          have hf8 := f16 hb128
          by_cases h5 : bodyE L 2 (by1 L) 151 = 0
          · have HQ := Lib.hid (And.intro (hE.trans h5) (And.intro (show decPX L = ⟨⟨(by0 L : Int), padF L 2 (by1 L)⟩, (by1 L : Int)⟩ by unfold decPX; rw [hE, h5]; rfl) (show decPN L = 2 + fill8 (by1 L) by unfold decPN; rw [hE, h5]; rfl)))
            rw [h5, show someX L 2 (by1 L) 151 = padF L 2 (by1 L) from if_pos h5] at HSM
            have B1 := build_ad (by0 L : Int) (padF L 2 (by1 L))
            have B2 := build_px ⟨(by0 L : Int), padF L 2 (by1 L)⟩ (by1 L : Int)
            clear hE hE0 hE1 hE2 h2 h5
            generalize padF L 2 (by1 L) = X at *
            generalize fill8 (by1 L) = f8 at *
            generalize wid (by0 L : Int) = ww at *
            generalize by0 L = y at *
            generalize by1 L = z at *
            go_enter Tryd.func33, Tryd.ntmps33
            go_wp2_with (first | (with_reducible refine wpList_alloc_z rfl 38 rfl Px.zero.cs 18 z_px ?_; rw [hW1]) | (go_at_call 53; refine (HWD _).mono ?_; rintro e w2 ⟨rfl, rfl⟩))
            refine (HSM _ (by first | assumption | exact bel_drew h0)).mono ?_
            rintro e w3 ⟨rfl, hb3⟩
            have h3 : Below W1.heap.size W1 w3 := bel_trans (by first | exact h0 | exact bel_drew h0) hb3
            have Sw4 := st_b16 (q := X) (Blk.new w3 34 B16.zero.cs)
            rw [World.setRow_alloc_new] at Sw4
            obtain ⟨w4, hww4⟩ : ∃ x, w3.alloc (.cells (X).cs 34) = x := ⟨_, rfl⟩
            rw [hww4] at Sw4
            have bw4 : Blk w4 w3.heap.size 34 (X).cs := by rw [← hww4]; exact Blk.new _ _ _
            have hbw4 : Below w3.heap.size w3 w4 := by rw [← hww4]; exact (Below.refl _ _).alloc (Nat.le_refl _) _
            have h4 : Below W1.heap.size W1 w4 := bel_trans h3 hbw4
            have h04 : Below w4.heap.size w4 w4 := Below.refl _ _
            have hk4 : Below W1.heap.size W1 w4.drew := bel_drew h4
            have LX := b16_ld bw4 w4.drew (bel_drew h04)
            have S9 := HS ⟨⟨(y : Int), X⟩, (z : Int)⟩ w4.drew (bel_drew h4)
            have HR9 := Lib.hid (HR.out ⟨⟨(y : Int), X⟩, (z : Int)⟩ w4.drew (bel_drew h4))
            have hwi : IntKind.i64.wrap ((y : Nat) : Int) = (y : Int) := (by first | (rw [IntKind.wrap_i64]; omega) | (show wrap64 _ = _; unfold wrap64; omega))
            have hwz : IntKind.i64.wrap ((z : Nat) : Int) = (z : Int) := (by first | (rw [IntKind.wrap_i64]; omega) | (show wrap64 _ = _; unfold wrap64; omega))
            have hw7 : IntKind.i64.wrap ((z : Int) + 7) = (z : Int) + 7 := (by first | (rw [IntKind.wrap_i64]; omega) | (show wrap64 _ = _; unfold wrap64; omega))
            have hw8 : IntKind.i64.wrap ((f8 : Nat) : Int) = (f8 : Int) := (by first | (rw [IntKind.wrap_i64]; omega) | (show wrap64 _ = _; unfold wrap64; omega))
            have hw9 : IntKind.i64.wrap (2 + (f8 : Int)) = 2 + (f8 : Int) := (by first | (rw [IntKind.wrap_i64]; omega) | (show wrap64 _ = _; unfold wrap64; omega))
            have ht8 : ((z : Int) + 7).tdiv 8 = (f8 : Int) := by rw [Int.tdiv_eq_ediv_of_nonneg (by omega)]; exact hdv
            clear hww4 bw4 hb3 h3 hbw4 HSM HWD HS hc hc0 hc1
            go_wp2_with (first | (with_reducible refine wpList_alloc_z rfl 34 rfl B16.zero.cs 16 z_b16 ?_))
            go_region_with fail
            all_goals go_wp2_with fail
            all_goals refine bodyPost_ret (results_blk2 rfl _ _ w.heap.size _ _ rfl HR9.out.1 Tryd.underlying38 rfl (s_px _)) rfl ?_
            all_goals exact ⟨by rw [HQ.out.1, HQ.out.2.1, HQ.out.2.2]; first | rfl | (simp only [ht8, hw8, hw9]; rfl), HR9.out.2⟩
          · have hx0 : someX L 2 (by1 L) 151 = B16.zero := if_neg h5
            have HQ := Lib.hid (And.intro hE (And.intro (show decPX L = Px.zero by unfold decPX; rw [hE]; exact if_neg h5) (show decPN L = 0 by unfold decPN; rw [hE]; exact if_neg h5)))
            have hd0 : (bodyE L 2 (by1 L) 151 != 0) = true := by simpa using h5
            rw [hx0] at HSM
            clear hE hE0 hE1 hE2 h2 h5 hx0
            generalize bodyE L 2 (by1 L) 151 = E at *
            generalize wid (by0 L : Int) = ww at *
            generalize by0 L = y at *
            generalize by1 L = z at *
            go_enter Tryd.func33, Tryd.ntmps33
            go_wp2_with (first | (with_reducible refine wpList_alloc_z rfl 38 rfl Px.zero.cs 18 z_px ?_; rw [hW1]) | (go_at_call 53; refine (HWD _).mono ?_; rintro e w2 ⟨rfl, rfl⟩))
            refine (HSM _ (by first | assumption | exact bel_drew h0)).mono ?_
            rintro e w3 ⟨rfl, hb3⟩
            have h3 : Below W1.heap.size W1 w3 := bel_trans (by first | exact h0 | exact bel_drew h0) hb3
            have Sw4 := st_b16 (q := B16.zero) (Blk.new w3 34 B16.zero.cs)
            rw [World.setRow_alloc_new] at Sw4
            obtain ⟨w4, hww4⟩ : ∃ x, w3.alloc (.cells (B16.zero).cs 34) = x := ⟨_, rfl⟩
            rw [hww4] at Sw4
            have bw4 : Blk w4 w3.heap.size 34 (B16.zero).cs := by rw [← hww4]; exact Blk.new _ _ _
            have hbw4 : Below w3.heap.size w3 w4 := by rw [← hww4]; exact (Below.refl _ _).alloc (Nat.le_refl _) _
            have h4 : Below W1.heap.size W1 w4 := bel_trans h3 hbw4
            have S0 := HS Px.zero w4 h4
            clear bw4 hb3 h3 hbw4 HSM HWD hc hc0 hc1
            go_wp2_with (first | (with_reducible refine wpList_alloc_z rfl 34 rfl B16.zero.cs 16 z_b16 ?_; rw [hww4]))
            refine bodyPost_ret (results_blk2 rfl _ _ w.heap.size _ _ rfl (HR.out Px.zero w4 h4).1 Tryd.underlying38 rfl (s_px _)) rfl ?_
            exact ⟨by rw [HQ.out.1, HQ.out.2.1, HQ.out.2.2]; rfl, (HR.out Px.zero w4 h4).2⟩
end Go.Proofs.YtdbdmnahgkkjiaaDoor
