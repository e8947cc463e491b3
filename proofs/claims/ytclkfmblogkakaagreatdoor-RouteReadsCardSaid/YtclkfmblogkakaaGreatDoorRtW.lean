/-
  Whether a RIB may be: the contract of the reference's Right. Nothing here is a statement of the document.
-/
import Derived.Test.YtclkfmblogkakaaGreatDoorPfxV
import Derived.Test.YtclkfmblogkakaaGreatDoorPfxOw
import Derived.Test.YtclkfmblogkakaaGreatDoorRvU
namespace Go.Proofs.YtclkfmblogkakaaGreatDoor
open Go.RowKit Go.Shelf
set_option linter.unusedVariables false
attribute [local go_sem ↓] load_b16_rule store_b16_rule load_ad_rule store_ad_rule load_px_rule store_px_rule eq_b16_rule eq_ad_rule eq_px_rule build_ad_rule build_px_rule build_b16_rule

theorem pad_more (l : List Nat) (hB : Bys l) (i : Nat) (hi : i < 16) (hl : i < l.length) : ∀ j, j < 16 → (padB (l.take (i + 1))).at j = if j = i then l.getD i 0 else (padB (l.take i)).at j := fun j hj => by
  rw [padB_at _ (hB.take2 _) j hj, padB_at _ (hB.take2 _) j hj]
  simp only [List.getD_eq_getElem?_getD, List.getElem?_take]
  by_cases h : j = i
  · subst h; simp
  · rw [if_neg h]
    by_cases h2 : j < i
    · rw [if_pos (by omega), if_pos h2]
    · rw [if_neg (by omega), if_neg h2]
theorem b16_set {b c : B16} {k x : Nat} (hk : k < 16) (h : ∀ i, i < 16 → c.at i = if i = k then x else b.at i) : b.cs.setIfInBounds k (.int .u8 (x : Int)) = c.cs := by
  apply Array.ext_getElem?
  intro i
  rw [Array.getElem?_setIfInBounds]
  by_cases h1 : i < 16
  · rw [c.get i h1, h i h1, b.get i h1]
    by_cases h2 : k = i
    · subst h2; simp [b.size, hk]
    · rw [if_neg h2, if_neg (fun e => h2 e.symm)]
  · have e1 : c.cs[i]? = none := Array.getElem?_eq_none (by rw [c.size]; omega)
    have e2 : b.cs[i]? = none := Array.getElem?_eq_none (by rw [b.size]; omega)
    rw [e1, e2, if_neg (by omega)]
theorem pad_nil : padB [] = B16.zero := by
  apply B16.ext_at
  intro i hi
  rw [padB_at [] (fun m hm => by simp at hm) i hi]
  have : ∀ i, i < 16 → B16.zero.at i = 0 := by decide +kernel
  rw [this i hi]
  rfl
theorem build_b16z (w : World) : (buildSem 39 #[]).run Tryz.prog w = .ok (.agg B16.zero.cs) w := by kernel_rfl
theorem st_b16 {w : World} {g : Nat} {p q : B16} (h : Blk w g 39 p.cs) : (storeSem 39 (.pointer (some ⟨g, 0, none⟩)) (.agg q.cs)).run Tryz.prog w = .ok () (w.setRow g q.cs) := by
  have := storeRes_of (P := Tryz.prog) (ty := 39) (o := 0) (vs := q.cs) h (by rw [B16.size, B16.size]; omega) (s_b16 q) q.one
  rwa [over_all (by rw [B16.size, B16.size])] at this
theorem b16_ld {W : World} {g : Nat} {b : B16} (h : Blk W g 39 b.cs) : ∀ w', Below W.heap.size W w' → (loadSem 39 (.pointer (some ⟨g, 0, none⟩))).run Tryz.prog w' = .ok (.agg b.cs) w' :=
  fun w' k => loadRes_of (o := 0) (h.later k) (fun q _ => by rw [Nat.zero_add]) _ Tryz.underlying39 rfl (s_b16 b)
noncomputable def someX (L : List Nat) (k n : Nat) (wrong : Int) : B16 := if bodyE L k n wrong = 0 then padF L k n else B16.zero

set_option maxRecDepth 100000 in
set_option maxHeartbeats 1600000 in
theorem some_any (a : Option Addr) (cap : Nat) (L : List Nat) (k n : Nat) (wrong : Int) (hk : k ≤ 2) (hkl : k ≤ L.length) (hn : n ≤ 128) (hwr : wrong ≠ 0) (hB : Bys L) (hlm : L.length ≤ 6000) (w : World) (hL : Lies w a L) :
    Calls Tryz.prog 39 #[.slice a L.length cap, .int .i64 (k : Int), .int .i64 (n : Int), .int .i64 wrong] w fun e w' => e = .returned (.tuple #[.agg (someX L k n wrong).cs, .int .i64 (bodyE L k n wrong)]) ∧ Below w.heap.size w w' := by
  have HX := Lib.hid (And.intro hB hL)
  have HE := Lib.hid (And.intro (show ∀ e, bodyE L k n wrong = e → bodyE L k n wrong = e from fun _ h => h) hwr)
  have hf := f16 hn
  have hfn := fill_ge n
  have hfd : fill8 n = (n + 7) / 8 := rfl
  obtain ⟨f, hff⟩ : ∃ f, fill8 n = f := ⟨_, rfl⟩
  rw [hff] at hf hfn hfd
  have B0 := build_b16z
  clear hB hL hwr
  go_enter Tryz.func39, Tryz.ntmps39
  go_wp2_with (first | (with_reducible refine wpList_alloc_z rfl 39 rfl B16.zero.cs 16 z_b16 ?_))
  go_loopw [11, 12] (fun i kk wr => ∃ m : Nat, m ≤ f ∧ k + m ≤ L.length ∧ i = .int .i64 m ∧ Blk wr (w.heap.size + 1) 39 (padB ((L.drop k).take m)).cs ∧ Blk wr w.heap.size 39 B16.zero.cs ∧ Below w.heap.size w wr ∧ (∀ j, n ≤ j → j < 8 * m → bt (padB ((L.drop k).take m)) j = false)) (fun i kk _ => f - (intOf i).toNat)
  case atStart =>
    refine ⟨0, Nat.zero_le _, hkl, rfl, ?_, ?_, ?_, fun j _ h => by omega⟩
    · rw [List.take_zero, pad_nil]
      have h9 := Blk.new (w.alloc (.cells B16.zero.cs 39)) 39 B16.zero.cs
      rw [World.size_alloc] at h9
      exact h9
    · exact (Blk.new w 39 B16.zero.cs).alloc _
    · exact ((Below.refl _ _).alloc (Nat.le_refl _) _).alloc (by simp) _
  case round =>
    obtain ⟨m, hm, hkm, rfl, hx, hr, hb, hcl⟩ := hrel
    by_cases hlt : m < f
    · have d1 : decide ((8 : Int) * (m : Int) < (n : Int)) = true := by simp; omega
      by_cases hs : L.length ≤ k + m
      · have d2 : decide ((L.length : Int) ≤ (k : Int) + (m : Int)) = true := by simp; omega
        have S1 := st_b16 (q := B16.zero) hr
        have HR := Lib.hid (And.intro (hr.row B16.zero.cs) (below_setRow hb (Nat.le_refl _) B16.zero.cs))
        have HQ := Lib.hid (show bodyE L k n wrong = 7 from if_pos (by rw [hff]; omega))
        clear hx hr hb hcl
        go_wp2
        refine bodyPost_ret (results_blk rfl _ _ w.heap.size _ _ rfl HR.out.1 Tryz.underlying39 rfl (s_b16 _)) rfl ?_
        exact ⟨by unfold someX; rw [HQ.out]; rfl, HR.out.2⟩
      · have d2 : decide ((L.length : Int) ≤ (k : Int) + (m : Int)) = false := by simp; omega
        rcases HX.out.2 with h0 | ⟨b, off, rfl, hbl, hc⟩
        · rw [h0] at hs; simp at hs
        have hB := HX.out.1
        obtain ⟨t, ht⟩ : ∃ t, k + m = t := ⟨_, rfl⟩
        have hcw : wr.cell? ⟨b, off + t, none⟩ = some (.int .u8 ((L.getD t 0 : Nat) : Int)) := (hb.cell (cell_lt (hc t (by omega)))).trans (hc t (by omega))
        have hy := hB.at t
        have hmore := pad_more (L.drop k) (hB.drop2 k) m (by omega) (by rw [List.length_drop]; omega)
        have hgd : (L.drop k).getD m 0 = L.getD t 0 := by rw [← ht]; simp
        rw [hgd] at hmore
        generalize L.getD t 0 = y at *
        have hfz := hx.free m
        have hcx : wr.cell? ⟨w.heap.size + 1, m, none⟩ = some (.int .u8 ((padB ((L.drop k).take m)).at m : Int)) := (hx.cell m).trans ((padB ((L.drop k).take m)).get m (by omega))
        have hx2 := hx.set m (.int .u8 (y : Int))
        rw [b16_set (by omega) hmore] at hx2
        have hr2 := hr.far (p := ⟨w.heap.size + 1, m, none⟩) (by simp) (.int .u8 (y : Int))
        have hb2 := hb.setCell (p := ⟨w.heap.size + 1, m, none⟩) (by simp) (.int .u8 (y : Int))
        have q1 : (k : Int) + (m : Int) = (t : Int) := by omega
        have d3 : decide (L.length ≤ t) = false := by simp; omega
        have d4 : decide ((L.length : Int) ≤ (t : Int)) = false := by simp; omega
        have q3 : (m : Int) < 16 := by omega
        have q4 : (t : Int) < (L.length : Int) := by omega
        have hpt : ∀ q, n ≤ q → q < 8 * (m + 1) → m + 1 = f := fun q h1 h2 => by omega
        obtain ⟨X, hXX⟩ : ∃ X, padB ((L.drop k).take (m + 1)) = X := ⟨_, rfl⟩
        rw [hXX] at hx2
        have HM := Lib.hid (And.intro hx2 (And.intro hr2 (And.intro hb2 (And.intro hXX hpt))))
        have HT := Lib.hid (And.intro ht hs)
        clear hx2 hr2 hb2 hXX hpt hmore hgd hcl hr hB hbl hc ht
        go_wp2
        go_loopw [12] (fun kk wi => ∃ q : Nat, n ≤ q ∧ q ≤ 256 ∧ kk = .int .i64 q ∧ (∀ j, n ≤ j → j < q → bt X j = false) ∧ Blk wi (w.heap.size + 1) 39 X.cs ∧ Blk wi w.heap.size 39 B16.zero.cs ∧ Below w.heap.size w wi) (fun kk _ => 256 - (intOf kk).toNat)
        case atStart => exact ⟨n, Nat.le_refl _, by omega, rfl, fun j _ _ => by omega, HM.out.1, HM.out.2.1, HM.out.2.2.1⟩
        case round =>
          obtain ⟨q, hq0, hq1, rfl, hq2, hx5, hr5, hb5⟩ := hrel
          clear hcw hx hb hfz hcx
          by_cases hq : q < 8 * (m + 1)
          · have d5 : decide ((q : Int) < (8 : Int) * (m : Int) + 8) = true := by simp; omega
            have hat := at_any X q (by omega)
            have LX := b16_ld hx5 _ (Below.refl _ _)
            cases hbt : bt X q with
            | true =>
              rw [btI_on hbt] at hat
              have hm1 := HM.out.2.2.2.2 q hq0 hq
              have hpX : padF L k n = X := by unfold padF; rw [hff, ← hm1]; exact HM.out.2.2.2.1
              have hbody : bodyE L k n wrong = wrong := by
                unfold bodyE
                rw [hff, hpX, if_neg (by have := HT.out; omega), if_neg (fun h => by
                  have h9 := (kept_iff X n).1 h q hq0 (by omega)
                  rw [hbt] at h9
                  cases h9)]
              have HQ := Lib.hid (And.intro hbody (show someX L k n wrong = B16.zero by unfold someX; rw [hbody]; exact if_neg HE.out.2))
              clear hbody hpX hm1 hbt hq2 hx5
              go_wp2_with fail
              refine (hat _).mono ?_
              rintro e w3 ⟨rfl, hb3⟩
              have hr6 := hr5.later hb3
              have S1 := st_b16 (q := B16.zero) hr6
              have HR := Lib.hid (And.intro (hr6.row B16.zero.cs) (below_setRow (bel_trans hb5 hb3) (Nat.le_refl _) B16.zero.cs))
              clear hr5 hr6 hb5 hb3 LX hat
              go_wp2
              refine bodyPost_ret (results_blk rfl _ _ w.heap.size _ _ rfl HR.out.1 Tryz.underlying39 rfl (s_b16 _)) rfl ?_
              exact ⟨by rw [HQ.out.1, HQ.out.2]; rfl, HR.out.2⟩
            | false =>
              rw [btI_off hbt] at hat
              have HC := Lib.hid (show ∀ j, n ≤ j → j < q + 1 → bt X j = false from fun j h1 h2 => by
                by_cases h3 : j = q
                · rw [h3]; exact hbt
                · exact hq2 j h1 (by omega))
              clear hbt hq2
              go_wp2_with fail
              refine (hat _).mono ?_
              rintro e w3 ⟨rfl, hb3⟩
              have HR := Lib.hid (And.intro (hx5.later hb3) (And.intro (hr5.later hb3) (bel_trans hb5 hb3)))
              clear hr5 hx5 hb5 hb3 LX hat
              go_wp2
              go_roundw
              case rel => exact ⟨q + 1, by omega, by omega, by go_num, HC.out, HR.out.1, HR.out.2.1, HR.out.2.2⟩
              case measure => simp [intOf]; omega
          · have d5 : decide ((q : Int) < (8 : Int) * (m : Int) + 8) = false := by simp; omega
            have HN := Lib.hid (And.intro hx5 (And.intro hr5 (And.intro hb5 hq2)))
            clear hx5 hr5 hb5 hq2
            go_wp2
            go_roundw
            case rel => exact ⟨m + 1, by omega, by have := HT.out; omega, by go_num, by rw [HM.out.2.2.2.1]; exact HN.out.1, HN.out.2.1, HN.out.2.2.1, fun j h1 h2 => by rw [HM.out.2.2.2.1]; exact HN.out.2.2.2 j h1 (by omega)⟩
            case measure => simp [intOf]; omega
    · obtain rfl : m = f := by omega
      have d1 : decide ((8 : Int) * (m : Int) < (n : Int)) = false := by simp; omega
      have hpX : padF L k n = padB ((L.drop k).take m) := by unfold padF; rw [hff]
      have hbody : bodyE L k n wrong = 0 := by
        unfold bodyE
        rw [hff, hpX, if_neg (by omega), if_pos]
        refine (kept_iff _ _).2 fun i h1 h2 => ?_
        by_cases h3 : i < 8 * m
        · exact hcl i h1 h3
        · refine at_zero_bt ?_
          rw [padB_at _ ((HX.out.1.drop2 k).take2 m) _ (by omega), List.getD_eq_getElem?_getD, List.getElem?_take, if_neg (by omega)]
          rfl
      have HQ := Lib.hid (And.intro hbody (show someX L k n wrong = padB ((L.drop k).take m) by unfold someX; rw [hbody, hpX]; exact if_pos rfl))
      clear hbody hpX hcl
      have LX := b16_ld hx _ (Below.refl _ _)
      have S1 := st_b16 (q := padB ((L.drop k).take m)) hr
      have HR := Lib.hid (And.intro (hr.row (padB ((L.drop k).take m)).cs) (below_setRow hb (Nat.le_refl _) (padB ((L.drop k).take m)).cs))
      generalize padB ((L.drop k).take m) = X at *
      clear hx hr hb
      go_wp2
      refine bodyPost_ret (results_blk rfl _ _ w.heap.size _ _ rfl HR.out.1 Tryz.underlying39 rfl (s_b16 _)) rfl ?_
      exact ⟨by rw [HQ.out.1, HQ.out.2]; rfl, HR.out.2⟩
end Go.Proofs.YtclkfmblogkakaaGreatDoor
namespace Go.Proofs.YtclkfmblogkakaaGreatDoor
open Go.RowKit Go.Shelf
set_option linter.unusedVariables false
attribute [local go_sem ↓] load_b16_rule store_b16_rule load_ad_rule store_ad_rule load_px_rule store_px_rule eq_b16_rule eq_ad_rule eq_px_rule build_ad_rule build_px_rule build_b16_rule

theorem wrap_b {x : Nat} (h : x < 256) : wrap64 (x : Int) = (x : Int) := by unfold wrap64; omega

set_option maxRecDepth 100000 in
set_option maxHeartbeats 1600000 in
theorem refdecode_any (a : Option Addr) (cap : Nat) (L : List Nat) (hB : Bys L) (hlm : L.length ≤ 6000) (w : World) (hL : Lies w a L) :
    Calls Tryz.prog 17 #[.slice a L.length cap] w fun e w' => e = .returned (.tuple #[.agg (decPX L).cs, .int .i64 (decPN L : Int), .int .i64 (decPE L)]) ∧ Below w.heap.size w w' := by
  obtain ⟨W1, hW1⟩ : ∃ W1, w.alloc (.cells Px.zero.cs 43) = W1 := ⟨_, rfl⟩
  have hb1 : Below w.heap.size w W1 := by rw [← hW1]; exact (Below.refl _ _).alloc (Nat.le_refl _) _
  have b1 : Blk W1 w.heap.size 43 Px.zero.cs := by rw [← hW1]; exact Blk.new w _ _
  have B0 := build_px0
  have HS := fun q w' (h : Below W1.heap.size W1 w') => st_px (q := q) (b1.later h)
  have HR := Lib.hid (fun q w' (h : Below W1.heap.size W1 w') => And.intro ((b1.later h).row (Px.cs q)) (below_setRow (bel_trans hb1 h) (Nat.le_refl _) (Px.cs q)))
  have h0 : Below W1.heap.size W1 W1 := Below.refl _ _
  have HL := Lib.hid (fun w' (h : Below W1.heap.size W1 w') => hL.kept (bel_trans hb1 h))
  have HLw := Lib.hid (And.intro hL (And.intro hb1 (show W1.heap.size = w.heap.size + 1 by rw [← hW1]; simp)))
  clear hb1 b1 hL
  have HWD := refwidth_any (by0 L : Int)
  by_cases h1 : L.length < 1
  · have d1 : decide ((L.length : Int) < 1) = true := decide_eq_true (by omega)
    have d1' : decide (L.length < 1) = true := decide_eq_true h1
    have hE : decPE L = 7 := if_pos h1
    have HQ := Lib.hid (And.intro hE (And.intro (show decPX L = Px.zero by unfold decPX; rw [hE]; rfl) (show decPN L = 0 by unfold decPN; rw [hE]; rfl)))
    have S0 := HS Px.zero W1 h0
    clear hE HS
    go_enter Tryz.func17, Tryz.ntmps17
    go_wp2_with (first | (with_reducible refine wpList_alloc_z rfl 43 rfl Px.zero.cs 18 z_px ?_; rw [hW1]) | (go_at_call 38; refine (HWD _).mono ?_; rintro e w2 ⟨rfl, rfl⟩))
    refine bodyPost_ret (results_blk2 rfl _ _ w.heap.size _ _ rfl (HR.out Px.zero W1 h0).1 Tryz.underlying43 rfl (s_px _)) rfl ?_
    exact ⟨by rw [HQ.out.1, HQ.out.2.1, HQ.out.2.2]; rfl, (HR.out Px.zero W1 h0).2⟩
  · rcases HLw.out.1 with hn | ⟨b, off, rfl, hbl, hc⟩
    · rw [hn] at h1; simp at h1
    have hc0 := hc 0 (by omega)
    rw [Nat.add_zero] at hc0
    have LC0 : ∀ w', Below W1.heap.size W1 w' → w'.cell? ⟨b, off, none⟩ = some (.int .u8 ((by0 L : Nat) : Int)) := fun w' h => ((bel_trans HLw.out.2.1 h).cell (cell_lt hc0)).trans hc0
    have hw0 := wrap_b (show by0 L < 256 from hB.at 0)
    have hyb : by0 L < 256 := hB.at 0
    have hwl := wid_le (by0 L : Int)
    have d1 : decide ((L.length : Int) < 1) = false := decide_eq_false (by omega)
    have d1' : decide (L.length < 1) = false := decide_eq_false h1
    have d0 : (0 : Int) < (L.length : Int) := by omega
    have d0' : 0 < L.length := by omega
    have hE0 : decPE L = if wid (by0 L : Int) = 0 then 151 else if L.length < 2 then 7 else if wid (by0 L : Int) < by1 L then 151 else bodyE L 2 (by1 L) 151 := if_neg h1
    by_cases h2 : wid (by0 L : Int) = 0
    · rw [h2] at HWD
      have hE : decPE L = 151 := hE0.trans (if_pos h2)
      have HQ := Lib.hid (And.intro hE (And.intro (show decPX L = Px.zero by unfold decPX; rw [hE]; rfl) (show decPN L = 0 by unfold decPN; rw [hE]; rfl)))
      have S0 := HS Px.zero W1 h0
      clear hE HS hE0 hc hc0 h2 hwl hbl
      go_enter Tryz.func17, Tryz.ntmps17
      go_wp2_with (first | (with_reducible refine wpList_alloc_z rfl 43 rfl Px.zero.cs 18 z_px ?_; rw [hW1]) | (go_at_call 38; refine (HWD _).mono ?_; rintro e w2 ⟨rfl, rfl⟩))
      refine bodyPost_ret (results_blk2 rfl _ _ w.heap.size _ _ rfl (HR.out Px.zero W1 h0).1 Tryz.underlying43 rfl (s_px _)) rfl ?_
      exact ⟨by rw [HQ.out.1, HQ.out.2.1, HQ.out.2.2]; rfl, (HR.out Px.zero W1 h0).2⟩
    · have hE1 := hE0.trans (if_neg h2)
      have d2 : (((wid (by0 L : Int) : Nat) : Int) == 0) = false := by simp; omega
      by_cases h3 : L.length < 2
      · have d3 : decide ((L.length : Int) < 2) = true := decide_eq_true (by omega)
        have d3' : decide (L.length < 2) = true := decide_eq_true h3
        have hE : decPE L = 7 := hE1.trans (if_pos h3)
        have HQ := Lib.hid (And.intro hE (And.intro (show decPX L = Px.zero by unfold decPX; rw [hE]; rfl) (show decPN L = 0 by unfold decPN; rw [hE]; rfl)))
        have S0 := HS Px.zero W1 h0
        clear hE HS hE0 hE1 hc hc0 h2 hbl
        go_enter Tryz.func17, Tryz.ntmps17
        go_wp2_with (first | (with_reducible refine wpList_alloc_z rfl 43 rfl Px.zero.cs 18 z_px ?_; rw [hW1]) | (go_at_call 38; refine (HWD _).mono ?_; rintro e w2 ⟨rfl, rfl⟩))
        refine bodyPost_ret (results_blk2 rfl _ _ w.heap.size _ _ rfl (HR.out Px.zero W1 h0).1 Tryz.underlying43 rfl (s_px _)) rfl ?_
        exact ⟨by rw [HQ.out.1, HQ.out.2.1, HQ.out.2.2]; rfl, (HR.out Px.zero W1 h0).2⟩
      · have d3 : decide ((L.length : Int) < 2) = false := decide_eq_false (by omega)
        have d3' : decide (L.length < 2) = false := decide_eq_false h3
        have d4 : (1 : Int) < (L.length : Int) := by omega
        have d4' : 1 < L.length := by omega
        have hE2 := hE1.trans (if_neg h3)
        have hc1 := hc 1 (by omega)
        have LC1 : ∀ w', Below W1.heap.size W1 w' → w'.cell? ⟨b, off + 1, none⟩ = some (.int .u8 ((by1 L : Nat) : Int)) := fun w' h => ((bel_trans HLw.out.2.1 h).cell (cell_lt hc1)).trans hc1
        have hw1 := wrap_b (show by1 L < 256 from hB.at 1)
        have hyb1 : by1 L < 256 := hB.at 1
        by_cases h4 : wid (by0 L : Int) < by1 L
        · have d5 : decide (((wid (by0 L : Int) : Nat) : Int) < ((by1 L : Nat) : Int)) = true := decide_eq_true (by omega)
          have d5' : decide (wid (by0 L : Int) < by1 L) = true := decide_eq_true h4
          have hE : decPE L = 151 := hE2.trans (if_pos h4)
          have HQ := Lib.hid (And.intro hE (And.intro (show decPX L = Px.zero by unfold decPX; rw [hE]; rfl) (show decPN L = 0 by unfold decPN; rw [hE]; rfl)))
          have S0 := HS Px.zero W1 h0
          clear hE HS hE0 hE1 hE2 hc hc0 hc1 h2 hbl
          go_enter Tryz.func17, Tryz.ntmps17
          go_wp2_with (first | (with_reducible refine wpList_alloc_z rfl 43 rfl Px.zero.cs 18 z_px ?_; rw [hW1]) | (go_at_call 38; refine (HWD _).mono ?_; rintro e w2 ⟨rfl, rfl⟩))
          refine bodyPost_ret (results_blk2 rfl _ _ w.heap.size _ _ rfl (HR.out Px.zero W1 h0).1 Tryz.underlying43 rfl (s_px _)) rfl ?_
          exact ⟨by rw [HQ.out.1, HQ.out.2.1, HQ.out.2.2]; rfl, (HR.out Px.zero W1 h0).2⟩
        · have hE := hE2.trans (if_neg h4)
          have d5 : decide (((wid (by0 L : Int) : Nat) : Int) < ((by1 L : Nat) : Int)) = false := decide_eq_false (by omega)
          have d5' : decide (wid (by0 L : Int) < by1 L) = false := decide_eq_false h4
          have hb128 : by1 L ≤ 128 := by omega
          have HSM := fun w' (h : Below W1.heap.size W1 w') => some_any (some ⟨b, off, none⟩) cap L 2 (by1 L) 151 (by omega) (by omega) hb128 (by omega) hB hlm w' (HL.out w' h)
          have hdv : ((by1 L : Int) + 7) / 8 = ((fill8 (by1 L) : Nat) : Int) := by unfold fill8; omega
          have hf8 := f16 hb128
          by_cases h5 : bodyE L 2 (by1 L) 151 = 0
          · have HQ := Lib.hid (And.intro (hE.trans h5) (And.intro (show decPX L = ⟨⟨(by0 L : Int), padF L 2 (by1 L)⟩, (by1 L : Int)⟩ by unfold decPX; rw [hE, h5]; rfl) (show decPN L = 2 + fill8 (by1 L) by unfold decPN; rw [hE, h5]; rfl)))
            rw [h5, show someX L 2 (by1 L) 151 = padF L 2 (by1 L) from if_pos h5] at HSM
            have B1 := build_ad (by0 L : Int) (padF L 2 (by1 L))
            have B2 := build_px ⟨(by0 L : Int), padF L 2 (by1 L)⟩ (by1 L : Int)
            clear hE hE0 hE1 hE2 h2 h5
            generalize padF L 2 (by1 L) = X at *
            generalize fill8 (by1 L) = f8 at *
            generalize wid (by0 L : Int) = ww at *
            generalize by0 L = y at *
            generalize by1 L = z at *
            go_enter Tryz.func17, Tryz.ntmps17
            go_wp2_with (first | (with_reducible refine wpList_alloc_z rfl 43 rfl Px.zero.cs 18 z_px ?_; rw [hW1]) | (go_at_call 38; refine (HWD _).mono ?_; rintro e w2 ⟨rfl, rfl⟩))
            refine (HSM _ (by first | assumption | exact bel_drew h0)).mono ?_
            rintro e w3 ⟨rfl, hb3⟩
            have h3 : Below W1.heap.size W1 w3 := bel_trans (by first | exact h0 | exact bel_drew h0) hb3
            have Sw4 := st_b16 (q := X) (Blk.new w3 39 B16.zero.cs)
            rw [World.setRow_alloc_new] at Sw4
            obtain ⟨w4, hww4⟩ : ∃ x, w3.alloc (.cells (X).cs 39) = x := ⟨_, rfl⟩
            rw [hww4] at Sw4
            have bw4 : Blk w4 w3.heap.size 39 (X).cs := by rw [← hww4]; exact Blk.new _ _ _
            have hbw4 : Below w3.heap.size w3 w4 := by rw [← hww4]; exact (Below.refl _ _).alloc (Nat.le_refl _) _
            have h4 : Below W1.heap.size W1 w4 := bel_trans h3 hbw4
            have h04 : Below w4.heap.size w4 w4 := Below.refl _ _
            have hk4 : Below W1.heap.size W1 w4.drew := bel_drew h4
            have LX := b16_ld bw4 w4.drew (bel_drew h04)
            have S9 := HS ⟨⟨(y : Int), X⟩, (z : Int)⟩ w4.drew (bel_drew h4)
            have HR9 := Lib.hid (HR.out ⟨⟨(y : Int), X⟩, (z : Int)⟩ w4.drew (bel_drew h4))
            have hwi : IntKind.i64.wrap ((y : Nat) : Int) = (y : Int) := (by first | (rw [IntKind.wrap_i64]; omega) | (show wrap64 _ = _; unfold wrap64; omega))
            have hwz : IntKind.i64.wrap ((z : Nat) : Int) = (z : Int) := (by first | (rw [IntKind.wrap_i64]; omega) | (show wrap64 _ = _; unfold wrap64; omega))
            have hw7 : IntKind.i64.wrap ((z : Int) + 7) = (z : Int) + 7 := (by first | (rw [IntKind.wrap_i64]; omega) | (show wrap64 _ = _; unfold wrap64; omega))
            have hw8 : IntKind.i64.wrap ((f8 : Nat) : Int) = (f8 : Int) := (by first | (rw [IntKind.wrap_i64]; omega) | (show wrap64 _ = _; unfold wrap64; omega))
            have hw9 : IntKind.i64.wrap (2 + (f8 : Int)) = 2 + (f8 : Int) := (by first | (rw [IntKind.wrap_i64]; omega) | (show wrap64 _ = _; unfold wrap64; omega))
            have ht8 : ((z : Int) + 7).tdiv 8 = (f8 : Int) := by rw [Int.tdiv_eq_ediv_of_nonneg (by omega)]; exact hdv
            clear hww4 bw4 hb3 h3 hbw4 HSM HWD HS hc hc0 hc1
            go_wp2_with (first | (with_reducible refine wpList_alloc_z rfl 39 rfl B16.zero.cs 16 z_b16 ?_))
            go_region_with fail
            all_goals go_wp2_with fail
            all_goals refine bodyPost_ret (results_blk2 rfl _ _ w.heap.size _ _ rfl HR9.out.1 Tryz.underlying43 rfl (s_px _)) rfl ?_
            all_goals exact ⟨by rw [HQ.out.1, HQ.out.2.1, HQ.out.2.2]; first | rfl | (simp only [ht8, hw8, hw9]; rfl), HR9.out.2⟩
          · have hx0 : someX L 2 (by1 L) 151 = B16.zero := if_neg h5
            have HQ := Lib.hid (And.intro hE (And.intro (show decPX L = Px.zero by unfold decPX; rw [hE]; exact if_neg h5) (show decPN L = 0 by unfold decPN; rw [hE]; exact if_neg h5)))
            have hd0 : (bodyE L 2 (by1 L) 151 != 0) = true := by simpa using h5
            rw [hx0] at HSM
            clear hE hE0 hE1 hE2 h2 h5 hx0
            generalize bodyE L 2 (by1 L) 151 = E at *
            generalize wid (by0 L : Int) = ww at *
            generalize by0 L = y at *
            generalize by1 L = z at *
            go_enter Tryz.func17, Tryz.ntmps17
            go_wp2_with (first | (with_reducible refine wpList_alloc_z rfl 43 rfl Px.zero.cs 18 z_px ?_; rw [hW1]) | (go_at_call 38; refine (HWD _).mono ?_; rintro e w2 ⟨rfl, rfl⟩))
            refine (HSM _ (by first | assumption | exact bel_drew h0)).mono ?_
            rintro e w3 ⟨rfl, hb3⟩
            have h3 : Below W1.heap.size W1 w3 := bel_trans (by first | exact h0 | exact bel_drew h0) hb3
            have Sw4 := st_b16 (q := B16.zero) (Blk.new w3 39 B16.zero.cs)
            rw [World.setRow_alloc_new] at Sw4
            obtain ⟨w4, hww4⟩ : ∃ x, w3.alloc (.cells (B16.zero).cs 39) = x := ⟨_, rfl⟩
            rw [hww4] at Sw4
            have bw4 : Blk w4 w3.heap.size 39 (B16.zero).cs := by rw [← hww4]; exact Blk.new _ _ _
            have hbw4 : Below w3.heap.size w3 w4 := by rw [← hww4]; exact (Below.refl _ _).alloc (Nat.le_refl _) _
            have h4 : Below W1.heap.size W1 w4 := bel_trans h3 hbw4
            have S0 := HS Px.zero w4 h4
            clear bw4 hb3 h3 hbw4 HSM HWD hc hc0 hc1
            go_wp2_with (first | (with_reducible refine wpList_alloc_z rfl 39 rfl B16.zero.cs 16 z_b16 ?_; rw [hww4]))
            refine bodyPost_ret (results_blk2 rfl _ _ w.heap.size _ _ rfl (HR.out Px.zero w4 h4).1 Tryz.underlying43 rfl (s_px _)) rfl ?_
            exact ⟨by rw [HQ.out.1, HQ.out.2.1, HQ.out.2.2]; rfl, (HR.out Px.zero w4 h4).2⟩
end Go.Proofs.YtclkfmblogkakaaGreatDoor
namespace Go.Proofs.YtclkfmblogkakaaGreatDoor
open Go.RowKit Go.Shelf
set_option linter.unusedVariables false
set_option maxRecDepth 100000
attribute [local go_sem ↓] load_ro_rule store_ro_rule
set_option maxHeartbeats 4000000 in
theorem rright11_any (a : Option Addr) (n c : Nat) (L : List Ro) (w : World) (hn : L.length = n) (hs : n ≤ 1000000) (hR : RoAt w a L) :
    Calls Tryz.prog 18 #[.agg #[.slice a n c]] w fun e w' => e = .returned (.bool (decide (okRib L))) ∧ Below w.heap.size w w' := by
  obtain ⟨W1, hW1⟩ : ∃ W1, w.alloc (.cells #[.slice a n c] 26) = W1 := ⟨_, rfl⟩
  have hb1 : Below w.heap.size w W1 := by rw [← hW1]; exact (Below.refl _ _).alloc (Nat.le_refl _) _
  have b1 : Blk W1 w.heap.size 26 #[.slice a n c] := by rw [← hW1]; exact Blk.new _ _ _
  have CT : ∀ w', Below W1.heap.size W1 w' → w'.cell? ⟨w.heap.size, 0, none⟩ = some (.slice a n c) := fun w' k => (b1.later k).cell 0
  have CT1 := CT W1 (Below.refl _ _)
  have HR := Lib.hid (fun (w' : World) (h : Below W1.heap.size W1 w') => (hR.later hb1).later h)
  have HB := Lib.hid (And.intro hb1 hn)
  clear hb1 b1 hR hn
  by_cases h160 : 160 < n
  · have d0 : (160 : Int) < (n : Int) := by omega
    have HV := Lib.hid (decide_eq_false (fun h : okRib L => by have := okRib_len h; have := HB.out.2; omega))
    clear CT
    go_enter Tryz.func18, Tryz.ntmps18
    go_wp2
    go_ret
    exact ⟨by rw [HV.out]; rfl, HB.out.1⟩
  have d0 : ¬ ((160 : Int) < (n : Int)) := by omega
  go_enter Tryz.func18, Tryz.ntmps18
  go_wp2_with fail
  clear CT1
  go_loopw [3] (fun i wr => ∃ k : Nat, k ≤ n ∧ i = .int .i64 (k : Int) ∧ (∀ j, j < k → okRo (rog L j)) ∧ (∀ j, j + 1 < k → cmpR (rog L j) (rog L (j + 1)) < 0) ∧ Below W1.heap.size W1 wr) (fun i _ => n - (intOf i).toNat)
  case atStart => exact ⟨0, Nat.zero_le _, rfl, fun j hj => absurd hj (Nat.not_lt_zero _), fun j hj => absurd hj (Nat.not_lt_zero _), Below.refl _ _⟩
  case round =>
    obtain ⟨k, hk, rfl, hok, hup, hkb⟩ := hrel
    have CT3 : ∀ w', Below wr.heap.size wr w' → w'.cell? ⟨w.heap.size, 0, none⟩ = some (.slice a n c) := fun w' h => CT w' (bel_trans hkb h)
    have CT4 := CT3 wr (Below.refl _ _)
    have h03 : Below wr.heap.size wr wr := Below.refl _ _
    by_cases hlt : k < n
    · have hkl : k < L.length := by have := HB.out.2; omega
      obtain ⟨g, o, hao, hrow⟩ := (HR.out wr hkb).spot hkl
      have LK : ∀ w', Below wr.heap.size wr w' → (loadSem 57 (.pointer (some ⟨g, o + k * 21, none⟩))).run Tryz.prog w' = .ok (.agg (rog L k).cs) w' := fun w' h => (hrow.later h).load hkl
      have HCR := fun w' => rfits_any (rog L k) w'
      have HK := Lib.hid (And.intro hok (And.intro hup (And.intro hkb (And.intro hkl hrow))))
      have HCT0 := Lib.hid CT
      clear hrow hok hup hkb CT hkl
      subst hao
      by_cases he : okRo (rog L k)
      · simp only [decide_eq_true he] at HCR
        by_cases hk0 : k = 0
        · subst hk0
          simp only [Nat.zero_mul, Nat.add_zero] at LK
          go_upto_region 6 with fail
          refine wp_region_lin (fun w' => Below wr.heap.size wr w') (by kernel_rfl) (by kernel_rfl) (bel_drew h03) ?_
          (repeat (first | (refine lin_off (by rfl) ?_; (try simp only [Act.put, List.setIfInBounds_toArray, List.set_cons_zero, List.set_cons_succ])) | (refine lin_op (v := ?_) (by rfl) (fun w9 hS9 => ?_) ?_; rotate_left; (focus (((try dsimp only at hS9); go_simp; (try go_bits)) <;> with_reducible rfl)); (try simp only [Act.put, List.setIfInBounds_toArray, List.set_cons_zero, List.set_cons_succ])) | (refine lin_fn (f := 40) (args := #[.agg (rog L 0).cs]) (by rfl) rfl rfl (enters_of Tryz.func40 (by kernel_rfl) rfl) (fun w9 hS9 => (HCR w9).mono fun e w' h => ⟨h.1, bel_trans hS9 h.2⟩) ?_ ?_; (focus (simp [Act.eval]; done)); (try simp only [Act.put, List.setIfInBounds_toArray, List.set_cons_zero, List.set_cons_succ])) | (refine lin_fn (f := 41) (args := #[.agg (rog L m).cs, .agg (rog L (m + 1)).cs]) (by rfl) rfl rfl (enters_of Tryz.func41 (by kernel_rfl) rfl) (fun w9 hS9 => (HCT w9).mono fun e w' h => ⟨h.1, bel_trans hS9 h.2⟩) ?_ ?_; (focus (simp [Act.eval]; done)); (try simp only [Act.put, List.setIfInBounds_toArray, List.set_cons_zero, List.set_cons_succ]))))
          refine lin_nil (fun w4 hb4 => ?_)
          go_wp2
          go_roundw
          case rel => exact ⟨0 + 1, by omega, by go_num, fun j hj => by
            obtain rfl : j = 0 := by omega
            exact he, fun j hj => by omega, bel_trans HK.out.2.2.1 hb4⟩
          case measure => simp [intOf]; omega
        · obtain ⟨m, rfl⟩ : ∃ m, k = m + 1 := ⟨k - 1, by omega⟩
          have LP : ∀ w', Below wr.heap.size wr w' → (loadSem 57 (.pointer (some ⟨g, o + m * 21, none⟩))).run Tryz.prog w' = .ok (.agg (rog L m).cs) w' := fun w' h => (HK.out.2.2.2.2.later h).load (i := m) (by have := HK.out.2.2.2.1; omega)
          have HCT := fun w' => rahead_any (rog L m) (rog L (m + 1)) w'
          have e1 : ((m : Int) + 1).toNat = m + 1 := by omega
          have g0 : (0 : Int) < (m : Int) + 1 := by omega
          have g1 : (m : Int) < (n : Int) := by omega
          have g2 : (0 : Int) ≤ (m : Int) + 1 := by omega
          have g3 : (m : Int) + 1 < (n : Int) := by omega
          by_cases hvl : cmpR (rog L m) (rog L (m + 1)) < 0
          · simp only [decide_eq_true hvl] at HCT
            have HV := Lib.hid hvl
            clear hvl
            go_upto_region 6 with fail
            refine wp_region_lin (fun w' => Below wr.heap.size wr w') (by kernel_rfl) (by kernel_rfl) (bel_drew h03) ?_
            (repeat (first | (refine lin_off (by rfl) ?_; (try simp only [Act.put, List.setIfInBounds_toArray, List.set_cons_zero, List.set_cons_succ])) | (refine lin_op (v := ?_) (by rfl) (fun w9 hS9 => ?_) ?_; rotate_left; (focus (((try dsimp only at hS9); go_simp; (try go_bits)) <;> with_reducible rfl)); (try simp only [Act.put, List.setIfInBounds_toArray, List.set_cons_zero, List.set_cons_succ])) | (refine lin_fn (f := 40) (args := #[.agg (rog L (m + 1)).cs]) (by rfl) rfl rfl (enters_of Tryz.func40 (by kernel_rfl) rfl) (fun w9 hS9 => (HCR w9).mono fun e w' h => ⟨h.1, bel_trans hS9 h.2⟩) ?_ ?_; (focus (simp [Act.eval]; done)); (try simp only [Act.put, List.setIfInBounds_toArray, List.set_cons_zero, List.set_cons_succ])) | (refine lin_fn (f := 41) (args := #[.agg (rog L m).cs, .agg (rog L (m + 1)).cs]) (by rfl) rfl rfl (enters_of Tryz.func41 (by kernel_rfl) rfl) (fun w9 hS9 => (HCT w9).mono fun e w' h => ⟨h.1, bel_trans hS9 h.2⟩) ?_ ?_; (focus (simp [Act.eval]; done)); (try simp only [Act.put, List.setIfInBounds_toArray, List.set_cons_zero, List.set_cons_succ]))))
            refine lin_nil (fun w4 hb4 => ?_)
            go_wp2
            go_roundw
            case rel => exact ⟨m + 1 + 1, by omega, by go_num, fun j hj => by
              by_cases e : j = m + 1
              · rw [e]; exact he
              · exact HK.out.1 j (by omega), fun j hj => by
              by_cases e : j = m
              · rw [e]; exact HV.out
              · exact HK.out.2.1 j (by omega), bel_trans HK.out.2.2.1 hb4⟩
            case measure => simp [intOf]; omega
          · simp only [decide_eq_false hvl] at HCT
            have HV := Lib.hid (decide_eq_false (fun h : okRib L => hvl (h.2.1 m HK.out.2.2.2.1)))
            clear hvl
            go_upto_region 6 with fail
            refine wp_region_lin (fun w' => Below wr.heap.size wr w') (by kernel_rfl) (by kernel_rfl) (bel_drew h03) ?_
            (repeat (first | (refine lin_off (by rfl) ?_; (try simp only [Act.put, List.setIfInBounds_toArray, List.set_cons_zero, List.set_cons_succ])) | (refine lin_op (v := ?_) (by rfl) (fun w9 hS9 => ?_) ?_; rotate_left; (focus (((try dsimp only at hS9); go_simp; (try go_bits)) <;> with_reducible rfl)); (try simp only [Act.put, List.setIfInBounds_toArray, List.set_cons_zero, List.set_cons_succ])) | (refine lin_fn (f := 40) (args := #[.agg (rog L (m + 1)).cs]) (by rfl) rfl rfl (enters_of Tryz.func40 (by kernel_rfl) rfl) (fun w9 hS9 => (HCR w9).mono fun e w' h => ⟨h.1, bel_trans hS9 h.2⟩) ?_ ?_; (focus (simp [Act.eval]; done)); (try simp only [Act.put, List.setIfInBounds_toArray, List.set_cons_zero, List.set_cons_succ])) | (refine lin_fn (f := 41) (args := #[.agg (rog L m).cs, .agg (rog L (m + 1)).cs]) (by rfl) rfl rfl (enters_of Tryz.func41 (by kernel_rfl) rfl) (fun w9 hS9 => (HCT w9).mono fun e w' h => ⟨h.1, bel_trans hS9 h.2⟩) ?_ ?_; (focus (simp [Act.eval]; done)); (try simp only [Act.put, List.setIfInBounds_toArray, List.set_cons_zero, List.set_cons_succ]))))
            refine lin_nil (fun w4 hb4 => ?_)
            go_wp2
            go_ret
            exact ⟨by rw [HV.out]; rfl, bel_trans HB.out.1 (bel_trans HK.out.2.2.1 hb4)⟩
      · simp only [decide_eq_false he] at HCR
        have HV := Lib.hid (decide_eq_false (fun h : okRib L => he (h.1 k HK.out.2.2.2.1)))
        clear he
        go_upto_region 6 with fail
        refine wp_region_lin (fun w' => Below wr.heap.size wr w') (by kernel_rfl) (by kernel_rfl) (bel_drew h03) ?_
        (repeat (first | (refine lin_off (by rfl) ?_; (try simp only [Act.put, List.setIfInBounds_toArray, List.set_cons_zero, List.set_cons_succ])) | (refine lin_op (v := ?_) (by rfl) (fun w9 hS9 => ?_) ?_; rotate_left; (focus (((try dsimp only at hS9); go_simp; (try go_bits)) <;> with_reducible rfl)); (try simp only [Act.put, List.setIfInBounds_toArray, List.set_cons_zero, List.set_cons_succ])) | (refine lin_fn (f := 40) (args := #[.agg (rog L k).cs]) (by rfl) rfl rfl (enters_of Tryz.func40 (by kernel_rfl) rfl) (fun w9 hS9 => (HCR w9).mono fun e w' h => ⟨h.1, bel_trans hS9 h.2⟩) ?_ ?_; (focus (simp [Act.eval]; done)); (try simp only [Act.put, List.setIfInBounds_toArray, List.set_cons_zero, List.set_cons_succ])) | (refine lin_fn (f := 41) (args := #[.agg (rog L m).cs, .agg (rog L (m + 1)).cs]) (by rfl) rfl rfl (enters_of Tryz.func41 (by kernel_rfl) rfl) (fun w9 hS9 => (HCT w9).mono fun e w' h => ⟨h.1, bel_trans hS9 h.2⟩) ?_ ?_; (focus (simp [Act.eval]; done)); (try simp only [Act.put, List.setIfInBounds_toArray, List.set_cons_zero, List.set_cons_succ]))))
        refine lin_nil (fun w4 hb4 => ?_)
        go_wp2
        go_ret
        exact ⟨by rw [HV.out]; rfl, bel_trans HB.out.1 (bel_trans HK.out.2.2.1 hb4)⟩
    · have hkn : k = n := by omega
      have HF := rprefixes_any a n c L wr HB.out.2 hs (HR.out wr hkb)
      have i1 : ¬ ((k : Int) < (n : Int)) := by omega
      have HK := Lib.hid (And.intro hok (And.intro hup (And.intro hkb hkn)))
      have hdl : disN L n ≤ n := disN_le L n
      clear hok hup hkb hkn CT CT3
      go_wp2_with fail
      refine HF.mono ?_
      rintro e W3 ⟨rfl, hb3⟩
      have HV := Lib.hid (show decide (okRib L) = decide (((disN L n : Nat) : Int) ≤ 40) from decide_eq_decide.2 ⟨fun h => by have := ((okRib_iff L).1 h).2.2.2; rw [HB.out.2] at this; omega, fun h => (okRib_iff L).2 ⟨by have := HB.out.2; omega, fun j hj => HK.out.1 j (by have := HB.out.2; have := HK.out.2.2.2; omega), fun j hj => HK.out.2.1 j (by have := HB.out.2; have := HK.out.2.2.2; omega), by rw [HB.out.2]; omega⟩⟩)
      clear HF
      go_wp2_with fail
      go_ret
      exact ⟨by rw [HV.out]; first | rfl | (simp; omega), bel_trans HB.out.1 (bel_trans HK.out.2.2.1 hb3)⟩
end Go.Proofs.YtclkfmblogkakaaGreatDoor
