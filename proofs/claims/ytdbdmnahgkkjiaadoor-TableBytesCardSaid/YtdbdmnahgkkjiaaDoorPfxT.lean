/-
  The contract of the reference's some. Nothing here is a statement of the document.
-/
import Derived.Test.YtdbdmnahgkkjiaaDoorLinZ
import Derived.Test.YtdbdmnahgkkjiaaDoorPfxR
namespace Go.Proofs.YtdbdmnahgkkjiaaDoor
open Go.RowKit Go.Shelf
set_option linter.unusedVariables false
attribute [local go_sem ↓] load_b16_rule store_b16_rule load_ad_rule store_ad_rule load_px_rule store_px_rule eq_b16_rule eq_ad_rule eq_px_rule build_ad_rule build_px_rule build_b16_rule

theorem pad_more (l : List Nat) (hB : Bys l) (i : Nat) (hi : i < 16) (hl : i < l.length) : ∀ j, j < 16 → (padB (l.take (i + 1))).at j = if j = i then l.getD i 0 else (padB (l.take i)).at j := fun j hj => by
  rw [padB_at _ (hB.take2 _) j hj, padB_at _ (hB.take2 _) j hj]
  simp only [List.getD_eq_getElem?_getD, List.getElem?_take]
  by_cases h : j = i
  · subst h; simp
  · rw [if_neg h]
    by_cases h2 : j < i
    · rw [if_pos (by omega), if_pos h2]
    · rw [if_neg (by omega), if_neg h2]
theorem b16_set {b c : B16} {k x : Nat} (hk : k < 16) (h : ∀ i, i < 16 → c.at i = if i = k then x else b.at i) : b.cs.setIfInBounds k (.int .u8 (x : Int)) = c.cs := by
  apply Array.ext_getElem?
  intro i
  rw [Array.getElem?_setIfInBounds]
  by_cases h1 : i < 16
  · rw [c.get i h1, h i h1, b.get i h1]
    by_cases h2 : k = i
    · subst h2; simp [b.size, hk]
    · rw [if_neg h2, if_neg (fun e => h2 e.symm)]
  · have e1 : c.cs[i]? = none := Array.getElem?_eq_none (by rw [c.size]; omega)
    have e2 : b.cs[i]? = none := Array.getElem?_eq_none (by rw [b.size]; omega)
    rw [e1, e2, if_neg (by omega)]
theorem pad_nil : padB [] = B16.zero := by
  apply B16.ext_at
  intro i hi
  rw [padB_at [] (fun m hm => by simp at hm) i hi]
  have : ∀ i, i < 16 → B16.zero.at i = 0 := by decide +kernel
  rw [this i hi]
  rfl
theorem build_b16z (w : World) : (buildSem 34 #[]).run Tryd.prog w = .ok (.agg B16.zero.cs) w := by kernel_rfl
theorem st_b16 {w : World} {g : Nat} {p q : B16} (h : Blk w g 34 p.cs) : (storeSem 34 (.pointer (some ⟨g, 0, none⟩)) (.agg q.cs)).run Tryd.prog w = .ok () (w.setRow g q.cs) := by
  have := storeRes_of (P := Tryd.prog) (ty := 34) (o := 0) (vs := q.cs) h (by rw [B16.size, B16.size]; omega) (s_b16 q) q.one
  rwa [over_all (by rw [B16.size, B16.size])] at this
theorem b16_ld {W : World} {g : Nat} {b : B16} (h : Blk W g 34 b.cs) : ∀ w', Below W.heap.size W w' → (loadSem 34 (.pointer (some ⟨g, 0, none⟩))).run Tryd.prog w' = .ok (.agg b.cs) w' :=
  fun w' k => loadRes_of (o := 0) (h.later k) (fun q _ => by rw [Nat.zero_add]) _ Tryd.underlying34 rfl (s_b16 b)
noncomputable def someX (L : List Nat) (k n : Nat) (wrong : Int) : B16 := if bodyE L k n wrong = 0 then padF L k n else B16.zero

set_option maxRecDepth 100000 in
set_option maxHeartbeats 1600000 in
theorem some_any (a : Option Addr) (cap : Nat) (L : List Nat) (k n : Nat) (wrong : Int) (hk : k ≤ 2) (hkl : k ≤ L.length) (hn : n ≤ 128) (hwr : wrong ≠ 0) (hB : Bys L) (hlm : L.length ≤ 4000) (w : World) (hL : Lies w a L) :
    Calls Tryd.prog 56 #[.slice a L.length cap, .int .i64 (k : Int), .int .i64 (n : Int), .int .i64 wrong] w fun e w' => e = .returned (.tuple #[.agg (someX L k n wrong).cs, .int .i64 (bodyE L k n wrong)]) ∧ Below w.heap.size w w' := by
  have HX := Lib.hid (And.intro hB hL)
  have HE := Lib.hid (And.intro (show ∀ e, bodyE L k n wrong = e → bodyE L k n wrong = e from fun _ h => h) hwr)
  have hf := f16 hn
  have hfn := fill_ge n
  have hfd : fill8 n = (n + 7) / 8 := rfl
  obtain ⟨f, hff⟩ : ∃ f, fill8 n = f := ⟨_, rfl⟩
  rw [hff] at hf hfn hfd
  have B0 := build_b16z
  clear hB hL hwr
  go_enter Tryd.func56, Tryd.ntmps56
  go_wp2_with (first | (with_reducible refine wpList_alloc_z rfl 34 rfl B16.zero.cs 16 z_b16 ?_))
  go_loopw [11, 12] (fun i kk wr => ∃ m : Nat, m ≤ f ∧ k + m ≤ L.length ∧ i = .int .i64 m ∧ Blk wr (w.heap.size + 1) 34 (padB ((L.drop k).take m)).cs ∧ Blk wr w.heap.size 34 B16.zero.cs ∧ Below w.heap.size w wr ∧ (∀ j, n ≤ j → j < 8 * m → bt (padB ((L.drop k).take m)) j = false)) (fun i kk _ => f - (intOf i).toNat)
  case atStart =>
    refine ⟨0, Nat.zero_le _, hkl, rfl, ?_, ?_, ?_, fun j _ h => by omega⟩
    · rw [List.take_zero, pad_nil]
      have h9 := Blk.new (w.alloc (.cells B16.zero.cs 34)) 34 B16.zero.cs
      rw [World.size_alloc] at h9
      exact h9
    · exact (Blk.new w 34 B16.zero.cs).alloc _
    · exact ((Below.refl _ _).alloc (Nat.le_refl _) _).alloc (by simp) _
  case round =>
    obtain ⟨m, hm, hkm, rfl, hx, hr, hb, hcl⟩ := hrel
    by_cases hlt : m < f
    · have d1 : decide ((8 : Int) * (m : Int) < (n : Int)) = true := by simp; omega
      by_cases hs : L.length ≤ k + m
      · have d2 : decide ((L.length : Int) ≤ (k : Int) + (m : Int)) = true := by simp; omega
        have S1 := st_b16 (q := B16.zero) hr
        have HR := Lib.hid (And.intro (hr.row B16.zero.cs) (below_setRow hb (Nat.le_refl _) B16.zero.cs))
        have HQ := Lib.hid (show bodyE L k n wrong = 7 from if_pos (by rw [hff]; omega))
        clear hx hr hb hcl
        go_wp2
        refine bodyPost_ret (results_blk rfl _ _ w.heap.size _ _ rfl HR.out.1 Tryd.underlying34 rfl (s_b16 _)) rfl ?_
        exact ⟨by unfold someX; rw [HQ.out]; rfl, HR.out.2⟩
      · have d2 : decide ((L.length : Int) ≤ (k : Int) + (m : Int)) = false := by simp; omega
        rcases HX.out.2 with h0 | ⟨b, off, rfl, hbl, hc⟩
        · rw [h0] at hs; simp at hs
        have hB := HX.out.1
        obtain ⟨t, ht⟩ : ∃ t, k + m = t := ⟨_, rfl⟩
        have hcw : wr.cell? ⟨b, off + t, none⟩ = some (.int .u8 ((L.getD t 0 : Nat) : Int)) := (hb.cell (cell_lt (hc t (by omega)))).trans (hc t (by omega))
        have hy := hB.at t
        have hmore := pad_more (L.drop k) (hB.drop2 k) m (by omega) (by rw [List.length_drop]; omega)
        have hgd : (L.drop k).getD m 0 = L.getD t 0 := by rw [← ht]; simp
        rw [hgd] at hmore
        generalize L.getD t 0 = y at *
        have hfz := hx.free m
        have hcx : wr.cell? ⟨w.heap.size + 1, m, none⟩ = some (.int .u8 ((padB ((L.drop k).take m)).at m : Int)) := (hx.cell m).trans ((padB ((L.drop k).take m)).get m (by omega))
        have hx2 := hx.set m (.int .u8 (y : Int))
        rw [b16_set (by omega) hmore] at hx2
        have hr2 := hr.far (p := ⟨w.heap.size + 1, m, none⟩) (by simp) (.int .u8 (y : Int))
        have hb2 := hb.setCell (p := ⟨w.heap.size + 1, m, none⟩) (by simp) (.int .u8 (y : Int))
        have q1 : (k : Int) + (m : Int) = (t : Int) := by omega
        have d3 : decide (L.length ≤ t) = false := by simp; omega
        have d4 : decide ((L.length : Int) ≤ (t : Int)) = false := by simp; omega
        have q3 : (m : Int) < 16 := by omega
        have q4 : (t : Int) < (L.length : Int) := by omega
        have hpt : ∀ q, n ≤ q → q < 8 * (m + 1) → m + 1 = f := fun q h1 h2 => by omega
        obtain ⟨X, hXX⟩ : ∃ X, padB ((L.drop k).take (m + 1)) = X := ⟨_, rfl⟩
        rw [hXX] at hx2
        have HM := Lib.hid (And.intro hx2 (And.intro hr2 (And.intro hb2 (And.intro hXX hpt))))
        have HT := Lib.hid (And.intro ht hs)
        clear hx2 hr2 hb2 hXX hpt hmore hgd hcl hr hB hbl hc ht
        go_wp2
        go_loopw [12] (fun kk wi => ∃ q : Nat, n ≤ q ∧ q ≤ 256 ∧ kk = .int .i64 q ∧ (∀ j, n ≤ j → j < q → bt X j = false) ∧ Blk wi (w.heap.size + 1) 34 X.cs ∧ Blk wi w.heap.size 34 B16.zero.cs ∧ Below w.heap.size w wi) (fun kk _ => 256 - (intOf kk).toNat)
        case atStart => exact ⟨n, Nat.le_refl _, by omega, rfl, fun j _ _ => by omega, HM.out.1, HM.out.2.1, HM.out.2.2.1⟩
        case round =>
          obtain ⟨q, hq0, hq1, rfl, hq2, hx5, hr5, hb5⟩ := hrel
          clear hcw hx hb hfz hcx
          by_cases hq : q < 8 * (m + 1)
          · have d5 : decide ((q : Int) < (8 : Int) * (m : Int) + 8) = true := by simp; omega
            have hat := at_any X q (by omega)
            have LX := b16_ld hx5 _ (Below.refl _ _)
            cases hbt : bt X q with
            | true =>
              rw [btI_on hbt] at hat
              have hm1 := HM.out.2.2.2.2 q hq0 hq
              have hpX : padF L k n = X := by unfold padF; rw [hff, ← hm1]; exact HM.out.2.2.2.1
              have hbody : bodyE L k n wrong = wrong := by
                unfold bodyE
                rw [hff, hpX, if_neg (by have := HT.out; omega), if_neg (fun h => by
                  have h9 := (kept_iff X n).1 h q hq0 (by omega)
                  rw [hbt] at h9
                  cases h9)]
              have HQ := Lib.hid (And.intro hbody (show someX L k n wrong = B16.zero by unfold someX; rw [hbody]; exact if_neg HE.out.2))
              clear hbody hpX hm1 hbt hq2 hx5
              go_wp2_with fail
              refine (hat _).mono ?_
              rintro e w3 ⟨rfl, hb3⟩
              have hr6 := hr5.later hb3
              have S1 := st_b16 (q := B16.zero) hr6
              have HR := Lib.hid (And.intro (hr6.row B16.zero.cs) (below_setRow (bel_trans hb5 hb3) (Nat.le_refl _) B16.zero.cs))
              clear hr5 hr6 hb5 hb3 LX hat
              go_wp2
              refine bodyPost_ret (results_blk rfl _ _ w.heap.size _ _ rfl HR.out.1 Tryd.underlying34 rfl (s_b16 _)) rfl ?_
              exact ⟨by rw [HQ.out.1, HQ.out.2]; rfl, HR.out.2⟩
            | false =>
              rw [btI_off hbt] at hat
              have HC := Lib.hid (show ∀ j, n ≤ j → j < q + 1 → bt X j = false from fun j h1 h2 => by
                by_cases h3 : j = q
                · rw [h3]; exact hbt
                · exact hq2 j h1 (by omega))
              clear hbt hq2
              go_wp2_with fail
              refine (hat _).mono ?_
              rintro e w3 ⟨rfl, hb3⟩
              have HR := Lib.hid (And.intro (hx5.later hb3) (And.intro (hr5.later hb3) (bel_trans hb5 hb3)))
              clear hr5 hx5 hb5 hb3 LX hat
              go_wp2
              go_roundw
              case rel => exact ⟨q + 1, by omega, by omega, by go_num, HC.out, HR.out.1, HR.out.2.1, HR.out.2.2⟩
              case measure => simp [intOf]; omega
          · have d5 : decide ((q : Int) < (8 : Int) * (m : Int) + 8) = false := by simp; omega
            have HN := Lib.hid (And.intro hx5 (And.intro hr5 (And.intro hb5 hq2)))
            clear hx5 hr5 hb5 hq2
            go_wp2
            go_roundw
            case rel => exact ⟨m + 1, by omega, by have := HT.out; omega, by go_num, by rw [HM.out.2.2.2.1]; exact HN.out.1, HN.out.2.1, HN.out.2.2.1, fun j h1 h2 => by rw [HM.out.2.2.2.1]; exact HN.out.2.2.2 j h1 (by omega)⟩
            case measure => simp [intOf]; omega
    · obtain rfl : m = f := by omega
      have d1 : decide ((8 : Int) * (m : Int) < (n : Int)) = false := by simp; omega
      have hpX : padF L k n = padB ((L.drop k).take m) := by unfold padF; rw [hff]
      have hbody : bodyE L k n wrong = 0 := by
        unfold bodyE
        rw [hff, hpX, if_neg (by omega), if_pos]
        refine (kept_iff _ _).2 fun i h1 h2 => ?_
        by_cases h3 : i < 8 * m
        · exact hcl i h1 h3
        · refine at_zero_bt ?_
          rw [padB_at _ ((HX.out.1.drop2 k).take2 m) _ (by omega), List.getD_eq_getElem?_getD, List.getElem?_take, if_neg (by omega)]
          rfl
      have HQ := Lib.hid (And.intro hbody (show someX L k n wrong = padB ((L.drop k).take m) by unfold someX; rw [hbody, hpX]; exact if_pos rfl))
      clear hbody hpX hcl
      have LX := b16_ld hx _ (Below.refl _ _)
      have S1 := st_b16 (q := padB ((L.drop k).take m)) hr
      have HR := Lib.hid (And.intro (hr.row (padB ((L.drop k).take m)).cs) (below_setRow hb (Nat.le_refl _) (padB ((L.drop k).take m)).cs))
      generalize padB ((L.drop k).take m) = X at *
      clear hx hr hb
      go_wp2
      refine bodyPost_ret (results_blk rfl _ _ w.heap.size _ _ rfl HR.out.1 Tryd.underlying34 rfl (s_b16 _)) rfl ?_
      exact ⟨by rw [HQ.out.1, HQ.out.2]; rfl, HR.out.2⟩
end Go.Proofs.YtdbdmnahgkkjiaaDoor
