/-
  For every set, nibble and most: what bitmap.Match tells is set, begins the four bits, and no longer prefix that is set does; and the input reads as it did. Conditions: none beyond the row's own.
-/
import Derived.Test.YtcehdjpjniemjaaRows
import Derived.Test.YtcehdjpjniemjaaBmpG
import Derived.WalkKit
import Derived.ProofKit
import Derived.OpenShut
import Derived.ShutString
namespace Go.Proofs.Ytcehdjpjniemjaa
namespace bitmapLongest
open Go.ChangeShapes Go.WideShapes Go.ChangeAt Go.RowKit
open Go.ChangeMaps (open_string shut_string)
set_option linter.unusedVariables false      -- a walk need not use every 'w<i>' (that an integer argument fits its kind)

theorem own : ownKnob Try.prog.godebug = none := by kernel_rfl

/-- The last one that was met, or -1. -/
def lastI (p : Nat × Bool) : Int := if p.2 then (p.1 : Int) else -1
theorem lastI_yes {p : Nat × Bool} (h : p.2 = true) : lastI p = (p.1 : Int) := by simp [lastI, h]
theorem lastI_no {p : Nat × Bool} (h : p.2 = false) : lastI p = -1 := by simp [lastI, h]
/-! ### STEP 1: THE WALK: the Go text returns true. 'Grown w w'': the world has at most new blocks (Derived/RowKit3.lean). Part the cases AHEAD of 'go_enter' where a test parts the walk; take each callee by a contract of your own. -/
theorem walk (a0 : Int) (a1 : Int) (a2 : Int) (w0 : (Lit.int .u32 a0).wf = true) (w1 : (Lit.int .i64 a1).wf = true) (w2 : (Lit.int .i64 a2).wf = true) (w : World) :
    Calls Try.prog 6 #[.int .u32 a0, .int .i64 a1, .int .i64 a2] w fun e w' => e = .returned (.bool true) ∧ Below w.heap.size w w' := by
  obtain ⟨s, rfl, hs⟩ := u32_of w0
  have b2 := bounds_i64 w2
  have hM := fun w => match_any hs a1 a2 b2.1 b2.2 w
  have hH := fun b h1 h2 w => bhas_any hs b h1 h2 w
  have hI := fun k v h1 h2 h3 h4 w => index_any k v h1 h2 h3 h4 w
  have ha := and15 a1
  have hl := lowN_lt a1
  have h1 := b2.1
  have h2 := b2.2
  generalize lowN a1 = low at *
  obtain ⟨T, hT⟩ : ∃ T, matN s low (cntN a2) = T := ⟨_, rfl⟩
  rw [hT] at hM
  have hcl := cntN_le a2
  obtain ⟨z, hz1, hz2, hz3, hz4, hzc⟩ : ∃ z : Int, (if 3 < a2 then 3 else a2) = z ∧ (if a2 ≤ 3 then a2 else 3) = z ∧ (if a2 < 3 then a2 else 3) = z ∧ (if 3 ≤ a2 then 3 else a2) = z ∧ (∀ k : Nat, k ≤ 4 → (k < cntN a2 ↔ (k : Int) ≤ z)) := by
    refine ⟨_, rfl, ?_, ?_, ?_, ?_⟩
    · split <;> split <;> omega
    · split <;> split <;> omega
    · split <;> split <;> omega
    · intro k hk; unfold cntN; split <;> split <;> (try split) <;> omega
  generalize cntN a2 = c at *
  have HT := Lib.hid hT
  have HC := Lib.hid hzc
  clear w0 w1 w2 b2 hT hzc
  go_enter Try.func6, Try.ntmps6
  go_wp2_with (first | (go_at_call 7; refine (wakes7_any _).mono ?_; rintro e w1 ⟨rfl, hb⟩) | (go_at_call 16; refine (hM _).mono ?_; rintro e w' ⟨rfl, rfl⟩))
  go_loop [10, 11] (fun l i => ∃ k : Nat, k ≤ c ∧ i = .int .i64 (k : Int) ∧ l = .int .i64 (lastI (matN s low k))) (fun _ i => c - (intOf i).toNat)
  case atStart => exact ⟨0, by omega, rfl, rfl⟩
  case round =>
    obtain ⟨k, hk, rfl, rfl⟩ := hrel
    by_cases hlt : k < c
    · have hm := (HC.out k (by omega)).1 hlt
      have d2 : decide ((k : Int) ≤ z) = true := by simpa using hm
      clear hm
      have hc : k = 0 ∨ k = 1 ∨ k = 2 ∨ k = 3 := by omega
      rcases hc with rfl | rfl | rfl | rfl
      · have d2 : decide ((0 : Int) ≤ z) = true := d2
        have hv : (low : Int) / 16 = ((low / 16 : Nat) : Int) := by simp
        have hb2 : hitN low 0 < 15 := hitN_lt hl (by omega)
        have hok : idxOk 0 ((low / 16 : Nat) : Int) = true := by simp [idxOk]; omega
        have hi : ∀ w, Calls Try.prog 14 #[.int .i64 0, .int .i64 ((low / 16 : Nat) : Int)] w fun e w' => e = .returned (.tuple #[.int .i64 ((hitN low 0 : Nat) : Int), .int .i64 0]) ∧ w = w' := fun w => by
          have h := hI 0 ((low / 16 : Nat) : Int) (by omega) (by omega) (by omega) (by omega) w
          have e1 : idxN 0 ((low / 16 : Nat) : Int) = hitN low 0 := by unfold idxN; rw [if_pos hok]; simp [hitN]; omega
          have e2 : idxE 0 ((low / 16 : Nat) : Int) = 0 := by unfold idxE; rw [if_pos hok]
          rw [e1, e2] at h
          exact h
        have hh := hH ((hitN low 0 : Nat) : Int) (by omega) (by omega)
        by_cases hq : hasN s ((hitN low 0 : Nat) : Int) = true
        · have HQ := Lib.hid (matN_yes hq)
          rw [hq] at hh
          clear hq hok
          generalize low / 16 = v at *
          generalize hitN low 0 = hit at *
          go_wp2_with (first | (go_at_call 14; refine (hi _).mono ?_; rintro e w' ⟨rfl, rfl⟩) | (go_at_call 18; refine (hh _).mono ?_; rintro e w' ⟨rfl, rfl⟩))
          go_round
          case rel => exact ⟨1, by omega, rfl, by rw [HQ.out]; rfl⟩
          case measure => simp [intOf]; omega
        · have hq : hasN s ((hitN low 0 : Nat) : Int) = false := by simpa using hq
          have HQ := Lib.hid (matN_no hq)
          rw [hq] at hh
          clear hq hok
          generalize low / 16 = v at *
          generalize hitN low 0 = hit at *
          go_wp2_with (first | (go_at_call 14; refine (hi _).mono ?_; rintro e w' ⟨rfl, rfl⟩) | (go_at_call 18; refine (hh _).mono ?_; rintro e w' ⟨rfl, rfl⟩))
          go_round
          case rel => exact ⟨1, by omega, rfl, by rw [HQ.out]⟩
          case measure => simp [intOf]; omega
      · have d2 : decide ((1 : Int) ≤ z) = true := d2
        have hv : (low : Int) / 8 = ((low / 8 : Nat) : Int) := by simp
        have hb2 : hitN low 1 < 15 := hitN_lt hl (by omega)
        have hok : idxOk 1 ((low / 8 : Nat) : Int) = true := by simp [idxOk]; omega
        have hi : ∀ w, Calls Try.prog 14 #[.int .i64 1, .int .i64 ((low / 8 : Nat) : Int)] w fun e w' => e = .returned (.tuple #[.int .i64 ((hitN low 1 : Nat) : Int), .int .i64 0]) ∧ w = w' := fun w => by
          have h := hI 1 ((low / 8 : Nat) : Int) (by omega) (by omega) (by omega) (by omega) w
          have e1 : idxN 1 ((low / 8 : Nat) : Int) = hitN low 1 := by unfold idxN; rw [if_pos hok]; simp [hitN]; omega
          have e2 : idxE 1 ((low / 8 : Nat) : Int) = 0 := by unfold idxE; rw [if_pos hok]
          rw [e1, e2] at h
          exact h
        have hh := hH ((hitN low 1 : Nat) : Int) (by omega) (by omega)
        by_cases hq : hasN s ((hitN low 1 : Nat) : Int) = true
        · have HQ := Lib.hid (matN_yes hq)
          rw [hq] at hh
          clear hq hok
          generalize low / 8 = v at *
          generalize hitN low 1 = hit at *
          go_wp2_with (first | (go_at_call 14; refine (hi _).mono ?_; rintro e w' ⟨rfl, rfl⟩) | (go_at_call 18; refine (hh _).mono ?_; rintro e w' ⟨rfl, rfl⟩))
          go_round
          case rel => exact ⟨2, by omega, rfl, by rw [HQ.out]; rfl⟩
          case measure => simp [intOf]; omega
        · have hq : hasN s ((hitN low 1 : Nat) : Int) = false := by simpa using hq
          have HQ := Lib.hid (matN_no hq)
          rw [hq] at hh
          clear hq hok
          generalize low / 8 = v at *
          generalize hitN low 1 = hit at *
          go_wp2_with (first | (go_at_call 14; refine (hi _).mono ?_; rintro e w' ⟨rfl, rfl⟩) | (go_at_call 18; refine (hh _).mono ?_; rintro e w' ⟨rfl, rfl⟩))
          go_round
          case rel => exact ⟨2, by omega, rfl, by rw [HQ.out]⟩
          case measure => simp [intOf]; omega
      · have d2 : decide ((2 : Int) ≤ z) = true := d2
        have hv : (low : Int) / 4 = ((low / 4 : Nat) : Int) := by simp
        have hb2 : hitN low 2 < 15 := hitN_lt hl (by omega)
        have hok : idxOk 2 ((low / 4 : Nat) : Int) = true := by simp [idxOk]; omega
        have hi : ∀ w, Calls Try.prog 14 #[.int .i64 2, .int .i64 ((low / 4 : Nat) : Int)] w fun e w' => e = .returned (.tuple #[.int .i64 ((hitN low 2 : Nat) : Int), .int .i64 0]) ∧ w = w' := fun w => by
          have h := hI 2 ((low / 4 : Nat) : Int) (by omega) (by omega) (by omega) (by omega) w
          have e1 : idxN 2 ((low / 4 : Nat) : Int) = hitN low 2 := by unfold idxN; rw [if_pos hok]; simp [hitN]; omega
          have e2 : idxE 2 ((low / 4 : Nat) : Int) = 0 := by unfold idxE; rw [if_pos hok]
          rw [e1, e2] at h
          exact h
        have hh := hH ((hitN low 2 : Nat) : Int) (by omega) (by omega)
        by_cases hq : hasN s ((hitN low 2 : Nat) : Int) = true
        · have HQ := Lib.hid (matN_yes hq)
          rw [hq] at hh
          clear hq hok
          generalize low / 4 = v at *
          generalize hitN low 2 = hit at *
          go_wp2_with (first | (go_at_call 14; refine (hi _).mono ?_; rintro e w' ⟨rfl, rfl⟩) | (go_at_call 18; refine (hh _).mono ?_; rintro e w' ⟨rfl, rfl⟩))
          go_round
          case rel => exact ⟨3, by omega, rfl, by rw [HQ.out]; rfl⟩
          case measure => simp [intOf]; omega
        · have hq : hasN s ((hitN low 2 : Nat) : Int) = false := by simpa using hq
          have HQ := Lib.hid (matN_no hq)
          rw [hq] at hh
          clear hq hok
          generalize low / 4 = v at *
          generalize hitN low 2 = hit at *
          go_wp2_with (first | (go_at_call 14; refine (hi _).mono ?_; rintro e w' ⟨rfl, rfl⟩) | (go_at_call 18; refine (hh _).mono ?_; rintro e w' ⟨rfl, rfl⟩))
          go_round
          case rel => exact ⟨3, by omega, rfl, by rw [HQ.out]⟩
          case measure => simp [intOf]; omega
      · have d2 : decide ((3 : Int) ≤ z) = true := d2
        have hv : (low : Int) / 2 = ((low / 2 : Nat) : Int) := by simp
        have hb2 : hitN low 3 < 15 := hitN_lt hl (by omega)
        have hok : idxOk 3 ((low / 2 : Nat) : Int) = true := by simp [idxOk]; omega
        have hi : ∀ w, Calls Try.prog 14 #[.int .i64 3, .int .i64 ((low / 2 : Nat) : Int)] w fun e w' => e = .returned (.tuple #[.int .i64 ((hitN low 3 : Nat) : Int), .int .i64 0]) ∧ w = w' := fun w => by
          have h := hI 3 ((low / 2 : Nat) : Int) (by omega) (by omega) (by omega) (by omega) w
          have e1 : idxN 3 ((low / 2 : Nat) : Int) = hitN low 3 := by unfold idxN; rw [if_pos hok]; simp [hitN]; omega
          have e2 : idxE 3 ((low / 2 : Nat) : Int) = 0 := by unfold idxE; rw [if_pos hok]
          rw [e1, e2] at h
          exact h
        have hh := hH ((hitN low 3 : Nat) : Int) (by omega) (by omega)
        by_cases hq : hasN s ((hitN low 3 : Nat) : Int) = true
        · have HQ := Lib.hid (matN_yes hq)
          rw [hq] at hh
          clear hq hok
          generalize low / 2 = v at *
          generalize hitN low 3 = hit at *
          go_wp2_with (first | (go_at_call 14; refine (hi _).mono ?_; rintro e w' ⟨rfl, rfl⟩) | (go_at_call 18; refine (hh _).mono ?_; rintro e w' ⟨rfl, rfl⟩))
          go_round
          case rel => exact ⟨4, by omega, rfl, by rw [HQ.out]; rfl⟩
          case measure => simp [intOf]; omega
        · have hq : hasN s ((hitN low 3 : Nat) : Int) = false := by simpa using hq
          have HQ := Lib.hid (matN_no hq)
          rw [hq] at hh
          clear hq hok
          generalize low / 2 = v at *
          generalize hitN low 3 = hit at *
          go_wp2_with (first | (go_at_call 14; refine (hi _).mono ?_; rintro e w' ⟨rfl, rfl⟩) | (go_at_call 18; refine (hh _).mono ?_; rintro e w' ⟨rfl, rfl⟩))
          go_round
          case rel => exact ⟨4, by omega, rfl, by rw [HQ.out]⟩
          case measure => simp [intOf]; omega
    · have e : k = c := by omega
      subst e
      have HD := Lib.hid (show ¬ ((k : Int) ≤ z) from fun hh => hlt ((HC.out k (by omega)).2 hh))
      have d2 : decide ((k : Int) ≤ z) = false := by have := HD.out; simp; omega
      rw [HT.out]
      by_cases ht : T.2 = true
      · rw [lastI_yes ht]
        have dg : decide ((0 : Int) ≤ (T.1 : Int)) = true := by simp
        generalize T.1 = t1 at *
        go_wp2
        all_goals go_ret
        all_goals exact ⟨rfl, hb⟩
      · have ht : T.2 = false := by simpa using ht
        rw [lastI_no ht]
        go_wp2
        all_goals go_ret
        all_goals exact ⟨rfl, hb⟩
  -- go_enter Try.func6, Try.ntmps6
  -- go_wp2
  -- go_ret
  -- exact ⟨rfl, by repeat (first | exact Grown.refl _ | apply Grown.drew | apply Grown.alloc)⟩

/-! ### THE ROW's STEP: WRITTEN OUT: LEAVE IT -/
set_option maxRecDepth 100000 in
theorem lifted (os : Os) (started : os.Started) (H : Type) (enc : TypeId × Value → H) :
    ReturnsInHanded {} Try.checked os 6 .any (Rows.bitmapLongestSpec.pre6 enc Try.prog Try.f6 Rows.bitmapLongestRow.domain false) (Rows.bitmapLongestSpec.post enc Try.prog Try.f6 false true false false) := by
  refine returnsInHanded_of_change (C := Try.checked) own started (by kernel_rfl) Try.func6
    (ChangeSpec.witness6 (enc := enc) (C := Try.checked) false ⟨#[], #[.int .u32 0, .int .i64 0, .int .i64 0], []⟩ 8 (by kernel_rfl) (by kernel_rfl) (by kernel_rfl) (by kernel_rfl)) ?_
  intro W base args ds gs before hval0 hW hcnd _
  have hval : ∀ (j : Nat) t v, Try.f6.params[j]? = some t → args[j]? = some v → Value.okWide Try.prog W .any base t v := hval0
  have hW' := hW
  obtain ⟨p, q, hA0, hV, rfl, hfz, hnd⟩ := hW
  have hA : DataW.TrodAll enc Try.prog W 0 (fun _ => true) true Try.f6.params.toList args.toList ds p := hA0
  rw [Try.params6] at hA hval
  obtain ⟨v0, vs0, d0, ds0, p0, q0, hargs, rfl, rfl, h0, r0⟩ := trodAll_cons hA
  obtain ⟨v1, vs1, d1, ds1, p1, q1, rfl, rfl, rfl, h1, r1⟩ := trodAll_cons r0
  obtain ⟨v2, vs2, d2, ds2, p2, q2, rfl, rfl, rfl, h2, r2⟩ := trodAll_cons r1
  obtain ⟨rfl, rfl, rfl⟩ := trodAll_nil r2
  obtain rfl : args = #[v0, v1, v2] := by cases args; simp_all
  obtain ⟨rfl, rfl⟩ := trodVars_none hV
  obtain ⟨a0, rfl, rfl, rfl, w0⟩ := open_int Try.underlying22 (hval 0 22 v0 rfl rfl) h0
  obtain ⟨a1, rfl, rfl, rfl, w1⟩ := open_int Try.underlying3 (hval 1 3 v1 rfl rfl) h1
  obtain ⟨a2, rfl, rfl, rfl, w2⟩ := open_int Try.underlying3 (hval 2 3 v2 rfl rfl) h2
  clear hA0 hval0
  refine (walk a0 a1 a2 w0 w1 w2 W).mono fun e W' ⟨he, hg⟩ => ?_
  subst he
  exact ⟨_, rfl, _, _, _, [], _, [], hW', trodAll_mk1 (shut_bool Try.underlying4 _), (trodAll_cons_mk (shut_int Try.underlying22 w0) (trodAll_cons_mk (shut_int Try.underlying3 w1) (trodAll_cons_mk (shut_int Try.underlying3 w2) trodAll_mk0))), rfl, hg.frame _, fun h => by cases h⟩

theorem over : Rows.bitmapLongestRow.holds Try.pinned (OpenSpec.ofChange Rows.bitmapLongestSpec) :=
  OpenClaim.holds_of_wide 6 Try.f6 rfl rfl rfl rfl rfl rfl rfl ⟨rfl, rfl, rfl, rfl, rfl⟩ rfl rfl rfl rfl rfl (by kernel_rfl) Try.func6 (by kernel_rfl)
    (of_decide_eq_true (by kernel_rfl)) (by unfold Func.isWrapper; first | (rw [if_pos (by decide +kernel)]; kernel_rfl) | (rw [if_neg (by decide +kernel)]; exact ⟨rfl, rfl⟩))
    (fun os started H enc _ => lifted os started H enc)

end bitmapLongest
/-- The statement. -/
theorem bitmapLongest_holds : Rows.BitmapLongestSaid := bitmapLongest.over
end Go.Proofs.Ytcehdjpjniemjaa
