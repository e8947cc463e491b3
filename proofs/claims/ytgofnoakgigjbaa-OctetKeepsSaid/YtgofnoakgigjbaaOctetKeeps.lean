/-
  For every number of 64 bits, every one of 16 and every k: the bits of a number go on the wire as they are, and those of what goes ahead of it further up. Conditions: none beyond the row's own.
-/
import Derived.Test.YtgofnoakgigjbaaRows
import Derived.Test.YtgofnoakgigjbaaOctG
import Derived.Deep.RegionHeld3
import Derived.WalkKit
import Derived.ProofKit
import Derived.OpenShut
import Derived.ShutString
namespace Go.Proofs.Ytgofnoakgigjbaa
namespace octetKeeps
open Go.ChangeShapes Go.WideShapes Go.ChangeAt Go.RowKit
open Go.ChangeMaps (open_string shut_string)
set_option linter.unusedVariables false      -- a walk need not use every 'w<i>' (that an integer argument fits its kind)

theorem own : ownKnob Try.prog.godebug = none := by kernel_rfl

set_option maxHeartbeats 8000000
/-! ### STEP 1: THE WALK: the Go text returns true. 'Grown w w'': the world has at most new blocks (Derived/RowKit3.lean). Part the cases AHEAD of 'go_enter' where a test parts the walk; take each callee by a contract of your own. -/
theorem walk (a0 : Int) (a1 : Int) (a2 : Int) (w0 : (Lit.int .u64 a0).wf = true) (w1 : (Lit.int .u16 a1).wf = true) (w2 : (Lit.int .i64 a2).wf = true) (w : World) :
    Calls Try.prog 6 #[.int .u64 a0, .int .u16 a1, .int .i64 a2] w fun e w' => e = .returned (.bool true) ∧ Below w.heap.size w w' := by
  have hx0 := bounds_u64 w0
  have hy0 := bounds_u16 w1
  obtain ⟨x, rfl⟩ := Int.eq_ofNat_of_zero_le hx0.1
  obtain ⟨y, rfl⟩ := Int.eq_ofNat_of_zero_le hy0.1
  obtain ⟨n, hn, hk⟩ : ∃ n : Nat, n < 64 ∧ wrap64 ((IntKind.u64.wrap a2).tmod 64) = (n : Int) := by
    refine ⟨((IntKind.u64.wrap a2).tmod 64).toNat, ?_, ?_⟩
    · rw [IntKind.wrap_u64, Int.tmod_eq_emod_of_nonneg (by omega)]; omega
    · rw [IntKind.wrap_u64, Int.tmod_eq_emod_of_nonneg (by omega)]; unfold wrap64; omega
  obtain ⟨s, hs⟩ : ∃ s : Bool, (bits .and .u64 ((x : Int) / 2 ^ n) 1 == 1) = s := ⟨_, rfl⟩
  obtain ⟨m, hm⟩ : ∃ m : Nat, n % 16 = m := ⟨_, rfl⟩
  have hm1 : (n : Int).tmod 16 = (m : Int) := by rw [Int.tmod_eq_emod_of_nonneg (by omega)]; omega
  have hm2 : (n : Int) % 16 = (m : Int) := by omega
  have hm3 : m < 16 := by omega
  obtain ⟨t, ht⟩ : ∃ t : Bool, (bits .and .u16 ((y : Int) / 2 ^ m) 1 == 1) = t := ⟨_, rfl⟩
  have hs2 := hs
  rw [mask_u64 x n (by omega)] at hs2
  have ht2 := ht
  rw [mask_u16 y m (by omega)] at ht2
  obtain ⟨xl, hxl⟩ : ∃ xl : Nat, x % 4294967296 = xl := ⟨_, rfl⟩
  have hxl1 : (x : Int) % 4294967296 = (xl : Int) := by omega
  have hxl2 : IntKind.u32.wrap (x : Int) = (xl : Int) := by rw [IntKind.wrap_u32]; omega
  have hxl3 : xl ≤ 4294967295 := by omega
  have E1 := Lib.hid (bitB_behind [] x 8 n)
  have E2 := Lib.hid (bitB_behind ([] ++ highB x 8) y 2 (n + 16))
  have E3 := Lib.hid (bitB_behind [] x 8 64)
  have E5 := Lib.hid (bitB_behind ([] ++ highB x 8) y 2 m)
  have E6 := Lib.hid (bitB_behind [] xl 4 n)
  have HS := Lib.hid hs2
  have HT := Lib.hid ht2
  clear hs2 ht2 w0 w1 w2
  have f1 : bitB ([] ++ highB x 8) (n : Int) = s := by rw [E1.out, if_pos (by omega)]; exact HS.out
  have f2 : bitB (([] ++ highB x 8) ++ highB y 2) ((n : Int) + 16) = s := by
    have e : ((n : Int) + 16) = ((n + 16 : Nat) : Int) := by omega
    rw [e, E2.out, if_neg (by omega), show n + 16 - 8 * 2 = n from by omega]; exact f1
  have f3 : bitB ([] ++ highB x 8) 64 = false := by
    have e : (64 : Int) = ((64 : Nat) : Int) := rfl
    rw [e, E3.out, if_neg (by omega)]; exact bitB_nil _
  have f4 : bitB ([] ++ highB x 8) (-1 - (n : Int)) = false := bitB_neg (by omega)
  have f5 : bitB (([] ++ highB x 8) ++ highB y 2) (m : Int) = t := by
    rw [E5.out, if_pos (by omega)]; exact HT.out
  have f6 : bitB ([] ++ highB xl 4) (n : Int) = (s && decide (n < 32)) := by
    rw [E6.out]
    by_cases h32 : n < 32
    · rw [if_pos (by omega)]
      have := low_bits x n 32 h32
      have e : (4294967296 : Nat) = 2 ^ 32 := rfl
      have hs3 := HS.out
      rw [← hxl, e, this, hs3]; simp [h32]
    · rw [if_neg (by omega), bitB_nil]; simp [h32]
  have F1 := Lib.hid f1
  have F2 := Lib.hid f2
  have F3 := Lib.hid f3
  have F4 := Lib.hid f4
  have F5 := Lib.hid f5
  have F6 := Lib.hid f6
  clear f1 f2 f3 f4 f5 f6
  go_enter Try.func6, Try.ntmps6
  go_wp2_with (go_at_call 9; refine (wakes_any _).mono ?_; rintro e w1 ⟨rfl, hb1⟩)
  refine (put64_any _ _ _ [] x _ rfl (by simp) (.inl rfl) (by omega)).mono ?_
  rintro e w2 ⟨rfl, hO2, hB2⟩
  have hb2 := hb1.trans (hB2.mono hb1.size)
  go_wp2_with fail
  refine (put16_any _ _ _ ([] ++ highB x 8) y _ (by simp [length_highB]) (by omega) hO2.lies (by omega)).mono ?_
  rintro e w3 ⟨rfl, hO3, hB3⟩
  have hb3 := hb2.trans (hB3.mono hb2.size)
  have hO23 := hO2.kept' hB3
  have hy1 : Bys ([] ++ highB x 8) := by simpa using highB_bys x 8
  have hy2 : Bys (([] ++ highB x 8) ++ highB y 2) := by
    intro m hm
    rcases List.mem_append.1 hm with h | h
    · exact hy1 m h
    · exact highB_bys y 2 m h
  go_wp2_with fail
  refine (bit_any _ _ _ ([] ++ highB x 8) _ _ (by simp [length_highB]) (by omega) hy1 hO23.lies (by omega) (by omega)).mono ?_
  rintro e w' ⟨he, rfl⟩
  rw [F1.out] at he
  subst he
  go_wp2_with fail
  refine (bit_any _ _ _ (([] ++ highB x 8) ++ highB y 2) _ _ (by simp [length_highB]) (by omega) hy2 hO3.lies (by omega) (by omega)).mono ?_
  rintro e w' ⟨he, rfl⟩
  rw [F2.out] at he
  subst he
  go_wp2_with fail
  refine (bit_any _ _ _ ([] ++ highB x 8) _ _ (by simp [length_highB]) (by omega) hy1 hO23.lies (by omega) (by omega)).mono ?_
  rintro e w' ⟨he, rfl⟩
  rw [F3.out] at he
  subst he
  go_wp2_with fail
  refine (bit_any _ _ _ ([] ++ highB x 8) _ _ (by simp [length_highB]) (by omega) hy1 hO23.lies (by omega) (by omega)).mono ?_
  rintro e w' ⟨he, rfl⟩
  rw [F4.out] at he
  subst he
  go_wp2_with fail
  have hl1 : (([] ++ highB x 8) ++ highB y 2).length = 10 := by simp [length_highB]
  have hl2 : ([] ++ highB xl 4).length = 4 := by simp [length_highB]
  have hy3 : Bys ([] ++ highB xl 4) := by simpa using highB_bys _ 4
  have HL1 := Lib.hid hl1
  have HL2 := Lib.hid hl2
  clear hl1 hl2 hs hk hxl hm E1 E2 E3 E5 E6 F1 F2 F3 F4 hO2 hO23 hb1 hb2 hB2 hB3 hy1
  have hL3 : Lies w3.drew (some ⟨w2.heap.size, 0, none⟩) (([] ++ highB x 8) ++ highB y 2) := hO3.drew.lies
  cases s
  · have G6 : Hid (bitB ([] ++ highB xl 4) (n : Int) = false) := F6.out
    clear F6
    cases t
    · first | (go_region_with (first | (go_at_call 17; (with_reducible refine (bit_any (some ⟨w2.heap.size, 0, none⟩) 10 10 (([] ++ highB x 8) ++ highB y 2) (m : Int) _ HL1.out (by omega) hy2 hL3 (by omega) (by omega)).mono ?_); rintro e w' ⟨he, rfl⟩; rw [F5.out] at he; subst he) | (go_at_call 12; refine (put32_any none 0 0 [] xl _ rfl (by simp) (.inl rfl) (by omega)).mono ?_; rintro e w4 ⟨rfl, hO4, hB4⟩; have hL4 : Lies w4 (some ⟨w3.heap.size, 0, none⟩) ([] ++ highB xl 4) := hO4.lies) | (go_at_call 17; (with_reducible refine (bit_any (some ⟨w3.heap.size, 0, none⟩) 4 4 ([] ++ highB xl 4) (n : Int) _ HL2.out (by omega) hy3 hL4 (by omega) (by omega)).mono ?_); rintro e w' ⟨he, rfl⟩; rw [G6.out] at he; subst he))) | fail
      all_goals (go_wp2; go_ret; exact ⟨rfl, hb3.drew.trans (hB4.mono hb3.drew.size)⟩)
    · first | (go_region_with (first | (go_at_call 17; (with_reducible refine (bit_any (some ⟨w2.heap.size, 0, none⟩) 10 10 (([] ++ highB x 8) ++ highB y 2) (m : Int) _ HL1.out (by omega) hy2 hL3 (by omega) (by omega)).mono ?_); rintro e w' ⟨he, rfl⟩; rw [F5.out] at he; subst he) | (go_at_call 12; refine (put32_any none 0 0 [] xl _ rfl (by simp) (.inl rfl) (by omega)).mono ?_; rintro e w4 ⟨rfl, hO4, hB4⟩; have hL4 : Lies w4 (some ⟨w3.heap.size, 0, none⟩) ([] ++ highB xl 4) := hO4.lies) | (go_at_call 17; (with_reducible refine (bit_any (some ⟨w3.heap.size, 0, none⟩) 4 4 ([] ++ highB xl 4) (n : Int) _ HL2.out (by omega) hy3 hL4 (by omega) (by omega)).mono ?_); rintro e w' ⟨he, rfl⟩; rw [G6.out] at he; subst he))) | fail
      all_goals (go_wp2; go_ret; exact ⟨rfl, hb3.drew.trans (hB4.mono hb3.drew.size)⟩)
  · by_cases h32 : n < 32
    · have hd : decide ((n : Int) < 32) = true := by simp; omega
      have G6 : Hid (bitB ([] ++ highB xl 4) (n : Int) = true) := F6.out.trans (by simp [h32])
      clear F6
      cases t
      · first | (go_region_held3 (fun w' => True) (trivial) (first | (go_at_call 17; (with_reducible refine (bit_any (some ⟨w2.heap.size, 0, none⟩) 10 10 (([] ++ highB x 8) ++ highB y 2) (m : Int) _ HL1.out (by omega) hy2 hL3 (by omega) (by omega)).mono ?_); rintro e w' ⟨he, rfl⟩; rw [F5.out] at he; subst he) | (go_at_call 12; refine (put32_any none 0 0 [] xl _ rfl (by simp) (.inl rfl) (by omega)).mono ?_; rintro e w4 ⟨rfl, hO4, hB4⟩; have hL4 : Lies w4 (some ⟨w3.heap.size, 0, none⟩) ([] ++ highB xl 4) := hO4.lies) | (go_at_call 17; (with_reducible refine (bit_any (some ⟨w3.heap.size, 0, none⟩) 4 4 ([] ++ highB xl 4) (n : Int) _ HL2.out (by omega) hy3 hL4 (by omega) (by omega)).mono ?_); rintro e w' ⟨he, rfl⟩; rw [G6.out] at he; subst he))) | fail
        all_goals (go_wp2; go_ret; exact ⟨rfl, hb3.drew.trans (hB4.mono hb3.drew.size)⟩)
      · first | (go_region_held3 (fun w' => True) (trivial) (first | (go_at_call 17; (with_reducible refine (bit_any (some ⟨w2.heap.size, 0, none⟩) 10 10 (([] ++ highB x 8) ++ highB y 2) (m : Int) _ HL1.out (by omega) hy2 hL3 (by omega) (by omega)).mono ?_); rintro e w' ⟨he, rfl⟩; rw [F5.out] at he; subst he) | (go_at_call 12; refine (put32_any none 0 0 [] xl _ rfl (by simp) (.inl rfl) (by omega)).mono ?_; rintro e w4 ⟨rfl, hO4, hB4⟩; have hL4 : Lies w4 (some ⟨w3.heap.size, 0, none⟩) ([] ++ highB xl 4) := hO4.lies) | (go_at_call 17; (with_reducible refine (bit_any (some ⟨w3.heap.size, 0, none⟩) 4 4 ([] ++ highB xl 4) (n : Int) _ HL2.out (by omega) hy3 hL4 (by omega) (by omega)).mono ?_); rintro e w' ⟨he, rfl⟩; rw [G6.out] at he; subst he))) | fail
        all_goals (go_wp2; go_ret; exact ⟨rfl, hb3.drew.trans (hB4.mono hb3.drew.size)⟩)
    · have hd : decide ((n : Int) < 32) = false := by simp; omega
      have G6 : Hid (bitB ([] ++ highB xl 4) (n : Int) = false) := F6.out.trans (by simp [h32])
      clear F6
      cases t
      · first | (go_region_held3 (fun w' => True) (trivial) (first | (go_at_call 17; (with_reducible refine (bit_any (some ⟨w2.heap.size, 0, none⟩) 10 10 (([] ++ highB x 8) ++ highB y 2) (m : Int) _ HL1.out (by omega) hy2 hL3 (by omega) (by omega)).mono ?_); rintro e w' ⟨he, rfl⟩; rw [F5.out] at he; subst he) | (go_at_call 12; refine (put32_any none 0 0 [] xl _ rfl (by simp) (.inl rfl) (by omega)).mono ?_; rintro e w4 ⟨rfl, hO4, hB4⟩; have hL4 : Lies w4 (some ⟨w3.heap.size, 0, none⟩) ([] ++ highB xl 4) := hO4.lies) | (go_at_call 17; (with_reducible refine (bit_any (some ⟨w3.heap.size, 0, none⟩) 4 4 ([] ++ highB xl 4) (n : Int) _ HL2.out (by omega) hy3 hL4 (by omega) (by omega)).mono ?_); rintro e w' ⟨he, rfl⟩; rw [G6.out] at he; subst he))) | fail
        all_goals (go_wp2; go_ret; exact ⟨rfl, hb3.drew.trans (hB4.mono hb3.drew.size)⟩)
      · first | (go_region_held3 (fun w' => True) (trivial) (first | (go_at_call 17; (with_reducible refine (bit_any (some ⟨w2.heap.size, 0, none⟩) 10 10 (([] ++ highB x 8) ++ highB y 2) (m : Int) _ HL1.out (by omega) hy2 hL3 (by omega) (by omega)).mono ?_); rintro e w' ⟨he, rfl⟩; rw [F5.out] at he; subst he) | (go_at_call 12; refine (put32_any none 0 0 [] xl _ rfl (by simp) (.inl rfl) (by omega)).mono ?_; rintro e w4 ⟨rfl, hO4, hB4⟩; have hL4 : Lies w4 (some ⟨w3.heap.size, 0, none⟩) ([] ++ highB xl 4) := hO4.lies) | (go_at_call 17; (with_reducible refine (bit_any (some ⟨w3.heap.size, 0, none⟩) 4 4 ([] ++ highB xl 4) (n : Int) _ HL2.out (by omega) hy3 hL4 (by omega) (by omega)).mono ?_); rintro e w' ⟨he, rfl⟩; rw [G6.out] at he; subst he))) | fail
        all_goals (go_wp2; go_ret; exact ⟨rfl, hb3.drew.trans (hB4.mono hb3.drew.size)⟩)
  -- go_enter Try.func6, Try.ntmps6
  -- go_wp2
  -- go_ret
  -- exact ⟨rfl, by repeat (first | exact Grown.refl _ | apply Grown.drew | apply Grown.alloc)⟩

/-! ### THE ROW's STEP: WRITTEN OUT: LEAVE IT -/
set_option maxRecDepth 100000 in
theorem lifted (os : Os) (started : os.Started) (H : Type) (enc : TypeId × Value → H) :
    ReturnsInHanded {} Try.checked os 6 .any (Rows.octetKeepsSpec.pre6 enc Try.prog Try.f6 Rows.octetKeepsRow.domain false) (Rows.octetKeepsSpec.post enc Try.prog Try.f6 false true false false) := by
  refine returnsInHanded_of_change (C := Try.checked) own started (by kernel_rfl) Try.func6
    (ChangeSpec.witness6 (enc := enc) (C := Try.checked) false ⟨#[], #[.int .u64 0, .int .u16 0, .int .i64 0], []⟩ 8 (by kernel_rfl) (by kernel_rfl) (by kernel_rfl) (by kernel_rfl)) ?_
  intro W base args ds gs before hval0 hW hcnd _
  have hval : ∀ (j : Nat) t v, Try.f6.params[j]? = some t → args[j]? = some v → Value.okWide Try.prog W .any base t v := hval0
  have hW' := hW
  obtain ⟨p, q, hA0, hV, rfl, hfz, hnd⟩ := hW
  have hA : DataW.TrodAll enc Try.prog W 0 (fun _ => true) true Try.f6.params.toList args.toList ds p := hA0
  rw [Try.params6] at hA hval
  obtain ⟨v0, vs0, d0, ds0, p0, q0, hargs, rfl, rfl, h0, r0⟩ := trodAll_cons hA
  obtain ⟨v1, vs1, d1, ds1, p1, q1, rfl, rfl, rfl, h1, r1⟩ := trodAll_cons r0
  obtain ⟨v2, vs2, d2, ds2, p2, q2, rfl, rfl, rfl, h2, r2⟩ := trodAll_cons r1
  obtain ⟨rfl, rfl, rfl⟩ := trodAll_nil r2
  obtain rfl : args = #[v0, v1, v2] := by cases args; simp_all
  obtain ⟨rfl, rfl⟩ := trodVars_none hV
  obtain ⟨a0, rfl, rfl, rfl, w0⟩ := open_int Try.underlying23 (hval 0 23 v0 rfl rfl) h0
  obtain ⟨a1, rfl, rfl, rfl, w1⟩ := open_int Try.underlying27 (hval 1 27 v1 rfl rfl) h1
  obtain ⟨a2, rfl, rfl, rfl, w2⟩ := open_int Try.underlying3 (hval 2 3 v2 rfl rfl) h2
  clear hA0 hval0
  refine (walk a0 a1 a2 w0 w1 w2 W).mono fun e W' ⟨he, hg⟩ => ?_
  subst he
  exact ⟨_, rfl, _, _, _, [], _, [], hW', trodAll_mk1 (shut_bool Try.underlying4 _), (trodAll_cons_mk (shut_int Try.underlying23 w0) (trodAll_cons_mk (shut_int Try.underlying27 w1) (trodAll_cons_mk (shut_int Try.underlying3 w2) trodAll_mk0))), rfl, hg.frame _, fun h => by cases h⟩

theorem over : Rows.octetKeepsRow.holds Try.pinned (OpenSpec.ofChange Rows.octetKeepsSpec) :=
  OpenClaim.holds_of_wide 6 Try.f6 rfl rfl rfl rfl rfl rfl rfl ⟨rfl, rfl, rfl, rfl, rfl⟩ rfl rfl rfl rfl rfl (by kernel_rfl) Try.func6 (by kernel_rfl)
    (of_decide_eq_true (by kernel_rfl)) (by unfold Func.isWrapper; first | (rw [if_pos (by decide +kernel)]; kernel_rfl) | (rw [if_neg (by decide +kernel)]; exact ⟨rfl, rfl⟩))
    (fun os started H enc _ => lifted os started H enc)

end octetKeeps
/-- The statement. -/
theorem octetKeeps_holds : Rows.OctetKeepsSaid := octetKeeps.over
end Go.Proofs.Ytgofnoakgigjbaa
