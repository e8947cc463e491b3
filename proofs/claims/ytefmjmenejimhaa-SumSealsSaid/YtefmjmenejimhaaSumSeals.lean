/-
  For every row of bytes: Seal32 and Open32 seal and open as the reference does, in new lists, or refuse, and the bytes stay as they were. Conditions: none beyond the row's own.
-/
import Derived.Test.YtefmjmenejimhaaRows
import Derived.Test.YtefmjmenejimhaaSumD
import Derived.WalkKit
import Derived.ProofKit
import Derived.OpenShut
import Derived.ShutString
import Derived.ChangeOld
import Derived.Below
namespace Go.Proofs.Ytefmjmenejimhaa
namespace sumSeals
open Go.ChangeShapes Go.WideShapes Go.ChangeAt Go.RowKit
open Go.ChangeMaps (open_string shut_string)
set_option linter.unusedVariables false

theorem own : ownKnob Try.prog.godebug = none := by kernel_rfl
theorem laidOut : laidOutB Try.prog = true := by kernel_rfl

set_option maxHeartbeats 1600000
/-- While what was sealed and what was opened are wiped. -/
structure Wip (w0 w : World) (l : List Nat) (g0 gs gx ns nx : Nat) : Prop where
  hb : Below w0.heap.size w0 w
  hO : Own w g0 l
  hs : ∃ t, Own w gs t ∧ t.length = ns
  hx : ∃ t, Own w gx t ∧ t.length = nx
theorem Wip.stepS {w0 w : World} {l : List Nat} {g0 gs gx ns nx : Nat} (h : Wip w0 w l g0 gs gx ns nx) (k : Nat) (b : w0.heap.size ≤ gs) (h1 : g0 ≠ gs) (h2 : gx ≠ gs) : Wip w0 (w.setCell ⟨gs, k, none⟩ (.int .u8 9)) l g0 gs gx ns nx := by
  obtain ⟨hb, hO, ⟨t, ot, lt⟩, ⟨u, ou, lu⟩⟩ := h
  exact ⟨hb.setCell b _, hO.other h1 _, ⟨t.set k 9, ot.set 9, by simpa using lt⟩, ⟨u, ou.other h2 _, lu⟩⟩
theorem Wip.stepX {w0 w : World} {l : List Nat} {g0 gs gx ns nx : Nat} (h : Wip w0 w l g0 gs gx ns nx) (k : Nat) (b : w0.heap.size ≤ gx) (h1 : g0 ≠ gx) (h2 : gs ≠ gx) : Wip w0 (w.setCell ⟨gx, k, none⟩ (.int .u8 9)) l g0 gs gx ns nx := by
  obtain ⟨hb, hO, ⟨t, ot, lt⟩, ⟨u, ou, lu⟩⟩ := h
  exact ⟨hb.setCell b _, hO.other h1 _, ⟨t, ot.other h2 _, lt⟩, ⟨u.set k 9, ou.set 9, by simpa using lu⟩⟩
/-! ### STEP 1: THE WALK: the Go text returns true, AND WRITES NOTHING THAT WAS THERE: 'Below w.heap.size w w'' (Derived/Below.lean: '.refl', '.alloc', '.drew', '.setCell' at a new block, '.trans'). Open each 'IsRow' by 'rcases' AHEAD of 'go_enter'; part every test ahead of the walk. -/
theorem walk (a0 : Option Addr) (len0 cap0 : Nat) (z0 : List Int) (w : World) (w0 : IsRow .u8 w a0 len0 cap0 z0) :
    Calls Try.prog 4 #[.slice a0 len0 cap0] w fun e w' => e = .returned (.bool true) ∧ Below w.heap.size w w' := by
  obtain ⟨l, hl, hc, hcm, hL, hB, hn⟩ := w0.bytesCap
  have HN := Lib.hid hl
  clear hl w0
  by_cases h1 : 3000 < len0
  · have h1' : decide ((3000 : Int) < (len0 : Int)) = true := by simp; omega
    have h1'' : decide (3000 < len0) = true := by simp; omega
    go_enter Try.func4, Try.ntmps4
    go_wp2_with (go_at_call 8; refine (wakes_any _).mono ?_; rintro e w1 ⟨rfl, hb⟩)
    go_ret
    exact ⟨rfl, hb⟩
  have h1' : decide ((3000 : Int) < (len0 : Int)) = false := by simp; omega
  have h1'' : decide (3000 < len0) = false := by simp; omega
  by_cases h4 : len0 < 4
  · have h4' : (len0 : Int) < 4 := by omega
    have ho : openE l = 7 := by unfold openE; rw [if_pos (by rw [HN.out]; exact h4)]
    have HO := Lib.hid ho
    clear ho
    go_enter Try.func4, Try.ntmps4
    go_wp2_with (go_at_call 8; refine (wakes_any _).mono ?_; rintro e w1 ⟨rfl, hb⟩)
    refine (both_any _ _ _ _ 0 0 l [] _ HN.out rfl (by omega) (by simp) (hL.kept hb) (.inl rfl)).mono ?_
    rintro e w2 ⟨rfl, hO2, hB2⟩
    rw [List.append_nil] at hO2
    have hb2 := hb.trans (hB2.mono hb.size)
    clear hB2
    go_wp2_with fail
    refine (seal_any _ _ _ l _ HN.out (by omega) hB (hL.kept hb2)).mono ?_
    rintro e w3 ⟨g3, rfl, hg3, hO3, hB3⟩
    have hb3 := hb2.trans (hB3.mono hb2.size)
    have hO23 := hO2.kept' hB3
    clear hB3 hO2
    go_wp2_with fail
    refine (open_fails _ _ _ l _ HN.out (by omega) hc hcm hB (hL.kept hb3) (by rw [HO.out]; decide)).mono ?_
    rintro e w4 ⟨he, hB4⟩
    rw [HO.out] at he
    subst he
    have hb4 := hb3.trans (hB4.mono hb3.size)
    have hO24 := hO23.kept' hB4
    have hO34 := hO3.kept' hB4
    clear hB4 hO23 hO3
    go_wp2_with fail
    refine (refseal_any _ _ _ l _ HN.out (by omega) hB hO24.lies).mono ?_
    rintro e w5 ⟨g5, rfl, hg5, hO5, hB5⟩
    have hb5 := hb4.trans (hB5.mono hb4.size)
    have hO25 := hO24.kept' hB5
    have hO35 := hO34.kept' hB5
    clear hB5 hO24 hO34
    go_wp2_with fail
    refine (same_any _ _ _ _ _ _ (l ++ highB (goS 1 l) 4) (l ++ highB (goS 1 l) 4) _ (by rw [List.length_append, length_highB, HN.out]) (by rw [List.length_append, length_highB, HN.out]) (by omega) (by omega) hO35.lies hO5.lies).mono ?_
    rintro e w6 ⟨he, hD⟩
    rw [beq_self_eq_true] at he
    subst he
    have hb6 := hb5.trans (hD.below _)
    go_wp2_with fail
    go_ret
    exact ⟨rfl, hb6⟩
  have h4' : ¬ ((len0 : Int) < 4) := by omega
  by_cases ho : openE l = 0
  · obtain ⟨n, hn4⟩ : ∃ n, len0 - 4 = n := ⟨_, rfl⟩
    have q1 : (len0 : Int) - 4 = (n : Int) := by omega
    have q2 : (0 : Int) ≤ (n : Int) := by omega
    have q3 : (n : Int) ≤ (len0 : Int) := by omega
    have hbt : (openE l == 0) = true := by rw [ho]; rfl
    have hla : (aheadS l).length = n := by have := HN.out; unfold aheadS; rw [List.length_take, this]; omega
    have hta : l.take n = aheadS l := by have := HN.out; unfold aheadS; rw [this, hn4]
    have HO := Lib.hid (And.intro ho (And.intro hbt (And.intro hla hta)))
    clear ho hbt hla hta
    go_enter Try.func4, Try.ntmps4
    go_wp2_with (go_at_call 8; refine (wakes_any _).mono ?_; rintro e w1 ⟨rfl, hb⟩)
    refine (both_any _ _ _ _ 0 0 l [] _ HN.out rfl (by omega) (by simp) (hL.kept hb) (.inl rfl)).mono ?_
    rintro e w2 ⟨rfl, hO2, hB2⟩
    rw [List.append_nil] at hO2
    have hb2 := hb.trans (hB2.mono hb.size)
    have hg0 : w.heap.size ≤ w1.heap.size := hb.size
    clear hB2
    go_wp2_with fail
    refine (seal_any _ _ _ l _ HN.out (by omega) hB (hL.kept hb2)).mono ?_
    rintro e w3 ⟨g3, rfl, hg3, hO3, hB3⟩
    have hb3 := hb2.trans (hB3.mono hb2.size)
    have hO23 := hO2.kept' hB3
    have hne3 : w1.heap.size < g3 := Nat.lt_of_lt_of_le hO2.lt hg3
    have hl3 := hO3.lt
    clear hB3 hO2 hg3
    go_wp2_with fail
    refine (open_done _ _ _ l _ HN.out (by omega) hc hcm hB (hL.kept hb3) HO.out.1).mono ?_
    rintro e w4 ⟨g4, rfl, hg4, hO4, hB4⟩
    have hb4 := hb3.trans (hB4.mono hb3.size)
    have hO24 := hO23.kept' hB4
    have hO34 := hO3.kept' hB4
    have hne4 : g3 < g4 := Nat.lt_of_lt_of_le hl3 hg4
    clear hB4 hO23 hO3 hl3 hg4
    go_wp2_with fail
    refine (refseal_any _ _ _ l _ HN.out (by omega) hB hO24.lies).mono ?_
    rintro e w5 ⟨g5, rfl, hg5, hO5, hB5⟩
    have hb5 := hb4.trans (hB5.mono hb4.size)
    have hO25 := hO24.kept' hB5
    have hO35 := hO34.kept' hB5
    have hO45 := hO4.kept' hB5
    clear hB5 hO24 hO34 hO4
    go_wp2_with fail
    refine (same_any _ _ _ _ _ _ (l ++ highB (goS 1 l) 4) (l ++ highB (goS 1 l) 4) _ (by rw [List.length_append, length_highB, HN.out]) (by rw [List.length_append, length_highB, HN.out]) (by omega) (by omega) hO35.lies hO5.lies).mono ?_
    rintro e w6 ⟨he, hD⟩
    rw [beq_self_eq_true] at he
    subst he
    have hb6 := hb5.trans (hD.below _)
    have hO26 := hO25.kept' (hD.below _)
    have hO36 := hO35.kept' (hD.below _)
    have hO46 := hO45.kept' (hD.below _)
    clear hD hO25 hO35 hO45 hO5 hb5
    go_wp2_with fail
    refine (refopens_any _ _ _ l _ HN.out (by omega) (by omega) (by omega) (by omega) hB hO26.lies).mono ?_
    rintro e w7 ⟨he, hB7⟩
    rw [HO.out.2.1] at he
    subst he
    have hb7 := hb6.trans (hB7.mono hb6.size)
    have hO27 := hO26.kept' hB7
    have hO37 := hO36.kept' hB7
    have hO47 := hO46.kept' hB7
    clear hB7 hO26 hO36 hO46 hb6
    go_wp2_with fail
    refine (same_any _ _ _ _ _ _ (aheadS l) (aheadS l) _ HO.out.2.2.1 HO.out.2.2.1 (by omega) (by omega) hO47.lies (by have := hO27.lies.ahead n; rwa [HO.out.2.2.2] at this)).mono ?_
    rintro e w8 ⟨he, hD⟩
    rw [beq_self_eq_true] at he
    subst he
    have hW8 : Wip w w8 l w1.heap.size g3 g4 (len0 + 4) n := ⟨hb7.trans (hD.below _), hO27.kept' (hD.below _), ⟨_, hO37.kept' (hD.below _), by rw [List.length_append, length_highB, HN.out]⟩, ⟨_, hO47.kept' (hD.below _), HO.out.2.2.1⟩⟩
    clear hD hO27 hO37 hO47 hb7 hb2 hb3 hb4 hb
    generalize w1.heap.size = g0 at *
    have hgs : w.heap.size ≤ g3 := by omega
    have hgx : w.heap.size ≤ g4 := by omega
    go_wp2
    go_loopw [61] (fun i wr => ∃ k : Nat, k ≤ len0 + 4 ∧ i = .int .i64 k ∧ Wip w wr l g0 g3 g4 (len0 + 4) n) (fun i _ => len0 + 4 - (intOf i).toNat)
    case atStart => exact ⟨0, Nat.zero_le _, rfl, hW8⟩
    case round =>
      obtain ⟨k, hk, rfl, hW⟩ := hrel
      clear hW8
      by_cases hlt : k < len0 + 4
      · obtain ⟨t, ot, nt⟩ := hW.hs
        have ct := ot.cell (i := k) (by omega)
        have ft := ot.free k
        have hW2 := hW.stepS k hgs (by omega) (by omega)
        have hin : (k : Int) < ((len0 + 4 : Nat) : Int) := by omega
        have hin2 : (k : Int) < (len0 : Int) + 4 := by omega
        clear ot nt hW
        generalize t.getD k 0 = y at *
        go_wp2
        go_roundw
        case rel => first | exact ⟨k + 1, by omega, by go_num, hW2⟩ | ((repeat apply Exists.intro); exact ⟨⟨k + 1, by omega, by go_num, hW2⟩, rfl⟩)
        case measure => simp [intOf]; omega
      · obtain rfl : k = len0 + 4 := by omega
        have hin : ¬ (((len0 + 4 : Nat) : Int) < ((len0 + 4 : Nat) : Int)) := by omega
        have hin2 : ¬ ((len0 : Int) + 4 < (len0 : Int) + 4) := by omega
        go_wp2
        go_loopw [70] (fun i wx => ∃ k : Nat, k ≤ n ∧ i = .int .i64 k ∧ Wip w wx l g0 g3 g4 (len0 + 4) n) (fun i _ => n - (intOf i).toNat)
        case atStart => exact ⟨0, Nat.zero_le _, rfl, hW⟩
        case round =>
          obtain ⟨k, hk, rfl, hWx⟩ := hrel
          clear hW
          by_cases hlt2 : k < n
          · obtain ⟨t, ot, nt⟩ := hWx.hx
            have ct := ot.cell (i := k) (by omega)
            have ft := ot.free k
            have hW2 := hWx.stepX k hgx (by omega) (by omega)
            have hin3 : (k : Int) < (n : Int) := by omega
            clear ot nt hWx
            generalize t.getD k 0 = y at *
            go_wp2
            go_roundw
            case rel => first | exact ⟨k + 1, by omega, by go_num, hW2⟩ | ((repeat apply Exists.intro); exact ⟨⟨k + 1, by omega, by go_num, hW2⟩, rfl⟩)
            case measure => simp [intOf]; omega
          · obtain rfl : k = n := by omega
            have hin3 : ¬ ((k : Int) < (k : Int)) := by omega
            go_wp2_with fail
            refine (same_any _ _ _ _ _ _ l l _ HN.out HN.out (by omega) (by omega) (hL.kept hWx.hb) hWx.hO.lies).mono ?_
            rintro e w9 ⟨he, hD⟩
            rw [beq_self_eq_true] at he
            subst he
            have hb9 := hWx.hb.trans (hD.below _)
            go_wp2_with fail
            go_ret
            exact ⟨rfl, hb9⟩
  · have ho3 : openE l = 130 := by
      unfold openE at ho ⊢
      rw [if_neg (by rw [HN.out]; exact h4)] at ho ⊢
      by_cases hs : goS 1 (aheadS l) = saidS l
      · rw [if_pos hs] at ho; exact absurd rfl ho
      · rw [if_neg hs]
    have hbt : (openE l == 0) = false := by rw [ho3]; rfl
    have HO := Lib.hid (And.intro ho3 hbt)
    clear ho ho3 hbt
    go_enter Try.func4, Try.ntmps4
    go_wp2_with (go_at_call 8; refine (wakes_any _).mono ?_; rintro e w1 ⟨rfl, hb⟩)
    refine (both_any _ _ _ _ 0 0 l [] _ HN.out rfl (by omega) (by simp) (hL.kept hb) (.inl rfl)).mono ?_
    rintro e w2 ⟨rfl, hO2, hB2⟩
    rw [List.append_nil] at hO2
    have hb2 := hb.trans (hB2.mono hb.size)
    clear hB2
    go_wp2_with fail
    refine (seal_any _ _ _ l _ HN.out (by omega) hB (hL.kept hb2)).mono ?_
    rintro e w3 ⟨g3, rfl, hg3, hO3, hB3⟩
    have hb3 := hb2.trans (hB3.mono hb2.size)
    have hO23 := hO2.kept' hB3
    clear hB3 hO2
    go_wp2_with fail
    refine (open_fails _ _ _ l _ HN.out (by omega) hc hcm hB (hL.kept hb3) (by rw [HO.out.1]; decide)).mono ?_
    rintro e w4 ⟨he, hB4⟩
    rw [HO.out.1] at he
    subst he
    have hb4 := hb3.trans (hB4.mono hb3.size)
    have hO24 := hO23.kept' hB4
    have hO34 := hO3.kept' hB4
    clear hB4 hO23 hO3
    go_wp2_with fail
    refine (refseal_any _ _ _ l _ HN.out (by omega) hB hO24.lies).mono ?_
    rintro e w5 ⟨g5, rfl, hg5, hO5, hB5⟩
    have hb5 := hb4.trans (hB5.mono hb4.size)
    have hO25 := hO24.kept' hB5
    have hO35 := hO34.kept' hB5
    clear hB5 hO24 hO34
    go_wp2_with fail
    refine (same_any _ _ _ _ _ _ (l ++ highB (goS 1 l) 4) (l ++ highB (goS 1 l) 4) _ (by rw [List.length_append, length_highB, HN.out]) (by rw [List.length_append, length_highB, HN.out]) (by omega) (by omega) hO35.lies hO5.lies).mono ?_
    rintro e w6 ⟨he, hD⟩
    rw [beq_self_eq_true] at he
    subst he
    have hb6 := hb5.trans (hD.below _)
    have hO26 := hO25.kept' (hD.below _)
    clear hD hO25 hO35 hO5 hb5
    go_wp2_with fail
    refine (refopens_any _ _ _ l _ HN.out (by omega) (by omega) (by omega) (by omega) hB hO26.lies).mono ?_
    rintro e w7 ⟨he, hB7⟩
    rw [HO.out.2] at he
    subst he
    have hb7 := hb6.trans (hB7.mono hb6.size)
    go_wp2_with fail
    go_ret
    exact ⟨rfl, hb7⟩

/-! ### THE ROW's STEP: WRITTEN OUT: LEAVE IT -/
set_option maxRecDepth 100000 in
theorem lifted (os : Os) (started : os.Started) (H : Type) (enc : TypeId × Value → H) :
    ReturnsInHanded {} Try.checked os 4 .any (Rows.sumSealsSpec.pre6 enc Try.prog Try.f4 Rows.sumSealsRow.domain false) (Rows.sumSealsSpec.post enc Try.prog Try.f4 false true false false) := by
  refine returnsInHanded_of_change (C := Try.checked) own started (by kernel_rfl) Try.func4
    (ChangeSpec.witness6 (enc := enc) (C := Try.checked) false ⟨#[], #[.slice none 0 0], []⟩ 8 (by kernel_rfl) (by kernel_rfl) (by kernel_rfl) (by kernel_rfl)) ?_
  intro W base args ds gs before hval0 hW hcnd _
  have hval : ∀ (j : Nat) t v, Try.f4.params[j]? = some t → args[j]? = some v → Value.okWide Try.prog W .any base t v := hval0
  have hW' := hW
  obtain ⟨p, q, hA0, hV, rfl, hfz, hnd⟩ := hW
  have hA : DataW.TrodAll enc Try.prog W 0 (fun _ => true) true Try.f4.params.toList args.toList ds p := hA0
  rw [Try.params4] at hA hval
  obtain ⟨v0, vs0, d0, ds0, p0, q0, hargs, rfl, rfl, h0, r0⟩ := trodAll_cons hA
  obtain ⟨rfl, rfl, rfl⟩ := trodAll_nil r0
  obtain rfl : args = #[v0] := by cases args; simp_all
  obtain ⟨rfl, rfl⟩ := trodVars_none hV
  obtain ⟨a0, len0, cap0, rfl⟩ := okWide_slice Try.underlying23 (hval 0 23 v0 rfl rfl)
  have k0 := h0
  have lt0 : ∀ x ∈ p0, x.block < W.heap.size := by obtain ⟨m, hm⟩ := k0; exact DataW.trod_lt m _ _ _ hm
  obtain ⟨z0, w0⟩ : ∃ zs, IsRow .u8 W a0 len0 cap0 zs := by
    obtain ⟨fuel, hf⟩ := h0
    rcases open_ints Try.underlying23 Try.underlying5 (by kernel_rfl) hf with ⟨hcs, _⟩ | ⟨x, l, c, zs, hcs, _, hl, hm, hz, _, hcell, hwz⟩
    · simp [Value.cells] at hcs
      obtain ⟨rfl, rfl, rfl⟩ := hcs
      exact ⟨[], .inl ⟨rfl, rfl, rfl, rfl⟩⟩
    · simp [Value.cells] at hcs
      obtain ⟨rfl, rfl, rfl⟩ := hcs
      exact ⟨zs, .inr ⟨_, rfl, hl, hm, by simpa using hz, hcell, hwz⟩⟩
  clear hA0 hval0
  refine (walk a0 len0 cap0 z0 W w0).mono fun e W' ⟨he, bel⟩ => ?_
  subst he
  exact ⟨_, rfl, _, _, _, [], _, [], hW', trodAll_mk1 (shut_bool Try.underlying4 _), (trodAll_cons_mk (Below.trod laidOut (by kernel_rfl) (of_decide_eq_true (by kernel_rfl)) k0 bel lt0) trodAll_mk0), rfl, bel.frame _, fun h => by cases h⟩

theorem over : Rows.sumSealsRow.holds Try.pinned (OpenSpec.ofChange Rows.sumSealsSpec) :=
  OpenClaim.holds_of_wide 4 Try.f4 rfl rfl rfl rfl rfl rfl rfl ⟨rfl, rfl, rfl, rfl, rfl⟩ rfl rfl rfl rfl rfl (by kernel_rfl) Try.func4 (by kernel_rfl)
    (of_decide_eq_true (by kernel_rfl)) (by unfold Func.isWrapper; first | (rw [if_pos (by decide +kernel)]; kernel_rfl) | (rw [if_neg (by decide +kernel)]; exact ⟨rfl, rfl⟩))
    (fun os started H enc _ => lifted os started H enc)

end sumSeals
/-- The statement. -/
theorem sumSeals_holds : Rows.SumSealsSaid := sumSeals.over
end Go.Proofs.Ytefmjmenejimhaa
