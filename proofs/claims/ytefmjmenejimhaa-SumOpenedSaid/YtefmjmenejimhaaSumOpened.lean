/-
  For every row of bytes, every place and every byte: what was sealed is opened; with one byte that is another one, wherever it is, it is not. Conditions: none beyond the row's own.
-/
import Derived.Test.YtefmjmenejimhaaRows
import Derived.Test.YtefmjmenejimhaaSumD
import Derived.WalkKit
import Derived.ProofKit
import Derived.OpenShut
import Derived.ShutString
import Derived.ChangeOld
import Derived.Below
namespace Go.Proofs.Ytefmjmenejimhaa
namespace sumOpened
open Go.ChangeShapes Go.WideShapes Go.ChangeAt Go.RowKit
open Go.ChangeMaps (open_string shut_string)
set_option linter.unusedVariables false

theorem own : ownKnob Try.prog.godebug = none := by kernel_rfl
theorem laidOut : laidOutB Try.prog = true := by kernel_rfl

set_option maxHeartbeats 1600000
/-! ### STEP 1: THE WALK: the Go text returns true, AND WRITES NOTHING THAT WAS THERE: 'Below w.heap.size w w'' (Derived/Below.lean: '.refl', '.alloc', '.drew', '.setCell' at a new block, '.trans'). Open each 'IsRow' by 'rcases' AHEAD of 'go_enter'; part every test ahead of the walk. -/
theorem walk (a0 : Option Addr) (len0 cap0 : Nat) (z0 : List Int) (a1 : Int) (a2 : Int) (w : World) (w0 : IsRow .u8 w a0 len0 cap0 z0) (w1 : (Lit.int .i64 a1).wf = true) (w2 : (Lit.int .u8 a2).wf = true) :
    Calls Try.prog 7 #[.slice a0 len0 cap0, .int .i64 a1, .int .u8 a2] w fun e w' => e = .returned (.bool true) ∧ Below w.heap.size w w' := by
  have hy0 := bounds_u8 w2
  have hk0 := bounds_i64 w1
  obtain ⟨y, rfl⟩ := Int.eq_ofNat_of_zero_le hy0.1
  obtain ⟨l, hl, hc, hcm, hL, hB, hn⟩ := w0.bytesCap
  have HN := Lib.hid hl
  clear hl w0 w1 w2
  by_cases h1 : 3000 < len0
  · have h1' : decide ((3000 : Int) < (len0 : Int)) = true := by simp; omega
    have h1'' : decide (3000 < len0) = true := by simp; omega
    go_enter Try.func7, Try.ntmps7
    go_wp2_with (go_at_call 8; refine (wakes_any _).mono ?_; rintro e w1 ⟨rfl, hb⟩)
    go_ret
    exact ⟨rfl, hb⟩
  have h1' : decide ((3000 : Int) < (len0 : Int)) = false := by simp; omega
  have h1'' : decide (3000 < len0) = false := by simp; omega
  by_cases hz : y = 0
  · subst hz
    go_enter Try.func7, Try.ntmps7
    go_wp2_with (go_at_call 8; refine (wakes_any _).mono ?_; rintro e w1 ⟨rfl, hb⟩)
    refine (seal_any _ _ _ l _ HN.out (by omega) hB (hL.kept hb)).mono ?_
    rintro e w2 ⟨g2, rfl, hg2, hO2, hB2⟩
    have hb2 := hb.trans (hB2.mono hb.size)
    clear hB2
    go_wp2_with fail
    refine (open_done _ _ _ (l ++ highB (goS 1 l) 4) _ (by rw [List.length_append, length_highB, HN.out]) (by omega) (Nat.le_refl _) (by omega) (bys_seal _ _ hB) hO2.lies (open_seal _)).mono ?_
    rintro e w3 ⟨g3, rfl, hg3, hO3, hB3⟩
    rw [ahead_seal] at hO3
    have hb3 := hb2.trans (hB3.mono hb2.size)
    go_wp2_with fail
    refine (bequal_any _ _ _ _ _ _ l l _ (by rw [HN.out]; try rfl) HN.out hB hB hO3.lies (hL.kept hb3)).mono ?_
    rintro e w4 ⟨he, rfl⟩
    rw [beq_self_eq_true] at he
    subst he
    go_wp2_with fail
    go_ret
    exact ⟨rfl, hb3⟩
  obtain ⟨k, hk, hkk⟩ := place_any a1 (len0 + 4) (by omega)
  have hkk2 : (IntKind.u64.wrap a1).tmod ((len0 : Int) + 4) = (k : Int) := hkk
  have hin : (k : Int) < (len0 : Int) + 4 := by omega
  obtain ⟨S, hS⟩ : ∃ S, l ++ highB (goS 1 l) 4 = S := ⟨_, rfl⟩
  have hlS : S.length = len0 + 4 := by rw [← hS, List.length_append, length_highB, HN.out]
  have hBS : Bys S := by rw [← hS]; exact bys_seal _ _ hB
  have hoS : openE S = 0 := by rw [← hS]; exact open_seal l
  have haS : aheadS S = l := by rw [← hS]; exact ahead_seal l _
  have hv := hBS.at k
  have hy : y < 256 := by omega
  have hxb := xor_byte hv hy
  have hxo := u8_xor_nat (S.getD k 0) y hv hy
  have ho2 : openE (S.set k (S.getD k 0 ^^^ y)) = 130 := by
    have := open_other l k (S.getD k 0 ^^^ y) hB hxb (by rw [HN.out]; exact hk) (by rw [hS]; exact fun h => hz (xor_same _ _ h))
    rwa [hS] at this
  have hBS2 := hBS.set k _ hxb
  obtain ⟨v, hvv⟩ : ∃ v, S.getD k 0 = v := ⟨_, rfl⟩
  rw [hvv] at hxo ho2 hBS2 hv
  clear hkk hxb
  have HS := Lib.hid (And.intro hS (And.intro hlS (And.intro hoS haS)))
  have HV := Lib.hid hvv
  have HO := Lib.hid ho2
  clear hS hlS hoS haS hvv ho2
  go_enter Try.func7, Try.ntmps7
  go_wp2_with (go_at_call 8; refine (wakes_any _).mono ?_; rintro e w1 ⟨rfl, hb⟩)
  refine (seal_any _ _ _ l _ HN.out (by omega) hB (hL.kept hb)).mono ?_
  rintro e w2 ⟨g2, rfl, hg2, hO2, hB2⟩
  have hb2 := hb.trans (hB2.mono hb.size)
  have hgl : w.heap.size ≤ g2 := Nat.le_trans hb.size hg2
  rw [HS.out.1] at hO2
  clear hB2
  go_wp2_with fail
  refine (open_done _ _ _ S _ HS.out.2.1 (by omega) (Nat.le_refl _) (by omega) hBS hO2.lies HS.out.2.2.1).mono ?_
  rintro e w3 ⟨g3, rfl, hg3, hO3, hB3⟩
  rw [HS.out.2.2.2] at hO3
  have hb3 := hb2.trans (hB3.mono hb2.size)
  have hO23 := hO2.kept' hB3
  go_wp2_with fail
  refine (bequal_any _ _ _ _ _ _ l l _ (by rw [HN.out]; try rfl) HN.out hB hB hO3.lies (hL.kept hb3)).mono ?_
  rintro e w4 ⟨he, rfl⟩
  rw [beq_self_eq_true] at he
  subst he
  have hc3 := hO23.cell (i := k) (by rw [HS.out.2.1]; exact hk)
  rw [HV.out] at hc3
  have hf3 := hO23.free k
  have hO4 := hO23.set (i := k) (v ^^^ y)
  have hb4 := hb3.setCell (p := ⟨g2, k, none⟩) hgl (.int .u8 ((v ^^^ y : Nat) : Int))
  have hO4L := hO4.lies
  clear hO3 hB3 hO2 hO23 hO4
  go_wp2_with fail
  refine (open_fails _ _ _ (S.set k (v ^^^ y)) _ (by rw [List.length_set]; exact HS.out.2.1) (by omega) (Nat.le_refl _) (by omega) hBS2 hO4L (by rw [HO.out]; decide)).mono ?_
  rintro e w5 ⟨he, hB5⟩
  rw [HO.out] at he
  subst he
  have hb5 := hb4.trans (hB5.mono hb4.size)
  go_wp2_with fail
  go_ret
  exact ⟨rfl, hb5⟩

/-! ### THE ROW's STEP: WRITTEN OUT: LEAVE IT -/
set_option maxRecDepth 100000 in
theorem lifted (os : Os) (started : os.Started) (H : Type) (enc : TypeId × Value → H) :
    ReturnsInHanded {} Try.checked os 7 .any (Rows.sumOpenedSpec.pre6 enc Try.prog Try.f7 Rows.sumOpenedRow.domain false) (Rows.sumOpenedSpec.post enc Try.prog Try.f7 false true false false) := by
  refine returnsInHanded_of_change (C := Try.checked) own started (by kernel_rfl) Try.func7
    (ChangeSpec.witness6 (enc := enc) (C := Try.checked) false ⟨#[], #[.slice none 0 0, .int .i64 0, .int .u8 0], []⟩ 8 (by kernel_rfl) (by kernel_rfl) (by kernel_rfl) (by kernel_rfl)) ?_
  intro W base args ds gs before hval0 hW hcnd _
  have hval : ∀ (j : Nat) t v, Try.f7.params[j]? = some t → args[j]? = some v → Value.okWide Try.prog W .any base t v := hval0
  have hW' := hW
  obtain ⟨p, q, hA0, hV, rfl, hfz, hnd⟩ := hW
  have hA : DataW.TrodAll enc Try.prog W 0 (fun _ => true) true Try.f7.params.toList args.toList ds p := hA0
  rw [Try.params7] at hA hval
  obtain ⟨v0, vs0, d0, ds0, p0, q0, hargs, rfl, rfl, h0, r0⟩ := trodAll_cons hA
  obtain ⟨v1, vs1, d1, ds1, p1, q1, rfl, rfl, rfl, h1, r1⟩ := trodAll_cons r0
  obtain ⟨v2, vs2, d2, ds2, p2, q2, rfl, rfl, rfl, h2, r2⟩ := trodAll_cons r1
  obtain ⟨rfl, rfl, rfl⟩ := trodAll_nil r2
  obtain rfl : args = #[v0, v1, v2] := by cases args; simp_all
  obtain ⟨rfl, rfl⟩ := trodVars_none hV
  obtain ⟨a0, len0, cap0, rfl⟩ := okWide_slice Try.underlying23 (hval 0 23 v0 rfl rfl)
  have k0 := h0
  have lt0 : ∀ x ∈ p0, x.block < W.heap.size := by obtain ⟨m, hm⟩ := k0; exact DataW.trod_lt m _ _ _ hm
  obtain ⟨z0, w0⟩ : ∃ zs, IsRow .u8 W a0 len0 cap0 zs := by
    obtain ⟨fuel, hf⟩ := h0
    rcases open_ints Try.underlying23 Try.underlying5 (by kernel_rfl) hf with ⟨hcs, _⟩ | ⟨x, l, c, zs, hcs, _, hl, hm, hz, _, hcell, hwz⟩
    · simp [Value.cells] at hcs
      obtain ⟨rfl, rfl, rfl⟩ := hcs
      exact ⟨[], .inl ⟨rfl, rfl, rfl, rfl⟩⟩
    · simp [Value.cells] at hcs
      obtain ⟨rfl, rfl, rfl⟩ := hcs
      exact ⟨zs, .inr ⟨_, rfl, hl, hm, by simpa using hz, hcell, hwz⟩⟩
  obtain ⟨a1, rfl, rfl, rfl, w1⟩ := open_int Try.underlying3 (hval 1 3 v1 rfl rfl) h1
  obtain ⟨a2, rfl, rfl, rfl, w2⟩ := open_int Try.underlying5 (hval 2 5 v2 rfl rfl) h2
  clear hA0 hval0
  refine (walk a0 len0 cap0 z0 a1 a2 W w0 w1 w2).mono fun e W' ⟨he, bel⟩ => ?_
  subst he
  exact ⟨_, rfl, _, _, _, [], _, [], hW', trodAll_mk1 (shut_bool Try.underlying4 _), (trodAll_cons_mk (Below.trod laidOut (by kernel_rfl) (of_decide_eq_true (by kernel_rfl)) k0 bel lt0) (trodAll_cons_mk (shut_int Try.underlying3 w1) (trodAll_cons_mk (shut_int Try.underlying5 w2) trodAll_mk0))), rfl, bel.frame _, fun h => by cases h⟩

theorem over : Rows.sumOpenedRow.holds Try.pinned (OpenSpec.ofChange Rows.sumOpenedSpec) :=
  OpenClaim.holds_of_wide 7 Try.f7 rfl rfl rfl rfl rfl rfl rfl ⟨rfl, rfl, rfl, rfl, rfl⟩ rfl rfl rfl rfl rfl (by kernel_rfl) Try.func7 (by kernel_rfl)
    (of_decide_eq_true (by kernel_rfl)) (by unfold Func.isWrapper; first | (rw [if_pos (by decide +kernel)]; kernel_rfl) | (rw [if_neg (by decide +kernel)]; exact ⟨rfl, rfl⟩))
    (fun os started H enc _ => lifted os started H enc)

end sumOpened
/-- The statement. -/
theorem sumOpened_holds : Rows.SumOpenedSaid := sumOpened.over
end Go.Proofs.Ytefmjmenejimhaa
