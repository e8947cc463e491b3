/-
  For every three rows of bytes: On of a sum of bytes is the sum of both, one behind the other, and sums that go on with the same bytes are the same just where they were the same. Conditions: none beyond the row's own.
-/
import Derived.Test.YtefmjmenejimhaaRows
import Derived.Test.YtefmjmenejimhaaSumD
import Derived.WalkKit
import Derived.ProofKit
import Derived.OpenShut
import Derived.ShutString
import Derived.ChangeOld
import Derived.Below
namespace Go.Proofs.Ytefmjmenejimhaa
namespace sumBehind
open Go.ChangeShapes Go.WideShapes Go.ChangeAt Go.RowKit
open Go.ChangeMaps (open_string shut_string)
set_option linter.unusedVariables false

theorem own : ownKnob Try.prog.godebug = none := by kernel_rfl
theorem laidOut : laidOutB Try.prog = true := by kernel_rfl

set_option maxHeartbeats 1600000
/-! ### STEP 1: THE WALK: the Go text returns true, AND WRITES NOTHING THAT WAS THERE: 'Below w.heap.size w w'' (Derived/Below.lean: '.refl', '.alloc', '.drew', '.setCell' at a new block, '.trans'). Open each 'IsRow' by 'rcases' AHEAD of 'go_enter'; part every test ahead of the walk. -/
theorem walk (a0 : Option Addr) (len0 cap0 : Nat) (z0 : List Int) (a1 : Option Addr) (len1 cap1 : Nat) (z1 : List Int) (a2 : Option Addr) (len2 cap2 : Nat) (z2 : List Int) (w : World) (w0 : IsRow .u8 w a0 len0 cap0 z0) (w1 : IsRow .u8 w a1 len1 cap1 z1) (w2 : IsRow .u8 w a2 len2 cap2 z2) :
    Calls Try.prog 5 #[.slice a0 len0 cap0, .slice a1 len1 cap1, .slice a2 len2 cap2] w fun e w' => e = .returned (.bool true) ∧ Below w.heap.size w w' := by
  obtain ⟨la, hla, hca, hcma, hLa, hBa, hna⟩ := w0.bytesCap
  obtain ⟨lc, hlc, hcc, hcmc, hLc, hBc, hnc⟩ := w1.bytesCap
  obtain ⟨lb, hlb, hcb, hcmb, hLb, hBb, hnb⟩ := w2.bytesCap
  have HA := Lib.hid hla
  have HC := Lib.hid hlc
  have HB := Lib.hid hlb
  clear hla hlc hlb w0 w1 w2
  by_cases h0 : 3000 < len0
  · have h0' : decide ((3000 : Int) < (len0 : Int)) = true := by simp; omega
    have h0'' : decide (3000 < len0) = true := by simp; omega
    go_enter Try.func5, Try.ntmps5
    go_wp2_with (go_at_call 8; refine (wakes_any _).mono ?_; rintro e w1 ⟨rfl, hb⟩)
    go_ret
    exact ⟨rfl, hb⟩
  have h0' : decide ((3000 : Int) < (len0 : Int)) = false := by simp; omega
  have h0'' : decide (3000 < len0) = false := by simp; omega
  by_cases h2 : 3000 < len2
  · have h2' : decide ((3000 : Int) < (len2 : Int)) = true := by simp; omega
    have h2'' : decide (3000 < len2) = true := by simp; omega
    go_enter Try.func5, Try.ntmps5
    go_wp2_with (go_at_call 8; refine (wakes_any _).mono ?_; rintro e w1 ⟨rfl, hb⟩)
    go_ret
    exact ⟨rfl, hb⟩
  have h2' : decide ((3000 : Int) < (len2 : Int)) = false := by simp; omega
  have h2'' : decide (3000 < len2) = false := by simp; omega
  by_cases h1 : 3000 < len1
  · have h1' : decide ((3000 : Int) < (len1 : Int)) = true := by simp; omega
    have h1'' : decide (3000 < len1) = true := by simp; omega
    go_enter Try.func5, Try.ntmps5
    go_wp2_with (go_at_call 8; refine (wakes_any _).mono ?_; rintro e w1 ⟨rfl, hb⟩)
    go_ret
    exact ⟨rfl, hb⟩
  have h1' : decide ((3000 : Int) < (len1 : Int)) = false := by simp; omega
  have h1'' : decide (3000 < len1) = false := by simp; omega
  go_enter Try.func5, Try.ntmps5
  go_wp2_with (go_at_call 8; refine (wakes_any _).mono ?_; rintro e w1 ⟨rfl, hb⟩)
  refine (clone_any _ _ _ la _ HA.out (by omega) hna (hLa.kept hb)).mono ?_
  rintro e w2 ⟨v2, rfl, hO2, hB2⟩
  have hb2 := hb.trans (hB2.mono hb.size)
  have hg2 := hb.size
  have hs2 := hB2.size
  go_wp2_with (refine wpList_append_got rfl (.tmp 25) (.tmp 26) rfl w1.heap.size v2 len0 (la.map byc) rfl hO2 a2 cap2 lb (by rw [HB.out]; rfl) (hLb.kept hb2) (fun e => (hnb e).2) (by rw [HB.out]; omega) hs2 ?_; intro v3 w3 hO3 hG3)
  rw [← List.map_append, show len0 + lb.length = (la ++ lb).length by rw [List.length_append, HA.out]] at hO3
  have hb3 : Below w.heap.size w w3 := hb2.grown hG3 hb2.size (fun k hk => by have := (hO2.lt k hk).1; omega)
  obtain ⟨a3, c3, rfl, hL3, _, _⟩ := owns_lies hO3
  clear hO2 hB2 hO3 hG3 hs2 hg2
  refine (sum_any _ _ _ (la ++ lb) _ rfl (by rw [List.length_append, HA.out, HB.out]; omega) (hBa.append hBb) hL3).mono ?_
  rintro e w4 ⟨rfl, hB4⟩
  have hb4 := hb3.trans (hB4.mono hb3.size)
  clear hB4 hL3
  go_wp2_with fail
  refine (clone_any _ _ _ lc _ HC.out (by omega) hnc (hLc.kept hb4)).mono ?_
  rintro e w5 ⟨v5, rfl, hO5, hB5⟩
  have hb5 := hb4.trans (hB5.mono hb4.size)
  have hg5 := hb4.size
  have hs5 := hB5.size
  go_wp2_with (refine wpList_append_got rfl (.tmp 30) (.tmp 31) rfl w4.heap.size v5 len1 (lc.map byc) rfl hO5 a2 cap2 lb (by rw [HB.out]; rfl) (hLb.kept hb5) (fun e => (hnb e).2) (by rw [HB.out]; omega) hs5 ?_; intro v6 w6 hO6 hG6)
  rw [← List.map_append, show len1 + lb.length = (lc ++ lb).length by rw [List.length_append, HC.out]] at hO6
  have hb6 : Below w.heap.size w w6 := hb5.grown hG6 hb5.size (fun k hk => by have := (hO5.lt k hk).1; omega)
  obtain ⟨a6, c6, rfl, hL6, _, _⟩ := owns_lies hO6
  clear hO5 hB5 hO6 hG6 hs5 hg5
  refine (sum_any _ _ _ (lc ++ lb) _ rfl (by rw [List.length_append, HC.out, HB.out]; omega) (hBc.append hBb) hL6).mono ?_
  rintro e w7 ⟨rfl, hB7⟩
  have hb7 := hb6.trans (hB7.mono hb6.size)
  clear hB7 hL6
  go_wp2_with fail
  refine (sum_any _ _ _ la _ HA.out (by omega) hBa (hLa.kept hb7)).mono ?_
  rintro e w8 ⟨rfl, hB8⟩
  have hb8 := hb7.trans (hB8.mono hb7.size)
  have hlt8 := goS_lt 1 la
  clear hB8
  go_wp2_with fail
  refine (on_any (goS 1 la) _ _ _ lb _ HB.out (by omega) hBb (hLb.kept hb8) (by omega)).mono ?_
  rintro e w9 ⟨rfl, hB9⟩
  have hb9 := hb8.trans (hB9.mono hb8.size)
  clear hB9
  have q1 : (((goS 1 (la ++ lb) : Nat) : Int) == ((goS (goS 1 la) lb : Nat) : Int)) = true := by rw [go_both]; simp
  have q2 := go_apart la lc lb
  go_wp2_with fail
  refine (sum_any _ _ _ la _ HA.out (by omega) hBa (hLa.kept hb9)).mono ?_
  rintro e w10 ⟨rfl, hB10⟩
  have hb10 := hb9.trans (hB10.mono hb9.size)
  go_wp2_with fail
  refine (sum_any _ _ _ lc _ HC.out (by omega) hBc (hLc.kept hb10)).mono ?_
  rintro e w11 ⟨rfl, hB11⟩
  have hb11 := hb10.trans (hB11.mono hb10.size)
  go_wp2_with fail
  go_ret
  exact ⟨rfl, hb11⟩

/-! ### THE ROW's STEP: WRITTEN OUT: LEAVE IT -/
set_option maxRecDepth 100000 in
theorem lifted (os : Os) (started : os.Started) (H : Type) (enc : TypeId × Value → H) :
    ReturnsInHanded {} Try.checked os 5 .any (Rows.sumBehindSpec.pre6 enc Try.prog Try.f5 Rows.sumBehindRow.domain false) (Rows.sumBehindSpec.post enc Try.prog Try.f5 false true false false) := by
  refine returnsInHanded_of_change (C := Try.checked) own started (by kernel_rfl) Try.func5
    (ChangeSpec.witness6 (enc := enc) (C := Try.checked) false ⟨#[], #[.slice none 0 0, .slice none 0 0, .slice none 0 0], []⟩ 8 (by kernel_rfl) (by kernel_rfl) (by kernel_rfl) (by kernel_rfl)) ?_
  intro W base args ds gs before hval0 hW hcnd _
  have hval : ∀ (j : Nat) t v, Try.f5.params[j]? = some t → args[j]? = some v → Value.okWide Try.prog W .any base t v := hval0
  have hW' := hW
  obtain ⟨p, q, hA0, hV, rfl, hfz, hnd⟩ := hW
  have hA : DataW.TrodAll enc Try.prog W 0 (fun _ => true) true Try.f5.params.toList args.toList ds p := hA0
  rw [Try.params5] at hA hval
  obtain ⟨v0, vs0, d0, ds0, p0, q0, hargs, rfl, rfl, h0, r0⟩ := trodAll_cons hA
  obtain ⟨v1, vs1, d1, ds1, p1, q1, rfl, rfl, rfl, h1, r1⟩ := trodAll_cons r0
  obtain ⟨v2, vs2, d2, ds2, p2, q2, rfl, rfl, rfl, h2, r2⟩ := trodAll_cons r1
  obtain ⟨rfl, rfl, rfl⟩ := trodAll_nil r2
  obtain rfl : args = #[v0, v1, v2] := by cases args; simp_all
  obtain ⟨rfl, rfl⟩ := trodVars_none hV
  obtain ⟨a0, len0, cap0, rfl⟩ := okWide_slice Try.underlying23 (hval 0 23 v0 rfl rfl)
  have k0 := h0
  have lt0 : ∀ x ∈ p0, x.block < W.heap.size := by obtain ⟨m, hm⟩ := k0; exact DataW.trod_lt m _ _ _ hm
  obtain ⟨z0, w0⟩ : ∃ zs, IsRow .u8 W a0 len0 cap0 zs := by
    obtain ⟨fuel, hf⟩ := h0
    rcases open_ints Try.underlying23 Try.underlying5 (by kernel_rfl) hf with ⟨hcs, _⟩ | ⟨x, l, c, zs, hcs, _, hl, hm, hz, _, hcell, hwz⟩
    · simp [Value.cells] at hcs
      obtain ⟨rfl, rfl, rfl⟩ := hcs
      exact ⟨[], .inl ⟨rfl, rfl, rfl, rfl⟩⟩
    · simp [Value.cells] at hcs
      obtain ⟨rfl, rfl, rfl⟩ := hcs
      exact ⟨zs, .inr ⟨_, rfl, hl, hm, by simpa using hz, hcell, hwz⟩⟩
  obtain ⟨a1, len1, cap1, rfl⟩ := okWide_slice Try.underlying23 (hval 1 23 v1 rfl rfl)
  have k1 := h1
  have lt1 : ∀ x ∈ p1, x.block < W.heap.size := by obtain ⟨m, hm⟩ := k1; exact DataW.trod_lt m _ _ _ hm
  obtain ⟨z1, w1⟩ : ∃ zs, IsRow .u8 W a1 len1 cap1 zs := by
    obtain ⟨fuel, hf⟩ := h1
    rcases open_ints Try.underlying23 Try.underlying5 (by kernel_rfl) hf with ⟨hcs, _⟩ | ⟨x, l, c, zs, hcs, _, hl, hm, hz, _, hcell, hwz⟩
    · simp [Value.cells] at hcs
      obtain ⟨rfl, rfl, rfl⟩ := hcs
      exact ⟨[], .inl ⟨rfl, rfl, rfl, rfl⟩⟩
    · simp [Value.cells] at hcs
      obtain ⟨rfl, rfl, rfl⟩ := hcs
      exact ⟨zs, .inr ⟨_, rfl, hl, hm, by simpa using hz, hcell, hwz⟩⟩
  obtain ⟨a2, len2, cap2, rfl⟩ := okWide_slice Try.underlying23 (hval 2 23 v2 rfl rfl)
  have k2 := h2
  have lt2 : ∀ x ∈ p2, x.block < W.heap.size := by obtain ⟨m, hm⟩ := k2; exact DataW.trod_lt m _ _ _ hm
  obtain ⟨z2, w2⟩ : ∃ zs, IsRow .u8 W a2 len2 cap2 zs := by
    obtain ⟨fuel, hf⟩ := h2
    rcases open_ints Try.underlying23 Try.underlying5 (by kernel_rfl) hf with ⟨hcs, _⟩ | ⟨x, l, c, zs, hcs, _, hl, hm, hz, _, hcell, hwz⟩
    · simp [Value.cells] at hcs
      obtain ⟨rfl, rfl, rfl⟩ := hcs
      exact ⟨[], .inl ⟨rfl, rfl, rfl, rfl⟩⟩
    · simp [Value.cells] at hcs
      obtain ⟨rfl, rfl, rfl⟩ := hcs
      exact ⟨zs, .inr ⟨_, rfl, hl, hm, by simpa using hz, hcell, hwz⟩⟩
  clear hA0 hval0
  refine (walk a0 len0 cap0 z0 a1 len1 cap1 z1 a2 len2 cap2 z2 W w0 w1 w2).mono fun e W' ⟨he, bel⟩ => ?_
  subst he
  exact ⟨_, rfl, _, _, _, [], _, [], hW', trodAll_mk1 (shut_bool Try.underlying4 _), (trodAll_cons_mk (Below.trod laidOut (by kernel_rfl) (of_decide_eq_true (by kernel_rfl)) k0 bel lt0) (trodAll_cons_mk (Below.trod laidOut (by kernel_rfl) (of_decide_eq_true (by kernel_rfl)) k1 bel lt1) (trodAll_cons_mk (Below.trod laidOut (by kernel_rfl) (of_decide_eq_true (by kernel_rfl)) k2 bel lt2) trodAll_mk0))), rfl, bel.frame _, fun h => by cases h⟩

theorem over : Rows.sumBehindRow.holds Try.pinned (OpenSpec.ofChange Rows.sumBehindSpec) :=
  OpenClaim.holds_of_wide 5 Try.f5 rfl rfl rfl rfl rfl rfl rfl ⟨rfl, rfl, rfl, rfl, rfl⟩ rfl rfl rfl rfl rfl (by kernel_rfl) Try.func5 (by kernel_rfl)
    (of_decide_eq_true (by kernel_rfl)) (by unfold Func.isWrapper; first | (rw [if_pos (by decide +kernel)]; kernel_rfl) | (rw [if_neg (by decide +kernel)]; exact ⟨rfl, rfl⟩))
    (fun os started H enc _ => lifted os started H enc)

end sumBehind
/-- The statement. -/
theorem sumBehind_holds : Rows.SumBehindSaid := sumBehind.over
end Go.Proofs.Ytefmjmenejimhaa
