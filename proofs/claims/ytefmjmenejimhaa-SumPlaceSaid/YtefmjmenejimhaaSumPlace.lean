/-
  For every row of bytes, every place and every byte: bytes of one length that differ at one place have other sums, and with a nought more behind them the sum is 257 times what it was. Conditions: none beyond the row's own.
-/
import Derived.Test.YtefmjmenejimhaaRows
import Derived.Test.YtefmjmenejimhaaSumD
import Derived.WalkKit
import Derived.ProofKit
import Derived.OpenShut
import Derived.ShutString
import Derived.ChangeOld
import Derived.Below
namespace Go.Proofs.Ytefmjmenejimhaa
namespace sumPlace
open Go.ChangeShapes Go.WideShapes Go.ChangeAt Go.RowKit
open Go.ChangeMaps (open_string shut_string)
set_option linter.unusedVariables false

theorem own : ownKnob Try.prog.godebug = none := by kernel_rfl
theorem laidOut : laidOutB Try.prog = true := by kernel_rfl

set_option maxHeartbeats 1600000
/-! ### STEP 1: THE WALK: the Go text returns true, AND WRITES NOTHING THAT WAS THERE: 'Below w.heap.size w w'' (Derived/Below.lean: '.refl', '.alloc', '.drew', '.setCell' at a new block, '.trans'). Open each 'IsRow' by 'rcases' AHEAD of 'go_enter'; part every test ahead of the walk. -/
theorem walk (a0 : Option Addr) (len0 cap0 : Nat) (z0 : List Int) (a1 : Int) (a2 : Int) (w : World) (w0 : IsRow .u8 w a0 len0 cap0 z0) (w1 : (Lit.int .i64 a1).wf = true) (w2 : (Lit.int .u8 a2).wf = true) :
    Calls Try.prog 6 #[.slice a0 len0 cap0, .int .i64 a1, .int .u8 a2] w fun e w' => e = .returned (.bool true) ∧ Below w.heap.size w w' := by
  have hy0 := bounds_u8 w2
  have hk0 := bounds_i64 w1
  obtain ⟨y, rfl⟩ := Int.eq_ofNat_of_zero_le hy0.1
  obtain ⟨l, hl, hc, hcm, hL, hB, hn⟩ := w0.bytesCap
  have HN := Lib.hid hl
  clear hl w0 w1 w2
  by_cases h1 : 3000 < len0
  · have h1' : decide ((3000 : Int) < (len0 : Int)) = true := by simp; omega
    have h1'' : decide (3000 < len0) = true := by simp; omega
    go_enter Try.func6, Try.ntmps6
    go_wp2_with (go_at_call 8; refine (wakes_any _).mono ?_; rintro e w1 ⟨rfl, hb⟩)
    go_ret
    exact ⟨rfl, hb⟩
  have h1' : decide ((3000 : Int) < (len0 : Int)) = false := by simp; omega
  have h1'' : decide (3000 < len0) = false := by simp; omega
  have hs0 := goS_lt 1 l
  have hs1 := goS_lt 1 (l ++ [0])
  have hnought : ((goS 1 (l ++ [0]) : Nat) : Int) = ((goS 1 l : Nat) : Int) * 257 % 4294967291 := by
    rw [goS_snoc]; unfold stepS; omega
  have q1 : (((goS 1 (l ++ [0]) : Nat) : Int) != ((goS 1 l : Nat) : Int) * 257 % 4294967291) = false := by rw [hnought]; simp
  clear hnought
  by_cases hz : len0 = 0
  · subst hz
    obtain rfl := List.eq_nil_of_length_eq_zero HN.out
    have q2 : (goS 1 [] : Nat) = 1 := rfl
    go_enter Try.func6, Try.ntmps6
    go_wp2_with (go_at_call 8; refine (wakes_any _).mono ?_; rintro e w1 ⟨rfl, hb⟩)
    refine (sum_any _ _ _ [] _ HN.out (by omega) hB (hL.kept hb)).mono ?_
    rintro e w2 ⟨rfl, hB2⟩
    have hb2 := hb.trans (hB2.mono hb.size)
    clear hB2
    go_wp2_with fail
    refine (clone_any _ _ _ [] _ HN.out (by omega) (fun e => ⟨rfl, (hn e).2⟩) (hL.kept hb2)).mono ?_
    rintro e w3 ⟨v3, rfl, hO3, hB3⟩
    have hb3 := hb2.trans (hB3.mono hb2.size)
    have hs3 := hB3.size
    have hb4 := hb3.alloc hb3.size (.cells #[.int .u8 0] 5)
    have hO4 : Own (w3.alloc (.cells #[.int .u8 0] 5)) w3.heap.size [0] := heap_alloc_new w3 _
    have hO34 := own_later hO3 ((Below.refl w3.heap.size w3).alloc (Nat.le_refl _) (.cells #[.int .u8 0] 5))
    clear hB3
    go_wp2_with (refine wpList_append_got rfl (.tmp 17) (.tmp 18) rfl w2.heap.size v3 0 _ rfl hO34 (some ⟨w3.heap.size, 0, none⟩) 1 [0] rfl hO4.lies (fun e => by cases e) (by simp) (Nat.le_trans hs3 (by simp)) ?_; intro v5 w5 hO5 hG5)
    rw [← List.map_append] at hO5
    have hb5 : Below w.heap.size w w5 := hb4.grown hG5 hb4.size (fun k hk => by have := (hO3.lt k hk).1; have := hb2.size; omega)
    obtain ⟨a5, c5, rfl, hL5, _, _⟩ := owns_lies (l := [] ++ [0]) hO5
    clear hO3 hO4 hO34 hO5 hG5 hs3 hb3 hb4
    refine (sum_any _ _ _ ([] ++ [0]) _ rfl (by simp) (hB.append (by intro n hn; simp at hn; omega)) hL5).mono ?_
    rintro e w6 ⟨rfl, hB6⟩
    have hb6 := hb5.trans (hB6.mono hb5.size)
    go_wp2_with fail
    go_ret
    exact ⟨rfl, hb6⟩
  obtain ⟨k, hk, hkk⟩ := place_any a1 len0 (by omega)
  have hkn : k < l.length := by rw [HN.out]; exact hk
  have hin : (k : Int) < (len0 : Int) := by omega
  have hv := hB.at k
  have hy : y < 256 := by omega
  have hxb := xor_byte hv hy
  have hxo := u8_xor_nat (l.getD k 0) y hv hy
  have hset := go_set 1 l k (l.getD k 0 ^^^ y) hB hxb hkn
  have hBS2 := hB.set k _ hxb
  have hq3 : ((((goS 1 (l.set k (l.getD k 0 ^^^ y)) : Nat) : Int) == ((goS 1 l : Nat) : Int)) == ((y : Int) == 0)) = true := by
    have h3 : (((goS 1 (l.set k (l.getD k 0 ^^^ y)) : Nat) : Int) == ((goS 1 l : Nat) : Int)) = ((y : Int) == 0) := by
      rw [Bool.eq_iff_iff, beq_iff_eq, beq_iff_eq]
      have h4 := xor_zero (l.getD k 0) y
      constructor
      · intro h5
        have h6 := hset.1 (by omega)
        have h7 := h4.1 h6
        omega
      · intro h5
        have h6 := hset.2 (h4.2 (by omega))
        omega
    rw [h3]; simp
  have hll : (l.set k (l.getD k 0 ^^^ y)).length = len0 := by rw [List.length_set]; exact HN.out
  obtain ⟨v, hvv⟩ : ∃ v, l.getD k 0 = v := ⟨_, rfl⟩
  rw [hvv] at hxo hBS2 hv hq3 hll
  have HV := Lib.hid hvv
  have HLL := Lib.hid (And.intro hll hkn)
  clear hset hvv hll hkn hxb
  have hze : ((len0 : Int) == 0) = false := by rw [beq_eq_false_iff_ne]; omega
  go_enter Try.func6, Try.ntmps6
  go_wp2_with (go_at_call 8; refine (wakes_any _).mono ?_; rintro e w1 ⟨rfl, hb⟩)
  refine (sum_any _ _ _ l _ HN.out (by omega) hB (hL.kept hb)).mono ?_
  rintro e w2 ⟨rfl, hB2⟩
  have hb2 := hb.trans (hB2.mono hb.size)
  clear hB2
  go_wp2_with fail
  refine (clone_any _ _ _ l _ HN.out (by omega) hn (hL.kept hb2)).mono ?_
  rintro e w3 ⟨v3, rfl, hO3, hB3⟩
  have hb3 := hb2.trans (hB3.mono hb2.size)
  have hs3 := hB3.size
  have hb4 := hb3.alloc hb3.size (.cells #[.int .u8 0] 5)
  have hO4 : Own (w3.alloc (.cells #[.int .u8 0] 5)) w3.heap.size [0] := heap_alloc_new w3 _
  have hO34 := own_later hO3 ((Below.refl w3.heap.size w3).alloc (Nat.le_refl _) (.cells #[.int .u8 0] 5))
  clear hB3
  go_wp2_with (refine wpList_append_got rfl (.tmp 17) (.tmp 18) rfl w2.heap.size v3 len0 _ rfl hO34 (some ⟨w3.heap.size, 0, none⟩) 1 [0] rfl hO4.lies (fun e => by cases e) (by simp; omega) (Nat.le_trans hs3 (by simp)) ?_; intro v5 w5 hO5 hG5)
  rw [← List.map_append, show len0 + [0].length = (l ++ [0]).length by rw [List.length_append, HN.out]] at hO5
  have hb5 : Below w.heap.size w w5 := hb4.grown hG5 hb4.size (fun k hk => by have := (hO3.lt k hk).1; have := hb2.size; omega)
  obtain ⟨a5, c5, rfl, hL5, _, _⟩ := owns_lies hO5
  clear hO3 hO4 hO34 hO5 hG5 hs3 hb3 hb4
  refine (sum_any _ _ _ (l ++ [0]) _ rfl (by rw [List.length_append, HN.out]; simp; omega) (hB.append (by intro n hn; simp at hn; omega)) hL5).mono ?_
  rintro e w6 ⟨rfl, hB6⟩
  have hb6 := hb5.trans (hB6.mono hb5.size)
  clear hB6 hL5 hb5
  go_wp2_with fail
  refine (clone_any _ _ _ l _ HN.out (by omega) hn (hL.kept hb6)).mono ?_
  rintro e w7 ⟨v7, rfl, hO7, hB7⟩
  have hb7 := hb6.trans (hB7.mono hb6.size)
  have hbs := hb6.size
  have e7 := HN.out
  subst e7
  obtain ⟨a7, c7, rfl, hL7, hge, _⟩ := owns_lies hO7
  rcases hL7 with h0 | ⟨g7, o7, rfl, hlt7, hcc7⟩
  · rw [h0] at hz; exact absurd rfl hz
  have hg7 : w6.heap.size ≤ g7 := hge _ rfl
  have hc8 := hcc7 k HLL.out.2
  rw [HV.out] at hc8
  have hf8 := owns_free hO7 (o7 + k)
  have hL8 := Lies.put (x := v ^^^ y) (show Lies w7 (some ⟨g7, o7, none⟩) l from .inr ⟨_, _, rfl, hlt7, hcc7⟩) HLL.out.2
  have hb8 := hb7.setCell (p := ⟨g7, o7 + k, none⟩) (Nat.le_trans hbs hg7) (.int .u8 ((v ^^^ y : Nat) : Int))
  have HL8 := Lib.hid hL8
  clear hcc7 hO7 hge hL8
  go_wp2_with fail
  refine (sum_any _ _ _ (l.set k (v ^^^ y)) _ HLL.out.1 (by omega) hBS2 HL8.out).mono ?_
  rintro e w9 ⟨rfl, hB9⟩
  have hb9 := hb8.trans (hB9.mono hb8.size)
  clear HL8
  go_wp2_with fail
  go_ret
  exact ⟨rfl, hb9⟩

/-! ### THE ROW's STEP: WRITTEN OUT: LEAVE IT -/
set_option maxRecDepth 100000 in
theorem lifted (os : Os) (started : os.Started) (H : Type) (enc : TypeId × Value → H) :
    ReturnsInHanded {} Try.checked os 6 .any (Rows.sumPlaceSpec.pre6 enc Try.prog Try.f6 Rows.sumPlaceRow.domain false) (Rows.sumPlaceSpec.post enc Try.prog Try.f6 false true false false) := by
  refine returnsInHanded_of_change (C := Try.checked) own started (by kernel_rfl) Try.func6
    (ChangeSpec.witness6 (enc := enc) (C := Try.checked) false ⟨#[], #[.slice none 0 0, .int .i64 0, .int .u8 0], []⟩ 8 (by kernel_rfl) (by kernel_rfl) (by kernel_rfl) (by kernel_rfl)) ?_
  intro W base args ds gs before hval0 hW hcnd _
  have hval : ∀ (j : Nat) t v, Try.f6.params[j]? = some t → args[j]? = some v → Value.okWide Try.prog W .any base t v := hval0
  have hW' := hW
  obtain ⟨p, q, hA0, hV, rfl, hfz, hnd⟩ := hW
  have hA : DataW.TrodAll enc Try.prog W 0 (fun _ => true) true Try.f6.params.toList args.toList ds p := hA0
  rw [Try.params6] at hA hval
  obtain ⟨v0, vs0, d0, ds0, p0, q0, hargs, rfl, rfl, h0, r0⟩ := trodAll_cons hA
  obtain ⟨v1, vs1, d1, ds1, p1, q1, rfl, rfl, rfl, h1, r1⟩ := trodAll_cons r0
  obtain ⟨v2, vs2, d2, ds2, p2, q2, rfl, rfl, rfl, h2, r2⟩ := trodAll_cons r1
  obtain ⟨rfl, rfl, rfl⟩ := trodAll_nil r2
  obtain rfl : args = #[v0, v1, v2] := by cases args; simp_all
  obtain ⟨rfl, rfl⟩ := trodVars_none hV
  obtain ⟨a0, len0, cap0, rfl⟩ := okWide_slice Try.underlying23 (hval 0 23 v0 rfl rfl)
  have k0 := h0
  have lt0 : ∀ x ∈ p0, x.block < W.heap.size := by obtain ⟨m, hm⟩ := k0; exact DataW.trod_lt m _ _ _ hm
  obtain ⟨z0, w0⟩ : ∃ zs, IsRow .u8 W a0 len0 cap0 zs := by
    obtain ⟨fuel, hf⟩ := h0
    rcases open_ints Try.underlying23 Try.underlying5 (by kernel_rfl) hf with ⟨hcs, _⟩ | ⟨x, l, c, zs, hcs, _, hl, hm, hz, _, hcell, hwz⟩
    · simp [Value.cells] at hcs
      obtain ⟨rfl, rfl, rfl⟩ := hcs
      exact ⟨[], .inl ⟨rfl, rfl, rfl, rfl⟩⟩
    · simp [Value.cells] at hcs
      obtain ⟨rfl, rfl, rfl⟩ := hcs
      exact ⟨zs, .inr ⟨_, rfl, hl, hm, by simpa using hz, hcell, hwz⟩⟩
  obtain ⟨a1, rfl, rfl, rfl, w1⟩ := open_int Try.underlying3 (hval 1 3 v1 rfl rfl) h1
  obtain ⟨a2, rfl, rfl, rfl, w2⟩ := open_int Try.underlying5 (hval 2 5 v2 rfl rfl) h2
  clear hA0 hval0
  refine (walk a0 len0 cap0 z0 a1 a2 W w0 w1 w2).mono fun e W' ⟨he, bel⟩ => ?_
  subst he
  exact ⟨_, rfl, _, _, _, [], _, [], hW', trodAll_mk1 (shut_bool Try.underlying4 _), (trodAll_cons_mk (Below.trod laidOut (by kernel_rfl) (of_decide_eq_true (by kernel_rfl)) k0 bel lt0) (trodAll_cons_mk (shut_int Try.underlying3 w1) (trodAll_cons_mk (shut_int Try.underlying5 w2) trodAll_mk0))), rfl, bel.frame _, fun h => by cases h⟩

theorem over : Rows.sumPlaceRow.holds Try.pinned (OpenSpec.ofChange Rows.sumPlaceSpec) :=
  OpenClaim.holds_of_wide 6 Try.f6 rfl rfl rfl rfl rfl rfl rfl ⟨rfl, rfl, rfl, rfl, rfl⟩ rfl rfl rfl rfl rfl (by kernel_rfl) Try.func6 (by kernel_rfl)
    (of_decide_eq_true (by kernel_rfl)) (by unfold Func.isWrapper; first | (rw [if_pos (by decide +kernel)]; kernel_rfl) | (rw [if_neg (by decide +kernel)]; exact ⟨rfl, rfl⟩))
    (fun os started H enc _ => lifted os started H enc)

end sumPlace
/-- The statement. -/
theorem sumPlace_holds : Rows.SumPlaceSaid := sumPlace.over
end Go.Proofs.Ytefmjmenejimhaa
