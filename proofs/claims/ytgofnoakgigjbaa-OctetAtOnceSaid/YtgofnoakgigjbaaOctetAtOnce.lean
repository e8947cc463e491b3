/-
  For every row of bytes and every row of numbers: what one reader takes off in parts another one takes off at once, and who is out of step takes nothing off any more. Conditions: none beyond the row's own.
-/
import Derived.Test.YtgofnoakgigjbaaRows
import Derived.Test.YtgofnoakgigjbaaOctL
import Derived.WalkKit
import Derived.ProofKit
import Derived.OpenShut
import Derived.ShutString
import Derived.ChangeOld
import Derived.Below
namespace Go.Proofs.Ytgofnoakgigjbaa
namespace octetAtOnce
open Go.ChangeShapes Go.WideShapes Go.ChangeAt Go.RowKit
open Go.ChangeMaps (open_string shut_string)
set_option linter.unusedVariables false

theorem own : ownKnob Try.prog.godebug = none := by kernel_rfl
theorem laidOut : laidOutB Try.prog = true := by kernel_rfl

set_option maxHeartbeats 4000000

/-! ### STEP 1: THE WALK: the Go text returns true, AND WRITES NOTHING THAT WAS THERE: 'Below w.heap.size w w'' (Derived/Below.lean: '.refl', '.alloc', '.drew', '.setCell' at a new block, '.trans'). Open each 'IsRow' by 'rcases' AHEAD of 'go_enter'; part every test ahead of the walk. -/
theorem walk (a0 : Option Addr) (len0 cap0 : Nat) (z0 : List Int) (a1 : Option Addr) (len1 cap1 : Nat) (z1 : List Int) (w : World) (w0 : IsRow .u8 w a0 len0 cap0 z0) (w1 : IsRow .i64 w a1 len1 cap1 z1) :
    Calls Try.prog 8 #[.slice a0 len0 cap0, .slice a1 len1 cap1] w fun e w' => e = .returned (.bool true) ∧ Below w.heap.size w w' := by
  obtain ⟨L, hl, hlm, hL, hB⟩ := w0.bytes
  obtain ⟨ks, hk, hkm, hK, hKw⟩ := w1.nums
  have HL := Lib.hid hl
  have HK := Lib.hid hk
  clear hl hk w0 w1
  by_cases hbig : 2000 < len0 ∨ 200 < len1
  · by_cases h1 : 2000 < len0
    · have h1' : decide ((2000 : Int) < (len0 : Int)) = true := by simp; omega
      have h1'' : decide (2000 < len0) = true := by simp; omega
      go_enter Try.func8, Try.ntmps8
      go_wp2_with (go_at_call 9; refine (wakes_any _).mono ?_; rintro e w1 ⟨rfl, hb⟩)
      go_ret
      exact ⟨rfl, hb⟩
    · have h1' : decide ((2000 : Int) < (len0 : Int)) = false := by simp; omega
      have h1'' : decide (2000 < len0) = false := by simp; omega
      have h2' : decide ((200 : Int) < (len1 : Int)) = true := by simp; omega
      have h2'' : decide (200 < len1) = true := by simp; omega
      go_enter Try.func8, Try.ntmps8
      go_wp2_with (go_at_call 9; refine (wakes_any _).mono ?_; rintro e w1 ⟨rfl, hb⟩)
      go_ret
      exact ⟨rfl, hb⟩
  · have h1' : decide ((2000 : Int) < (len0 : Int)) = false := by simp; omega
    have h1'' : decide (2000 < len0) = false := by simp; omega
    have h2' : decide ((200 : Int) < (len1 : Int)) = false := by simp; omega
    have h2'' : decide (200 < len1) = false := by simp; omega
    go_enter Try.func8, Try.ntmps8
    go_wp2_with (go_at_call 9; refine (wakes_any _).mono ?_; rintro e w1 ⟨rfl, hb1⟩)
    refine (read_any _ _ _ L _ HL.out (by omega) (hL.kept hb1)).mono ?_
    rintro e w2 ⟨p, rfl, hp, hR2, hB2⟩
    have hb2 := hb1.trans (hB2.mono hb1.size)
    have hg0 : w.heap.size ≤ w1.heap.size := hb1.size
    have hp2 := hR2.lt
    go_wp2_with fail
    refine (read_any _ _ _ L _ HL.out (by omega) (hL.kept hb2)).mono ?_
    rintro e w3 ⟨p2, rfl, hq, hS3, hB3⟩
    have hb3 := hb2.trans (hB3.mono hb2.size)
    have hR3 := hR2.below hB3
    have hq2 := hS3.lt
    have hSt : St w w3 w3.heap.size p w1.heap.size p2 w2.heap.size L 0 0 (.slice none 0 0) := ⟨hR3, hS3, by simpa using World.ownsRow_nil w3 w3.heap.size 5 1, hb3, Nat.le_refl _⟩
    have hbB : w.heap.size ≤ w3.heap.size := hb3.size
    clear hR2 hB2 hB3 hR3 hS3 hb2
    generalize w1.heap.size = g at *
    generalize w2.heap.size = g2 at *
    have hLL : L.length ≤ 2000 := by rw [HL.out]; omega
    go_wp2_with fail
    go_loopw [7, 8, 29] (fun v t i wr => ∃ (k j : Nat) (err : Int), k ≤ len1 ∧ j ≤ 2000 ∧ i = .int .i64 k ∧ t = .int .i64 j ∧ St w wr w3.heap.size p g p2 g2 L j err v) (fun _ _ i _ => len1 - (intOf i).toNat)
    case atStart => exact ⟨0, 0, 0, Nat.zero_le _, by omega, rfl, rfl, hSt⟩
    case round =>
      obtain ⟨k, j, err, hk, hj, rfl, rfl, hS⟩ := hrel
      clear hSt
      have hjl := hS.r.le
      by_cases hlt : k < len1
      · rcases hK.kept hS.hb with h0 | ⟨b, off, rfl, hbl, hc⟩
        · have := HK.out; rw [h0] at this; simp at this; omega
        · have hc1 := hc k (by rw [HK.out]; exact hlt)
          have hy := bounds_i64 (hKw (ks.getD k 0) (by have := HK.out; rw [show ks.getD k 0 = ks[k]'(by omega) from by simp [this, hlt]]; exact List.getElem_mem _))
          clear hc hK hL
          generalize ks.getD k 0 = y at *
          have hrr := hS.r
          by_cases he : err = 0
          · subst he
            by_cases hn : y < 0
            · have e1 : came L j 0 y = [] := by simp [came, hn]
              have e2 : offTo L.length j 0 y = (j, 2) := by simp [offTo, hn]
              have E1 := Lib.hid e1
              have E2 := Lib.hid e2
              clear e1 e2
              go_wp2_with fail
              refine (err_any hrr).mono ?_
              rintro e w' ⟨rfl, rfl⟩
              go_wp2_with fail
              refine (raw_any hrr hB (by omega)).mono ?_
              rintro e w4 ⟨u, rfl, hH, hA⟩
              rw [E1.out] at hH
              have hA1 := hA.rd E2.out
              obtain ⟨ao, cap, rfl, hLu, _, hcap⟩ := hH
              obtain ⟨ow, hs4, hb4, hB4⟩ := hS.taken (by omega) (by omega) hq (by omega) hA.2
              clear hS hA hrr
              go_wp2_with (first | (go_at_call 28; refine (err_any hA1).mono ?_; rintro e w' ⟨rfl, rfl⟩) | (refine wpList_append_got rfl _ _ rfl w3.heap.size _ j ((L.take j).map byc) rfl ow ao cap [] rfl hLu hcap (by simp; omega) hB4 ?_))
              intro v' w5 hown' hgrow
              have hS5 := St.joined (by omega) (by omega) hq (by omega) hbB hA1 hs4 ow hb4 hB4 (c := []) (by simpa [List.map_take] using hown') hgrow (List.append_nil _) rfl
              clear ow hown' hgrow hA1 hs4 hb4 hLu
              go_wp2
              go_roundw
              case rel => exact ⟨k + 1, j, 2, by omega, by omega, by go_num, by go_num, hS5⟩
              case measure => simp [intOf]; omega
            · by_cases hs : ((L.length - j : Nat) : Int) < y
              · have e1 : came L j 0 y = [] := by simp [came, hn, hs]
                have e2 : offTo L.length j 0 y = (j, 7) := by simp [offTo, hn, hs]
                have E1 := Lib.hid e1
                have E2 := Lib.hid e2
                clear e1 e2
                go_wp2_with fail
                refine (err_any hrr).mono ?_
                rintro e w' ⟨rfl, rfl⟩
                go_wp2_with fail
                refine (raw_any hrr hB (by omega)).mono ?_
                rintro e w4 ⟨u, rfl, hH, hA⟩
                rw [E1.out] at hH
                have hA1 := hA.rd E2.out
                obtain ⟨ao, cap, rfl, hLu, _, hcap⟩ := hH
                obtain ⟨ow, hs4, hb4, hB4⟩ := hS.taken (by omega) (by omega) hq (by omega) hA.2
                clear hS hA hrr
                go_wp2_with (first | (go_at_call 28; refine (err_any hA1).mono ?_; rintro e w' ⟨rfl, rfl⟩) | (refine wpList_append_got rfl _ _ rfl w3.heap.size _ j ((L.take j).map byc) rfl ow ao cap [] rfl hLu hcap (by simp; omega) hB4 ?_))
                intro v' w5 hown' hgrow
                have hS5 := St.joined (by omega) (by omega) hq (by omega) hbB hA1 hs4 ow hb4 hB4 (c := []) (by simpa [List.map_take] using hown') hgrow (List.append_nil _) rfl
                clear ow hown' hgrow hA1 hs4 hb4 hLu
                go_wp2
                go_roundw
                case rel => exact ⟨k + 1, j, 7, by omega, by omega, by go_num, by go_num, hS5⟩
                case measure => simp [intOf]; omega
              · obtain ⟨y, rfl⟩ := Int.eq_ofNat_of_zero_le (by omega : 0 ≤ y)
                have e1 : came L j 0 (y : Int) = (L.drop j).take y := by simp [came, hn, hs]
                have e2 : offTo L.length j 0 (y : Int) = (j + y, 0) := by simp [offTo, hn, hs]
                obtain ⟨c, hcd⟩ : ∃ c, (L.drop j).take y = c := ⟨_, rfl⟩
                rw [hcd] at e1
                have hcl : j + c.length = j + y := by rw [← hcd]; simp; omega
                have hct : L.take j ++ c = L.take (j + y) := by rw [← hcd, List.take_add]
                have E1 := Lib.hid e1
                have E2 := Lib.hid e2
                have C1 := Lib.hid hcl
                have C2 := Lib.hid hct
                have hjy : j + y ≤ 2000 := by omega
                have hcb : c.length ≤ 2000 := by omega
                clear e1 e2 hcd hcl hct
                go_wp2_with fail
                refine (err_any hrr).mono ?_
                rintro e w' ⟨rfl, rfl⟩
                go_wp2_with fail
                refine (raw_any hrr hB (by omega)).mono ?_
                rintro e w4 ⟨u, rfl, hH, hA⟩
                rw [E1.out] at hH
                have hA1 := hA.rd E2.out
                obtain ⟨ao, cap, rfl, hLu, _, hcap⟩ := hH
                obtain ⟨ow, hs4, hb4, hB4⟩ := hS.taken (by omega) (by omega) hq (by omega) hA.2
                clear hS hA hrr
                go_wp2_with (first | (go_at_call 28; refine (err_any hA1).mono ?_; rintro e w' ⟨rfl, rfl⟩) | (refine wpList_append_got rfl _ _ rfl w3.heap.size _ j ((L.take j).map byc) rfl ow ao cap c rfl hLu hcap (by omega) hB4 ?_))
                intro v' w5 hown' hgrow
                have hS5 := St.joined (by omega) (by omega) hq (by omega) hbB hA1 hs4 ow hb4 hB4 (c := c) (by rw [List.map_take]; exact hown') hgrow C2.out C1.out
                clear ow hown' hgrow hA1 hs4 hb4 hLu
                go_wp2
                go_roundw
                case rel => exact ⟨k + 1, j + y, 0, by omega, by omega, by go_num, by go_num, hS5⟩
                case measure => simp [intOf]; omega
          · have e1 : came L j err y = [] := by simp [came, he]
            have e2 : offTo L.length j err y = (j, err) := by simp [offTo, he]
            have he2 : (err != 0) = true := by simpa using he
            have he3 : (err == 0) = false := by simpa using he
            have E1 := Lib.hid e1
            have E2 := Lib.hid e2
            clear e1 e2
            go_wp2_with fail
            refine (err_any hrr).mono ?_
            rintro e w' ⟨rfl, rfl⟩
            go_wp2_with fail
            refine (raw_any hrr hB (by omega)).mono ?_
            rintro e w4 ⟨u, rfl, hH, hA⟩
            rw [E1.out] at hH
            have hA1 := hA.rd E2.out
            obtain ⟨ao, cap, rfl, hLu, _, hcap⟩ := hH
            obtain ⟨ow, hs4, hb4, hB4⟩ := hS.taken (by omega) (by omega) hq (by omega) hA.2
            clear hS hA hrr
            go_wp2_with (first | (go_at_call 28; refine (err_any hA1).mono ?_; rintro e w' ⟨rfl, rfl⟩) | (refine wpList_append_got rfl _ _ rfl w3.heap.size _ j ((L.take j).map byc) rfl ow ao cap [] rfl hLu hcap (by simp; omega) hB4 ?_))
            intro v' w5 hown' hgrow
            have hS5 := St.joined (by omega) (by omega) hq (by omega) hbB hA1 hs4 ow hb4 hB4 (c := []) (by simpa [List.map_take] using hown') hgrow (List.append_nil _) rfl
            clear ow hown' hgrow hA1 hs4 hb4 hLu
            go_wp2
            go_roundw
            case rel => exact ⟨k + 1, j, err, by omega, by omega, by go_num, by go_num, hS5⟩
            case measure => simp [intOf]; omega
      · obtain rfl : k = len1 := by omega
        have hown := hS.own
        have hlj : (L.take j).length = j := by rw [List.length_take]; omega
        obtain ⟨a2, cap2, hv, _, _, _⟩ := owns_lies (by rw [hlj]; exact hown)
        rw [hlj] at hv
        subst hv
        have hnn : ¬ (j : Int) < 0 := by omega
        have hnj : ¬ ((L.length - 0 : Nat) : Int) < (j : Int) := by omega
        have e1 : came L 0 0 (j : Int) = L.take j := by
          unfold came
          rw [if_neg (by simp), if_neg hnn, if_neg hnj]
          simp
        have e2 : offTo L.length 0 0 (j : Int) = (j, 0) := by
          unfold offTo
          rw [if_neg (by simp), if_neg hnn, if_neg hnj]
          simp
        have E1 := Lib.hid e1
        have E2 := Lib.hid e2
        have HJ := Lib.hid hlj
        clear e1 e2 hlj hnn hnj
        go_wp2_with fail
        refine (raw_any hS.s hB (by omega)).mono ?_
        rintro e w4 ⟨u, rfl, hH, hA⟩
        rw [E1.out] at hH
        have hA1 := hA.rd E2.out
        obtain ⟨ao, cap, rfl, hLu, _, _⟩ := hH
        have hg := hA.2
        have hr4 : Rd w4 p g L j err := hS.r.kept (hg.block p hS.r.lt (by intro e; cases e; omega)) (hg.block g hS.r.own.lt (by intro e; cases e; omega))
        have ow4 := hown.kept hg (by
          cases hv : Value.ownBlock (.slice a2 j cap2) with
          | none => exact .inl rfl
          | some k =>
            right
            intro e
            cases e
            have := (hown.lt p2 hv).1
            omega)
        obtain ⟨a3, cap3, hv3, hL3, _, _⟩ := owns_lies (by rw [HJ.out]; exact ow4)
        rw [HJ.out] at hv3
        cases hv3
        have hb4 := hS.hb.grown hg hS.hb.size (fun k hk => by cases hk; omega)
        clear hS hown ow4 hA hg
        have hBj : Bys (L.take j) := fun n hn => hB n (List.mem_of_mem_take hn)
        rw [HJ.out]
        go_wp2_with fail
        refine (bequal_any _ _ _ _ _ _ (L.take j) (L.take j) _ HJ.out HJ.out hBj hBj hLu hL3).mono ?_
        rintro e w' ⟨he, rfl⟩
        rw [beq_self_eq_true] at he
        subst he
        go_wp2_with fail
        refine (err_any hA1).mono ?_
        rintro e w' ⟨rfl, rfl⟩
        go_wp2_with fail
        refine (left_any hA1).mono ?_
        rintro e w' ⟨rfl, rfl⟩
        go_wp2_with fail
        refine (left_any hr4).mono ?_
        rintro e w' ⟨rfl, rfl⟩
        go_wp2
        go_ret
        exact ⟨rfl, hb4⟩

/-! ### THE ROW's STEP: WRITTEN OUT: LEAVE IT -/
set_option maxRecDepth 100000 in
theorem lifted (os : Os) (started : os.Started) (H : Type) (enc : TypeId × Value → H) :
    ReturnsInHanded {} Try.checked os 8 .any (Rows.octetAtOnceSpec.pre6 enc Try.prog Try.f8 Rows.octetAtOnceRow.domain false) (Rows.octetAtOnceSpec.post enc Try.prog Try.f8 false true false false) := by
  refine returnsInHanded_of_change (C := Try.checked) own started (by kernel_rfl) Try.func8
    (ChangeSpec.witness6 (enc := enc) (C := Try.checked) false ⟨#[], #[.slice none 0 0, .slice none 0 0], []⟩ 8 (by kernel_rfl) (by kernel_rfl) (by kernel_rfl) (by kernel_rfl)) ?_
  intro W base args ds gs before hval0 hW hcnd _
  have hval : ∀ (j : Nat) t v, Try.f8.params[j]? = some t → args[j]? = some v → Value.okWide Try.prog W .any base t v := hval0
  have hW' := hW
  obtain ⟨p, q, hA0, hV, rfl, hfz, hnd⟩ := hW
  have hA : DataW.TrodAll enc Try.prog W 0 (fun _ => true) true Try.f8.params.toList args.toList ds p := hA0
  rw [Try.params8] at hA hval
  obtain ⟨v0, vs0, d0, ds0, p0, q0, hargs, rfl, rfl, h0, r0⟩ := trodAll_cons hA
  obtain ⟨v1, vs1, d1, ds1, p1, q1, rfl, rfl, rfl, h1, r1⟩ := trodAll_cons r0
  obtain ⟨rfl, rfl, rfl⟩ := trodAll_nil r1
  obtain rfl : args = #[v0, v1] := by cases args; simp_all
  obtain ⟨rfl, rfl⟩ := trodVars_none hV
  obtain ⟨a0, len0, cap0, rfl⟩ := okWide_slice Try.underlying22 (hval 0 22 v0 rfl rfl)
  have k0 := h0
  have lt0 : ∀ x ∈ p0, x.block < W.heap.size := by obtain ⟨m, hm⟩ := k0; exact DataW.trod_lt m _ _ _ hm
  obtain ⟨z0, w0⟩ : ∃ zs, IsRow .u8 W a0 len0 cap0 zs := by
    obtain ⟨fuel, hf⟩ := h0
    rcases open_ints Try.underlying22 Try.underlying5 (by kernel_rfl) hf with ⟨hcs, _⟩ | ⟨x, l, c, zs, hcs, _, hl, hm, hz, _, hcell, hwz⟩
    · simp [Value.cells] at hcs
      obtain ⟨rfl, rfl, rfl⟩ := hcs
      exact ⟨[], .inl ⟨rfl, rfl, rfl, rfl⟩⟩
    · simp [Value.cells] at hcs
      obtain ⟨rfl, rfl, rfl⟩ := hcs
      exact ⟨zs, .inr ⟨_, rfl, hl, hm, by simpa using hz, hcell, hwz⟩⟩
  obtain ⟨a1, len1, cap1, rfl⟩ := okWide_slice Try.underlying34 (hval 1 34 v1 rfl rfl)
  have k1 := h1
  have lt1 : ∀ x ∈ p1, x.block < W.heap.size := by obtain ⟨m, hm⟩ := k1; exact DataW.trod_lt m _ _ _ hm
  obtain ⟨z1, w1⟩ : ∃ zs, IsRow .i64 W a1 len1 cap1 zs := by
    obtain ⟨fuel, hf⟩ := h1
    rcases open_ints Try.underlying34 Try.underlying3 (by kernel_rfl) hf with ⟨hcs, _⟩ | ⟨x, l, c, zs, hcs, _, hl, hm, hz, _, hcell, hwz⟩
    · simp [Value.cells] at hcs
      obtain ⟨rfl, rfl, rfl⟩ := hcs
      exact ⟨[], .inl ⟨rfl, rfl, rfl, rfl⟩⟩
    · simp [Value.cells] at hcs
      obtain ⟨rfl, rfl, rfl⟩ := hcs
      exact ⟨zs, .inr ⟨_, rfl, hl, hm, by simpa using hz, hcell, hwz⟩⟩
  clear hA0 hval0
  refine (walk a0 len0 cap0 z0 a1 len1 cap1 z1 W w0 w1).mono fun e W' ⟨he, bel⟩ => ?_
  subst he
  exact ⟨_, rfl, _, _, _, [], _, [], hW', trodAll_mk1 (shut_bool Try.underlying4 _), (trodAll_cons_mk (Below.trod laidOut (by kernel_rfl) (of_decide_eq_true (by kernel_rfl)) k0 bel lt0) (trodAll_cons_mk (Below.trod laidOut (by kernel_rfl) (of_decide_eq_true (by kernel_rfl)) k1 bel lt1) trodAll_mk0)), rfl, bel.frame _, fun h => by cases h⟩

theorem over : Rows.octetAtOnceRow.holds Try.pinned (OpenSpec.ofChange Rows.octetAtOnceSpec) :=
  OpenClaim.holds_of_wide 8 Try.f8 rfl rfl rfl rfl rfl rfl rfl ⟨rfl, rfl, rfl, rfl, rfl⟩ rfl rfl rfl rfl rfl (by kernel_rfl) Try.func8 (by kernel_rfl)
    (of_decide_eq_true (by kernel_rfl)) (by unfold Func.isWrapper; first | (rw [if_pos (by decide +kernel)]; kernel_rfl) | (rw [if_neg (by decide +kernel)]; exact ⟨rfl, rfl⟩))
    (fun os started H enc _ => lifted os started H enc)

end octetAtOnce
/-- The statement. -/
theorem octetAtOnce_holds : Rows.OctetAtOnceSaid := octetAtOnce.over
end Go.Proofs.Ytgofnoakgigjbaa
