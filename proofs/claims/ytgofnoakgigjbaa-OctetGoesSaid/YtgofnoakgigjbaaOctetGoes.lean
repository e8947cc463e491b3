/-
  For every two rows of bytes and every number of 64 bits: Put16, Put32 and Put64 lay the number behind the bytes as the reference does, in a new list, and Equal tells which bytes are the same. Conditions: none beyond the row's own.
-/
import Derived.Test.YtgofnoakgigjbaaRows
import Derived.Test.YtgofnoakgigjbaaOctI
import Derived.Test.YtgofnoakgigjbaaOctJ
import Derived.Lib.SlBytesConst
import Derived.WalkKit
import Derived.ProofKit
import Derived.OpenShut
import Derived.ShutString
import Derived.ChangeOld
import Derived.Below
namespace Go.Proofs.Ytgofnoakgigjbaa
namespace octetGoes
open Go.ChangeShapes Go.WideShapes Go.ChangeAt Go.RowKit
open Go.ChangeMaps (open_string shut_string)
set_option linter.unusedVariables false

theorem own : ownKnob Try.prog.godebug = none := by kernel_rfl
theorem laidOut : laidOutB Try.prog = true := by kernel_rfl

set_option maxHeartbeats 4000000

/-- The letters that stand behind the end of what is handed in. -/
def abc : List Nat := [97, 98, 99, 100, 101, 102, 103, 104]
theorem abc_bys : Bys abc := by intro n hn; simp [abc] at hn; omega
theorem abc_lies (w : World) : Lies (w.alloc (.cells #[.int .u8 97, .int .u8 98, .int .u8 99, .int .u8 100, .int .u8 101, .int .u8 102, .int .u8 103, .int .u8 104] 5 (8, 9))) (some ⟨w.heap.size, 0, none⟩) abc := by
  refine .inr ⟨_, 0, rfl, by simp, fun i hi => ?_⟩
  rw [Nat.zero_add, World.cell?_alloc_mark]
  have hi2 : i < 8 := hi
  have : i = 0 ∨ i = 1 ∨ i = 2 ∨ i = 3 ∨ i = 4 ∨ i = 5 ∨ i = 6 ∨ i = 7 := by omega
  rcases this with rfl | rfl | rfl | rfl | rfl | rfl | rfl | rfl <;> rfl

/-- What the law has laid when its three numbers stand. -/
structure Laid (w0 w : World) (a b : Option Addr) (l m : List Nat) (gr g2 g4 g8 x : Nat) : Prop where
  hb : Below w0.heap.size w0 w
  hL : Lies w a l
  hM : Lies w b m
  hR : Own w gr (l ++ abc)
  h2 : Own w g2 (l ++ highB x 2)
  h4 : Own w g4 (l ++ highB x 4)
  h8 : Own w g8 (l ++ highB x 8)
theorem Laid.step {w0 w w' : World} {a b : Option Addr} {l m : List Nat} {gr g2 g4 g8 x : Nat} (h : Laid w0 w a b l m gr g2 g4 g8 x) (hb : Below w.heap.size w w') : Laid w0 w' a b l m gr g2 g4 g8 x :=
  ⟨h.hb.trans (hb.mono h.hb.size), h.hL.kept hb, h.hM.kept hb, h.hR.kept' hb, h.h2.kept' hb, h.h4.kept' hb, h.h8.kept' hb⟩

/-- What the law has laid while the three numbers are wiped. -/
structure Wiped (w0 w : World) (l : List Nat) (gr g2 g4 g8 n : Nat) : Prop where
  hb : Below w0.heap.size w0 w
  hR : Own w gr (l ++ abc)
  h2 : ∃ t, Own w g2 t ∧ t.length = n + 2
  h4 : ∃ t, Own w g4 t ∧ t.length = n + 4
  h8 : ∃ t, Own w g8 t ∧ t.length = n + 8

theorem Wiped.step {w0 w : World} {l : List Nat} {gr g2 g4 g8 n : Nat} (h : Wiped w0 w l gr g2 g4 g8 n) (k : Nat) (b2 : w0.heap.size ≤ g2) (hr : gr < g2) (h24 : g2 < g4) (h48 : g4 < g8) :
    Wiped w0 (((w.setCell ⟨g2, k, none⟩ (.int .u8 0)).setCell ⟨g4, k, none⟩ (.int .u8 0)).setCell ⟨g8, k, none⟩ (.int .u8 0)) l gr g2 g4 g8 n := by
  obtain ⟨hb, hR, ⟨t2, o2, l2⟩, ⟨t4, o4, l4⟩, ⟨t8, o8, l8⟩⟩ := h
  refine ⟨((hb.setCell (by show _ ≤ g2; omega) _).setCell (by show _ ≤ g4; omega) _).setCell (by show _ ≤ g8; omega) _, ((hR.other (by omega) _).other (by omega) _).other (by omega) _, ⟨t2.set k 0, ?_, by simpa using l2⟩, ⟨t4.set k 0, ?_, by simpa using l4⟩, ⟨t8.set k 0, ?_, by simpa using l8⟩⟩
  · exact ((o2.set 0).other (by omega) _).other (by omega) _
  · exact ((o4.other (by omega) _).set 0).other (by omega) _
  · exact ((o8.other (by omega) _).other (by omega) _).set 0

/-! ### STEP 1: THE WALK: the Go text returns true, AND WRITES NOTHING THAT WAS THERE: 'Below w.heap.size w w'' (Derived/Below.lean: '.refl', '.alloc', '.drew', '.setCell' at a new block, '.trans'). Open each 'IsRow' by 'rcases' AHEAD of 'go_enter'; part every test ahead of the walk. -/
theorem walk (a0 : Option Addr) (len0 cap0 : Nat) (z0 : List Int) (a1 : Option Addr) (len1 cap1 : Nat) (z1 : List Int) (a2 : Int) (w : World) (w0 : IsRow .u8 w a0 len0 cap0 z0) (w1 : IsRow .u8 w a1 len1 cap1 z1) (w2 : (Lit.int .u64 a2).wf = true) :
    Calls Try.prog 3 #[.slice a0 len0 cap0, .slice a1 len1 cap1, .int .u64 a2] w fun e w' => e = .returned (.bool true) ∧ Below w.heap.size w w' := by
  have hx0 := bounds_u64 w2
  obtain ⟨x, rfl⟩ := Int.eq_ofNat_of_zero_le hx0.1
  obtain ⟨l, hl, hlm, hL, hB⟩ := w0.bytes
  obtain ⟨m, hm, hmm, hM, hC⟩ := w1.bytes
  have HL := Lib.hid hl
  have HM := Lib.hid hm
  clear hl hm w0 w1 w2
  by_cases hbig : 2000 < len0 ∨ 2000 < len1
  · by_cases h1 : 2000 < len0
    · have h1' : decide ((2000 : Int) < (len0 : Int)) = true := by simp; omega
      have h1'' : decide (2000 < len0) = true := by simp; omega
      go_enter Try.func3, Try.ntmps3
      go_wp2_with (go_at_call 9; refine (wakes_any _).mono ?_; rintro e w1 ⟨rfl, hb⟩)
      go_ret
      exact ⟨rfl, hb⟩
    · have h1' : decide ((2000 : Int) < (len0 : Int)) = false := by simp; omega
      have h1'' : decide (2000 < len0) = false := by simp; omega
      have h2' : decide ((2000 : Int) < (len1 : Int)) = true := by simp; omega
      have h2'' : decide (2000 < len1) = true := by simp; omega
      go_enter Try.func3, Try.ntmps3
      go_wp2_with (go_at_call 9; refine (wakes_any _).mono ?_; rintro e w1 ⟨rfl, hb⟩)
      go_ret
      exact ⟨rfl, hb⟩
  · have h1' : decide ((2000 : Int) < (len0 : Int)) = false := by simp; omega
    have h1'' : decide (2000 < len0) = false := by simp; omega
    have h2' : decide ((2000 : Int) < (len1 : Int)) = false := by simp; omega
    have h2'' : decide (2000 < len1) = false := by simp; omega
    obtain ⟨x2, hx2⟩ : ∃ x2 : Nat, x % 65536 = x2 := ⟨_, rfl⟩
    obtain ⟨x4, hx4⟩ : ∃ x4 : Nat, x % 4294967296 = x4 := ⟨_, rfl⟩
    have q1 : (x : Int) % 65536 = (x2 : Int) := by omega
    have q2 : IntKind.u16.wrap (x : Int) = (x2 : Int) := by rw [IntKind.wrap_u16]; omega
    have q3 : (x : Int) % 4294967296 = (x4 : Int) := by omega
    have q4 : IntKind.u32.wrap (x : Int) = (x4 : Int) := by rw [IntKind.wrap_u32]; omega
    have b2 : x2 ≤ 65535 := by omega
    have b4 : x4 ≤ 4294967295 := by omega
    have E2 : Hid (highB x2 2 = highB x 2) := by
      have e := high_mod x 2
      rw [← hx2]; exact e
    have E4 : Hid (highB x4 4 = highB x 4) := by
      have e := high_mod x 4
      rw [← hx4]; exact e
    clear hx2 hx4
    have kc := fun (w : World) (C : Array Value) (n c : Nat) => Lib.run_convert_bytes_const (P := Try.prog) w 22 5 C n c Try.underlying22 Try.underlying5
    go_enter Try.func3, Try.ntmps3
    go_wp2_with (go_at_call 9; refine (wakes_any _).mono ?_; rintro e w1 ⟨rfl, hb1⟩)
    have hO1 := abc_lies w1
    have hb2 := hb1.alloc hb1.size (.cells #[.int .u8 97, .int .u8 98, .int .u8 99, .int .u8 100, .int .u8 101, .int .u8 102, .int .u8 103, .int .u8 104] 5 (8, 9))
    refine (both_any _ _ _ _ 8 8 l abc _ HL.out rfl (by omega) (by omega) (hL.kept hb2) hO1).mono ?_
    rintro e w2 ⟨rfl, hR, hB2⟩
    have hb3 := hb2.trans (hB2.mono hb2.size)
    have hgr : w.heap.size ≤ (w1.alloc (.cells #[.int .u8 97, .int .u8 98, .int .u8 99, .int .u8 100, .int .u8 101, .int .u8 102, .int .u8 103, .int .u8 104] 5 (8, 9))).heap.size := hb2.size
    clear hb1 hb2 hB2 hO1
    generalize (w1.alloc (.cells #[.int .u8 97, .int .u8 98, .int .u8 99, .int .u8 100, .int .u8 101, .int .u8 102, .int .u8 103, .int .u8 104] 5 (8, 9))).heap.size = gr at *
    go_wp2_with fail
    have hgl : gr < w2.heap.size := hR.lt
    have hsl : Lies w2 (some ⟨gr, 0, none⟩) l := by
      refine .inr ⟨gr, 0, rfl, hgl, fun i hi => ?_⟩
      rw [Nat.zero_add, hR.cell (by simp; omega)]
      simp [hi, List.getElem?_append_left]
    refine (put16_any _ _ _ l x2 _ HL.out (by omega) hsl b2).mono ?_
    rintro e w3 ⟨rfl, hO2, hB3⟩
    rw [E2.out] at hO2
    have hb4 := hb3.trans (hB3.mono hb3.size)
    have hsl3 := hsl.kept hB3
    have hR3 := hR.kept' hB3
    have g2l := hO2.lt
    clear hsl hR hb3
    go_wp2_with fail
    refine (put32_any _ _ _ l x4 _ HL.out (by omega) hsl3 b4).mono ?_
    rintro e w4 ⟨rfl, hO4, hB4⟩
    rw [E4.out] at hO4
    have hb5 := hb4.trans (hB4.mono hb4.size)
    have hsl4 := hsl3.kept hB4
    have hR4 := hR3.kept' hB4
    have hO24 := hO2.kept' hB4
    have g4l := hO4.lt
    clear hsl3 hR3 hb4 hO2
    go_wp2_with fail
    refine (put64_any _ _ _ l x _ HL.out (by omega) hsl4 (by omega)).mono ?_
    rintro e w5 ⟨rfl, hO8, hB5⟩
    have hb6 := hb5.trans (hB5.mono hb5.size)
    have hR5 := hR4.kept' hB5
    have hO25 := hO24.kept' hB5
    have hO45 := hO4.kept' hB5
    have g8l := hO8.lt
    clear hsl4 hR4 hb5 hO24 hO4
    have hK5 : Laid w w5 a0 a1 l m gr w2.heap.size w3.heap.size w4.heap.size x := ⟨hb6, hL.kept hb6, hM.kept hb6, hR5, hO25, hO45, hO8⟩
    clear hb6 hR5 hO25 hO45 hO8
    have g24 : w2.heap.size < w3.heap.size := g2l
    have g48 : w3.heap.size < w4.heap.size := g4l
    have hgr2 : gr < w2.heap.size := hgl
    have hs2 : w.heap.size ≤ w2.heap.size := by omega
    clear hB3 hB4 hB5 g2l g4l hgl
    generalize w2.heap.size = g2 at *
    generalize w3.heap.size = g4 at *
    generalize w4.heap.size = g8 at *
    go_wp2_with fail
    refine (high_any x 2 _ (by omega) (by omega) (by omega)).mono ?_
    rintro e wa2 ⟨rfl, hHa, hBa⟩
    have hKa2 := hK5.step hBa
    clear hBa hK5
    go_wp2_with fail
    refine (both_any _ _ _ _ _ _ l (highB x 2) _ HL.out (length_highB _ _) (by omega) (by simp) hKa2.hL hHa.lies).mono ?_
    rintro e wb2 ⟨rfl, hHb, hBb⟩
    have hKb2 := hKa2.step hBb
    clear hBb hKa2 hHa
    go_wp2_with fail
    refine (same_any _ _ _ _ _ _ (l ++ highB x 2) (l ++ highB x 2) _ (by rw [List.length_append, length_highB, HL.out]) (by rw [List.length_append, length_highB, HL.out]) (by omega) (by simp; omega) hKb2.h2.lies hHb.lies).mono ?_
    rintro e wc2 ⟨he, hDc⟩
    rw [beq_self_eq_true] at he
    subst he
    have hKc2 := hKb2.step (hDc.below _)
    clear hDc hKb2 hHb
    go_wp2_with fail
    refine (high_any x 4 _ (by omega) (by omega) (by omega)).mono ?_
    rintro e wa4 ⟨rfl, hHa, hBa⟩
    have hKa4 := hKc2.step hBa
    clear hBa hKc2
    go_wp2_with fail
    refine (both_any _ _ _ _ _ _ l (highB x 4) _ HL.out (length_highB _ _) (by omega) (by simp) hKa4.hL hHa.lies).mono ?_
    rintro e wb4 ⟨rfl, hHb, hBb⟩
    have hKb4 := hKa4.step hBb
    clear hBb hKa4 hHa
    go_wp2_with fail
    refine (same_any _ _ _ _ _ _ (l ++ highB x 4) (l ++ highB x 4) _ (by rw [List.length_append, length_highB, HL.out]) (by rw [List.length_append, length_highB, HL.out]) (by omega) (by simp; omega) hKb4.h4.lies hHb.lies).mono ?_
    rintro e wc4 ⟨he, hDc⟩
    rw [beq_self_eq_true] at he
    subst he
    have hKc4 := hKb4.step (hDc.below _)
    clear hDc hKb4 hHb
    go_wp2_with fail
    refine (high_any x 8 _ (by omega) (by omega) (by omega)).mono ?_
    rintro e wa8 ⟨rfl, hHa, hBa⟩
    have hKa8 := hKc4.step hBa
    clear hBa hKc4
    go_wp2_with fail
    refine (both_any _ _ _ _ _ _ l (highB x 8) _ HL.out (length_highB _ _) (by omega) (by simp) hKa8.hL hHa.lies).mono ?_
    rintro e wb8 ⟨rfl, hHb, hBb⟩
    have hKb8 := hKa8.step hBb
    clear hBb hKa8 hHa
    go_wp2_with fail
    refine (same_any _ _ _ _ _ _ (l ++ highB x 8) (l ++ highB x 8) _ (by rw [List.length_append, length_highB, HL.out]) (by rw [List.length_append, length_highB, HL.out]) (by omega) (by simp; omega) hKb8.h8.lies hHb.lies).mono ?_
    rintro e wc8 ⟨he, hDc⟩
    rw [beq_self_eq_true] at he
    subst he
    have hKc8 := hKb8.step (hDc.below _)
    clear hDc hKb8 hHb
    go_wp2
    go_loopw [69] (fun i wr => ∃ k : Nat, k ≤ len0 + 2 ∧ i = .int .i64 k ∧ Wiped w wr l gr g2 g4 g8 len0) (fun i _ => len0 + 2 - (intOf i).toNat)
    case atStart => exact ⟨0, Nat.zero_le _, rfl, hKc8.hb, hKc8.hR, ⟨_, hKc8.h2, by rw [List.length_append, length_highB, HL.out]⟩, ⟨_, hKc8.h4, by rw [List.length_append, length_highB, HL.out]⟩, ⟨_, hKc8.h8, by rw [List.length_append, length_highB, HL.out]⟩⟩
    case round =>
      obtain ⟨k, hk, rfl, hW⟩ := hrel
      clear hKc8
      by_cases hlt : k < len0 + 2
      · obtain ⟨t2, o2, n2⟩ := hW.h2
        obtain ⟨t4, o4, n4⟩ := hW.h4
        obtain ⟨t8, o8, n8⟩ := hW.h8
        have c2 := o2.cell (i := k) (by omega)
        have f2 := o2.free k
        have o4' : Own (wr.setCell ⟨g2, k, none⟩ (.int .u8 0)) g4 t4 := o4.other (by omega) _
        have c4 := o4'.cell (i := k) (by omega)
        have f4 := o4'.free k
        have o8' : Own ((wr.setCell ⟨g2, k, none⟩ (.int .u8 0)).setCell ⟨g4, k, none⟩ (.int .u8 0)) g8 t8 := (o8.other (by omega) _).other (by omega) _
        have c8 := o8'.cell (i := k) (by omega)
        have f8 := o8'.free k
        have hW2 := hW.step k hs2 hgr2 g24 g48
        clear n2 n4 n8 o2 o4 o8 o4' o8' hW
        generalize t2.getD k 0 = y2 at *
        generalize t4.getD k 0 = y4 at *
        generalize t8.getD k 0 = y8 at *
        go_wp2
        go_roundw
        case rel => exact ⟨k + 1, by omega, by go_num, hW2⟩
        case measure => simp [intOf]; omega
      · obtain rfl : k = len0 + 2 := by omega
        have hbx := hW.hb.alloc hW.hb.size (.cells #[.int .u8 97, .int .u8 98, .int .u8 99, .int .u8 100, .int .u8 101, .int .u8 102, .int .u8 103, .int .u8 104] 5 (8, 9))
        have hOx := abc_lies wr
        have hRx : Own (wr.alloc (.cells #[.int .u8 97, .int .u8 98, .int .u8 99, .int .u8 100, .int .u8 101, .int .u8 102, .int .u8 103, .int .u8 104] 5 (8, 9))) gr (l ++ abc) := hW.hR.kept' ((Below.refl _ _).alloc (Nat.le_refl _) _)
        clear hW
        go_wp2_with fail
        refine (both_any _ _ _ _ 8 8 l abc _ HL.out rfl (by omega) (by omega) (hL.kept hbx) hOx).mono ?_
        rintro e wy ⟨rfl, hOy, hBy⟩
        have hby := hbx.trans (hBy.mono hbx.size)
        rw [World.size_alloc] at hOy
        have hRy := hRx.kept' hBy
        clear hOx hBy hbx hRx
        go_wp2_with fail
        refine (same_any _ _ _ _ _ _ (l ++ abc) (l ++ abc) _ (by rw [List.length_append, HL.out]; rfl) (by rw [List.length_append, HL.out]; rfl) (by omega) (by omega) hRy.lies hOy.lies).mono ?_
        rintro e wz ⟨he, hDz⟩
        rw [beq_self_eq_true] at he
        subst he
        have hbz := hby.trans ((hDz.below wy.heap.size).mono hby.size)
        clear hDz hby hRy hOy
        go_wp2_with fail
        refine (equal_any _ _ _ _ _ _ l m _ HL.out HM.out hB hC (hL.kept hbz) (hM.kept hbz)).mono ?_
        rintro e wq ⟨rfl, rfl⟩
        go_wp2_with fail
        refine (same_any _ _ _ _ _ _ l m _ HL.out HM.out hlm hmm (hL.kept hbz) (hM.kept hbz)).mono ?_
        rintro e wt ⟨rfl, hDt⟩
        have hbt := hbz.trans ((hDt.below wz.heap.size).mono hbz.size)
        go_wp2
        go_ret
        exact ⟨rfl, hbt⟩

/-! ### THE ROW's STEP: WRITTEN OUT: LEAVE IT -/
set_option maxRecDepth 100000 in
theorem lifted (os : Os) (started : os.Started) (H : Type) (enc : TypeId × Value → H) :
    ReturnsInHanded {} Try.checked os 3 .any (Rows.octetGoesSpec.pre6 enc Try.prog Try.f3 Rows.octetGoesRow.domain false) (Rows.octetGoesSpec.post enc Try.prog Try.f3 false true false false) := by
  refine returnsInHanded_of_change (C := Try.checked) own started (by kernel_rfl) Try.func3
    (ChangeSpec.witness6 (enc := enc) (C := Try.checked) false ⟨#[], #[.slice none 0 0, .slice none 0 0, .int .u64 0], []⟩ 8 (by kernel_rfl) (by kernel_rfl) (by kernel_rfl) (by kernel_rfl)) ?_
  intro W base args ds gs before hval0 hW hcnd _
  have hval : ∀ (j : Nat) t v, Try.f3.params[j]? = some t → args[j]? = some v → Value.okWide Try.prog W .any base t v := hval0
  have hW' := hW
  obtain ⟨p, q, hA0, hV, rfl, hfz, hnd⟩ := hW
  have hA : DataW.TrodAll enc Try.prog W 0 (fun _ => true) true Try.f3.params.toList args.toList ds p := hA0
  rw [Try.params3] at hA hval
  obtain ⟨v0, vs0, d0, ds0, p0, q0, hargs, rfl, rfl, h0, r0⟩ := trodAll_cons hA
  obtain ⟨v1, vs1, d1, ds1, p1, q1, rfl, rfl, rfl, h1, r1⟩ := trodAll_cons r0
  obtain ⟨v2, vs2, d2, ds2, p2, q2, rfl, rfl, rfl, h2, r2⟩ := trodAll_cons r1
  obtain ⟨rfl, rfl, rfl⟩ := trodAll_nil r2
  obtain rfl : args = #[v0, v1, v2] := by cases args; simp_all
  obtain ⟨rfl, rfl⟩ := trodVars_none hV
  obtain ⟨a0, len0, cap0, rfl⟩ := okWide_slice Try.underlying22 (hval 0 22 v0 rfl rfl)
  have k0 := h0
  have lt0 : ∀ x ∈ p0, x.block < W.heap.size := by obtain ⟨m, hm⟩ := k0; exact DataW.trod_lt m _ _ _ hm
  obtain ⟨z0, w0⟩ : ∃ zs, IsRow .u8 W a0 len0 cap0 zs := by
    obtain ⟨fuel, hf⟩ := h0
    rcases open_ints Try.underlying22 Try.underlying5 (by kernel_rfl) hf with ⟨hcs, _⟩ | ⟨x, l, c, zs, hcs, _, hl, hm, hz, _, hcell, hwz⟩
    · simp [Value.cells] at hcs
      obtain ⟨rfl, rfl, rfl⟩ := hcs
      exact ⟨[], .inl ⟨rfl, rfl, rfl, rfl⟩⟩
    · simp [Value.cells] at hcs
      obtain ⟨rfl, rfl, rfl⟩ := hcs
      exact ⟨zs, .inr ⟨_, rfl, hl, hm, by simpa using hz, hcell, hwz⟩⟩
  obtain ⟨a1, len1, cap1, rfl⟩ := okWide_slice Try.underlying22 (hval 1 22 v1 rfl rfl)
  have k1 := h1
  have lt1 : ∀ x ∈ p1, x.block < W.heap.size := by obtain ⟨m, hm⟩ := k1; exact DataW.trod_lt m _ _ _ hm
  obtain ⟨z1, w1⟩ : ∃ zs, IsRow .u8 W a1 len1 cap1 zs := by
    obtain ⟨fuel, hf⟩ := h1
    rcases open_ints Try.underlying22 Try.underlying5 (by kernel_rfl) hf with ⟨hcs, _⟩ | ⟨x, l, c, zs, hcs, _, hl, hm, hz, _, hcell, hwz⟩
    · simp [Value.cells] at hcs
      obtain ⟨rfl, rfl, rfl⟩ := hcs
      exact ⟨[], .inl ⟨rfl, rfl, rfl, rfl⟩⟩
    · simp [Value.cells] at hcs
      obtain ⟨rfl, rfl, rfl⟩ := hcs
      exact ⟨zs, .inr ⟨_, rfl, hl, hm, by simpa using hz, hcell, hwz⟩⟩
  obtain ⟨a2, rfl, rfl, rfl, w2⟩ := open_int Try.underlying23 (hval 2 23 v2 rfl rfl) h2
  clear hA0 hval0
  refine (walk a0 len0 cap0 z0 a1 len1 cap1 z1 a2 W w0 w1 w2).mono fun e W' ⟨he, bel⟩ => ?_
  subst he
  exact ⟨_, rfl, _, _, _, [], _, [], hW', trodAll_mk1 (shut_bool Try.underlying4 _), (trodAll_cons_mk (Below.trod laidOut (by kernel_rfl) (of_decide_eq_true (by kernel_rfl)) k0 bel lt0) (trodAll_cons_mk (Below.trod laidOut (by kernel_rfl) (of_decide_eq_true (by kernel_rfl)) k1 bel lt1) (trodAll_cons_mk (shut_int Try.underlying23 w2) trodAll_mk0))), rfl, bel.frame _, fun h => by cases h⟩

theorem over : Rows.octetGoesRow.holds Try.pinned (OpenSpec.ofChange Rows.octetGoesSpec) :=
  OpenClaim.holds_of_wide 3 Try.f3 rfl rfl rfl rfl rfl rfl rfl ⟨rfl, rfl, rfl, rfl, rfl⟩ rfl rfl rfl rfl rfl (by kernel_rfl) Try.func3 (by kernel_rfl)
    (of_decide_eq_true (by kernel_rfl)) (by unfold Func.isWrapper; first | (rw [if_pos (by decide +kernel)]; kernel_rfl) | (rw [if_neg (by decide +kernel)]; exact ⟨rfl, rfl⟩))
    (fun os started H enc _ => lifted os started H enc)

end octetGoes
/-- The statement. -/
theorem octetGoes_holds : Rows.OctetGoesSaid := octetGoes.over
end Go.Proofs.Ytgofnoakgigjbaa
