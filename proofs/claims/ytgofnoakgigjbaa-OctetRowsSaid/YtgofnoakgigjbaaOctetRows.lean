/-
  For every two rows of numbers of 64 bits and every row of widths: numbers of the same widths, laid one behind the other, stand byte by byte in the order in which the rows stand number by number. Conditions: none beyond the row's own.
-/
import Derived.Test.YtgofnoakgigjbaaRows
import Derived.Test.YtgofnoakgigjbaaOctM
import Derived.WalkLawsBesides
import Derived.Deep.RegionHeld3
import Derived.Test.YtgofnoakgigjbaaOctI
import Derived.WalkKit
import Derived.ProofKit
import Derived.OpenShut
import Derived.ShutString
import Derived.ChangeOld
import Derived.Below
namespace Go.Proofs.Ytgofnoakgigjbaa
namespace octetRows
open Go.ChangeShapes Go.WideShapes Go.ChangeAt Go.RowKit
open Go.ChangeMaps (open_string shut_string)
set_option linter.unusedVariables false

theorem own : ownKnob Try.prog.godebug = none := by kernel_rfl
theorem laidOut : laidOutB Try.prog = true := by kernel_rfl

set_option maxHeartbeats 4000000

theorem run_min4 (ts : Array TypeId) (t : TypeId) (a b c d : Int) (w : World) :
    (Builtin.min_ ts t #[.int .i64 a, .int .i64 b, .int .i64 c, .int .i64 d]).run Try.prog w = .ok (.int .i64 (min (min (min a b) c) d)) w := by
  have h : ∀ x y : Int, (if y < x then y else x) = min x y := by intro x y; split <;> omega
  simp [Builtin.min_, Builtin.min2, List.foldlM, Sem.run_pure, h]

/-- Rows of bytes that are as long as one another, in the order o, while k numbers are laid. -/
structure Pair (w0 w : World) (ax ay : Option Addr) (X Y : List Nat) (k : Nat) : Prop where
  hb : Below w0.heap.size w0 w
  hx : Lies w ax X
  hy : Lies w ay Y
  bx : Bys X
  yb : Bys Y
  hl : X.length = Y.length
  hk : X.length ≤ 8 * k

theorem Pair.next {w0 wr W w4 w5 : World} {ax ay : Option Addr} {X Y : List Nat} {k g4 g5 u v n : Nat} (h : Pair w0 wr ax ay X Y k) (hW : Below w0.heap.size w0 W) (hB4 : Below W.heap.size W w4) (hB5 : Below w4.heap.size w4 w5)
    (h4 : Own w4 g4 (X ++ highB u n)) (h5 : Own w5 g5 (Y ++ highB v n)) (hn : n ≤ 8) : Pair w0 w5 (some ⟨g4, 0, none⟩) (some ⟨g5, 0, none⟩) (X ++ highB u n) (Y ++ highB v n) (k + 1) := by
  have hb4 := hW.trans (hB4.mono hW.size)
  have bys : ∀ (l : List Nat) (z : Nat), Bys l → Bys (l ++ highB z n) := by
    intro l z hl m hm
    rcases List.mem_append.1 hm with q | q
    · exact hl m q
    · exact highB_bys z n m q
  refine ⟨hb4.trans (hB5.mono hb4.size), (h4.kept' hB5).lies, h5.lies, bys X u h.bx, bys Y v h.yb, ?_, ?_⟩
  · rw [List.length_append, List.length_append, length_highB, length_highB, h.hl]
  · have := h.hk
    rw [List.length_append, length_highB]; omega

theorem order_next (X Y : List Nat) (u v n : Nat) (hl : X.length = Y.length) (hu : u < 2 ^ (8 * n)) (hv : v < 2 ^ (8 * n)) :
    cmpB (X ++ highB u n) (Y ++ highB v n) = if cmpB X Y = 0 then cmpN u v else cmpB X Y := by
  rw [cmpB_append X Y _ _ hl, cmpB_high, Nat.mod_eq_of_lt hu, Nat.mod_eq_of_lt hv]

/-! ### STEP 1: THE WALK: the Go text returns true, AND WRITES NOTHING THAT WAS THERE: 'Below w.heap.size w w'' (Derived/Below.lean: '.refl', '.alloc', '.drew', '.setCell' at a new block, '.trans'). Open each 'IsRow' by 'rcases' AHEAD of 'go_enter'; part every test ahead of the walk. -/
theorem walk (a0 : Option Addr) (len0 cap0 : Nat) (z0 : List Int) (a1 : Option Addr) (len1 cap1 : Nat) (z1 : List Int) (a2 : Option Addr) (len2 cap2 : Nat) (z2 : List Int) (w : World) (w0 : IsRow .u64 w a0 len0 cap0 z0) (w1 : IsRow .u64 w a1 len1 cap1 z1) (w2 : IsRow .i64 w a2 len2 cap2 z2) :
    Calls Try.prog 7 #[.slice a0 len0 cap0, .slice a1 len1 cap1, .slice a2 len2 cap2] w fun e w' => e = .returned (.bool true) ∧ Below w.heap.size w w' := by
  obtain ⟨us, hu, hum, hU, hUw⟩ := w0.nums
  obtain ⟨vs, hv, hvm, hV, hVw⟩ := w1.nums
  obtain ⟨ks, hk, hkm, hK, hKw⟩ := w2.nums
  have HU := Lib.hid hu
  have HV := Lib.hid hv
  have HK := Lib.hid hk
  clear hu hv hk w0 w1 w2
  obtain ⟨N, hN⟩ : ∃ N : Nat, min (min (min (len0 : Int) (len1 : Int)) (len2 : Int)) 100 = (N : Int) := ⟨(min (min (min (len0 : Int) (len1 : Int)) (len2 : Int)) 100).toNat, by omega⟩
  have n0 : N ≤ len0 := by omega
  have n1 : N ≤ len1 := by omega
  have n2 : N ≤ len2 := by omega
  have n3 : N ≤ 100 := by omega
  have hmin : ∀ w, (Builtin.min_ #[3, 3, 3, 3] 3 #[.int .i64 (len0 : Int), .int .i64 (len1 : Int), .int .i64 (len2 : Int), .int .i64 100]).run Try.prog w = .ok (.int .i64 (N : Int)) w := fun w => by rw [run_min4, hN]
  clear hN
  go_enter Try.func7, Try.ntmps7
  go_wp2_with (go_at_call 9; refine (wakes_any _).mono ?_; rintro e w1 ⟨rfl, hb1⟩)
  go_loopw [8, 9, 10, 22] (fun vx vy o i wr => ∃ (k : Nat) (ax ay : Option Addr) (cx cy : Nat) (X Y : List Nat), k ≤ N ∧ i = .int .i64 k ∧ vx = .slice ax X.length cx ∧ vy = .slice ay Y.length cy ∧ o = .int .i64 (cmpB X Y) ∧ Pair w wr ax ay X Y k) (fun _ _ _ i _ => N - (intOf i).toNat)
  case atStart => exact ⟨0, none, none, 0, 0, [], [], Nat.zero_le _, rfl, rfl, rfl, rfl, hb1, .inl rfl, .inl rfl, (by intro n hn; cases hn), (by intro n hn; cases hn), rfl, by simp⟩
  case round =>
    obtain ⟨k, ax, ay, cx, cy, X, Y, hk, rfl, rfl, rfl, rfl, hP⟩ := hrel
    have hXl := hP.hk
    have hXY := Lib.hid hP.hl
    have hY8 : Y.length ≤ 8 * k := by rw [← hXY.out]; exact hXl
    by_cases hlt : k < N
    · rcases hU with h0 | ⟨b0, o0, rfl, l0, c0⟩
      · have := HU.out; rw [h0] at this; simp at this; omega
      rcases hV with h0 | ⟨b1, o1, rfl, l1, c1⟩
      · have := HV.out; rw [h0] at this; simp at this; omega
      rcases hK with h0 | ⟨b2, o2, rfl, l2, c2⟩
      · have := HK.out; rw [h0] at this; simp at this; omega
      have c0 := (hP.hb.cell (p := ⟨b0, o0 + k, none⟩) l0).trans (c0 k (by rw [HU.out]; omega))
      have c1 := (hP.hb.cell (p := ⟨b1, o1 + k, none⟩) l1).trans (c1 k (by rw [HV.out]; omega))
      have c2 := (hP.hb.cell (p := ⟨b2, o2 + k, none⟩) l2).trans (c2 k (by rw [HK.out]; omega))
      have r0 := bounds_u64 (hUw (us.getD k 0) (by have := HU.out; rw [show us.getD k 0 = us[k]'(by omega) from by simp [this, show k < len0 by omega]]; exact List.getElem_mem _))
      have r1 := bounds_u64 (hVw (vs.getD k 0) (by have := HV.out; rw [show vs.getD k 0 = vs[k]'(by omega) from by simp [this, show k < len1 by omega]]; exact List.getElem_mem _))
      have r2 := bounds_i64 (hKw (ks.getD k 0) (by have := HK.out; rw [show ks.getD k 0 = ks[k]'(by omega) from by simp [this, show k < len2 by omega]]; exact List.getElem_mem _))
      clear hUw hVw hKw
      generalize us.getD k 0 = x at *
      generalize vs.getD k 0 = y at *
      generalize ks.getD k 0 = z at *
      obtain ⟨x, rfl⟩ := Int.eq_ofNat_of_zero_le r0.1
      obtain ⟨y, rfl⟩ := Int.eq_ofNat_of_zero_le r1.1
      obtain ⟨xl, hxl⟩ : ∃ xl : Nat, x % 4294967296 = xl := ⟨_, rfl⟩
      obtain ⟨yl, hyl⟩ : ∃ yl : Nat, y % 4294967296 = yl := ⟨_, rfl⟩
      have qx1 : (x : Int) % 4294967296 = (xl : Int) := by omega
      have qx2 : IntKind.u32.wrap (x : Int) = (xl : Int) := by rw [IntKind.wrap_u32]; omega
      have qy1 : (y : Int) % 4294967296 = (yl : Int) := by omega
      have qy2 : IntKind.u32.wrap (y : Int) = (yl : Int) := by rw [IntKind.wrap_u32]; omega
      have bxl : xl ≤ 4294967295 := by omega
      have byl : yl ≤ 4294967295 := by omega
      have p64 : (2 : Nat) ^ (8 * 8) = 18446744073709551616 := rfl
      have p32 : (2 : Nat) ^ (8 * 4) = 4294967296 := rfl
      have O8 := Lib.hid (order_next X Y x y 8 hXY.out (by rw [p64]; omega) (by rw [p64]; omega))
      have O4 := Lib.hid (order_next X Y xl yl 4 hXY.out (by rw [p32]; omega) (by rw [p32]; omega))
      have l0r : b0 < wr.heap.size := Nat.lt_of_lt_of_le l0 hP.hb.size
      have l1r : b1 < wr.heap.size := Nat.lt_of_lt_of_le l1 hP.hb.size
      have i0 : (k : Int) < (len0 : Int) := by omega
      have i1 : (k : Int) < (len1 : Int) := by omega
      have i2 : (k : Int) < (len2 : Int) := by omega
      clear hxl hyl p64 p32
      obtain ⟨o, ho⟩ : ∃ o, cmpB X Y = o := ⟨_, rfl⟩
      have HO := Lib.hid ho
      rw [ho] at O4 O8 ⊢
      clear ho
      by_cases hoz : o = 0
      · subst hoz
        by_cases hp : z.tmod 2 = 0
        · have hp1 : (z.tmod 2 == 0) = true := by simpa using hp
          go_wp2
          go_quiet ((go_at_call 29; exact Calls.quiet_of_same ((cmp32 _ _ _).mono fun _ _ h => ⟨h.1, h.2.symm⟩)))
          go_wp2
          go_region_held3 (fun w' => w'.cell? ⟨b0, o0 + k, none⟩ = some (.int .u64 (x : Int)) ∧ w'.cell? ⟨b1, o1 + k, none⟩ = some (.int .u64 (y : Int))) (first | exact ⟨c0b, c1b⟩ | exact ⟨c0a, c1a⟩ | exact ⟨c0, c1⟩) (first | (go_at_call 12; (with_reducible refine (put32_any ax X.length cx X xl _ rfl (by omega) ?_ (by omega)).mono ?_); (exact hP.hx); rintro e w4 ⟨rfl, hO4, hB4⟩; have c0a : w4.cell? ⟨b0, o0 + k, none⟩ = some (.int .u64 (x : Int)) := (hB4.cell (p := ⟨b0, o0 + k, none⟩) (by exact l0r)).trans (by exact c0); have c1a : w4.cell? ⟨b1, o1 + k, none⟩ = some (.int .u64 (y : Int)) := (hB4.cell (p := ⟨b1, o1 + k, none⟩) (by exact l1r)).trans (by exact c1); have hy4 : Lies w4 ay Y := Lies.kept (by exact hP.hy) hB4) | (go_at_call 12; (with_reducible refine (put32_any ay Y.length cy Y yl _ rfl (by omega) ?_ (by omega)).mono ?_); (exact hy4); rintro e w5 ⟨rfl, hO5, hB5⟩; have c0b : w5.cell? ⟨b0, o0 + k, none⟩ = some (.int .u64 (x : Int)) := (hB5.cell (p := ⟨b0, o0 + k, none⟩) (by have := hB4.size; exact Nat.lt_of_lt_of_le l0r this)).trans (by exact c0a); have c1b : w5.cell? ⟨b1, o1 + k, none⟩ = some (.int .u64 (y : Int)) := (hB5.cell (p := ⟨b1, o1 + k, none⟩) (by have := hB4.size; exact Nat.lt_of_lt_of_le l1r this)).trans (by exact c1a)))
          have HR := Pair.next hP (by exact ⟨hP.hb.os, hP.hb.tape, hP.hb.output, hP.hb.size, hP.hb.block⟩) hB4 hB5 hO4 hO5 (by omega)
          have HQ := Lib.hid (O4.out.trans (if_pos trivial))
          clear hO4 hO5 hB4 hB5 hP O4 O8 hy4 c0a c1a c0b c1b
          go_wp2
          go_roundw
          case rel => exact ⟨k + 1, _, _, X.length + 4, Y.length + 4, X ++ highB xl 4, Y ++ highB yl 4, by omega, by go_num, (by rw [List.length_append, length_highB] <;> rfl), (by rw [List.length_append, length_highB] <;> rfl), by rw [HQ.out], HR⟩
          case measure => simp [intOf]; omega
        · have hp1 : (z.tmod 2 == 0) = false := by simpa using hp
          go_wp2
          go_quiet ((go_at_call 30; exact Calls.quiet_of_same ((cmp64 _ _ _).mono fun _ _ h => ⟨h.1, h.2.symm⟩)))
          go_wp2
          go_region_held3 (fun w' => w'.cell? ⟨b0, o0 + k, none⟩ = some (.int .u64 (x : Int)) ∧ w'.cell? ⟨b1, o1 + k, none⟩ = some (.int .u64 (y : Int))) (first | exact ⟨c0b, c1b⟩ | exact ⟨c0a, c1a⟩ | exact ⟨c0, c1⟩) (first | (go_at_call 13; (with_reducible refine (put64_any ax X.length cx X x _ rfl (by omega) ?_ (by omega)).mono ?_); (exact hP.hx); rintro e w4 ⟨rfl, hO4, hB4⟩; have c0a : w4.cell? ⟨b0, o0 + k, none⟩ = some (.int .u64 (x : Int)) := (hB4.cell (p := ⟨b0, o0 + k, none⟩) (by exact l0r)).trans (by exact c0); have c1a : w4.cell? ⟨b1, o1 + k, none⟩ = some (.int .u64 (y : Int)) := (hB4.cell (p := ⟨b1, o1 + k, none⟩) (by exact l1r)).trans (by exact c1); have hy4 : Lies w4 ay Y := Lies.kept (by exact hP.hy) hB4) | (go_at_call 13; (with_reducible refine (put64_any ay Y.length cy Y y _ rfl (by omega) ?_ (by omega)).mono ?_); (exact hy4); rintro e w5 ⟨rfl, hO5, hB5⟩; have c0b : w5.cell? ⟨b0, o0 + k, none⟩ = some (.int .u64 (x : Int)) := (hB5.cell (p := ⟨b0, o0 + k, none⟩) (by have := hB4.size; exact Nat.lt_of_lt_of_le l0r this)).trans (by exact c0a); have c1b : w5.cell? ⟨b1, o1 + k, none⟩ = some (.int .u64 (y : Int)) := (hB5.cell (p := ⟨b1, o1 + k, none⟩) (by have := hB4.size; exact Nat.lt_of_lt_of_le l1r this)).trans (by exact c1a)))
          have HR := Pair.next hP (by exact ⟨hP.hb.os, hP.hb.tape, hP.hb.output, hP.hb.size, hP.hb.block⟩) hB4 hB5 hO4 hO5 (by omega)
          have HQ := Lib.hid (O8.out.trans (if_pos trivial))
          clear hO4 hO5 hB4 hB5 hP O4 O8 hy4 c0a c1a c0b c1b
          go_wp2
          go_roundw
          case rel => exact ⟨k + 1, _, _, X.length + 8, Y.length + 8, X ++ highB x 8, Y ++ highB y 8, by omega, by go_num, (by rw [List.length_append, length_highB] <;> rfl), (by rw [List.length_append, length_highB] <;> rfl), by rw [HQ.out], HR⟩
          case measure => simp [intOf]; omega
      · have ho1 : (o != 0) = true := by simpa using hoz
        have ho2 : (o == 0) = false := by simpa using hoz
        by_cases hp : z.tmod 2 = 0
        · have hp1 : (z.tmod 2 == 0) = true := by simpa using hp
          go_wp2
          go_region_held3 (fun w' => w'.cell? ⟨b0, o0 + k, none⟩ = some (.int .u64 (x : Int)) ∧ w'.cell? ⟨b1, o1 + k, none⟩ = some (.int .u64 (y : Int))) (first | exact ⟨c0b, c1b⟩ | exact ⟨c0a, c1a⟩ | exact ⟨c0, c1⟩) (first | (go_at_call 12; (with_reducible refine (put32_any ax X.length cx X xl _ rfl (by omega) ?_ (by omega)).mono ?_); (exact hP.hx); rintro e w4 ⟨rfl, hO4, hB4⟩; have c0a : w4.cell? ⟨b0, o0 + k, none⟩ = some (.int .u64 (x : Int)) := (hB4.cell (p := ⟨b0, o0 + k, none⟩) (by exact l0r)).trans (by exact c0); have c1a : w4.cell? ⟨b1, o1 + k, none⟩ = some (.int .u64 (y : Int)) := (hB4.cell (p := ⟨b1, o1 + k, none⟩) (by exact l1r)).trans (by exact c1); have hy4 : Lies w4 ay Y := Lies.kept (by exact hP.hy) hB4) | (go_at_call 12; (with_reducible refine (put32_any ay Y.length cy Y yl _ rfl (by omega) ?_ (by omega)).mono ?_); (exact hy4); rintro e w5 ⟨rfl, hO5, hB5⟩; have c0b : w5.cell? ⟨b0, o0 + k, none⟩ = some (.int .u64 (x : Int)) := (hB5.cell (p := ⟨b0, o0 + k, none⟩) (by have := hB4.size; exact Nat.lt_of_lt_of_le l0r this)).trans (by exact c0a); have c1b : w5.cell? ⟨b1, o1 + k, none⟩ = some (.int .u64 (y : Int)) := (hB5.cell (p := ⟨b1, o1 + k, none⟩) (by have := hB4.size; exact Nat.lt_of_lt_of_le l1r this)).trans (by exact c1a)))
          have HR := Pair.next hP (by exact ⟨hP.hb.os, hP.hb.tape, hP.hb.output, hP.hb.size, hP.hb.block⟩) hB4 hB5 hO4 hO5 (by omega)
          have HQ := Lib.hid (O4.out.trans (if_neg hoz))
          clear hO4 hO5 hB4 hB5 hP O4 O8 hy4 c0a c1a c0b c1b
          go_wp2
          go_roundw
          case rel => exact ⟨k + 1, _, _, X.length + 4, Y.length + 4, X ++ highB xl 4, Y ++ highB yl 4, by omega, by go_num, (by rw [List.length_append, length_highB] <;> rfl), (by rw [List.length_append, length_highB] <;> rfl), by rw [HQ.out], HR⟩
          case measure => simp [intOf]; omega
        · have hp1 : (z.tmod 2 == 0) = false := by simpa using hp
          go_wp2
          go_region_held3 (fun w' => w'.cell? ⟨b0, o0 + k, none⟩ = some (.int .u64 (x : Int)) ∧ w'.cell? ⟨b1, o1 + k, none⟩ = some (.int .u64 (y : Int))) (first | exact ⟨c0b, c1b⟩ | exact ⟨c0a, c1a⟩ | exact ⟨c0, c1⟩) (first | (go_at_call 13; (with_reducible refine (put64_any ax X.length cx X x _ rfl (by omega) ?_ (by omega)).mono ?_); (exact hP.hx); rintro e w4 ⟨rfl, hO4, hB4⟩; have c0a : w4.cell? ⟨b0, o0 + k, none⟩ = some (.int .u64 (x : Int)) := (hB4.cell (p := ⟨b0, o0 + k, none⟩) (by exact l0r)).trans (by exact c0); have c1a : w4.cell? ⟨b1, o1 + k, none⟩ = some (.int .u64 (y : Int)) := (hB4.cell (p := ⟨b1, o1 + k, none⟩) (by exact l1r)).trans (by exact c1); have hy4 : Lies w4 ay Y := Lies.kept (by exact hP.hy) hB4) | (go_at_call 13; (with_reducible refine (put64_any ay Y.length cy Y y _ rfl (by omega) ?_ (by omega)).mono ?_); (exact hy4); rintro e w5 ⟨rfl, hO5, hB5⟩; have c0b : w5.cell? ⟨b0, o0 + k, none⟩ = some (.int .u64 (x : Int)) := (hB5.cell (p := ⟨b0, o0 + k, none⟩) (by have := hB4.size; exact Nat.lt_of_lt_of_le l0r this)).trans (by exact c0a); have c1b : w5.cell? ⟨b1, o1 + k, none⟩ = some (.int .u64 (y : Int)) := (hB5.cell (p := ⟨b1, o1 + k, none⟩) (by have := hB4.size; exact Nat.lt_of_lt_of_le l1r this)).trans (by exact c1a)))
          have HR := Pair.next hP (by exact ⟨hP.hb.os, hP.hb.tape, hP.hb.output, hP.hb.size, hP.hb.block⟩) hB4 hB5 hO4 hO5 (by omega)
          have HQ := Lib.hid (O8.out.trans (if_neg hoz))
          clear hO4 hO5 hB4 hB5 hP O4 O8 hy4 c0a c1a c0b c1b
          go_wp2
          go_roundw
          case rel => exact ⟨k + 1, _, _, X.length + 8, Y.length + 8, X ++ highB x 8, Y ++ highB y 8, by omega, by go_num, (by rw [List.length_append, length_highB] <;> rfl), (by rw [List.length_append, length_highB] <;> rfl), by rw [HQ.out], HR⟩
          case measure => simp [intOf]; omega
    · obtain rfl : k = N := by omega
      obtain ⟨hb, hx, hy, bx, yb, hl, hkk⟩ := hP
      have HZ := Lib.hid (cmpB_zero X Y)
      obtain ⟨o, ho⟩ : ∃ o, cmpB X Y = o := ⟨_, rfl⟩
      rw [ho] at HZ
      have HO := Lib.hid ho
      clear ho hl
      rw [HO.out]
      go_wp2_with fail
      refine (bcompare_any _ _ _ _ _ _ X Y _ rfl rfl bx yb hx hy).mono ?_
      rintro e w' ⟨he, rfl⟩
      rw [HO.out] at he
      subst he
      go_wp2_with fail
      refine (equal_any _ _ _ _ _ _ X Y _ rfl rfl bx yb hx hy).mono ?_
      rintro e w' ⟨he, rfl⟩
      rw [HZ.out] at he
      subst he
      go_wp2
      go_ret
      exact ⟨rfl, hb⟩

/-! ### THE ROW's STEP: WRITTEN OUT: LEAVE IT -/
set_option maxRecDepth 100000 in
theorem lifted (os : Os) (started : os.Started) (H : Type) (enc : TypeId × Value → H) :
    ReturnsInHanded {} Try.checked os 7 .any (Rows.octetRowsSpec.pre6 enc Try.prog Try.f7 Rows.octetRowsRow.domain false) (Rows.octetRowsSpec.post enc Try.prog Try.f7 false true false false) := by
  refine returnsInHanded_of_change (C := Try.checked) own started (by kernel_rfl) Try.func7
    (ChangeSpec.witness6 (enc := enc) (C := Try.checked) false ⟨#[], #[.slice none 0 0, .slice none 0 0, .slice none 0 0], []⟩ 8 (by kernel_rfl) (by kernel_rfl) (by kernel_rfl) (by kernel_rfl)) ?_
  intro W base args ds gs before hval0 hW hcnd _
  have hval : ∀ (j : Nat) t v, Try.f7.params[j]? = some t → args[j]? = some v → Value.okWide Try.prog W .any base t v := hval0
  have hW' := hW
  obtain ⟨p, q, hA0, hV, rfl, hfz, hnd⟩ := hW
  have hA : DataW.TrodAll enc Try.prog W 0 (fun _ => true) true Try.f7.params.toList args.toList ds p := hA0
  rw [Try.params7] at hA hval
  obtain ⟨v0, vs0, d0, ds0, p0, q0, hargs, rfl, rfl, h0, r0⟩ := trodAll_cons hA
  obtain ⟨v1, vs1, d1, ds1, p1, q1, rfl, rfl, rfl, h1, r1⟩ := trodAll_cons r0
  obtain ⟨v2, vs2, d2, ds2, p2, q2, rfl, rfl, rfl, h2, r2⟩ := trodAll_cons r1
  obtain ⟨rfl, rfl, rfl⟩ := trodAll_nil r2
  obtain rfl : args = #[v0, v1, v2] := by cases args; simp_all
  obtain ⟨rfl, rfl⟩ := trodVars_none hV
  obtain ⟨a0, len0, cap0, rfl⟩ := okWide_slice Try.underlying55 (hval 0 55 v0 rfl rfl)
  have k0 := h0
  have lt0 : ∀ x ∈ p0, x.block < W.heap.size := by obtain ⟨m, hm⟩ := k0; exact DataW.trod_lt m _ _ _ hm
  obtain ⟨z0, w0⟩ : ∃ zs, IsRow .u64 W a0 len0 cap0 zs := by
    obtain ⟨fuel, hf⟩ := h0
    rcases open_ints Try.underlying55 Try.underlying23 (by kernel_rfl) hf with ⟨hcs, _⟩ | ⟨x, l, c, zs, hcs, _, hl, hm, hz, _, hcell, hwz⟩
    · simp [Value.cells] at hcs
      obtain ⟨rfl, rfl, rfl⟩ := hcs
      exact ⟨[], .inl ⟨rfl, rfl, rfl, rfl⟩⟩
    · simp [Value.cells] at hcs
      obtain ⟨rfl, rfl, rfl⟩ := hcs
      exact ⟨zs, .inr ⟨_, rfl, hl, hm, by simpa using hz, hcell, hwz⟩⟩
  obtain ⟨a1, len1, cap1, rfl⟩ := okWide_slice Try.underlying55 (hval 1 55 v1 rfl rfl)
  have k1 := h1
  have lt1 : ∀ x ∈ p1, x.block < W.heap.size := by obtain ⟨m, hm⟩ := k1; exact DataW.trod_lt m _ _ _ hm
  obtain ⟨z1, w1⟩ : ∃ zs, IsRow .u64 W a1 len1 cap1 zs := by
    obtain ⟨fuel, hf⟩ := h1
    rcases open_ints Try.underlying55 Try.underlying23 (by kernel_rfl) hf with ⟨hcs, _⟩ | ⟨x, l, c, zs, hcs, _, hl, hm, hz, _, hcell, hwz⟩
    · simp [Value.cells] at hcs
      obtain ⟨rfl, rfl, rfl⟩ := hcs
      exact ⟨[], .inl ⟨rfl, rfl, rfl, rfl⟩⟩
    · simp [Value.cells] at hcs
      obtain ⟨rfl, rfl, rfl⟩ := hcs
      exact ⟨zs, .inr ⟨_, rfl, hl, hm, by simpa using hz, hcell, hwz⟩⟩
  obtain ⟨a2, len2, cap2, rfl⟩ := okWide_slice Try.underlying34 (hval 2 34 v2 rfl rfl)
  have k2 := h2
  have lt2 : ∀ x ∈ p2, x.block < W.heap.size := by obtain ⟨m, hm⟩ := k2; exact DataW.trod_lt m _ _ _ hm
  obtain ⟨z2, w2⟩ : ∃ zs, IsRow .i64 W a2 len2 cap2 zs := by
    obtain ⟨fuel, hf⟩ := h2
    rcases open_ints Try.underlying34 Try.underlying3 (by kernel_rfl) hf with ⟨hcs, _⟩ | ⟨x, l, c, zs, hcs, _, hl, hm, hz, _, hcell, hwz⟩
    · simp [Value.cells] at hcs
      obtain ⟨rfl, rfl, rfl⟩ := hcs
      exact ⟨[], .inl ⟨rfl, rfl, rfl, rfl⟩⟩
    · simp [Value.cells] at hcs
      obtain ⟨rfl, rfl, rfl⟩ := hcs
      exact ⟨zs, .inr ⟨_, rfl, hl, hm, by simpa using hz, hcell, hwz⟩⟩
  clear hA0 hval0
  refine (walk a0 len0 cap0 z0 a1 len1 cap1 z1 a2 len2 cap2 z2 W w0 w1 w2).mono fun e W' ⟨he, bel⟩ => ?_
  subst he
  exact ⟨_, rfl, _, _, _, [], _, [], hW', trodAll_mk1 (shut_bool Try.underlying4 _), (trodAll_cons_mk (Below.trod laidOut (by kernel_rfl) (of_decide_eq_true (by kernel_rfl)) k0 bel lt0) (trodAll_cons_mk (Below.trod laidOut (by kernel_rfl) (of_decide_eq_true (by kernel_rfl)) k1 bel lt1) (trodAll_cons_mk (Below.trod laidOut (by kernel_rfl) (of_decide_eq_true (by kernel_rfl)) k2 bel lt2) trodAll_mk0))), rfl, bel.frame _, fun h => by cases h⟩

theorem over : Rows.octetRowsRow.holds Try.pinned (OpenSpec.ofChange Rows.octetRowsSpec) :=
  OpenClaim.holds_of_wide 7 Try.f7 rfl rfl rfl rfl rfl rfl rfl ⟨rfl, rfl, rfl, rfl, rfl⟩ rfl rfl rfl rfl rfl (by kernel_rfl) Try.func7 (by kernel_rfl)
    (of_decide_eq_true (by kernel_rfl)) (by unfold Func.isWrapper; first | (rw [if_pos (by decide +kernel)]; kernel_rfl) | (rw [if_neg (by decide +kernel)]; exact ⟨rfl, rfl⟩))
    (fun os started H enc _ => lifted os started H enc)

end octetRows
/-- The statement. -/
theorem octetRows_holds : Rows.OctetRowsSaid := octetRows.over
end Go.Proofs.Ytgofnoakgigjbaa
