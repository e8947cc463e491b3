/-
  The contracts of the reference's Bits and Set, and of the law's own 'same'. Nothing here is a statement of the document.
-/
import Derived.Test.YtcehdjpjniemjaaDoorBmpO
namespace Go.Proofs.YtcehdjpjniemjaaDoor
open Go.RowKit Go.Shelf
set_option linter.unusedVariables false

/-- The bits below k. -/
def bitsK (s k : Nat) : List Nat := (List.range k).filter s.testBit
theorem bitsK_succ (s k : Nat) : bitsK s (k + 1) = bitsK s k ++ if s.testBit k then [k] else [] := by
  unfold bitsK
  rw [List.range_succ, List.filter_append]
  congr 1
  cases h : s.testBit k <;> simp [h]
theorem bitsK_len (s k : Nat) : (bitsK s k).length ≤ k := by
  have := List.length_filter_le s.testBit (List.range k)
  simpa [bitsK] using this
theorem hasN_nat {s k : Nat} (h : k < 32) : hasN s (k : Int) = s.testBit k := by unfold hasN; simp; omega

attribute [local go_sem] Oper.semAt_some
set_option maxRecDepth 100000 in
set_option maxHeartbeats 1000000 in
theorem refbits_any {s : Nat} (hs : s < 4294967296) (w : World) :
    Calls Tryd.prog 15 #[.int .u32 s] w fun e w' => ∃ v, e = .returned v ∧ w'.ownsRow w.heap.size 3 1 v (bitsL s).length ((bitsL s).map i64) ∧ Below w.heap.size w w' := by
  obtain ⟨i0, hi, hz0, hz1, hz2⟩ := info_parts i_int
  have hH := fun k : Nat => fun (hk : k < 32) w => refhas_any hs (k : Int) (by omega) (by omega) w
  go_enter Tryd.func15, Tryd.ntmps15
  go_wp2
  go_loopw [3, 4] (fun l i wr => ∃ k : Nat, k ≤ 32 ∧ i = .int .i64 (k : Int) ∧ wr.ownsRow w.heap.size 3 1 l (bitsK s k).length ((bitsK s k).map i64) ∧ Below w.heap.size w wr) (fun _ i _ => 32 - (intOf i).toNat)
  case atStart => exact ⟨0, by omega, rfl, World.ownsRow_nil _ _ _ _, Below.refl _ _⟩
  case round =>
    obtain ⟨k, hk, rfl, hown, hB⟩ := hrel
    by_cases hlt : k < 32
    · have d1 : decide ((k : Int) < 32) = true := by simp; omega
      have d2 : decide (k < 32) = true := by simp; omega
      have hh := hH k hlt wr
      rw [hasN_nat hlt] at hh
      have hl := bitsK_len s k
      have hst := bitsK_succ s k
      cases ht : s.testBit k
      · rw [ht] at hh hst
        have hst : bitsK s (k + 1) = bitsK s k := by simpa using hst
        have HST := Lib.hid hst
        clear hst ht
        go_wp2_with (go_at_call 9; refine hh.mono ?_; rintro e w' ⟨rfl, rfl⟩)
        go_roundw
        case rel => exact ⟨k + 1, by omega, by go_num, by rw [HST.out]; exact hown, hB⟩
        case measure => simp [intOf]; omega
      · rw [ht] at hh hst
        have hst : bitsK s (k + 1) = bitsK s k ++ [k] := by simpa using hst
        have HST := Lib.hid hst
        have hBs := hB.size
        obtain ⟨n, hn⟩ : ∃ n, (bitsK s k).length = n := ⟨_, rfl⟩
        rw [hn] at hown hl
        have HN := Lib.hid hn
        clear hst ht hn
        generalize hxs : (bitsK s k).map i64 = xs at *
        have HXS := Lib.hid hxs
        clear hxs
        go_wp2_with (first | (go_at_call 9; refine hh.mono ?_; rintro e w' ⟨rfl, rfl⟩) | (at_builtin; refine wpList_append_own _ rfl _ _ 29 rfl w.heap.size 3 i0 (.int .i64 0) 1 8 Tryd.underlying29 hi hz0 hz1 hz2 rfl (by decide) _ _ _ rfl (hown.alloc _) ⟨wr.heap.size, 0, none⟩ 1 1 [.int .i64 (k : Int)] rfl rfl (cell_one_new _ _ _) (by simp [Value.oneCell']) (by unfold maxLen; omega) (by omega) (by simp; omega) ?_; intro v' w1 hown' hgrow _))
        refine ⟨⟨k + 1, by omega, by go_num, ?_, ?_⟩, by simp [intOf]; omega⟩
        · rw [HST.out, List.length_append, HN.out, List.map_append, HXS.out]
          exact hown'
        · exact (hB.alloc hBs _).grown hgrow (by simp; omega) (fun k hk => own_from hown hk)
    · have e : k = 32 := by omega
      subst e
      go_wp2
      go_ret
      exact ⟨_, rfl, hown, hB⟩

/-- Numbers that lie at an address. -/
def RI (w : World) (a : Option Addr) (L : List Nat) : Prop := L = [] ∨ ∃ g, a = some ⟨g, 0, none⟩ ∧ g < w.heap.size ∧ ∀ i, i < L.length → w.cell? ⟨g, i, none⟩ = some (i64 (L.getD i 0))
theorem RI.later {w w' : World} {a : Option Addr} {L : List Nat} (h : RI w a L) (k : Below w.heap.size w w') : RI w' a L := by
  rcases h with h | ⟨g, rfl, hg, hc⟩
  · exact .inl h
  · exact .inr ⟨g, rfl, Nat.lt_of_lt_of_le hg k.size, fun i hi => (k.cell (p := ⟨g, i, none⟩) hg).trans (hc i hi)⟩
theorem own_ri {w : World} {B : Nat} {v : Value} {L : List Nat} (h : w.ownsRow B 3 1 v L.length (L.map i64)) : ∃ a cap, v = .slice a L.length cap ∧ RI w a L := by
  rcases h.2 with ⟨rfl, h0⟩ | ⟨g, cap, cur, rfl, hb, hg, hnc, hm, hs, ht⟩
  · exact ⟨none, 0, by rw [h0], .inl (List.eq_nil_of_length_eq_zero h0)⟩
  · refine ⟨some ⟨g, 0, none⟩, cap, rfl, .inr ⟨g, rfl, (Array.getElem?_eq_some_iff.1 hg).1, fun i hi => ?_⟩⟩
    have hc : w.cell? ⟨g, i, none⟩ = cur[i]? := cell_of_row w g i cur 3 (0, 0) hg
    rw [hc]
    have e : (cur.toList.take (L.length * 1))[i]? = cur[i]? := by rw [List.getElem?_take, if_pos (by omega), Array.getElem?_toList]
    rw [← e, ht, List.getElem?_map]
    simp [i64, hi]

set_option maxRecDepth 100000 in
set_option maxHeartbeats 1000000 in
theorem same_any (a b : Option Addr) (n c d : Nat) (L : List Nat) (hn : L.length = n) (hn2 : n ≤ 32) (w : World) (ha : RI w a L) (hb : RI w b L) :
    Calls Tryd.prog 13 #[.slice a n c, .slice b n d] w fun e w' => e = .returned (.bool true) ∧ Below w.heap.size w w' := by
  have HA := Lib.hid ha
  have HB := Lib.hid hb
  have HN := Lib.hid hn
  clear ha hb hn
  go_enter Tryd.func13, Tryd.ntmps13
  go_wp2
  go_loopw [13] (fun i wr => ∃ k : Nat, k ≤ n ∧ i = .int .i64 (k : Int) ∧ Below w.heap.size w wr) (fun i _ => n - (intOf i).toNat)
  case atStart => exact ⟨0, Nat.zero_le _, rfl, Below.refl _ _⟩
  case round =>
    obtain ⟨k, hk, rfl, hB⟩ := hrel
    by_cases hlt : k < n
    · have d1 : decide ((k : Int) < (n : Int)) = true := by simp; omega
      have d2 : decide (k < n) = true := by simp; omega
      rcases HA.out.later hB with h0 | ⟨g, rfl, hg, hc⟩
      · have := HN.out; rw [h0] at this; simp at this; omega
      rcases HB.out.later hB with h0 | ⟨g2, rfl, hg2, hc2⟩
      · have := HN.out; rw [h0] at this; simp at this; omega
      have e1 := hc k (by have := HN.out; omega)
      have e2 := hc2 k (by have := HN.out; omega)
      unfold i64 at e1 e2
      generalize L.getD k 0 = x at *
      have e1' : ∀ m, (wr.drewN m).cell? ⟨g, k, none⟩ = some (.int .i64 (x : Int)) := fun _ => e1
      have e2' : ∀ m, (wr.drewN m).cell? ⟨g2, k, none⟩ = some (.int .i64 (x : Int)) := fun _ => e2
      clear hc hc2 hg hg2
      have f0 : ∀ w9, w9 = wr.drew → w9.cell? ⟨g, k, none⟩ = some (.int .i64 (x : Int)) := fun w9 h => by subst h; exact e1
      have f1 : ∀ w9, w9 = wr.drew → w9.cell? ⟨g2, k, none⟩ = some (.int .i64 (x : Int)) := fun w9 h => by subst h; exact e2
      clear e1 e2 e1' e2'
      go_wp2
      refine wp_region_lin (fun w' => w' = wr.drew) (by kernel_rfl) (by kernel_rfl) rfl ?_
      (repeat (first | (refine lin_off (by rfl) ?_; (try simp only [Act.put, List.setIfInBounds_toArray, List.set_cons_zero, List.set_cons_succ])) | (refine lin_op (v := ?_) (by rfl) (fun w9 hS9 => ?_) ?_; rotate_left; (focus ((have k0 := f0 w9 hS9; have k1 := f1 w9 hS9; (try dsimp only at hS9); go_simp; (try go_bits)) <;> with_reducible rfl)); (try simp only [Act.put, List.setIfInBounds_toArray, List.set_cons_zero, List.set_cons_succ])) ))
      refine lin_nil (fun w8 hS8 => ?_)
      subst hS8
      go_wp2
      go_roundw
      case rel => exact ⟨k + 1, by omega, by go_num, hB.drew⟩
      case measure => simp [intOf]; omega
    · have e : k = n := by omega
      subst e
      go_wp2
      go_ret
      exact ⟨rfl, hB⟩

/-- A set with a bit, or without it. -/
def setN (s : Nat) (b : Int) (t : Bool) : Nat := if t then withN s b else lessN s b
theorem setN_bit {s : Nat} (hs : s < 4294967296) (b : Int) (t : Bool) {k : Nat} (hk : k < 32) : (setN s b t).testBit k = if (k : Int) = b then t else s.testBit k := by
  unfold setN
  cases t
  · rw [if_neg (by simp), lessN_bit hs]; by_cases h : (k : Int) = b <;> simp [h, hk]
  · rw [if_pos rfl, withN_bit]; by_cases h : (k : Int) = b <;> simp [h, hk]
theorem setN_lt {s : Nat} (hs : s < 4294967296) (b : Int) (t : Bool) : setN s b t < 4294967296 := by
  unfold setN; split
  · exact withN_lt hs b
  · exact lessN_lt hs b

set_option maxRecDepth 100000 in
set_option maxHeartbeats 2000000 in
theorem refset_any {s : Nat} (hs : s < 4294967296) (b : Int) (t : Bool) (w : World) :
    Calls Tryd.prog 11 #[.int .u32 s, .int .i64 b, .bool t] w fun e w' => e = .returned (.int .u32 ((setN s b t : Nat) : Int)) ∧ w = w' := by
  have hH := fun k : Nat => fun (hk : k < 32) w => refhas_any hs (k : Int) (by omega) (by omega) w
  have hbit := fun k (hk : k < 32) => setN_bit hs b t hk
  have hlt := setN_lt hs b t
  obtain ⟨X, hX⟩ : ∃ X : Nat → Nat, ∀ i, setN s b t / 2 ^ i = X i := ⟨fun i => setN s b t / 2 ^ i, fun _ => rfl⟩
  have x0 : X 0 = setN s b t := by rw [← hX]; simp
  have x32 : X 32 = 0 := by rw [← hX]; exact Nat.div_eq_of_lt hlt
  have xs : ∀ k, k < 32 → X k = 2 * X (k + 1) + (if (if (k : Int) = b then t else s.testBit k) then 1 else 0) := fun k hk => by
    rw [← hbit k hk, ← hX, ← hX, Nat.pow_succ, ← Nat.div_div_eq_div_mul, Nat.testBit_eq_decide_div_mod_eq]
    generalize setN s b t / 2 ^ k = q
    by_cases hq : q % 2 = 1
    · simp [hq]; omega
    · simp [hq]; omega
  have xl : ∀ k, X (k + 1) < 2147483648 := fun k => by
    rw [← hX]
    have : setN s b t / 2 ^ (k + 1) ≤ setN s b t / 2 ^ 1 := Nat.div_le_div_left (Nat.pow_le_pow_right (by omega) (by omega)) (by omega)
    omega
  rw [← x0]
  have X32 := Lib.hid x32
  have XS := Lib.hid xs
  have XL := Lib.hid xl
  clear hX x0 x32 xs xl hbit hlt
  go_enter Tryd.func11, Tryd.ntmps11
  go_wp2
  go_loop [7, 8] (fun o i => ∃ k : Nat, k ≤ 32 ∧ i = .int .i64 ((k : Int) - 1) ∧ o = .int .u32 ((X k : Nat) : Int)) (fun _ i => (intOf i + 1).toNat)
  case atStart => exact ⟨32, Nat.le_refl _, rfl, by rw [X32.out]; rfl⟩
  case round =>
    obtain ⟨k, hk, rfl, rfl⟩ := hrel
    rcases k with _ | k
    · go_wp2
      go_ret
      exact ⟨rfl, rfl⟩
    · have hk32 : k < 32 := by omega
      have ek : ((k + 1 : Nat) : Int) - 1 = (k : Int) := by omega
      have d1 : decide ((0 : Int) ≤ (k : Int)) = true := by simp
      have hh := hH k hk32
      rw [hasN_nat hk32] at hh
      have hst := XS.out k hk32
      have hl := XL.out k
      rw [ek]
      generalize X (k + 1) = q at *
      have hm0 : (2 * (q : Int)) % 4294967296 = ((2 * q : Nat) : Int) := by omega
      have hm1 : (((2 * q : Nat) : Int) + 1) % 4294967296 = ((2 * q + 1 : Nat) : Int) := by omega
      generalize hq2 : 2 * q = q2 at *
      have HQ2 := Lib.hid hq2
      clear hq2
      by_cases hkb : (k : Int) = b
      · subst hkb
        rw [if_pos rfl] at hst
        have HST := Lib.hid hst
        clear hst
        have dk : ((k : Int) == (k : Int)) = true := by simp
        generalize s.testBit k = h0 at *
        cases t
        · go_wp2_with (go_at_call 9; refine (hh _).mono ?_; rintro e w' ⟨rfl, rfl⟩)
          go_round
          case rel => exact ⟨k, by omega, rfl, by rw [HST.out]; simp; have := HQ2.out; omega⟩
          case measure => simp [intOf] <;> omega
        · go_wp2_with (go_at_call 9; refine (hh _).mono ?_; rintro e w' ⟨rfl, rfl⟩)
          go_round
          case rel => exact ⟨k, by omega, rfl, by rw [HST.out]; simp; have := HQ2.out; omega⟩
          case measure => simp [intOf] <;> omega
      · rw [if_neg hkb] at hst
        have HST := Lib.hid hst
        clear hst
        have dk : ((k : Int) == b) = false := by simpa using hkb
        cases hb0 : s.testBit k
        · rw [hb0] at hh HST
          go_wp2_with (go_at_call 9; refine (hh _).mono ?_; rintro e w' ⟨rfl, rfl⟩)
          go_round
          case rel => exact ⟨k, by omega, rfl, by rw [HST.out]; simp; have := HQ2.out; omega⟩
          case measure => simp [intOf] <;> omega
        · rw [hb0] at hh HST
          go_wp2_with (go_at_call 9; refine (hh _).mono ?_; rintro e w' ⟨rfl, rfl⟩)
          go_round
          case rel => exact ⟨k, by omega, rfl, by rw [HST.out]; simp; have := HQ2.out; omega⟩
          case measure => simp [intOf] <;> omega
end Go.Proofs.YtcehdjpjniemjaaDoor
