/-
  The walk of BitmapRanks. Nothing here is a statement of the document.
-/
import Derived.Test.YtcehdjpjniemjaaDoorBmpQ
namespace Go.Proofs.YtcehdjpjniemjaaDoor
open Go.RowKit Go.Shelf
set_option linter.unusedVariables false

theorem rank_bitsK (s : Nat) : ∀ k, rankN s k = (bitsK s k).length
  | 0 => rfl
  | k + 1 => by
    rw [bitsK_succ, List.length_append, ← rank_bitsK s k]
    show rankN s k + _ = _
    cases s.testBit k <;> simp
theorem bitsL_split {s x : Nat} (hx : x < 32) (ht : s.testBit x = true) : ∃ R, bitsL s = bitsK s x ++ x :: R := by
  refine ⟨(List.range' (x + 1) (32 - x - 1)).filter s.testBit, ?_⟩
  unfold bitsL bitsK
  rw [range_split (j := x) (n := 32) hx, List.filter_append, List.filter_cons, if_pos ht]
theorem bitsL_pair (s : Nat) : (bitsL s).Pairwise (· < ·) := List.Pairwise.filter _ List.pairwise_lt_range
/-- A bit that stands at place k. -/
theorem bitsL_at {s k : Nat} (hk : k < (bitsL s).length) : (bitsL s).getD k 0 < 32 ∧ s.testBit ((bitsL s).getD k 0) = true ∧ rankN s ((bitsL s).getD k 0) = k ∧ ∀ j, j < k → (bitsL s).getD j 0 < (bitsL s).getD k 0 := by
  have e : ∀ i (hi : i < (bitsL s).length), (bitsL s).getD i 0 = (bitsL s)[i] := fun i hi => by simp [hi]
  have hm : (bitsL s)[k] ∈ bitsL s := List.getElem_mem hk
  have hp := List.pairwise_iff_getElem.1 (bitsL_pair s)
  rw [e k hk]
  have h1 := bitsL_lt hm
  have h2 : s.testBit (bitsL s)[k] = true := (List.mem_filter.1 (show (bitsL s)[k] ∈ (List.range 32).filter s.testBit from hm)).2
  refine ⟨h1, h2, ?_, fun j hj => by rw [e j (by omega)]; exact hp j k (by omega) hk hj⟩
  obtain ⟨R, hR⟩ := bitsL_split h1 h2
  rw [rank_bitsK]
  generalize hx : (bitsL s)[k] = x at *
  have hl : (bitsK s x).length < (bitsL s).length := by rw [hR]; simp
  have hv : (bitsL s)[(bitsK s x).length] = x := by
    have : (bitsL s)[(bitsK s x).length]? = some x := by rw [hR]; simp
    rw [List.getElem?_eq_getElem hl] at this
    exact Option.some.inj this
  rcases Nat.lt_trichotomy (bitsK s x).length k with h | h | h
  · have := hp _ _ hl hk h; rw [hv, hx] at this; omega
  · exact h
  · have := hp _ _ hk hl h; rw [hv, hx] at this; omega
/-- The set of the first bits. -/
def backN (L : List Nat) : Nat → Nat
  | 0 => 0
  | k + 1 => withN (backN L k) ((L.getD k 0 : Nat) : Int)
theorem backN_lt (L : List Nat) : ∀ k, backN L k < 4294967296
  | 0 => by simp [backN]
  | k + 1 => withN_lt (backN_lt L k) _
theorem backN_bit {L : List Nat} : ∀ {k : Nat}, k ≤ L.length → ∀ j, (backN L k).testBit j = decide (j < 32 ∧ j ∈ L.take k)
  | 0, _, j => by simp [backN]
  | k + 1, h, j => by
    have hk : k < L.length := h
    show (withN (backN L k) _).testBit j = _
    rw [withN_bit, backN_bit (by omega) j, List.take_succ_eq_append_getElem hk, show L.getD k 0 = L[k] by simp [hk]]
    rw [Bool.eq_iff_iff]
    simp only [Bool.or_eq_true, decide_eq_true_eq, List.mem_append, List.mem_singleton]
    constructor
    · rintro (⟨h1, h2⟩ | ⟨h1, h2⟩)
      · exact ⟨h1, .inl h2⟩
      · exact ⟨h2, .inr (by omega)⟩
    · rintro ⟨h1, h2 | h2⟩
      · exact .inl ⟨h1, h2⟩
      · exact .inr ⟨by omega, h1⟩
theorem back_all {s : Nat} (hs : s < 4294967296) : backN (bitsL s) (bitsL s).length = s := by
  apply Nat.eq_of_testBit_eq
  intro j
  rw [backN_bit (Nat.le_refl _), List.take_length]
  by_cases hj : j < 32
  · have : j ∈ bitsL s ↔ s.testBit j = true := by simp [bitsL, hj]
    cases h : s.testBit j <;> simp [this, h, hj]
  · have : s.testBit j = false := Nat.testBit_lt_two_pow (Nat.lt_of_lt_of_le hs (show 2 ^ 32 ≤ 2 ^ j from Nat.pow_le_pow_right (by omega) (by omega)))
    simp [hj, this]
theorem ext32 {a b : Nat} (h : ∀ i, a.testBit i = b.testBit i) : a = b := Nat.eq_of_testBit_eq h
theorem with_less {s : Nat} (hs : s < 4294967296) (b : Int) : withN (lessN s b) b = withN s b := ext32 fun i => by
  rw [withN_bit, withN_bit, lessN_bit hs]; cases s.testBit i <;> by_cases h : (i : Int) = b ∧ i < 32 <;> simp [h]
theorem less_with {s : Nat} (hs : s < 4294967296) (b : Int) : lessN (withN s b) b = lessN s b := ext32 fun i => by
  rw [lessN_bit (withN_lt hs b), lessN_bit hs, withN_bit]; cases s.testBit i <;> by_cases h : (i : Int) = b ∧ i < 32 <;> simp [h]
theorem has_with {s : Nat} {n : Nat} (hn : n < 32) : hasN (withN s (n : Int)) (n : Int) = true := by rw [hasN_nat hn, withN_bit]; simp [hn]
theorem has_less {s : Nat} (hs : s < 4294967296) {n : Nat} (hn : n < 32) : hasN (lessN s (n : Int)) (n : Int) = false := by rw [hasN_nat hn, lessN_bit hs]; simp [hn]
theorem with_out {s : Nat} {b : Int} (h : b < 0 ∨ 32 ≤ b) : withN s b = s := by unfold withN; rw [oneN_out h]; simp
theorem less_out {s : Nat} (hs : s < 4294967296) {b : Int} (h : b < 0 ∨ 32 ≤ b) : lessN s b = s := ext32 fun i => by
  rw [lessN_bit hs]
  have : ¬ ((i : Int) = b ∧ i < 32) := by omega
  simp [this]
theorem clamp_in {n : Nat} (h : n ≤ 32) : clampN (n : Int) = n := by unfold clampN; rw [if_neg (by omega), if_neg (by omega)]; simp

set_option maxRecDepth 100000 in
set_option maxHeartbeats 4000000 in
theorem ranks_walk {s : Nat} (hs : s < 4294967296) (b : Int) (h1 : -9223372036854775808 ≤ b) (h2 : b ≤ 9223372036854775807) (w : World) (hT : Tz w) :
    Calls Tryd.prog 4 #[.int .u32 s, .int .i64 b] w fun e w' => e = .returned (.bool true) ∧ Below w.heap.size w w' := by
  have hB := fun w hT => bits_any hs w hT
  have hat := fun k (hk : k < (bitsL s).length) => bitsL_at hk
  have hlen := bitsL_len s
  have hr32 : rankN s 32 = (bitsL s).length := rank_bitsK s 32
  have hall := back_all hs
  have hbl := fun k => backN_lt (bitsL s) k
  have HAT := Lib.hid hat
  have HALL := Lib.hid hall
  have HBL := Lib.hid hbl
  have HT := Lib.hid hT
  have hR32 : ∀ w, Calls Tryd.prog 6 #[.int .u32 s, .int .i64 32] w fun e w' => e = .returned (.int .i64 (((bitsL s).length : Nat) : Int)) ∧ w' = w.drew := fun w => by
    have h := brank_any hs 32 (by omega) (by omega) w
    rw [show clampN 32 = 32 from rfl, hr32] at h
    exact h
  have hWi := fun w => bwith_any hs b h1 h2 w
  have hLe := fun w => bless_any hs b h1 h2 w
  have hLW := fun w => bless_any (withN_lt hs b) b h1 h2 w
  have hWL := fun w => bwith_any (lessN_lt hs b) b h1 h2 w
  have hHW := fun w => bhas_any (withN_lt hs b) b h1 h2 w
  have hHL := fun w => bhas_any (lessN_lt hs b) b h1 h2 w
  rw [less_with hs] at hLW
  rw [with_less hs] at hWL
  clear hT hat hall hbl hr32
  obtain ⟨L, hL⟩ : ∃ L, bitsL s = L := ⟨_, rfl⟩
  rw [hL] at hB hlen HAT HALL HBL hR32
  clear hL
  go_enter Tryd.func4, Tryd.ntmps4
  go_wp2_with fail
  refine (wakes7_any _).mono ?_
  rintro e w1 ⟨rfl, hb1⟩
  have ht1 := HT.out.later hb1
  go_wp2_with fail
  refine (hB _ ht1).mono ?_
  rintro e w2 ⟨v, rfl, ho, hb2⟩
  obtain ⟨a1, c1, rfl, hr1⟩ := own_ri ho
  have hb2 := bel_q hb1 hb2
  clear ho hB hb1 ht1
  have hn : ∃ n, L.length = n := ⟨_, rfl⟩
  obtain ⟨n, hn⟩ := hn
  have HN := Lib.hid hn
  rw [hn] at hlen hR32
  rw [hn]
  clear hn
  go_wp2
  go_loopw [6, 17] (fun o i wr => ∃ k : Nat, k ≤ n ∧ i = .int .i64 (k : Int) ∧ o = .int .u32 ((backN L k : Nat) : Int) ∧ Below w2.heap.size w2 wr) (fun _ i _ => n - (intOf i).toNat)
  case atStart => exact ⟨0, Nat.zero_le _, rfl, rfl, Below.refl _ _⟩
  case round =>
    obtain ⟨k, hk, rfl, rfl, hBw⟩ := hrel
    by_cases hlt : k < n
    · have d1 : decide ((k : Int) < (n : Int)) = true := by simp; omega
      have d2 : decide (k < n) = true := by simp; omega
      rcases hr1.later hBw with h0 | ⟨g, rfl, hg, hc⟩
      · have := HN.out; rw [h0] at this; simp at this; omega
      obtain ⟨x1, x2, x3, x4⟩ := HAT.out k (by rw [HN.out]; exact hlt)
      have e1 := hc k (by rw [HN.out]; exact hlt)
      have e0 := fun j hj => hc j (by rw [HN.out]; exact hj)
      have hnx : backN L (k + 1) = withN (backN L k) ((L.getD k 0 : Nat) : Int) := rfl
      have hrk := fun w => brank_any hs ((L.getD k 0 : Nat) : Int) (by omega) (by omega) w
      rw [clamp_in (by omega), x3] at hrk
      have hhs := fun w => bhas_any hs ((L.getD k 0 : Nat) : Int) (by omega) (by omega) w
      rw [hasN_nat x1, x2] at hhs
      have hwb := fun w => bwith_any (HBL.out k) ((L.getD k 0 : Nat) : Int) (by omega) (by omega) w
      rw [← hnx] at hwb
      have e1' : ∀ m, (wr.drewN m).cell? ⟨g, k, none⟩ = some (i64 (L.getD k 0)) := fun _ => e1
      unfold i64 at e1 e1'
      generalize hk1 : backN L (k + 1) = bk1 at *
      have HK1 := Lib.hid hk1.symm
      clear hk1
      have HE0 := Lib.hid e0
      have X4 := Lib.hid x4
      clear hc hnx x2 x3 e0 x4
      have hgD : ∃ x, L.getD k 0 = x := ⟨_, rfl⟩
      obtain ⟨x, hx⟩ := hgD
      rw [hx] at e1 hrk hhs hwb x1
      have HX := Lib.hid hx
      clear hx e1'
      generalize hbk : backN L k = bk at *
      rcases k with _ | j
      · go_wp2_with (first | (go_at_call 6; refine (hrk _).mono ?_; rintro e w' ⟨rfl, rfl⟩) | (go_at_call 8; refine (hhs _).mono ?_; rintro e w' ⟨rfl, rfl⟩) | (go_at_call 10; refine (hwb _).mono ?_; rintro e w' ⟨rfl, rfl⟩))
        go_roundw
        case rel => exact ⟨1, by omega, rfl, by rw [HK1.out], hBw.drew⟩
        case measure => simp [intOf]; omega
      · have e9 := HE0.out j (by omega)
        have hy := X4.out j (by omega)
        rw [HX.out] at hy
        unfold i64 at e9
        generalize L.getD j 0 = y at *
        have ej : ((j + 1 : Nat) : Int) - 1 = (j : Int) := by omega
        have ej0 : decide ((0 : Int) < ((j + 1 : Nat) : Int)) = true := decide_eq_true (by omega)
        have dy : decide ((x : Int) ≤ (y : Int)) = false := by simp; omega
        have dy2 : decide (x ≤ y) = false := decide_eq_false (by omega)
        have dj : j < n := by omega
        clear hy
        go_wp2_with (first | (go_at_call 6; refine (hrk _).mono ?_; rintro e w' ⟨rfl, rfl⟩) | (go_at_call 8; refine (hhs _).mono ?_; rintro e w' ⟨rfl, rfl⟩) | (go_at_call 10; refine (hwb _).mono ?_; rintro e w' ⟨rfl, rfl⟩))
        refine ⟨⟨j + 2, by omega, by go_num, by rw [HK1.out], hBw.drew⟩, ?_⟩
        simp [intOf]; omega
    · have e : k = n := by omega
      subst e
      have hbs : backN L k = s := by rw [← HN.out]; exact HALL.out
      rw [hbs]
      have hbE := Lib.hid (bel_q hb2 hBw.drew)
      clear hbs
      by_cases hb0 : b < 0
      · have w0 := with_out (s := s) (.inl hb0)
        have l0 := less_out hs (b := b) (.inl hb0)
        have d1 : decide (b < 0) = true := by simpa using hb0
        rw [w0] at hWi
        rw [l0] at hLe
        clear hLW hWL hHW hHL w0 l0
        go_wp2_with (first | (go_at_call 6; refine (hR32 _).mono ?_; rintro e w' ⟨rfl, rfl⟩) | (go_at_call 10; first | ((with_reducible refine (hWi _).mono ?_); rintro e w' ⟨rfl, rfl⟩) | ((with_reducible refine (hWL _).mono ?_); rintro e w' ⟨rfl, rfl⟩)) | (go_at_call 12; first | ((with_reducible refine (hLe _).mono ?_); rintro e w' ⟨rfl, rfl⟩) | ((with_reducible refine (hLW _).mono ?_); rintro e w' ⟨rfl, rfl⟩)) | (go_at_call 8; first | ((with_reducible refine (hHW _).mono ?_); rintro e w' ⟨rfl, rfl⟩) | ((with_reducible refine (hHL _).mono ?_); rintro e w' ⟨rfl, rfl⟩)))
        go_ret
        exact ⟨rfl, hbE.out⟩
      · obtain ⟨m, rfl⟩ := Int.eq_ofNat_of_zero_le (by omega : 0 ≤ b)
        by_cases hm : m < 32
        · have d1 : decide ((m : Int) < 0) = false := by simp
          have d2 : decide ((31 : Int) < (m : Int)) = false := by simp; omega
          have d3 : decide (31 < m) = false := by simp; omega
          rw [has_with hm] at hHW
          rw [has_less hs hm] at hHL
          generalize withN s (m : Int) = wi at *
          generalize lessN s (m : Int) = le at *
          go_wp2_with (first | (go_at_call 6; refine (hR32 _).mono ?_; rintro e w' ⟨rfl, rfl⟩) | (go_at_call 10; first | ((with_reducible refine (hWi _).mono ?_); rintro e w' ⟨rfl, rfl⟩) | ((with_reducible refine (hWL _).mono ?_); rintro e w' ⟨rfl, rfl⟩)) | (go_at_call 12; first | ((with_reducible refine (hLe _).mono ?_); rintro e w' ⟨rfl, rfl⟩) | ((with_reducible refine (hLW _).mono ?_); rintro e w' ⟨rfl, rfl⟩)) | (go_at_call 8; first | ((with_reducible refine (hHW _).mono ?_); rintro e w' ⟨rfl, rfl⟩) | ((with_reducible refine (hHL _).mono ?_); rintro e w' ⟨rfl, rfl⟩)))
          go_ret
          exact ⟨rfl, hbE.out⟩
        · have w0 := with_out (s := s) (b := (m : Int)) (.inr (by omega))
          have l0 := less_out hs (b := (m : Int)) (.inr (by omega))
          have d1 : decide ((m : Int) < 0) = false := by simp
          have d2 : decide ((31 : Int) < (m : Int)) = true := by simp; omega
          have d3 : decide (31 < m) = true := by simp; omega
          rw [w0] at hWi
          rw [l0] at hLe
          clear hLW hWL hHW hHL w0 l0
          go_wp2_with (first | (go_at_call 6; refine (hR32 _).mono ?_; rintro e w' ⟨rfl, rfl⟩) | (go_at_call 10; first | ((with_reducible refine (hWi _).mono ?_); rintro e w' ⟨rfl, rfl⟩) | ((with_reducible refine (hWL _).mono ?_); rintro e w' ⟨rfl, rfl⟩)) | (go_at_call 12; first | ((with_reducible refine (hLe _).mono ?_); rintro e w' ⟨rfl, rfl⟩) | ((with_reducible refine (hLW _).mono ?_); rintro e w' ⟨rfl, rfl⟩)) | (go_at_call 8; first | ((with_reducible refine (hHW _).mono ?_); rintro e w' ⟨rfl, rfl⟩) | ((with_reducible refine (hHL _).mono ?_); rintro e w' ⟨rfl, rfl⟩)))
          go_ret
          exact ⟨rfl, hbE.out⟩
end Go.Proofs.YtcehdjpjniemjaaDoor
