/-
  The bits of a set, rising: the contracts of math/bits.TrailingZeros32, bitmap.members and bitmap.Bits. Nothing here is a statement of the document.
-/
import Derived.Test.YtcehdjpjniemjaaDoorBmpB
import Derived.Test.YtcehdjpjniemjaaDoorLin
import Derived.Test.YtcehdjpjniemjaaDoorItB
import Derived.Lib.TrailingZeros
import Derived.Maps.AppendAt
import Derived.Maps.OwnIn
import Derived.RangeFuncBox
namespace Go.Proofs.YtcehdjpjniemjaaDoor
open Go.RowKit Go.Shelf
set_option linter.unusedVariables false

/-! ### Numbers -/
/-- The bits that are set, rising. -/
def bitsL (s : Nat) : List Nat := (List.range 32).filter s.testBit
theorem bitsL_lt {s x : Nat} (h : x ∈ bitsL s) : x < 32 := by simp [bitsL] at h; omega
theorem bitsL_len (s : Nat) : (bitsL s).length ≤ 32 := by
  have := List.length_filter_le s.testBit (List.range 32)
  simpa [bitsL] using this
theorem bitsL_zero : bitsL 0 = [] := by simp [bitsL]
theorem low_off (c m : Nat) : (2 ^ c * (2 * m + 1)) &&& (2 ^ c * (2 * m + 1) - 1) = 2 ^ c * (2 * m) := by
  have h0 : 0 < 2 ^ c := Nat.pow_pos (by omega)
  have e : 2 ^ c * (2 * m + 1) - 1 = 2 ^ c * (2 * m) + (2 ^ c - 1) := by rw [Nat.mul_add]; omega
  have e2 : 2 ^ c * (2 * m + 1) = 2 ^ c * (2 * m + 1) + 0 := rfl
  have e3 : 2 ^ c * (2 * m) = 2 ^ c * (2 * m) + 0 := rfl
  rw [e]
  apply Nat.eq_of_testBit_eq
  intro j
  rw [Nat.testBit_and, Nat.testBit_two_pow_mul_add _ (by omega)]
  conv => lhs; lhs; rw [e2, Nat.testBit_two_pow_mul_add _ h0]
  conv => rhs; rw [e3, Nat.testBit_two_pow_mul_add _ h0]
  by_cases hj : j < c
  · simp [hj]
  · simp only [hj, if_false]
    rcases hd : j - c with _ | d
    · simp
    · rw [Nat.testBit_succ, Nat.testBit_succ, show (2 * m + 1) / 2 = m by omega, show (2 * m) / 2 = m by omega]; simp
theorem low_bit (c m j : Nat) : (2 ^ c * (2 * m + 1)).testBit j = (decide (j = c) || (2 ^ c * (2 * m)).testBit j) ∧ ((2 ^ c * (2 * m)).testBit j = true → c < j) := by
  have h0 : 0 < 2 ^ c := Nat.pow_pos (by omega)
  have e2 : 2 ^ c * (2 * m + 1) = 2 ^ c * (2 * m + 1) + 0 := rfl
  have e3 : 2 ^ c * (2 * m) = 2 ^ c * (2 * m) + 0 := rfl
  rw [e2, e3, Nat.testBit_two_pow_mul_add _ h0, Nat.testBit_two_pow_mul_add _ h0]
  by_cases hj : j < c
  · simp [hj]; omega
  · simp only [hj, if_false]
    rcases hd : j - c with _ | d
    · have : j = c := by omega
      simp [this]
    · have : ¬ j = c := by omega
      rw [Nat.testBit_succ, Nat.testBit_succ, show (2 * m + 1) / 2 = m by omega, show (2 * m) / 2 = m by omega]; simp [this]; omega
theorem bitsL_step {c m : Nat} (hc : c < 32) : bitsL (2 ^ c * (2 * m + 1)) = c :: bitsL (2 ^ c * (2 * m)) := by
  unfold bitsL
  have hr := range_split (j := c) (n := 32) hc
  rw [hr, List.filter_append, List.filter_append, List.filter_cons, List.filter_cons]
  have hA : ∀ p : Nat → Bool, (∀ i, i < c → p i = false) → (List.range c).filter p = [] := fun p hp => by
    rw [List.filter_eq_nil_iff]; intro i hi; simp at hi; simp [hp i hi]
  have hlo : ∀ i, i < c → (2 ^ c * (2 * m)).testBit i = false := fun i hi => by
    cases h : (2 ^ c * (2 * m)).testBit i with
    | false => rfl
    | true => have := (low_bit c m i).2 h; omega
  rw [hA _ (fun i hi => by rw [(low_bit c m i).1, hlo i hi]; simp; omega), hA _ hlo]
  have hcc : (2 ^ c * (2 * m)).testBit c = false := by
    cases h : (2 ^ c * (2 * m)).testBit c with
    | false => rfl
    | true => have := (low_bit c m c).2 h; omega
  rw [if_pos (by rw [(low_bit c m c).1]; simp), if_neg (by simp [hcc])]
  simp only [List.nil_append]
  congr 1
  apply List.filter_congr
  intro i hi
  have : c < i := by simp [List.mem_range'_1] at hi; omega
  rw [(low_bit c m i).1]
  have : ¬ i = c := by omega
  simp [this]
/-- Of what is not empty the least bit goes. -/
theorem least {r : Nat} (h0 : r ≠ 0) (hr : r < 4294967296) : Lib.ctz 32 r < 32 ∧ (r &&& (r - 1)) < r ∧ bitsL r = Lib.ctz 32 r :: bitsL (r &&& (r - 1)) := by
  obtain ⟨m, hm, hk⟩ := Lib.ctzFrom_spec 32 r (by omega) hr
  have e : Lib.ctz 32 r = Lib.ctzFrom 32 r := by unfold Lib.ctz; rw [if_neg h0]
  rw [e]
  generalize Lib.ctzFrom 32 r = c at *
  have hp : 0 < 2 ^ c := Nat.pow_pos (by omega)
  rw [hm, low_off]
  refine ⟨hk, ?_, bitsL_step hk⟩
  rw [Nat.mul_add]; omega
theorem bitsL_empty {r : Nat} (hr : r < 4294967296) (h : bitsL r = []) : r = 0 := by
  apply Classical.byContradiction
  intro h0
  have := (least h0 hr).2.2
  rw [h] at this; cases this

/-! ### The table -/
/-- The table of trailing zeros lies in its variable. -/
def Tz (w : World) : Prop := ∀ j : Nat, j < 32 → w.cell? ⟨0, j, none⟩ = some (.int .u8 ((Lib.deBruijn32tab.getD j 0 : Nat) : Int))
theorem Tz.lt {w : World} (h : Tz w) : 0 < w.heap.size := World.block_lt_of_cell? w _ (h 0 (by omega))
theorem Tz.later {w w' : World} (h : Tz w) (k : Below w.heap.size w w') : Tz w' := fun j hj => (k.cell (p := ⟨0, j, none⟩) h.lt).trans (h j hj)
theorem Tz.low {w w' : World} {B : Nat} {S : List Nat} (h : Tz w) (k : KL B S w w') (hB : 0 < B) (hS : 0 ∉ S) : Tz w' := fun j hj => by
  have e : w'.cell? ⟨0, j, none⟩ = w.cell? ⟨0, j, none⟩ := by simp [World.cell?, k.same 0 hB hS]
  exact e.trans (h j hj)
theorem Tz.drew {w : World} (h : Tz w) : Tz w.drew := h

theorem tz_key (x a : Nat) (hx : x < 4294967296) (hx0 : x ≠ 0) (hlow : x &&& (4294967296 - x) = a) :
    bits BinOp.and IntKind.u32 (x : Int) (-(x : Int) % 4294967296) * 125613361 % 4294967296 / 134217728 = ((a * 125613361 % 4294967296 / 134217728 : Nat) : Int) := by
  have e1 : -(x : Int) % 4294967296 = ((4294967296 - x : Nat) : Int) := by omega
  rw [e1, u32_and_nat x _ hx (by omega), hlow]
  omega

set_option maxHeartbeats 1000000 in
theorem tz_core (x k idx : Nat) (w : World) (hx0 : ((x : Int) == 0) = false)
    (key : bits BinOp.and IntKind.u32 (x : Int) (-(x : Int) % 4294967296) * 125613361 % 4294967296 / 134217728 = (idx : Int))
    (hi : idx < 32) (hk : k < 32) (hcell : w.cell? ⟨0, idx, none⟩ = some (.int .u8 k)) :
    Calls Tryd.prog 25 #[.int .u32 x] w fun e w' => e = .returned (.int .i64 k) ∧ w = w' := by
  go_enter Tryd.func25, Tryd.ntmps25
  go_wp2_with (simp only [key])
  go_ret
  exact ⟨rfl, rfl⟩

theorem tz32_any {x : Nat} (hx : x < 4294967296) (hx0 : x ≠ 0) (w : World) (hT : Tz w) :
    Calls Tryd.prog 25 #[.int .u32 x] w fun e w' => e = .returned (.int .i64 ((Lib.ctz 32 x : Nat) : Int)) ∧ w = w' := by
  obtain ⟨hlow, hk⟩ := Lib.lowest_bit 32 x hx0 hx
  obtain ⟨hi, htab⟩ := Lib.deBruijn32_at _ hk
  have hcell := hT _ hi
  rw [htab] at hcell
  exact tz_core x _ _ w (by simp; omega) (tz_key x _ hx hx0 hlow) hi hk hcell
end Go.Proofs.YtcehdjpjniemjaaDoor
