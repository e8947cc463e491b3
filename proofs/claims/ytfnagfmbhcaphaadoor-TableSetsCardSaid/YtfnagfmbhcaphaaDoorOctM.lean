/-
  The contracts of cmp.Compare at two kinds and of bytes.Compare; rows of bytes in order. Nothing here is a statement of the document.
-/
import Derived.Test.YtfnagfmbhcaphaaDoorOctJ
import Derived.Lib.BytesEntry
import Derived.Laws.Externs
namespace Go.Proofs.YtfnagfmbhcaphaaDoor
open Go.RowKit
set_option linter.unusedVariables false

/-- Which of two numbers comes first. -/
def cmpN (x y : Nat) : Int := if x < y then -1 else if y < x then 1 else 0

/-- Which of two rows of bytes comes first. -/
def cmpB : List Nat → List Nat → Int
  | [], [] => 0
  | [], _ :: _ => -1
  | _ :: _, [] => 1
  | a :: l, b :: m => if a < b then -1 else if b < a then 1 else cmpB l m

theorem compare_bytes : ∀ (l m : List Nat), Bys l → Bys m → Lib.compareBytes (l.map UInt8.ofNat) (m.map UInt8.ofNat) = cmpB l m
  | [], [], _, _ => rfl
  | [], _ :: _, _, _ => rfl
  | _ :: _, [], _, _ => rfl
  | a :: l, b :: m, hl, hm => by
    have ih := compare_bytes l m (fun n h => hl n (by simp [h])) (fun n h => hm n (by simp [h]))
    have ha : a < 256 := hl a (by simp)
    have hb : b < 256 := hm b (by simp)
    have e1 : (UInt8.ofNat a < UInt8.ofNat b) ↔ a < b := by
      rw [UInt8.lt_iff_toNat_lt, UInt8.toNat_ofNat', UInt8.toNat_ofNat']; omega
    have e2 : (UInt8.ofNat b < UInt8.ofNat a) ↔ b < a := by
      rw [UInt8.lt_iff_toNat_lt, UInt8.toNat_ofNat', UInt8.toNat_ofNat']; omega
    simp only [List.map_cons, Lib.compareBytes, cmpB, e1, e2, ih]

theorem load_bytes {w : World} {ao : Option Addr} {l : List Nat} (h : Lies w ao l) (cap : Nat) :
    (Extern.Bytes.bytesOf (.slice ao l.length cap)).run Tryd.prog w = .ok (strOf l) w := by
  rcases h with rfl | ⟨b, off, rfl, _, hc⟩
  · cases ao <;> rfl
  · have h := Lib.run_loadBytesX (P := Tryd.prog) w (intsOf l) ⟨b, off, none⟩ ByteArray.empty (fun j x hj => by
      have hjl : j < l.length := by
        have := (List.getElem?_eq_some_iff.1 hj).1
        simpa [intsOf] using this
      rw [Addr.add_lit, hc j hjl]
      have : (intsOf l)[j]? = some ((l.getD j 0 : Nat) : Int) := by simp [intsOf, hjl]
      rw [this] at hj
      cases hj
      rfl)
    rw [length_intsOf] at h
    refine h.trans ?_
    congr 1
    show ByteArray.mk (#[] ++ _) = _
    simp [strOf, strOfNums, Lib.bytesOf]

set_option maxHeartbeats 400000 in
theorem bcompare_any (a b : Option Addr) (len cap len2 cap2 : Nat) (l m : List Nat) (w : World) (hl : l.length = len) (hm : m.length = len2) (hB : Bys l) (hC : Bys m) (hL : Lies w a l) (hM : Lies w b m) :
    Calls Tryd.prog 69 #[.slice a len cap, .slice b len2 cap2] w fun e w' => e = .returned (.int .i64 (cmpB l m)) ∧ w = w' := by
  have hrun : (callFunc 78 #[.slice a len cap, .slice b len2 cap2]).run Tryd.prog w = .ok (.value (.int .i64 (cmpB l m))) w := by
    subst hl
    subst hm
    rw [run_callFunc_extern Tryd.func78 (by kernel_rfl) (by kernel_rfl) (by kernel_rfl) (e := Extern.BytealgCompare.compare) (by kernel_rfl)]
    change (Sem.run Tryd.prog (do pure (goInt (Extern.BytealgCompare.cmp (← Extern.Bytes.bytesOf (.slice a l.length cap)) (← Extern.Bytes.bytesOf (.slice b m.length cap2))))) w).andThen _ = _
    simp only [Sem.run_bind, load_bytes hL, load_bytes hM, Result.andThen, Sem.run_pure]
    rw [Lib.cmp_eq, ← Lib.toList_data, ← Lib.toList_data, strOf_list, strOf_list, compare_bytes l m hB hC]
    rfl
  clear hl hm
  go_enter Tryd.func69, Tryd.ntmps69
  go_wp2
  go_ret
  exact ⟨rfl, rfl⟩

theorem cmpB_append : ∀ (l m p q : List Nat), l.length = m.length → cmpB (l ++ p) (m ++ q) = if cmpB l m = 0 then cmpB p q else cmpB l m
  | [], [], p, q, _ => by simp [cmpB]
  | [], _ :: _, _, _, h => by simp at h
  | _ :: _, [], _, _, h => by simp at h
  | a :: l, b :: m, p, q, h => by
    have ih := cmpB_append l m p q (by simpa using h)
    simp only [List.cons_append, cmpB]
    by_cases h1 : a < b
    · simp [h1]
    · by_cases h2 : b < a
      · simp [h1, h2]
      · simp [h1, h2, ih]

theorem cmpB_zero : ∀ (l m : List Nat), (l == m) = (cmpB l m == 0)
  | [], [] => rfl
  | [], _ :: _ => rfl
  | _ :: _, [] => rfl
  | a :: l, b :: m => by
    have ih := cmpB_zero l m
    simp only [cmpB, List.cons_beq_cons]
    by_cases h1 : a < b
    · have : (a == b) = false := by simp; omega
      simp [h1, this]
    · by_cases h2 : b < a
      · have : (a == b) = false := by simp; omega
        simp [h1, h2, this]
      · have : (a == b) = true := by simp; omega
        simp only [h1, h2, this, ih, if_false, Bool.true_and]

theorem highB_cons (x n : Nat) : highB x (n + 1) = (x / 2 ^ (8 * n) % 256) :: highB x n := by
  apply List.ext_getElem
  · simp [highB]
  · intro j h1 h2
    have hj : j < n + 1 := by simpa [highB] using h1
    cases j with
    | zero => simp [highB]
    | succ j =>
      simp only [highB, List.getElem_map, List.getElem_range, List.getElem_cons_succ]
      rw [show n + 1 - 1 - (j + 1) = n - 1 - j from by omega]

theorem cmpB_high (a b : Nat) : ∀ n, cmpB (highB a n) (highB b n) = cmpN (a % 2 ^ (8 * n)) (b % 2 ^ (8 * n))
  | 0 => by simp [highB, cmpB, cmpN, Nat.mod_one]
  | n + 1 => by
    have ih := cmpB_high a b n
    rw [highB_cons, highB_cons]
    simp only [cmpB, ih]
    have e : 2 ^ (8 * (n + 1)) = 2 ^ (8 * n) * 256 := by rw [show 8 * (n + 1) = 8 * n + 8 from by omega, Nat.pow_add]
    have ea := Nat.mod_mul (x := a) (a := 2 ^ (8 * n)) (b := 256)
    have eb := Nat.mod_mul (x := b) (a := 2 ^ (8 * n)) (b := 256)
    rw [e, ea, eb]
    have la : a % 2 ^ (8 * n) < 2 ^ (8 * n) := Nat.mod_lt _ (Nat.two_pow_pos _)
    have lb : b % 2 ^ (8 * n) < 2 ^ (8 * n) := Nat.mod_lt _ (Nat.two_pow_pos _)
    generalize a % 2 ^ (8 * n) = p at *
    generalize b % 2 ^ (8 * n) = q at *
    generalize a / 2 ^ (8 * n) % 256 = x at *
    generalize b / 2 ^ (8 * n) % 256 = y at *
    generalize 2 ^ (8 * n) = t at *
    unfold cmpN
    by_cases h1 : x < y
    · have h2 : p + t * x < q + t * y := by
        have : t * x + t ≤ t * y := by
          have := Nat.mul_le_mul_left t (show x + 1 ≤ y from h1)
          rw [Nat.mul_add, Nat.mul_one] at this
          exact this
        omega
      simp [h1, h2]
    · by_cases h2 : y < x
      · have h3 : q + t * y < p + t * x := by
          have : t * y + t ≤ t * x := by
            have := Nat.mul_le_mul_left t (show y + 1 ≤ x from h2)
            rw [Nat.mul_add, Nat.mul_one] at this
            exact this
          omega
        have h4 : ¬ p + t * x < q + t * y := by omega
        simp [h1, h2, h3, h4]
      · obtain rfl : x = y := by omega
        simp
end Go.Proofs.YtfnagfmbhcaphaaDoor
