/-
  The contracts of sum.Seal32, split and Open32 and of the reference's Seal and Opens. Nothing here is a statement of the document.
-/
import Derived.Test.YtkfpkolgikpcpaaSumB
import Derived.Test.YtkfpkolgikpcpaaOctN
import Derived.Deep.RegionHeld3
namespace Go.Proofs.Ytkfpkolgikpcpaa
open Go.RowKit
set_option linter.unusedVariables false

set_option maxHeartbeats 400000 in
theorem seal_any (a : Option Addr) (len cap : Nat) (l : List Nat) (w : World) (hl : l.length = len) (hlm : len ≤ 140737488300000) (hB : Bys l) (hL : Lies w a l) :
    Calls Try.prog 63 #[.slice a len cap] w fun e w' => ∃ g, e = .returned (.slice (some ⟨g, 0, none⟩) (len + 4) (len + 4)) ∧ w.heap.size ≤ g ∧ Own w' g (l ++ highB (goS 1 l) 4) ∧ Below w.heap.size w w' := by
  have HN := Lib.hid hl
  have hv := goS_lt 1 l
  clear hl
  go_enter Try.func63, Try.ntmps63
  go_wp2_with fail
  refine (sum_any _ _ _ l _ HN.out (by omega) hB hL).mono ?_
  rintro e w1 ⟨rfl, hb⟩
  go_wp2_with fail
  refine (put32_any _ _ _ l (goS 1 l) _ HN.out (by omega) (hL.kept hb) (by omega)).mono ?_
  rintro e w2 ⟨rfl, hO, hb2⟩
  go_wp2_with fail
  go_ret
  exact ⟨_, rfl, hb.size, hO, hb.trans (hb2.mono hb.size)⟩

/-- What the last four bytes say. -/
def saidS (l : List Nat) : Nat := pile 0 (l.drop (l.length - 4))
/-- What is ahead of the last four bytes. -/
def aheadS (l : List Nat) : List Nat := l.take (l.length - 4)

theorem pile4 (x : Nat) (hx : x < 4294967296) : pile 0 (highB x 4) = x := by
  simp [highB, List.range, List.range.loop, pile]
  omega
theorem pile4_lt (l : List Nat) (hB : Bys l) (h : l.length = 4) : pile 0 l < 4294967296 := by
  have h1 := valB_lt l hB
  rw [pile_zero l hB]
  rw [h] at h1
  exact Nat.lt_of_le_of_lt (Nat.mod_le _ _) h1
theorem high4 (l : List Nat) (hB : Bys l) (h : l.length = 4) : highB (pile 0 l) 4 = l := by
  have h1 := highB_valB l hB
  have h2 := valB_lt l hB
  rw [h] at h1 h2
  rw [pile_zero l hB, Nat.mod_eq_of_lt (by omega)]
  exact h1
theorem Bys.drop {l : List Nat} (h : Bys l) (k : Nat) : Bys (l.drop k) := fun n hn => h n (List.mem_of_mem_drop hn)
theorem Bys.take {l : List Nat} (h : Bys l) (k : Nat) : Bys (l.take k) := fun n hn => h n (List.mem_of_mem_take hn)
theorem Bys.append {l m : List Nat} (h : Bys l) (h2 : Bys m) : Bys (l ++ m) := fun n hn => by
  rcases List.mem_append.1 hn with h9 | h9
  · exact h n h9
  · exact h2 n h9
theorem Bys.set {l : List Nat} (h : Bys l) (k x : Nat) (hx : x < 256) : Bys (l.set k x) := fun n hn => by
  rcases List.mem_or_eq_of_mem_set hn with h9 | h9
  · exact h n h9
  · omega
theorem Lies.part {w : World} {b off : Nat} {l : List Nat} (h : Lies w (some ⟨b, off, none⟩) l) (o : Nat) : Lies w (some ⟨b, off + o, none⟩) (l.drop o) := by
  rcases h with rfl | ⟨b, off, h, hlt, hc⟩
  · exact .inl (by simp)
  · cases h
    refine .inr ⟨_, _, rfl, hlt, fun i hi => ?_⟩
    rw [List.length_drop] at hi
    have := hc (o + i) (by omega)
    rw [Nat.add_assoc, this]
    simp [List.getElem?_drop]
theorem Lies.ahead {w : World} {a : Option Addr} {l : List Nat} (h : Lies w a l) (o : Nat) : Lies w a (l.take o) := by
  rcases h with rfl | ⟨b, off, rfl, hlt, hc⟩
  · exact .inl (by simp)
  · refine .inr ⟨_, _, rfl, hlt, fun i hi => ?_⟩
    rw [List.length_take] at hi
    rw [hc i (by omega)]
    simp [List.getElem?_take, show i < o by omega]

/-- What is opened: the bytes, or the error. -/
def openE (l : List Nat) : Int := if l.length < 4 then 7 else if goS 1 (aheadS l) = saidS l then 0 else 130

/-- Are these bytes sealed, by the document? -/
def opensB (l : List Nat) : Bool := decide (4 ≤ l.length) && (aheadS l ++ highB (goS 1 (aheadS l)) 4 == l)

theorem ahead_said (l : List Nat) (hB : Bys l) (h : 4 ≤ l.length) : l = aheadS l ++ highB (saidS l) 4 := by
  have := high4 (l.drop (l.length - 4)) (hB.drop _) (by rw [List.length_drop]; omega)
  unfold aheadS saidS
  rw [this, List.take_append_drop]
theorem opensB_iff (l : List Nat) (hB : Bys l) : opensB l = (openE l == 0) := by
  unfold opensB openE
  by_cases h : l.length < 4
  · rw [if_pos h]
    have : decide (4 ≤ l.length) = false := by simpa using h
    rw [this]; rfl
  · rw [if_neg h]
    have : decide (4 ≤ l.length) = true := by simpa using h
    rw [this, Bool.true_and]
    by_cases hs : goS 1 (aheadS l) = saidS l
    · rw [if_pos hs, hs, ← ahead_said l hB (by omega)]
      simp
    · rw [if_neg hs]
      have hne : aheadS l ++ highB (goS 1 (aheadS l)) 4 ≠ l := by
        intro e
        have e2 := ahead_said l hB (by omega)
        have e3 := e.trans e2
        have e4 := (List.append_inj' e3 (by rw [length_highB, length_highB])).2
        have h1 := goS_lt 1 (aheadS l)
        have h2 : saidS l < 4294967296 := pile4_lt _ (hB.drop _) (by rw [List.length_drop]; omega)
        have e5 := congrArg (pile 0) e4
        rw [pile4 _ (by omega), pile4 _ h2] at e5
        exact hs e5
      rw [beq_eq_false_iff_ne.2 hne]
      rfl

end Go.Proofs.Ytkfpkolgikpcpaa
