/-
  The document's row of yes, by its contract. Nothing here is a statement of the document.
-/
import Derived.Test.YtaikgngigaohmaaDskJ
namespace Go.Proofs.Ytaikgngigaohmaa
open Go.RowKit Go.Shelf
set_option linter.unusedVariables false

theorem own_wholeB {w : World} {g : Nat} {t : TypeId} {cs : Array Value} (h : Blk w g t cs) (n size : Nat) (hs : cs.size = n * size) (hn : n ≤ maxLen) (B : Nat) (hB : B ≤ g) : w.ownsRow B t size (.slice (some ⟨g, 0, none⟩) n n) n cs.toList :=
  ⟨by rw [Array.length_toList, hs], .inr ⟨g, n, cs, rfl, hB, h, Nat.le_refl _, hn, hs, by rw [List.take_of_length_le (by rw [Array.length_toList, hs]; exact Nat.le_refl _)]⟩⟩

def yesTo (n k : Nat) : Array Value := (List.replicate (min k n) (Value.bool true) ++ List.replicate (n - k) (Value.bool false)).toArray
theorem yesTo_zero (n : Nat) : madeCells (Value.bool false).cells (n * 1) = yesTo n 0 := by
  apply Array.ext_getElem?
  intro i
  by_cases hi : i < n
  · have h1 : (yesTo n 0)[i]? = some (.bool false) := by simp [yesTo, hi]
    rw [h1]
    simp [madeCells, Value.cells, hi, Nat.mod_one]
  · have h1 : (yesTo n 0)[i]? = none := by simp [yesTo]; omega
    rw [h1]
    simp [madeCells]; omega
theorem yesTo_size (n k : Nat) (h : k ≤ n) : (yesTo n k).size = n := by simp [yesTo]; omega
theorem yesTo_succ (n k : Nat) (h : k < n) : (yesTo n k).setIfInBounds k (.bool true) = yesTo n (k + 1) := by
  apply Array.ext'
  rw [Array.toList_setIfInBounds]
  simp only [yesTo, Nat.min_eq_left (show k ≤ n by omega), Nat.min_eq_left (show k + 1 ≤ n by omega), List.set_append_right _ _ (show (List.replicate k (Value.bool true)).length ≤ k by simp), List.length_replicate, Nat.sub_self]
  rw [show n - k = (n - (k + 1)) + 1 from by omega, List.replicate_succ, List.set_cons_zero, List.replicate_succ' (n := k)]
  simp
theorem yesTo_all (n : Nat) : (yesTo n n).toList = (List.replicate n true).map Value.bool := by simp [yesTo]

set_option maxRecDepth 100000 in
set_option maxHeartbeats 2000000 in
theorem all_ref (n : Nat) (h2 : n ≤ 2048) (w : World) : Calls Try.prog 14 #[.int .i64 (n : Int)] w fun e w' =>
    ∃ v, e = .returned v ∧ w'.ownsRow w.heap.size 4 1 v (List.replicate n true).length ((List.replicate n true).map Value.bool) ∧ Below w.heap.size w w' := by
  obtain ⟨i0, hi, hz0, hz1, hz2⟩ := info_parts i_bool
  have hmk := run_make (P := Try.prog) w 34 4 i0 (.bool false) Try.underlying34 hi hz0 .i64 .i64 (n : Int) (n : Int) (by omega) (by omega) (by rw [hz2]; omega) (by omega)
  rw [hz1, show (n : Int).toNat = n from by omega, yesTo_zero] at hmk
  obtain ⟨W1, hW1⟩ : ∃ W1, w.alloc (.cells (yesTo n 0) 4) = W1 := ⟨_, rfl⟩
  rw [hW1] at hmk
  have b1 : Blk W1 w.heap.size 4 (yesTo n 0) := by rw [← hW1]; exact Blk.new w _ _
  have hb1 : Below w.heap.size w W1 := by rw [← hW1]; exact (Below.refl _ _).alloc (Nat.le_refl _) _
  clear hi hz0 hz1 hz2 hW1
  go_enter Try.func14, Try.ntmps14
  go_wp2_with fail
  go_loopw [9] (fun i wr => ∃ k : Nat, k ≤ n ∧ i = .int .i64 k ∧ Blk wr w.heap.size 4 (yesTo n k) ∧ Below w.heap.size w wr) (fun i _ => n - (intOf i).toNat)
  case atStart => exact ⟨0, Nat.zero_le _, rfl, b1, hb1⟩
  case round =>
    obtain ⟨k, hk, rfl, hB, hbw⟩ := hrel
    clear b1 hb1 hmk
    by_cases hlt : k < n
    · have hki : (k : Int) < (n : Int) := by omega
      have hB2 := hB.set k (.bool true)
      rw [yesTo_succ n k hlt] at hB2
      have hks : k < (yesTo n k).size := by rw [yesTo_size n k hk]; exact hlt
      have hc : wr.cell? ⟨w.heap.size, k, none⟩ = some ((yesTo n k)[k]'hks) := by rw [hB.cell, Array.getElem?_eq_getElem]
      have hf := hB.free k
      have hb2 : Below w.heap.size w (wr.setCell ⟨w.heap.size, k, none⟩ (.bool true)) := hbw.setCell (p := ⟨w.heap.size, k, none⟩) (by simp) _
      generalize (yesTo n k)[k]'hks = vv at hc
      have H := Lib.hid (And.intro hB2 hb2)
      clear hB hbw hB2 hb2 hks
      go_wp2
      go_roundw
      case rel => exact ⟨k + 1, by omega, by go_num, H.out.1, H.out.2⟩
      case measure => simp [intOf]; omega
    · obtain rfl : k = n := by omega
      have hw := own_wholeB hB k 1 (by rw [yesTo_size k k (Nat.le_refl _), Nat.mul_one]) (by unfold maxLen; omega) w.heap.size (Nat.le_refl _)
      rw [yesTo_all] at hw
      have H := Lib.hid (And.intro hw hbw)
      clear hw hbw hB
      go_wp2
      go_ret
      exact ⟨_, rfl, by rw [List.length_replicate]; exact H.out.1, H.out.2⟩
end Go.Proofs.Ytaikgngigaohmaa
