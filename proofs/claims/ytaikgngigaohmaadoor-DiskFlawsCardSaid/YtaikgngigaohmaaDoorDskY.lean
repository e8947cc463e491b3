/-
  What a deed does to what a disk holds: the plate's size stays, what is written stands in the buffer, what fails changes no row, a sync and a crash leave none. Nothing here is a statement of the document.
-/
import Derived.Test.YtaikgngigaohmaaDoorDskX
namespace Go.Proofs.YtaikgngigaohmaaDoor
open Go.RowKit Go.Shelf
set_option linter.unusedVariables false

theorem drainM_len (D : Dk) (n : Nat) : (drainM D n).plate.length = D.plate.length := downsM_len _ _
theorem drainM_rows (D : Dk) (n : Nat) : (drainM D n).rows = D.rows.drop n := rfl
theorem holdM_len (D : Dk) (r : Rw) : (holdM D r).plate.length = D.plate.length := by
  unfold holdM
  split
  · rfl
  · show (if D.rows.length = 8 then drainM D 1 else D).plate.length = _
    split
    · exact drainM_len _ _
    · rfl
theorem holdM_mem (D : Dk) (r : Rw) : r ∈ (holdM D r).rows := by
  unfold holdM
  split
  · rename_i k hk
    have hl : k < D.rows.length := by
      have := List.findIdx?_eq_some_iff_getElem.1 hk
      exact this.1
    show r ∈ D.rows.set k r
    exact List.mem_iff_getElem.2 ⟨k, by simpa using hl, by simp⟩
  · show r ∈ _ ++ [r]
    simp
theorem crashM_len (D : Dk) (ks : List Bool) : (crashM D ks).plate.length = D.plate.length := crashF_len _ _ _
theorem crashM_rows (D : Dk) (ks : List Bool) : (crashM D ks).rows = [] := rfl

theorem readM_len (D : Dk) (i : Int) : (readM D i).1.plate.length = D.plate.length ∧ (readM D i).1.rows = D.rows := by
  unfold readM
  split
  · exact ⟨rfl, rfl⟩
  · split <;> exact ⟨rfl, rfl⟩
theorem armM_len (D : Dk) (n : Int) : (armM D n).1.plate.length = D.plate.length ∧ (armM D n).1.rows = D.rows := by
  unfold armM
  split <;> exact ⟨rfl, rfl⟩
theorem flawedM_len (D : Dk) (n : Int) : (flawedM D n).1.plate.length = D.plate.length ∧ (flawedM D n).1.rows = D.rows := by
  unfold flawedM
  split <;> exact ⟨rfl, rfl⟩
theorem syncM_len (D : Dk) : (syncM D).1.plate.length = D.plate.length ∧ ((syncM D).2 ≠ 0 → (syncM D).1.rows = D.rows) ∧ ((syncM D).2 = 0 → (syncM D).1.rows = []) := by
  unfold syncM
  split
  · exact ⟨rfl, fun _ => rfl, fun h => absurd h (by simp)⟩
  · split
    · exact ⟨rfl, fun _ => rfl, fun h => absurd h (by simp)⟩
    · split
      · exact ⟨rfl, fun _ => rfl, fun h => absurd h (by simp)⟩
      · refine ⟨drainM_len _ _, fun h => absurd rfl h, fun _ => ?_⟩
        show (D.rows.drop D.rows.length) = []
        simp
theorem writeM_len (D : Dk) (i : Int) (b : Bk) : (writeM D i b).1.plate.length = D.plate.length ∧ ((writeM D i b).2 ≠ 0 → (writeM D i b).1.rows = D.rows) ∧ ((writeM D i b).2 = 0 → ∃ r ∈ (writeM D i b).1.rows, (r.s : Int) = i) := by
  unfold writeM
  split
  · rename_i h
    exact ⟨rfl, fun _ => rfl, fun h9 => absurd h9 h⟩
  · rename_i h
    split
    · exact ⟨rfl, fun _ => rfl, fun h => absurd h (by simp)⟩
    · split
      · exact ⟨rfl, fun _ => rfl, fun h => absurd h (by simp)⟩
      · refine ⟨holdM_len _ _, fun h => absurd rfl h, fun _ => ⟨_, holdM_mem _ _, ?_⟩⟩
        have h0 : 0 ≤ i := by
          have h8 : reachE D i = 0 := by simpa using h
          unfold reachE at h8
          split at h8
          · cases h8
          · split at h8
            · rename_i h7; exact h7.1
            · cases h8
        show ((i.toNat : Nat) : Int) = i
        omega

theorem doesM_len (D : Dk) (x : Deed) (ks : List Bool) : (doesM D x ks).1.plate.length = D.plate.length := by
  unfold doesM
  split
  · exact (readM_len _ _).1
  · split
    · exact (syncM_len _).1
    · split
      · exact (armM_len _ _).1
      · split
        · exact (flawedM_len _ _).1
        · split
          · exact crashM_len _ _
          · exact (writeM_len _ _ _).1
theorem doesM_fails (D : Dk) (x : Deed) (ks : List Bool) (h : (doesM D x ks).2.2 ≠ 0) : (doesM D x ks).1.rows = D.rows := by
  unfold doesM at h ⊢
  split at h
  · rename_i h5; rw [if_pos h5]; exact (readM_len _ _).2
  · rename_i h5
    rw [if_neg h5]
    split at h
    · rename_i h6; rw [if_pos h6]; exact (syncM_len _).2.1 h
    · rename_i h6
      rw [if_neg h6]
      split at h
      · rename_i h7; rw [if_pos h7]; exact (armM_len _ _).2
      · rename_i h7
        rw [if_neg h7]
        split at h
        · rename_i h8; rw [if_pos h8]; exact (flawedM_len _ _).2
        · rename_i h8
          rw [if_neg h8]
          split at h
          · exact absurd rfl h
          · rename_i h9; rw [if_neg h9]; exact (writeM_len _ _ _).2.1 h
theorem doesM_clear (D : Dk) (x : Deed) (ks : List Bool) (hk : x.k = 6 ∨ x.k = 9) (h : (doesM D x ks).2.2 = 0) : (doesM D x ks).1.rows = [] := by
  rcases hk with hk | hk
  · have e : doesM D x ks = ((syncM D).1, Bk.zero, (syncM D).2) := by simp [doesM, hk]
    rw [e] at h ⊢
    exact (syncM_len _).2.2 h
  · have e : doesM D x ks = (crashM D (ks.take 30), Bk.zero, 0) := by simp [doesM, hk]
    rw [e]
    exact crashM_rows _ _
theorem doesM_put (D : Dk) (x : Deed) (ks : List Bool) (hk : x.k < 5) (h : (doesM D x ks).2.2 = 0) : ∃ r ∈ (doesM D x ks).1.rows, (r.s : Int) = x.sector := by
  have e : doesM D x ks = ((writeM D x.sector (Bk.fill x.fill)).1, Bk.zero, (writeM D x.sector (Bk.fill x.fill)).2) := by
    unfold doesM
    rw [if_neg (by omega), if_neg (by omega), if_neg (by omega), if_neg (by omega), if_neg (by omega)]
  rw [e] at h ⊢
  exact (writeM_len _ _ _).2.2 h
end Go.Proofs.YtaikgngigaohmaaDoor
