/-
  Where what a disk holds and the document's disk agree: the new disk, the crash's and the sync's plates, what is shown. Nothing here is a statement of the document.
-/
import Derived.Test.YtaikgngigaohmaaDoorDskRw
namespace Go.Proofs.YtaikgngigaohmaaDoor
open Go.RowKit Go.Shelf
set_option linter.unusedVariables false

def encD : Option Nat → Int
  | none => -1
  | some n => (n : Int)
/-- A disk holds what the document says. While there is no power the flaws may differ. -/
structure Agree (D : Dk) (M : Rk) : Prop where
  plate : M.plate = D.plate
  rows : M.rows = D.rows
  dead : M.dead = D.dead
  ops : M.ops = D.ops
  fuse : M.fuse = encD D.fuse
  flaw : D.dead = false → M.flaw = encD D.flaw
  lo : -1 ≤ M.flaw
  hi : M.flaw ≤ 9223372036854775807
theorem agree_new (n : Nat) : Agree (newM n) (newR n) := ⟨rfl, rfl, rfl, rfl, rfl, fun _ => rfl, by simp [newR], by simp [newR]⟩

def downsL (P : List Bk) (l : List Rw) : List Bk := l.foldl (fun P r => P.set r.s r.b) P
theorem downsL_snoc (P : List Bk) (l : List Rw) (r : Rw) : downsL P (l ++ [r]) = (downsL P l).set r.s r.b := by simp [downsL]
theorem downsM_plate (D : Dk) (l : List Rw) : (downsM D l).plate = downsL D.plate l := by
  induction l generalizing D with
  | nil => rfl
  | cons r l ih => exact ih (downM D r)
/-- All rows go down: none is left. -/
theorem downTo_yes (M : Rk) (n : Nat) (hn : M.rows.length ≤ n) : ∀ j, j ≤ M.rows.length → downTo M (List.replicate n true) j = (downsL M.plate (M.rows.take j), [])
  | 0, _ => by simp [downTo, downsL]
  | j + 1, h => by
    have ih := downTo_yes M n hn j (by omega)
    obtain ⟨r, hr⟩ : ∃ r, M.rows[j]? = some r := ⟨_, List.getElem?_eq_getElem (by omega)⟩
    have hk : (List.replicate n true).getD j false = true := by
      rw [List.getD_eq_getElem?_getD, List.getElem?_replicate, if_pos (by omega)]
      rfl
    have e : downTo M (List.replicate n true) (j + 1) = if (List.replicate n true).getD j false = true then ((downTo M (List.replicate n true) j).1.set r.s r.b, (downTo M (List.replicate n true) j).2) else ((downTo M (List.replicate n true) j).1, (downTo M (List.replicate n true) j).2 ++ [r]) := by
      show (match M.rows[j]? with | none => _ | some r => _) = _
      rw [hr]
    rw [e, if_pos hk, ih, List.take_add_one, hr]
    simp only [Option.toList_some]
    rw [downsL_snoc]
/-- A sync's plate is the document's. -/
theorem drain_agrees {D : Dk} {M : Rk} (hp : M.plate = D.plate) (hr : M.rows = D.rows) : (downR M (List.replicate M.rows.length true)).plate = (drainM D D.rows.length).plate ∧ (downR M (List.replicate M.rows.length true)).rows = (drainM D D.rows.length).rows := by
  have h1 := downTo_yes M M.rows.length (Nat.le_refl _) M.rows.length (Nat.le_refl _)
  constructor
  · show (downTo M (List.replicate M.rows.length true) M.rows.length).1 = (downsM D (D.rows.take D.rows.length)).plate
    rw [h1, downsM_plate, List.take_length, List.take_length, hp, hr]
  · show (downTo M (List.replicate M.rows.length true) M.rows.length).2 = D.rows.drop D.rows.length
    rw [h1]
    simp

theorem enc_zero (o : Option Nat) : encD o = 0 ↔ o = some 0 := by
  cases o with
  | none => simp [encD]
  | some n => simp [encD]
theorem enc_pass (o : Option Nat) (h : o ≠ some 0) : encD (passO o) = if 0 ≤ encD o then encD o - 1 else encD o := by
  cases o with
  | none => simp [encD, passO]
  | some n =>
    have hn : n ≠ 0 := fun h9 => h (by rw [h9])
    show ((n - 1 : Nat) : Int) = if (0 : Int) ≤ (n : Int) then (n : Int) - 1 else (n : Int)
    split <;> omega

/-- An act that reads: its error, and what is held behind it. -/
theorem act_reads {D : Dk} {M : Rk} (h : Agree D M) (i : Int) :
    (actM M i false).2 = (if reachE D i ≠ 0 then reachE D i else if D.flaw = some 0 then 8 else 0) ∧ Agree (if reachE D i ≠ 0 then D else if D.flaw = some 0 then failM D else countM (flawM D)) (actM M i false).1 := by
  obtain ⟨h1, h2, h3, h4, h5, h6, h7, h8⟩ := h
  unfold actM reachE
  cases hd : D.dead
  · have hf := h6 hd
    rw [h3, hd, h1]
    simp only [Bool.false_eq_true, if_false, false_and]
    by_cases hr : 0 ≤ i ∧ i < (D.plate.length : Int)
    · rw [if_neg (show ¬ (i < 0 ∨ (D.plate.length : Int) ≤ i) by omega), if_pos hr]
      simp only [ne_eq, not_true, if_false]
      by_cases hz : D.flaw = some 0
      · rw [if_pos (by rw [hf]; exact (enc_zero _).2 hz), if_pos hz, if_pos hz]
        exact ⟨rfl, ⟨rfl, h2, hd.symm, h4, h5, fun _ => rfl, by simp, by simp⟩⟩
      · rw [if_neg (fun h9 => hz ((enc_zero _).1 (by rw [← hf]; exact h9))), if_neg hz, if_neg hz]
        refine ⟨rfl, ⟨rfl, h2, hd.symm, by show wrap64 (M.ops + 1) = wrap64 (D.ops + 1); rw [h4], h5, fun _ => ?_, ?_, ?_⟩⟩
        · show (if 0 ≤ M.flaw then M.flaw - 1 else M.flaw) = encD (passO D.flaw)
          rw [enc_pass _ hz, hf]
        · show -1 ≤ (if 0 ≤ M.flaw then M.flaw - 1 else M.flaw)
          split <;> omega
        · show (if 0 ≤ M.flaw then M.flaw - 1 else M.flaw) ≤ _
          split <;> omega
    · rw [if_pos (show i < 0 ∨ (D.plate.length : Int) ≤ i by omega), if_neg hr]
      simp only [ne_eq, show ¬ ((2 : Int) = 0) by decide, not_false_eq_true, if_true]
      exact ⟨trivial, ⟨h1, h2, h3, h4, h5, h6, h7, h8⟩⟩
  · rw [h3, hd]
    simp only [if_true, ne_eq, show ¬ ((9 : Int) = 0) by decide, not_false_eq_true]
    exact ⟨trivial, ⟨h1, h2, h3, h4, h5, h6, h7, h8⟩⟩

theorem enc_passes (o : Option Nat) (h : o ≠ some 0) : encD (passO o) = if 0 < encD o then encD o - 1 else encD o := by
  cases o with
  | none => simp [encD, passO]
  | some n =>
    have hn : n ≠ 0 := fun h9 => h (by rw [h9])
    show ((n - 1 : Nat) : Int) = if (0 : Int) < (n : Int) then (n : Int) - 1 else (n : Int)
    split <;> omega
/-- An act that writes: its error, and what is held behind it, ahead of the write itself. -/
theorem act_writes {D : Dk} {M : Rk} (h : Agree D M) (i : Int) :
    (actM M i true).2 = (if reachE D i ≠ 0 then reachE D i else if D.fuse = some 0 then 9 else if D.flaw = some 0 then 8 else 0) ∧
    Agree (if reachE D i ≠ 0 then D else if D.fuse = some 0 then deadM D else if D.flaw = some 0 then failM D else countM (fuseM (flawM D))) (actM M i true).1 := by
  obtain ⟨h1, h2, h3, h4, h5, h6, h7, h8⟩ := h
  unfold actM reachE
  cases hd : D.dead
  · have hf := h6 hd
    rw [h3, hd, h1]
    simp only [Bool.false_eq_true, if_false, true_and]
    by_cases hr : 0 ≤ i ∧ i < (D.plate.length : Int)
    · rw [if_neg (show ¬ (i < 0 ∨ (D.plate.length : Int) ≤ i) by omega), if_pos hr]
      simp only [ne_eq, not_true, if_false]
      by_cases hu : D.fuse = some 0
      · rw [if_pos (by rw [h5]; exact (enc_zero _).2 hu), if_pos hu, if_pos hu]
        refine ⟨rfl, ⟨rfl, h2, rfl, h4, h5, fun h9 => by simp [deadM] at h9, ?_, ?_⟩⟩
        · show -1 ≤ (if 0 ≤ M.flaw then M.flaw - 1 else M.flaw)
          split <;> omega
        · show (if 0 ≤ M.flaw then M.flaw - 1 else M.flaw) ≤ _
          split <;> omega
      · rw [if_neg (fun h9 => hu ((enc_zero _).1 (by rw [← h5]; exact h9))), if_neg hu, if_neg hu]
        by_cases hz : D.flaw = some 0
        · rw [if_pos (by rw [hf]; exact (enc_zero _).2 hz), if_pos hz, if_pos hz]
          exact ⟨rfl, ⟨rfl, h2, hd.symm, h4, h5, fun _ => rfl, by simp, by simp⟩⟩
        · rw [if_neg (fun h9 => hz ((enc_zero _).1 (by rw [← hf]; exact h9))), if_neg hz, if_neg hz]
          refine ⟨rfl, ⟨rfl, h2, hd.symm, by show wrap64 (M.ops + 1) = wrap64 (D.ops + 1); rw [h4], ?_, fun _ => ?_, ?_, ?_⟩⟩
          · show (if 0 < M.fuse then M.fuse - 1 else M.fuse) = encD (passO D.fuse)
            rw [enc_passes _ hu, h5]
          · show (if 0 ≤ M.flaw then M.flaw - 1 else M.flaw) = encD (passO D.flaw)
            rw [enc_pass _ hz, hf]
          · show -1 ≤ (if 0 ≤ M.flaw then M.flaw - 1 else M.flaw)
            split <;> omega
          · show (if 0 ≤ M.flaw then M.flaw - 1 else M.flaw) ≤ _
            split <;> omega
    · rw [if_pos (show i < 0 ∨ (D.plate.length : Int) ≤ i by omega), if_neg hr]
      simp only [ne_eq, show ¬ ((2 : Int) = 0) by decide, not_false_eq_true, if_true]
      exact ⟨trivial, ⟨h1, h2, h3, h4, h5, h6, h7, h8⟩⟩
  · rw [h3, hd]
    simp only [if_true, ne_eq, show ¬ ((9 : Int) = 0) by decide, not_false_eq_true]
    exact ⟨trivial, ⟨h1, h2, h3, h4, h5, h6, h7, h8⟩⟩
end Go.Proofs.YtaikgngigaohmaaDoor
