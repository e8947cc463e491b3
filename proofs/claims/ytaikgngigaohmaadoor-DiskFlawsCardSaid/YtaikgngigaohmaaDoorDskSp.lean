/-
  A disk behind deeds (the law's own played), arrays of blocks that are the same, and what deeds leave of a sector that they do not write. Nothing here is a statement of the document.
-/
import Derived.Test.YtaikgngigaohmaaDoorDskSh
import Derived.Test.YtaikgngigaohmaaDoorDskEq
import Derived.Test.YtaikgngigaohmaaDoorDskY
namespace Go.Proofs.YtaikgngigaohmaaDoor
open Go.RowKit Go.Shelf
set_option linter.unusedVariables false

/-! ### Arrays that are the same -/
theorem equal_blk (d : Nat) (b : Bk) (w : World) : (Op.equalIn (d + 2) 31 (.agg b.cs) (.agg b.cs)).run Tryd.prog w = .ok true w := by
  rw [show d + 2 = (d + 1) + 1 from rfl, Op.equalIn]
  have hu := run_underlying (P := Tryd.prog) Tryd.underlying31 w
  have hn : (sizeOf 5).run Tryd.prog w = .ok 1 w := by kernel_rfl
  simp only [Sem.run_bind, hu, Result.andThen_ok, hn]
  have hagg : (isAgg 5).run Tryd.prog w = .ok false w := by kernel_rfl
  have hpart : ∀ i, i < 64 → ∃ x : Int, (part 5 b.cs (i * 1)).run Tryd.prog w = .ok (.int .u8 x) w := by
    intro i hi
    have hlt : i < b.l.length := by rw [b.len]; exact hi
    refine ⟨b.l[i], ?_⟩
    have hc : b.cs[i * 1]? = some (.int .u8 b.l[i]) := by
      rw [Nat.mul_one]
      simp [Bk.cs, List.getElem?_eq_getElem hlt]
    unfold part
    simp only [Sem.run_bind, hagg, Result.andThen_ok, hc]
    rfl
  have hloop : ∀ l : List Nat, (∀ i ∈ l, i < 64) → Sem.run Tryd.prog (forIn l ((none : Option Bool), ()) fun i __s => do
      let x ← part 5 b.cs (i * 1)
      let y ← part 5 b.cs (i * 1)
      let z ← Op.equalIn (d + 1) 5 x y
      if (!z) = true then pure (ForInStep.done (some false, ())) else pure (ForInStep.yield (none, ()))) w = .ok (none, ()) w := by
    intro l
    induction l with
    | nil => intro _; rfl
    | cons i l ih =>
      intro h
      obtain ⟨x, hx⟩ := hpart i (h i (by simp))
      have he : (Op.equalIn (d + 1) 5 (.int .u8 x) (.int .u8 x)).run Tryd.prog w = .ok true w := by
        have := run_equalIn_int (P := Tryd.prog) (w := w) d 5 .u8 .u8 x x Tryd.underlying5
        simpa using this
      rw [List.forIn_cons]
      simp only [Sem.run_bind, hx, he, Result.andThen_ok, Bool.not_true, Bool.false_eq_true, if_false, Sem.run_pure]
      exact ih (fun j hj => h j (by simp [hj]))
  simp only [Std.Legacy.Range.forIn_eq_forIn_range', Std.Legacy.Range.size, Nat.sub_zero, Nat.add_sub_cancel, Nat.div_one]
  rw [hloop _ (by intro i hi; have := List.mem_range'_1.1 hi; omega)]
  rfl

theorem equal_blk' (n : Nat) (hn : 2 ≤ n) (b : Bk) (w : World) : (Op.equalIn n 31 (.agg b.cs) (.agg b.cs)).run Tryd.prog w = .ok true w := by
  obtain ⟨k, rfl⟩ : ∃ k, n = k + 2 := ⟨n - 2, by omega⟩
  exact equal_blk k b w
theorem part_arr {P : List Bk} (h14 : P.length = 14) (w : World) (i : Nat) (hi : i < 14) : (part 31 (arr P) (i * 64)).run Tryd.prog w = .ok (.agg (P.getD i Bk.zero).cs) w := by
  have hn : (sizeOf 31).run Tryd.prog w = .ok 64 w := by kernel_rfl
  have hagg : (isAgg 31).run Tryd.prog w = .ok true w := by kernel_rfl
  have hg : P[i]? = some (P.getD i Bk.zero) := by simp [h14, hi]
  have e : (arr P).extract (i * 64) (i * 64 + 64) = (P.getD i Bk.zero).cs := by
    apply Array.ext_getElem?
    intro j
    rw [Array.getElem?_extract, arr_size h14]
    by_cases hj : j < 64
    · rw [if_pos (by omega)]
      unfold arr
      rw [List.getElem?_toArray, pcs_get hg hj]
    · rw [if_neg (by omega), Array.getElem?_eq_none (by rw [Bk.size]; omega)]
  unfold part
  simp only [Sem.run_bind, hagg, Result.andThen_ok, hn, if_true, Sem.run_pure, e]
theorem arr_depth (d : Nat) (hd : 2 ≤ d) {P : List Bk} (h14 : P.length = 14) (w : World) : (Op.equalIn (d + 1) 32 (.agg (arr P)) (.agg (arr P))).run Tryd.prog w = .ok true w := by
  rw [Op.equalIn]
  have hu := run_underlying (P := Tryd.prog) Tryd.underlying32 w
  have hn : (sizeOf 31).run Tryd.prog w = .ok 64 w := by kernel_rfl
  simp only [Sem.run_bind, hu, Result.andThen_ok, hn]
  have hloop : ∀ l : List Nat, (∀ i ∈ l, i < 14) → Sem.run Tryd.prog (forIn l ((none : Option Bool), ()) fun i __s => do
      let x ← part 31 (arr P) (i * 64)
      let y ← part 31 (arr P) (i * 64)
      let z ← Op.equalIn d 31 x y
      if (!z) = true then pure (ForInStep.done (some false, ())) else pure (ForInStep.yield (none, ()))) w = .ok (none, ()) w := by
    intro l
    induction l with
    | nil => intro _; rfl
    | cons i l ih =>
      intro h
      have hx := part_arr h14 w i (h i (by simp))
      have he := equal_blk' d hd (P.getD i Bk.zero) w
      rw [List.forIn_cons]
      simp only [Sem.run_bind, hx, he, Result.andThen_ok, Bool.not_true, Bool.false_eq_true, if_false, Sem.run_pure]
      exact ih (fun j hj => h j (by simp [hj]))
  simp only [Std.Legacy.Range.forIn_eq_forIn_range', Std.Legacy.Range.size, Nat.sub_zero, Nat.add_sub_cancel, Nat.div_one]
  rw [hloop _ (by intro i hi; have := List.mem_range'_1.1 hi; omega)]
  rfl

def eqArr (a b : Value) : Sem Bool := Op.equalIn 10000 32 a b
theorem eq_arr_rule (a b : Value) : Op.equalIn 10000 32 a b = eqArr a b := rfl
theorem eqArr_same {P : List Bk} (h14 : P.length = 14) (w : World) : (eqArr (.agg (arr P)) (.agg (arr P))).run Tryd.prog w = .ok true w := by
  unfold eqArr
  obtain ⟨d, hd, h2⟩ : ∃ d, d + 1 = 10000 ∧ 2 ≤ d := ⟨9999, rfl, by omega⟩
  rw [← hd]
  exact arr_depth d h2 h14 w

/-! ### What deeds leave of a sector that they do not write -/
/-- The plate holds b at sector i, and no row of it stands. -/
def Lone (D : Dk) (i : Nat) (b : Bk) : Prop := D.plate.getD i Bk.zero = b ∧ ∀ r ∈ D.rows, r.s ≠ i
theorem downs_lone {P : List Bk} {l : List Rw} {i : Nat} (hi : i < P.length) (h : ∀ r ∈ l, r.s ≠ i) : (downsL P l).getD i Bk.zero = P.getD i Bk.zero := by
  rw [downsL_shows i l P hi, showsFrom_none l _ i h]
theorem crashF_lone (i : Nat) (ks : List Bool) : ∀ (l : List (Nat × Rw)) (D : Dk), (∀ x ∈ l, x.2.s ≠ i) → (crashF D ks l).plate.getD i Bk.zero = D.plate.getD i Bk.zero
  | [], _, _ => rfl
  | x :: l, D, h => by
    have e : crashF D ks (x :: l) = crashF (if ks.getD x.1 false = true then downM D x.2 else D) ks l := rfl
    rw [e, crashF_lone i ks l _ (fun y hy => h y (by simp [hy]))]
    split
    · show (D.plate.set x.2.s x.2.b).getD i Bk.zero = _
      have := h x (by simp)
      simp [List.getElem?_set, this]
    · rfl
theorem crash_lone {D : Dk} {i : Nat} {b : Bk} (h : Lone D i b) (ks : List Bool) : Lone (crashM D ks) i b := by
  refine ⟨?_, fun r hr => ?_⟩
  · show (crashF D ks _).plate.getD i Bk.zero = b
    rw [crashF_lone i ks _ D (fun x hx => ?_), h.1]
    obtain ⟨y, hy, rfl⟩ := List.mem_map.1 hx
    exact h.2 _ (List.mem_of_getElem? y.2)
  · rw [crashM_rows] at hr; cases hr
theorem drain_lone {D : Dk} {i n : Nat} {b : Bk} (hi : i < D.plate.length) (h : Lone D i b) : Lone (drainM D n) i b := by
  refine ⟨?_, fun r hr => h.2 r (List.mem_of_mem_drop hr)⟩
  show (downsM D (D.rows.take n)).plate.getD i Bk.zero = b
  rw [downsM_plate, downs_lone hi (fun r hr => h.2 r (List.mem_of_mem_take hr)), h.1]
theorem hold_lone {D : Dk} {i s : Nat} {b c : Bk} (hi : i < D.plate.length) (h : Lone D i b) (hs : s ≠ i) : Lone (holdM D ⟨s, c⟩) i b := by
  unfold holdM
  split
  · refine ⟨h.1, fun r hr => ?_⟩
    rcases List.mem_or_eq_of_mem_set hr with h9 | h9
    · exact h.2 r h9
    · rw [h9]; exact hs
  · by_cases h8 : D.rows.length = 8
    · rw [if_pos h8]
      have hd := drain_lone (n := 1) hi h
      refine ⟨hd.1, fun r hr => ?_⟩
      rcases List.mem_append.1 hr with h9 | h9
      · exact hd.2 r h9
      · have : r = ⟨s, c⟩ := by simpa using h9
        rw [this]; exact hs
    · rw [if_neg h8]
      refine ⟨h.1, fun r hr => ?_⟩
      rcases List.mem_append.1 hr with h9 | h9
      · exact h.2 r h9
      · have : r = ⟨s, c⟩ := by simpa using h9
        rw [this]; exact hs
theorem does_lone {D : Dk} {i : Nat} {b : Bk} (hi : i < D.plate.length) (h : Lone D i b) (x : Deed) (ks : List Bool) (hx : ¬ ((doesM D x ks).2.2 = 0 ∧ x.k < 5 ∧ x.sector = (i : Int))) : Lone (doesM D x ks).1 i b := by
  unfold doesM at hx ⊢
  by_cases h5 : x.k = 5
  · simp only [if_pos h5]
    unfold readM
    split
    · exact h
    · split <;> exact h
  simp only [if_neg h5] at hx ⊢
  by_cases h6 : x.k = 6
  · simp only [if_pos h6]
    unfold syncM
    split
    · exact h
    · split
      · exact h
      · split
        · exact h
        · exact drain_lone (D := fuseM (flawM D)) hi h
  simp only [if_neg h6] at hx ⊢
  by_cases h7 : x.k = 7
  · simp only [if_pos h7]
    unfold armM
    split <;> exact h
  simp only [if_neg h7] at hx ⊢
  by_cases h8 : x.k = 8
  · simp only [if_pos h8]
    unfold flawedM
    split <;> exact h
  simp only [if_neg h8] at hx ⊢
  by_cases h9 : x.k = 9
  · simp only [if_pos h9]
    exact crash_lone h _
  simp only [if_neg h9] at hx ⊢
  unfold writeM at hx ⊢
  by_cases e1 : reachE D x.sector ≠ 0
  · rw [if_pos e1]; exact h
  rw [if_neg e1] at hx ⊢
  by_cases e2 : D.fuse = some 0
  · rw [if_pos e2]; exact h
  rw [if_neg e2] at hx ⊢
  by_cases e3 : D.flaw = some 0
  · rw [if_pos e3]; exact h
  rw [if_neg e3] at hx ⊢
  have hk : x.k < 10 := Nat.mod_lt _ (by omega)
  have h0 := reach_zero (by simpa using e1 : reachE D x.sector = 0)
  refine hold_lone (D := fuseM (flawM D)) hi h ?_
  intro e
  exact hx ⟨rfl, by omega, by omega⟩
theorem does_writes {D : Dk} {x : Deed} {ks : List Bool} (hk : x.k < 5) (h : (doesM D x ks).2.2 = 0) : 0 ≤ x.sector ∧ x.sector < D.plate.length := by
  have e : doesM D x ks = ((writeM D x.sector (Bk.fill x.fill)).1, Bk.zero, (writeM D x.sector (Bk.fill x.fill)).2) := by
    unfold doesM
    rw [if_neg (by omega), if_neg (by omega), if_neg (by omega), if_neg (by omega), if_neg (by omega)]
  rw [e] at h
  unfold writeM at h
  by_cases e1 : reachE D x.sector ≠ 0
  · rw [if_pos e1] at h; exact absurd h e1
  · exact (reach_zero (by simpa using e1)).2
/-- All that may be in a buffer goes down. -/
theorem crash_most {D : Dk} (h8 : D.rows.length ≤ 8) : (crashM D (List.replicate 8 true)).plate = downsL D.plate D.rows := by
  have h1 := crash_plate D ⟨D.plate, D.rows, 0, 0, false, 0⟩ (List.replicate 8 true) rfl rfl D.rows.length (Nat.le_refl _)
  show (crashF D _ _).plate = _
  rw [h1, downTo_yes ⟨D.plate, D.rows, 0, 0, false, 0⟩ 8 h8 D.rows.length (Nat.le_refl _)]
  show downsL D.plate (D.rows.take D.rows.length) = _
  rw [List.take_length]
end Go.Proofs.YtaikgngigaohmaaDoor
