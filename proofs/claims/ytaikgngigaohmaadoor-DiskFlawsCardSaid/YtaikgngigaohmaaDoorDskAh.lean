/-
  A deed does to a disk what it does by the document: blocks, errors, and what is held behind it. Nothing here is a statement of the document.
-/
import Derived.Test.YtaikgngigaohmaaDoorDskAg
import Derived.Test.YtaikgngigaohmaaDoorDskWr
import Derived.Test.YtaikgngigaohmaaDoorDskY
namespace Go.Proofs.YtaikgngigaohmaaDoor
open Go.RowKit Go.Shelf
set_option linter.unusedVariables false

/-- What a deed does by the document. -/
def modelsR (M : Rk) (x : Deed) (ks : List Bool) : Rk × Bk × Int :=
  if x.k = 5 then readR M x.sector
  else if x.k = 6 then ((syncR M).1, Bk.zero, (syncR M).2)
  else if x.k = 9 then (crashR M (ks.take 30), Bk.zero, 0)
  else if x.k < 5 then ((writeR M x.sector (Bk.fill x.fill)).1, Bk.zero, (writeR M x.sector (Bk.fill x.fill)).2)
  else if M.dead = true then (M, Bk.zero, 9)
  else if x.k = 7 then ({ M with fuse := max x.num (-1) }, Bk.zero, 0)
  else ({ M with flaw := max x.num (-1) }, Bk.zero, 0)

/-- Plate and rows have moved, the rest is as it was. -/
theorem Agree.moved {D D' : Dk} {M M' : Rk} (h : Agree D M) (hp : M'.plate = D'.plate) (hr : M'.rows = D'.rows) (d1 : D'.dead = D.dead) (d2 : D'.ops = D.ops) (d3 : D'.fuse = D.fuse) (d4 : D'.flaw = D.flaw)
    (m1 : M'.dead = M.dead) (m2 : M'.ops = M.ops) (m3 : M'.fuse = M.fuse) (m4 : M'.flaw = M.flaw) : Agree D' M' :=
  ⟨hp, hr, by rw [m1, d1, h.dead], by rw [m2, d2, h.ops], by rw [m3, d3, h.fuse], fun h9 => by rw [m4, d4]; exact h.flaw (by rw [← d1]; exact h9), by rw [m4]; exact h.lo, by rw [m4]; exact h.hi⟩

theorem downsM_rest (D : Dk) (l : List Rw) : (downsM D l).dead = D.dead ∧ (downsM D l).ops = D.ops ∧ (downsM D l).fuse = D.fuse ∧ (downsM D l).flaw = D.flaw := by
  induction l generalizing D with
  | nil => exact ⟨rfl, rfl, rfl, rfl⟩
  | cons r l ih => exact ih (downM D r)
theorem drainM_rest (D : Dk) (n : Nat) : (drainM D n).dead = D.dead ∧ (drainM D n).ops = D.ops ∧ (drainM D n).fuse = D.fuse ∧ (drainM D n).flaw = D.flaw := downsM_rest D _
theorem holdM_rest (D : Dk) (r : Rw) : (holdM D r).dead = D.dead ∧ (holdM D r).ops = D.ops ∧ (holdM D r).fuse = D.fuse ∧ (holdM D r).flaw = D.flaw := by
  unfold holdM
  split
  · exact ⟨rfl, rfl, rfl, rfl⟩
  · by_cases h8 : D.rows.length = 8
    · rw [if_pos h8]; exact drainM_rest D 1
    · rw [if_neg h8]; exact ⟨rfl, rfl, rfl, rfl⟩

/-- Only the eldest row goes down. -/
theorem downTo_one (M : Rk) (r : Rw) (l : List Rw) (h : M.rows = r :: l) : ∀ j, j ≤ l.length → downTo M [true] (j + 1) = (M.plate.set r.s r.b, l.take j)
  | 0, _ => by
    have e : M.rows[0]? = some r := by rw [h]; rfl
    unfold downTo
    rw [e]
    simp [downTo]
  | j + 1, hj => by
    have ih := downTo_one M r l h j (by omega)
    obtain ⟨y, hy⟩ : ∃ y, l[j]? = some y := ⟨_, List.getElem?_eq_getElem (by omega)⟩
    have e : M.rows[j + 1]? = some y := by rw [h]; simpa using hy
    unfold downTo
    rw [e]
    simp only
    have ek : ([true] : List Bool).getD (j + 1) false = false := rfl
    rw [ih, ek]
    simp only [Bool.false_eq_true, if_false]
    rw [List.take_add_one, hy]
    rfl
theorem one_agrees {D : Dk} {M : Rk} (hp : M.plate = D.plate) (hr : M.rows = D.rows) (h8 : D.rows.length = 8) : (downR M [true]).plate = (drainM D 1).plate ∧ (downR M [true]).rows = (drainM D 1).rows := by
  obtain ⟨r, l, hl⟩ : ∃ r l, D.rows = r :: l := by
    cases hD : D.rows with
    | nil => rw [hD] at h8; simp at h8
    | cons r l => exact ⟨r, l, rfl⟩
  have hm : M.rows = r :: l := by rw [hr, hl]
  have hn : M.rows.length = l.length + 1 := by rw [hm]; rfl
  have h1 := downTo_one M r l hm l.length (Nat.le_refl _)
  constructor
  · show (downTo M [true] M.rows.length).1 = (downsM D (D.rows.take 1)).plate
    rw [hn, h1, downsM_plate, hl, hp]
    rfl
  · show (downTo M [true] M.rows.length).2 = D.rows.drop 1
    rw [hn, h1, hl]
    simp

/-- A row that is held, by the document. -/
theorem hold_agrees {D : Dk} {M : Rk} (h : Agree (countM D) M) (s : Nat) (b : Bk) :
    Agree (countM (holdM D ⟨s, b⟩)) (match M.rows.findIdx? (fun r => r.s == s) with
      | some k => { M with rows := M.rows.set k ⟨s, b⟩ }
      | none => if M.rows.length = 8 then { downR M [true] with rows := (downR M [true]).rows ++ [⟨s, b⟩] } else { M with rows := M.rows ++ [⟨s, b⟩] }) := by
  have hp : M.plate = D.plate := h.plate
  have hr : M.rows = D.rows := h.rows
  have hrest := holdM_rest D ⟨s, b⟩
  have c1 : (countM (holdM D ⟨s, b⟩)).dead = (countM D).dead := hrest.1
  have c2 : (countM (holdM D ⟨s, b⟩)).ops = (countM D).ops := by show wrap64 ((holdM D ⟨s, b⟩).ops + 1) = wrap64 (D.ops + 1); rw [hrest.2.1]
  have c3 : (countM (holdM D ⟨s, b⟩)).fuse = (countM D).fuse := hrest.2.2.1
  have c4 : (countM (holdM D ⟨s, b⟩)).flaw = (countM D).flaw := hrest.2.2.2
  have hpl : (countM (holdM D ⟨s, b⟩)).plate = (holdM D ⟨s, b⟩).plate := rfl
  have hro : (countM (holdM D ⟨s, b⟩)).rows = (holdM D ⟨s, b⟩).rows := rfl
  rw [hr]
  cases hf : D.rows.findIdx? (fun r => r.s == s) with
  | some k =>
    have e : holdM D ⟨s, b⟩ = { D with rows := D.rows.set k ⟨s, b⟩ } := by unfold holdM; simp only [hf]
    refine h.moved ?_ ?_ c1 c2 c3 c4 rfl rfl rfl rfl
    · rw [hpl, e]; exact hp
    · rw [hro, e]
  | none =>
    have e : holdM D ⟨s, b⟩ = { (if D.rows.length = 8 then drainM D 1 else D) with rows := (if D.rows.length = 8 then drainM D 1 else D).rows ++ [⟨s, b⟩] } := by unfold holdM; simp only [hf]
    by_cases h8 : D.rows.length = 8
    · simp only [if_pos h8] at e ⊢
      have ho := one_agrees hp hr h8
      refine h.moved ?_ ?_ c1 c2 c3 c4 rfl rfl rfl rfl
      · rw [hpl, e]; exact ho.1
      · rw [hro, e]; show (downR M [true]).rows ++ _ = _; rw [ho.2]
    · simp only [if_neg h8] at e ⊢
      refine h.moved ?_ ?_ c1 c2 c3 c4 rfl rfl rfl rfl
      · rw [hpl, e]; exact hp
      · rw [hro, e]

theorem write_agrees {D : Dk} {M : Rk} (h : Agree D M) (i : Int) (b : Bk) : (writeR M i b).2 = (writeM D i b).2 ∧ Agree (writeM D i b).1 (writeR M i b).1 := by
  obtain ⟨h1, h2⟩ := act_writes h i
  have hr : M.rows = (actM M i true).1.rows := (actM_lists M i true).2.symm
  unfold writeR writeM
  by_cases e1 : reachE D i ≠ 0
  · rw [if_pos e1] at h1 h2
    rw [if_pos e1, if_pos (by rw [h1]; exact e1)]
    exact ⟨h1, h2⟩
  · rw [if_neg e1] at h1 h2
    rw [if_neg e1]
    by_cases e2 : D.fuse = some 0
    · rw [if_pos e2] at h1 h2
      rw [if_pos e2, if_pos (by rw [h1]; decide)]
      exact ⟨h1, h2⟩
    · rw [if_neg e2] at h1 h2
      rw [if_neg e2]
      by_cases e3 : D.flaw = some 0
      · rw [if_pos e3] at h1 h2
        rw [if_pos e3, if_pos (by rw [h1]; decide)]
        exact ⟨h1, h2⟩
      · rw [if_neg e3] at h1 h2
        rw [if_neg e3, if_neg (by rw [h1]; simp)]
        have h3 := hold_agrees h2 i.toNat b
        rw [← hr] at h3
        revert h3
        cases M.rows.findIdx? (fun r => r.s == i.toNat) with
        | some k => intro h3; exact ⟨rfl, h3⟩
        | none =>
          intro h3
          by_cases h8 : M.rows.length = 8
          · simp only [if_pos h8] at h3 ⊢; exact ⟨by first | rfl | trivial, h3⟩
          · simp only [if_neg h8] at h3 ⊢; exact ⟨by first | rfl | trivial, h3⟩

theorem reach_first {D : Dk} (hok : D.Ok) : reachE D 0 = if D.dead = true then 9 else 0 := by
  have := hok.pos
  unfold reachE
  by_cases h : D.dead = true
  · rw [if_pos h, if_pos h]
  · rw [if_neg h, if_neg h, if_pos ⟨Int.le_refl _, by omega⟩]

theorem sync_agrees {D : Dk} {M : Rk} (h : Agree D M) (hok : D.Ok) : (syncR M).2 = (syncM D).2 ∧ Agree (syncM D).1 (syncR M).1 := by
  obtain ⟨h1, h2⟩ := act_writes h 0
  rw [reach_first hok] at h1 h2
  unfold syncR syncM
  by_cases e1 : D.dead = true
  · simp only [if_pos e1, ne_eq, show ¬ ((9 : Int) = 0) by decide, not_false_eq_true, if_true] at h1 h2 ⊢
    rw [if_neg (by rw [h1]; decide)]
    exact ⟨h1, h2⟩
  · simp only [if_neg e1, ne_eq, not_true, if_false] at h1 h2 ⊢
    by_cases e2 : D.fuse = some 0
    · simp only [if_pos e2] at h1 h2 ⊢
      rw [if_neg (by rw [h1]; decide)]
      exact ⟨h1, h2⟩
    · simp only [if_neg e2] at h1 h2 ⊢
      by_cases e3 : D.flaw = some 0
      · simp only [if_pos e3] at h1 h2 ⊢
        rw [if_neg (by rw [h1]; decide)]
        exact ⟨h1, h2⟩
      · simp only [if_neg e3] at h1 h2 ⊢
        rw [if_pos h1]
        have hp : (actM M 0 true).1.plate = (fuseM (flawM D)).plate := h2.plate
        have hr : (actM M 0 true).1.rows = (fuseM (flawM D)).rows := h2.rows
        have hd := drain_agrees hp hr
        have hrest := drainM_rest (fuseM (flawM D)) D.rows.length
        refine ⟨rfl, h2.moved (hd.1.trans rfl) (hd.2.trans rfl) hrest.1 ?_ hrest.2.2.1 hrest.2.2.2 rfl rfl rfl rfl⟩
        show wrap64 ((drainM (fuseM (flawM D)) D.rows.length).ops + 1) = wrap64 (D.ops + 1)
        rw [hrest.2.1]
        rfl

/-- What goes down in a crash, by the document. -/
theorem crash_plate (D : Dk) (M : Rk) (ks : List Bool) (hp : M.plate = D.plate) (hr : M.rows = D.rows) : ∀ k, k ≤ D.rows.length → (crashF D ks ((upTo D.rows k).map (·.1))).plate = (downTo M ks k).1
  | 0, _ => by rw [upTo_zero]; exact hp.symm
  | k + 1, hk => by
    have ih := crash_plate D M ks hp hr k (by omega)
    obtain ⟨r, hy⟩ : ∃ r, D.rows[k]? = some r := ⟨_, List.getElem?_eq_getElem (by omega)⟩
    have e : M.rows[k]? = some r := by rw [hr]; exact hy
    rw [upTo_succ ⟨(k, r), hy⟩ rfl, List.map_append, List.map_singleton, crashF_snoc]
    unfold downTo
    rw [e]
    simp only
    by_cases hb : ks.getD k false = true
    · rw [if_pos hb, if_pos hb]
      show (crashF D ks ((upTo D.rows k).map (·.1))).plate.set r.s r.b = _
      rw [ih]
    · rw [if_neg hb, if_neg hb]
      exact ih
theorem crashF_ops (D : Dk) (ks : List Bool) (l : List (Nat × Rw)) : (crashF D ks l).ops = D.ops := by
  induction l generalizing D with
  | nil => rfl
  | cons x l ih =>
    have e : crashF D ks (x :: l) = crashF (if ks.getD x.1 false = true then downM D x.2 else D) ks l := rfl
    rw [e, ih]
    split <;> rfl
theorem crash_agrees {D : Dk} {M : Rk} (h : Agree D M) (ks : List Bool) : Agree (crashM D ks) (crashR M ks) := by
  refine ⟨?_, rfl, rfl, ?_, rfl, fun _ => rfl, by simp [crashR], by simp [crashR]⟩
  · show (downTo M ks M.rows.length).1 = (crashF D ks ((upTo D.rows D.rows.length).map (·.1))).plate
    rw [crash_plate D M ks h.plate h.rows _ (Nat.le_refl _), h.rows]
  · show M.ops = (crashF D ks _).ops
    rw [crashF_ops, h.ops]

theorem showsFrom_none : ∀ (l : List Rw) (b : Bk) (i : Nat), (∀ r ∈ l, r.s ≠ i) → showsFrom b l i = b
  | [], _, _, _ => rfl
  | r :: l, b, i, h => by
    have e : showsFrom b (r :: l) i = showsFrom (if r.s = i then r.b else b) l i := rfl
    rw [e, if_neg (h r (by simp))]
    exact showsFrom_none l b i (fun y hy => h y (by simp [hy]))
theorem showsFrom_find : ∀ (l : List Rw) (b : Bk) (i : Nat), (l.map (·.s)).Nodup → showsFrom b l i = (match l.find? (fun r => r.s == i) with | some r => r.b | none => b)
  | [], _, _, _ => rfl
  | r :: l, b, i, h => by
    have e : showsFrom b (r :: l) i = showsFrom (if r.s = i then r.b else b) l i := rfl
    rw [List.map_cons, List.nodup_cons] at h
    rw [e]
    by_cases hs : r.s = i
    · rw [if_pos hs]
      have hn : ∀ y ∈ l, y.s ≠ i := fun y hy e9 => h.1 (by rw [hs, ← e9]; exact List.mem_map_of_mem hy)
      rw [showsFrom_none l _ i hn, List.find?_cons_of_pos (by simpa using hs)]
    · rw [if_neg hs, List.find?_cons_of_neg (by simpa using hs)]
      exact showsFrom_find l b i h.2
theorem shows_agrees {D : Dk} {M : Rk} (hp : M.plate = D.plate) (hr : M.rows = D.rows) (hok : D.Ok) (i : Nat) : showsR M i = showsM D i := by
  unfold showsR showsM
  rw [hp, hr, showsFrom_find _ _ _ hok.once]
  cases D.rows.find? (fun r => r.s == i) <;> rfl

theorem read_agrees {D : Dk} {M : Rk} (h : Agree D M) (hok : D.Ok) (i : Int) : (readR M i).2 = (readM D i).2 ∧ Agree (readM D i).1 (readR M i).1 := by
  obtain ⟨h1, h2⟩ := act_reads h i
  unfold readR readM
  by_cases e1 : reachE D i ≠ 0
  · rw [if_pos e1] at h1 h2
    rw [if_pos e1, if_neg (by rw [h1]; exact e1), h1]
    exact ⟨rfl, h2⟩
  · rw [if_neg e1] at h1 h2
    rw [if_neg e1]
    by_cases e3 : D.flaw = some 0
    · rw [if_pos e3] at h1 h2
      rw [if_pos e3, if_neg (by rw [h1]; decide), h1]
      exact ⟨rfl, h2⟩
    · rw [if_neg e3] at h1 h2
      rw [if_neg e3, if_pos h1]
      refine ⟨?_, h2⟩
      have := shows_agrees (D := D) (M := (actM M i false).1) h2.plate h2.rows hok i.toNat
      simp only [this]

theorem enc_of (n : Int) : max n (-1) = encD (cdOf n) := by
  unfold cdOf
  by_cases h : n < 0
  · rw [if_pos h]; show max n (-1) = -1; omega
  · rw [if_neg h]; show max n (-1) = (n.toNat : Int); omega

/-- A deed does what it does by the document. -/
theorem does_agrees {D : Dk} {M : Rk} (h : Agree D M) (hok : D.Ok) (x : Deed) (ks : List Bool) (hn : x.num ≤ 9223372036854775807) : (modelsR M x ks).2 = (doesM D x ks).2 ∧ Agree (doesM D x ks).1 (modelsR M x ks).1 := by
  have hk10 : x.k < 10 := Nat.mod_lt _ (by omega)
  unfold modelsR doesM
  by_cases h5 : x.k = 5
  · simp only [if_pos h5]
    exact read_agrees h hok x.sector
  simp only [if_neg h5]
  by_cases h6 : x.k = 6
  · simp only [if_pos h6]
    have := sync_agrees h hok
    exact ⟨by rw [this.1], this.2⟩
  simp only [if_neg h6]
  by_cases h9 : x.k = 9
  · simp only [if_pos h9, if_neg (show ¬ x.k = 7 by omega), if_neg (show ¬ x.k = 8 by omega)]
    exact ⟨by first | rfl | trivial, crash_agrees h _⟩
  simp only [if_neg h9]
  by_cases hl : x.k < 5
  · simp only [if_pos hl, if_neg (show ¬ x.k = 7 by omega), if_neg (show ¬ x.k = 8 by omega)]
    have := write_agrees h x.sector (Bk.fill x.fill)
    exact ⟨by rw [this.1], this.2⟩
  simp only [if_neg hl]
  by_cases h7 : x.k = 7
  · simp only [if_pos h7]
    unfold armM
    rw [h.dead]
    by_cases hd : D.dead = true
    · simp only [if_pos hd]; exact ⟨by first | rfl | trivial, h⟩
    · simp only [if_neg hd]
      exact ⟨by first | rfl | trivial, h.plate, h.rows, rfl, h.ops, enc_of _, h.flaw, h.lo, h.hi⟩
  · simp only [if_neg h7, if_pos (show x.k = 8 by omega)]
    unfold flawedM
    rw [h.dead]
    by_cases hd : D.dead = true
    · simp only [if_pos hd]; exact ⟨by first | rfl | trivial, h⟩
    · simp only [if_neg hd]
      refine ⟨by first | rfl | trivial, h.plate, h.rows, rfl, h.ops, h.fuse, fun _ => enc_of _, ?_, ?_⟩
      · show -1 ≤ max x.num (-1); omega
      · show max x.num (-1) ≤ _; omega

/-! ### What is shown when all has gone down -/
theorem downsL_shows (i : Nat) : ∀ (l : List Rw) (P : List Bk), i < P.length → (downsL P l).getD i Bk.zero = showsFrom (P.getD i Bk.zero) l i
  | [], _, _ => rfl
  | r :: l, P, hi => by
    have e : downsL P (r :: l) = downsL (P.set r.s r.b) l := rfl
    have e2 : showsFrom (P.getD i Bk.zero) (r :: l) i = showsFrom (if r.s = i then r.b else P.getD i Bk.zero) l i := rfl
    rw [e, e2, downsL_shows i l _ (by simpa using hi)]
    congr 1
    by_cases hs : r.s = i
    · rw [if_pos hs, hs]; simp [hi]
    · rw [if_neg hs]; simp [List.getElem?_set, hs]
theorem crash_all {D : Dk} {M : Rk} (h : Agree D M) : (crashM D (List.replicate M.rows.length true)).plate = downsL M.plate M.rows := by
  have := crash_plate D M (List.replicate M.rows.length true) h.plate h.rows D.rows.length (Nat.le_refl _)
  show (crashF D _ _).plate = _
  rw [this, ← h.rows, downTo_yes M M.rows.length (Nat.le_refl _) M.rows.length (Nat.le_refl _), List.take_length]
/-- Nothing is held, power is there, nothing is to fail. -/
structure Idle (D : Dk) (P : List Bk) : Prop where
  plate : D.plate = P
  rows : D.rows = []
  flaw : D.flaw = none
  dead : D.dead = false
theorem idle_crash (D : Dk) (ks : List Bool) : Idle (crashM D ks) (crashM D ks).plate := ⟨rfl, rfl, rfl, rfl⟩
theorem Idle.read {D : Dk} {P : List Bk} (h : Idle D P) {i : Nat} (hi : i < P.length) : (readM D (i : Int)).2 = (P.getD i Bk.zero, 0) ∧ Idle (readM D (i : Int)).1 P := by
  have hr : reachE D (i : Int) = 0 := by
    unfold reachE
    rw [h.dead, h.plate, if_neg (by simp), if_pos ⟨by omega, by omega⟩]
  have e : readM D (i : Int) = (countM (flawM D), showsM D i, 0) := by
    unfold readM
    rw [if_neg (by rw [hr]; simp), if_neg (by rw [h.flaw]; simp)]
    simp
  rw [e]
  refine ⟨?_, ⟨h.plate, h.rows, ?_, h.dead⟩⟩
  · unfold showsM
    rw [h.rows, h.plate]
    rfl
  · show passO D.flaw = none
    rw [h.flaw]; rfl
end Go.Proofs.YtaikgngigaohmaaDoor
