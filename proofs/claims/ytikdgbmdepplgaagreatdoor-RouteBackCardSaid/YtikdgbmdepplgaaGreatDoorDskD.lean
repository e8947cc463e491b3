/-
  A range over a disk's rows as one law; the contract of disk's shows. Nothing here is a statement of the document.
-/
import Derived.Test.YtikdgbmdepplgaaGreatDoorPfxOr
import Derived.Test.YtikdgbmdepplgaaGreatDoorPfxA
import Derived.RegionTactic
import Derived.BigRegion
import Derived.Shelf.Abstract
namespace Go.Proofs.YtikdgbmdepplgaaGreatDoor
open Go.RowKit Go.Shelf
set_option linter.unusedVariables false

/-- A row of a table. -/
structure Rt where
  p : Px
  h : Int
def Rt.cs (r : Rt) : Array Value := r.p.cs ++ #[.int .i64 r.h]
def Rt.zero : Rt := ⟨Px.zero, 0⟩
theorem Rt.size (r : Rt) : r.cs.size = 19 := by simp [Rt.cs, r.p.size]
theorem Rt.one (r : Rt) : r.cs.all (·.oneCell') = true := by
  have := r.p.one
  rw [Array.all_eq_true_iff_forall_mem] at this ⊢
  intro v hv
  rcases Array.mem_append.1 hv with h | h
  · exact this v h
  · obtain rfl : v = Value.int .i64 r.h := by simpa using h
    rfl
theorem Rt.cp (r : Rt) (j : Nat) (h : j < 18) : r.cs[j]? = r.p.cs[j]? := by
  unfold Rt.cs
  rw [Array.getElem?_append_left (by rw [Px.size]; exact h)]
theorem Rt.ch (r : Rt) : r.cs[18]? = some (.int .i64 r.h) := by
  unfold Rt.cs
  rw [Array.getElem?_append_right (by rw [Px.size]; omega)]
  simp [Px.size]
theorem Rt.same {x y : Rt} : x = y ↔ x.p = y.p ∧ x.h = y.h := by
  obtain ⟨p, x⟩ := x
  obtain ⟨q, y⟩ := y
  simp
noncomputable instance : DecidableEq Rt := fun _ _ => Classical.propDecidable _

def okR (r : Rt) : Prop := okP r.p ∧ 1 ≤ r.h ∧ r.h ≤ 255
def ltR (x y : Rt) : Prop := cmpP x.p y.p < 0
def okT (L : List Rt) : Prop := L.length ≤ 40 ∧ (∀ x ∈ L, okR x) ∧ L.Pairwise ltR
noncomputable instance (L : List Rt) : Decidable (okT L) := Classical.propDecidable _
noncomputable instance (r : Rt) : Decidable (okR r) := Classical.propDecidable _
noncomputable instance (p : Px) (a : Ad) : Decidable (hasM p a) := Classical.propDecidable _
noncomputable def eT (L : List Rt) : Int := if okT L then 0 else 190
theorem eT_ok {L : List Rt} (h : okT L) : eT L = 0 := if_pos h
theorem eT_no {L : List Rt} (h : ¬ okT L) : eT L = 190 := if_neg h
def rt (L : List Rt) (i : Nat) : Rt := L.getD i Rt.zero
theorem rt_get {L : List Rt} {i : Nat} (h : i < L.length) : rt L i = L[i] := by simp [rt, h]
theorem rt_some {L : List Rt} {i : Nat} (h : i < L.length) : L[i]? = some (rt L i) := by simp [rt, h]
theorem rt_mem {L : List Rt} {i : Nat} (h : i < L.length) : rt L i ∈ L := by rw [rt_get h]; exact List.getElem_mem h
theorem mem_rt {L : List Rt} {x : Rt} (h : x ∈ L) : ∃ i, i < L.length ∧ rt L i = x := by
  obtain ⟨i, hi, h2⟩ := List.getElem_of_mem h
  exact ⟨i, hi, by rw [rt_get hi]; exact h2⟩

theorem ltR_irrefl (x : Rt) : ¬ ltR x x := fun h => by
  unfold ltR at h
  rw [(cmpP_zero x.p x.p).2 rfl] at h
  omega
theorem ltR_trans {x y z : Rt} (h : ltR x y) (k : ltR y z) : ltR x z := cmpP_lt _ _ _ h k
theorem ltR_asymm {x y : Rt} (h : ltR x y) : ¬ ltR y x := fun k => ltR_irrefl x (ltR_trans h k)
theorem cmp_ways (p q : Px) : cmpP p q < 0 ∨ p = q ∨ cmpP q p < 0 := by
  rcases cmpP_three p q with h | h | h
  · left; omega
  · right; left; exact (cmpP_zero p q).1 h
  · right; right; have := cmpP_neg q p; omega
theorem cmp_self {p q : Px} (h : cmpP p q < 0) : p ≠ q := fun e => by
  subst e
  rw [(cmpP_zero p p).2 rfl] at h
  omega
/-- Neighbours that rise: all rise. -/
theorem rise_of {L : List Rt} (h : ∀ i, 0 < i → i < L.length → ltR (rt L (i - 1)) (rt L i)) : L.Pairwise ltR := by
  rw [List.pairwise_iff_getElem]
  intro i j hi hj hij
  obtain ⟨d, rfl⟩ : ∃ d, j = i + 1 + d := ⟨j - i - 1, by omega⟩
  rw [← rt_get hi, ← rt_get hj]
  clear hij
  induction d with
  | zero => exact h (i + 1) (by omega) hj
  | succ d ih => exact ltR_trans (ih (by omega)) (h (i + 1 + (d + 1)) (by omega) hj)
theorem rise_at {L : List Rt} (h : L.Pairwise ltR) {i j : Nat} (hij : i < j) (hj : j < L.length) : ltR (rt L i) (rt L j) := by
  rw [rt_get hj, rt_get (by omega : i < L.length)]
  exact List.pairwise_iff_getElem.1 h i j (by omega) hj hij
theorem okT_iff (L : List Rt) : okT L ↔ L.length ≤ 40 ∧ ∀ i, i < L.length → okR (rt L i) ∧ (0 < i → ltR (rt L (i - 1)) (rt L i)) := by
  constructor
  · rintro ⟨h1, h2, h3⟩
    exact ⟨h1, fun i hi => ⟨h2 _ (rt_mem hi), fun h0 => rise_at h3 (by omega) hi⟩⟩
  · rintro ⟨h1, h2⟩
    refine ⟨h1, fun x hx => ?_, rise_of fun i h0 hi => (h2 i hi).2 h0⟩
    obtain ⟨i, hi, rfl⟩ := mem_rt hx
    exact (h2 i hi).1
/-- Two rows of one table with the same prefix are the same. -/
theorem same_at {L : List Rt} (h : L.Pairwise ltR) {i j : Nat} (hi : i < L.length) (hj : j < L.length) (e : (rt L i).p = (rt L j).p) : i = j := by
  rcases Nat.lt_trichotomy i j with h1 | h1 | h1
  · exact absurd e (cmp_self (rise_at h h1 hj))
  · exact h1
  · exact absurd e.symm (cmp_self (rise_at h h1 hi))
theorem same_row {L : List Rt} (h : L.Pairwise ltR) {x y : Rt} (hx : x ∈ L) (hy : y ∈ L) (e : x.p = y.p) : x = y := by
  obtain ⟨i, hi, rfl⟩ := mem_rt hx
  obtain ⟨j, hj, rfl⟩ := mem_rt hy
  rw [same_at h hi hj e]
/-- Rising rows with the same members are the same. -/
theorem rise_eq : ∀ {L M : List Rt}, L.Pairwise ltR → M.Pairwise ltR → (∀ x, x ∈ L ↔ x ∈ M) → L = M
  | [], [], _, _, _ => rfl
  | [], y :: M, _, _, h => absurd ((h y).2 (by simp)) (by simp)
  | x :: L, [], _, _, h => absurd ((h x).1 (by simp)) (by simp)
  | x :: L, y :: M, hL, hM, h => by
    obtain ⟨h1, h2⟩ := List.pairwise_cons.1 hL
    obtain ⟨k1, k2⟩ := List.pairwise_cons.1 hM
    have e : x = y := by
      rcases List.mem_cons.1 ((h x).1 (by simp)) with e | hx
      · exact e
      · rcases List.mem_cons.1 ((h y).2 (by simp)) with e | hy
        · exact e.symm
        · exact absurd (h1 y hy) (ltR_asymm (k1 x hx))
    subst e
    have hr : L = M := rise_eq h2 k2 fun z => by
      constructor
      · intro hz
        rcases List.mem_cons.1 ((h z).1 (by simp [hz])) with e | hx
        · subst e; exact absurd (h1 z hz) (ltR_irrefl z)
        · exact hx
      · intro hz
        rcases List.mem_cons.1 ((h z).2 (by simp [hz])) with e | hx
        · subst e; exact absurd (k1 z hz) (ltR_irrefl z)
        · exact hx
    rw [hr]

/-- The place of the last of the first n rows of which q holds; -1: none. -/
def lastM (q : Rt → Bool) (L : List Rt) : Nat → Int
  | 0 => -1
  | k + 1 => if q (rt L k) = true then (k : Int) else lastM q L k
theorem last_spec (q : Rt → Bool) (L : List Rt) : ∀ n, (∃ i : Nat, i < n ∧ lastM q L n = (i : Int) ∧ q (rt L i) = true ∧ ∀ j, i < j → j < n → q (rt L j) = false) ∨ (lastM q L n = -1 ∧ ∀ j, j < n → q (rt L j) = false)
  | 0 => .inr ⟨rfl, fun j h => by omega⟩
  | k + 1 => by
    by_cases h : q (rt L k) = true
    · refine .inl ⟨k, by omega, if_pos h, h, fun j h1 h2 => by omega⟩
    · have hf : q (rt L k) = false := by simpa using h
      have e : lastM q L (k + 1) = lastM q L k := if_neg h
      rcases last_spec q L k with ⟨i, h1, h2, h3, h4⟩ | ⟨h1, h2⟩
      · refine .inl ⟨i, by omega, by rw [e]; exact h2, h3, fun j h5 h6 => ?_⟩
        by_cases hj : j = k
        · rw [hj]; exact hf
        · exact h4 j h5 (by omega)
      · refine .inr ⟨by rw [e]; exact h1, fun j h5 => ?_⟩
        by_cases hj : j = k
        · rw [hj]; exact hf
        · exact h2 j (by omega)

noncomputable def isQ (p : Px) (r : Rt) : Bool := decide (r.p = p)
noncomputable def aheadQ (p : Px) (r : Rt) : Bool := decide (cmpP r.p p < 0)
noncomputable def hasQ (a : Ad) (r : Rt) : Bool := decide (hasM r.p a)
/-- Where a prefix stands; -1: nowhere. -/
noncomputable def ixM (L : List Rt) (p : Px) : Int := lastM (isQ p) L L.length
theorem ix_spec (L : List Rt) (p : Px) : (∃ i : Nat, i < L.length ∧ ixM L p = (i : Int) ∧ (rt L i).p = p ∧ ∀ j, i < j → j < L.length → (rt L j).p ≠ p) ∨ (ixM L p = -1 ∧ ∀ x ∈ L, x.p ≠ p) := by
  rcases last_spec (isQ p) L L.length with ⟨i, h1, h2, h3, h4⟩ | ⟨h1, h2⟩
  · exact .inl ⟨i, h1, h2, by simpa [isQ] using h3, fun j h5 h6 => by simpa [isQ] using h4 j h5 h6⟩
  · refine .inr ⟨h1, fun x hx => ?_⟩
    obtain ⟨i, hi, rfl⟩ := mem_rt hx
    simpa [isQ] using h2 i hi
/-- How many rows stand ahead of a prefix. -/
noncomputable def bhM (L : List Rt) (p : Px) : Nat := (lastM (aheadQ p) L L.length + 1).toNat
theorem bh_spec (L : List Rt) (p : Px) : bhM L p ≤ L.length ∧ lastM (aheadQ p) L L.length + 1 = (bhM L p : Int) ∧ (0 < bhM L p → cmpP (rt L (bhM L p - 1)).p p < 0) ∧ ∀ j, bhM L p ≤ j → j < L.length → ¬ cmpP (rt L j).p p < 0 := by
  unfold bhM
  rcases last_spec (aheadQ p) L L.length with ⟨i, h1, h2, h3, h4⟩ | ⟨h1, h2⟩
  · rw [h2, show ((i : Int) + 1).toNat = i + 1 by omega]
    refine ⟨by omega, by omega, fun _ => by simpa [aheadQ] using h3, fun j h5 h6 => by have := h4 j (by omega) h6; rw [aheadQ, decide_eq_false_iff_not] at this; exact this⟩
  · rw [h1]
    refine ⟨by simp, by simp, fun h => by simp at h, fun j h5 h6 => by have := h2 j h6; rw [aheadQ, decide_eq_false_iff_not] at this; exact this⟩
theorem bh_ahead {L : List Rt} {p : Px} (h : L.Pairwise ltR) {i : Nat} (hi : i < bhM L p) : cmpP (rt L i).p p < 0 := by
  obtain ⟨h1, _, h3, _⟩ := bh_spec L p
  have h5 := h3 (by omega)
  by_cases e : i = bhM L p - 1
  · rw [e]; exact h5
  · exact cmpP_lt _ _ _ (rise_at h (by omega : i < bhM L p - 1) (by omega)) h5

/-- The rows in which a prefix has a hop. -/
noncomputable def insM (L : List Rt) (p : Px) (h : Int) : List Rt := L.take (bhM L p) ++ ⟨p, h⟩ :: L.drop (bhM L p)
noncomputable def setL (L : List Rt) (p : Px) (h : Int) : List Rt := if ixM L p = -1 then insM L p h else L.set (ixM L p).toNat ⟨p, h⟩
noncomputable def setE (L : List Rt) (p : Px) (h : Int) : Int := if ¬ okT L then 190 else if ¬ okR ⟨p, h⟩ then 2 else if ixM L p = -1 ∧ L.length = 40 then 6 else 0
noncomputable def setM (L : List Rt) (p : Px) (h : Int) : List Rt := if setE L p h = 0 then setL L p h else []
noncomputable def dropE (L : List Rt) (p : Px) : Int := if ¬ okT L then 190 else if ixM L p = -1 then 4 else 0
noncomputable def dropM (L : List Rt) (p : Px) : List Rt := if dropE L p = 0 then L.eraseIdx (ixM L p).toNat else []
theorem setL_mem {L : List Rt} (hL : L.Pairwise ltR) (p : Px) (h : Int) (x : Rt) : x ∈ setL L p h ↔ x = ⟨p, h⟩ ∨ (x ∈ L ∧ x.p ≠ p) := by
  unfold setL
  rcases ix_spec L p with ⟨i, h1, h2, h3, h4⟩ | ⟨h1, h2⟩
  · rw [if_neg (by omega), h2, Int.toNat_natCast]
    constructor
    · intro hx
      obtain ⟨j, hj, e⟩ := List.getElem_of_mem hx
      rw [List.getElem_set] at e
      have hj2 : j < L.length := by simpa using hj
      by_cases hij : i = j
      · rw [if_pos hij] at e; exact .inl e.symm
      · rw [if_neg hij] at e
        refine .inr ⟨by rw [← e]; exact List.getElem_mem _, fun hp => hij ?_⟩
        refine same_at hL h1 hj2 ?_
        rw [h3, rt_get hj2, e, hp]
    · rintro (e | ⟨hx, hp⟩)
      · rw [e]; exact List.mem_iff_getElem.2 ⟨i, by simpa using h1, by simp⟩
      · obtain ⟨j, hj, rfl⟩ := mem_rt hx
        have hij : i ≠ j := fun e => hp (by rw [← e]; exact h3)
        exact List.mem_iff_getElem.2 ⟨j, by simpa using hj, by rw [List.getElem_set, if_neg hij, ← rt_get hj]⟩
  · rw [if_pos h1]
    unfold insM
    rw [List.mem_append, List.mem_cons]
    have e : x ∈ L ↔ x ∈ L.take (bhM L p) ∨ x ∈ L.drop (bhM L p) := by rw [← List.mem_append, List.take_append_drop]
    constructor
    · rintro (hx | hx | hx)
      · exact .inr ⟨e.2 (.inl hx), h2 x (e.2 (.inl hx))⟩
      · exact .inl hx
      · exact .inr ⟨e.2 (.inr hx), h2 x (e.2 (.inr hx))⟩
    · rintro (hx | ⟨hx, _⟩)
      · exact .inr (.inl hx)
      · rcases e.1 hx with h | h
        · exact .inl h
        · exact .inr (.inr h)
theorem setL_rise {L : List Rt} (hL : L.Pairwise ltR) (p : Px) (h : Int) : (setL L p h).Pairwise ltR := by
  unfold setL
  rcases ix_spec L p with ⟨i, h1, h2, h3, h4⟩ | ⟨h1, h2⟩
  · rw [if_neg (by omega), h2, Int.toNat_natCast]
    rw [List.pairwise_iff_getElem]
    intro a b ha hb hab
    have ha2 : a < L.length := by simpa using ha
    have hb2 : b < L.length := by simpa using hb
    have hr := rise_at hL hab hb2
    have key : ∀ (j : Nat) (hj : j < (L.set i ⟨p, h⟩).length), ((L.set i ⟨p, h⟩)[j]).p = (rt L j).p := by
      intro j hj
      have hj2 : j < L.length := by simpa using hj
      rw [List.getElem_set]
      split
      · rename_i e; rw [← e, h3]
      · rw [rt_get hj2]
    unfold ltR at hr ⊢
    rw [key a ha, key b hb]
    exact hr
  · rw [if_pos h1]
    unfold insM
    obtain ⟨b1, b2, b3, b4⟩ := bh_spec L p
    have hpw := hL
    rw [← List.take_append_drop (bhM L p) L, List.pairwise_append] at hpw
    rw [List.pairwise_append, List.pairwise_cons]
    have hd : ∀ y ∈ L.drop (bhM L p), ltR ⟨p, h⟩ y := by
      intro y hy
      obtain ⟨j, hj, e⟩ := List.getElem_of_mem hy
      rw [List.getElem_drop] at e
      have hj2 : bhM L p + j < L.length := by simp at hj; omega
      have hn := b4 (bhM L p + j) (by omega) hj2
      rw [rt_get hj2, e] at hn
      rcases cmp_ways p y.p with c | c | c
      · exact c
      · exact absurd c.symm (h2 y (List.mem_of_mem_drop hy))
      · exact absurd c hn
    have ht : ∀ y ∈ L.take (bhM L p), ltR y ⟨p, h⟩ := by
      intro y hy
      obtain ⟨j, hj, e⟩ := List.getElem_of_mem hy
      rw [List.getElem_take] at e
      have hj2 : j < bhM L p := by simp at hj; omega
      have := bh_ahead hL hj2
      rw [rt_get (by omega), e] at this
      exact this
    refine ⟨hpw.1, ⟨hd, hpw.2.1⟩, fun x hx y hy => ?_⟩
    rcases List.mem_cons.1 hy with e | hy
    · rw [e]; exact ht x hx
    · exact hpw.2.2 x hx y hy
theorem setL_len (L : List Rt) (p : Px) (h : Int) : (setL L p h).length = if ixM L p = -1 then L.length + 1 else L.length := by
  unfold setL insM
  obtain ⟨b1, _⟩ := bh_spec L p
  split
  · simp; omega
  · simp
theorem setE_ok {L : List Rt} {p : Px} {h : Int} (e : setE L p h = 0) : okT L ∧ okR ⟨p, h⟩ ∧ (ixM L p = -1 → L.length < 40) := by
  unfold setE at e
  by_cases h1 : okT L
  · by_cases h2 : okR ⟨p, h⟩
    · rw [if_neg (by simpa using h1), if_neg (by simpa using h2)] at e
      refine ⟨h1, h2, fun h3 => ?_⟩
      by_cases h4 : L.length = 40
      · rw [if_pos ⟨h3, h4⟩] at e; omega
      · have := h1.1; omega
    · rw [if_neg (by simpa using h1), if_pos h2] at e; omega
  · rw [if_pos h1] at e; omega
theorem setM_okT (L : List Rt) (p : Px) (h : Int) : okT (setM L p h) := by
  unfold setM
  split
  · rename_i e
    obtain ⟨h1, h2, h3⟩ := setE_ok e
    refine ⟨?_, fun x hx => ?_, setL_rise h1.2.2 p h⟩
    · rw [setL_len]
      have := h1.1
      split
      · rename_i e2; have := h3 e2; omega
      · exact this
    · rcases (setL_mem h1.2.2 p h x).1 hx with e | ⟨hx, _⟩
      · rw [e]; exact h2
      · exact h1.2.1 x hx
  · exact ⟨by simp, by simp, List.Pairwise.nil⟩

/-! ### The longest match -/
/-- The longest match of an address: a row that has it, and no longer one does. -/
def Long (L : List Rt) (a : Ad) (x : Rt) : Prop := x ∈ L ∧ hasM x.p a ∧ ∀ y ∈ L, hasM y.p a → y.p.n ≤ x.p.n
noncomputable def hasIx (L : List Rt) (a : Ad) : Int := lastM (hasQ a) L L.length
theorem has_le {p q : Px} {a : Ad} (h : hasM p a) (k : hasM q a) (hc : cmpP p q < 0) : p.n < q.n := by
  by_cases hn : p.n < q.n
  · exact hn
  · exfalso
    have hq : holdsM q p := by
      rcases has_both k h with h1 | h1
      · exact h1
      · have h2 := h1.2.1
        have e : p.n = q.n := by omega
        refine ⟨h.1, by omega, k.1, h.1.1, k.2.2.1.trans h.2.2.1.symm, ?_⟩
        rw [h.2.2.2, kept_kept _ (by omega)]
        exact k.2.2.2
    have h3 := holds_cmp hq
    have h4 := cmpP_neg q p
    omega
theorem has_ix {L : List Rt} (hL : L.Pairwise ltR) (a : Ad) : (∃ i : Nat, i < L.length ∧ hasIx L a = (i : Int) ∧ Long L a (rt L i)) ∨ (hasIx L a = -1 ∧ ∀ y ∈ L, ¬ hasM y.p a) := by
  rcases last_spec (hasQ a) L L.length with ⟨i, h1, h2, h3, h4⟩ | ⟨h1, h2⟩
  · have h3' : hasM (rt L i).p a := by simpa [hasQ] using h3
    refine .inl ⟨i, h1, h2, rt_mem h1, h3', fun y hy hh => ?_⟩
    obtain ⟨j, hj, rfl⟩ := mem_rt hy
    rcases Nat.lt_trichotomy i j with h | h | h
    · exfalso
      have := h4 j h hj
      rw [hasQ, decide_eq_false_iff_not] at this
      exact this hh
    · rw [h]; exact Int.le_refl _
    · exact Int.le_of_lt (has_le hh h3' (rise_at hL h h1))
  · refine .inr ⟨h1, fun y hy hh => ?_⟩
    obtain ⟨j, hj, rfl⟩ := mem_rt hy
    have := h2 j hj
    rw [hasQ, decide_eq_false_iff_not] at this
    exact this hh
theorem long_one {L : List Rt} (hL : L.Pairwise ltR) {a : Ad} {x y : Rt} (h : Long L a x) (k : Long L a y) : x = y := by
  have h1 := k.2.2 x h.1 h.2.1
  have h2 := h.2.2 y k.1 k.2.1
  rcases cmp_ways x.p y.p with c | c | c
  · have := has_le h.2.1 k.2.1 c; omega
  · exact same_row hL h.1 k.1 c
  · have := has_le k.2.1 h.2.1 c; omega
/-- What a lookup answers: the row, and whether there is one. -/
noncomputable def longR (L : List Rt) (a : Ad) : Rt := if hasIx L a = -1 then Rt.zero else rt L (hasIx L a).toNat
noncomputable def longB (L : List Rt) (a : Ad) : Bool := decide (hasIx L a ≠ -1)
theorem long_ways {L : List Rt} (hL : L.Pairwise ltR) (a : Ad) : (longB L a = true ∧ Long L a (longR L a)) ∨ (longB L a = false ∧ longR L a = Rt.zero ∧ ∀ y ∈ L, ¬ hasM y.p a) := by
  unfold longB longR
  rcases has_ix hL a with ⟨i, h1, h2, h3⟩ | ⟨h1, h2⟩
  · left
    rw [h2, if_neg (by omega), Int.toNat_natCast]
    exact ⟨by simp, h3⟩
  · right
    rw [h1]
    exact ⟨by simp, by simp, h2⟩
theorem long_is {L : List Rt} (hL : L.Pairwise ltR) {a : Ad} {x : Rt} (h : Long L a x) : longB L a = true ∧ longR L a = x := by
  rcases long_ways hL a with ⟨h1, h2⟩ | ⟨_, _, h3⟩
  · exact ⟨h1, long_one hL h2 h⟩
  · exact absurd h.2.1 (h3 x h.1)
theorem long_none {L : List Rt} (hL : L.Pairwise ltR) {a : Ad} (h : ∀ y ∈ L, ¬ hasM y.p a) : longB L a = false ∧ longR L a = Rt.zero := by
  rcases long_ways hL a with ⟨h1, h2⟩ | ⟨h1, h2, _⟩
  · exact absurd h2.2.1 (h _ h2.1)
  · exact ⟨h1, h2⟩
end Go.Proofs.YtikdgbmdepplgaaGreatDoor
namespace Go.Proofs.YtikdgbmdepplgaaGreatDoor
open Go.RowKit Go.Shelf
set_option linter.unusedVariables false
set_option maxRecDepth 100000

theorem z_rt : (Tryz.prog.info? 60).map (fun i => (i.zero, i.size)) = some (some (.agg Rt.zero.cs), 19) := by kernel_rfl
theorem s_rt (r : Rt) : (Tryz.prog.info? 60).map (·.size) = some r.cs.size := by rw [r.size]; exact (zero_of_info z_rt).2
theorem z_tab : (Tryz.prog.info? 56).map (fun i => (i.zero, i.size)) = some (some (.agg #[.slice none 0 0]), 1) := by kernel_rfl
theorem load_rt_rule (v : Value) : Instr.loadAt 60 v = loadSem 60 v := rfl
theorem store_rt_rule (v x : Value) : Instr.storeAt 60 v x = storeSem 60 v x := rfl

/-- Rows lie in a block from a place on. -/
structure Rws (w : World) (g o : Nat) (L : List Rt) : Prop where
  lt : g < w.heap.size
  row : ∀ i, i < L.length → ∀ j, j < 19 → w.cell? ⟨g, o + i * 19 + j, none⟩ = (rt L i).cs[j]?
def RowsAt (w : World) (a : Option Addr) (L : List Rt) : Prop := L = [] ∨ ∃ g o, a = some ⟨g, o, none⟩ ∧ Rws w g o L
theorem Rws.later {w w' : World} {g o : Nat} {L : List Rt} (h : Rws w g o L) (k : Below w.heap.size w w') : Rws w' g o L :=
  ⟨Nat.lt_of_lt_of_le h.lt k.size, fun i hi j hj => (k.cell (p := ⟨g, o + i * 19 + j, none⟩) h.lt).trans (h.row i hi j hj)⟩
theorem RowsAt.later {w w' : World} {a : Option Addr} {L : List Rt} (h : RowsAt w a L) (k : Below w.heap.size w w') : RowsAt w' a L := by
  rcases h with h | ⟨g, o, h1, h2⟩
  · exact .inl h
  · exact .inr ⟨g, o, h1, h2.later k⟩
theorem Rws.load {w : World} {g o : Nat} {L : List Rt} (h : Rws w g o L) {i : Nat} (hi : i < L.length) : (loadSem 60 (.pointer (some ⟨g, o + i * 19, none⟩))).run Tryz.prog w = .ok (.agg (rt L i).cs) w :=
  run_loadAt_mid (P := Tryz.prog) w g (o + i * 19) 60 (rt L i).cs.toList _ (fun j v hj => by
    have hl : j < 19 := by rw [← (rt L i).size]; simpa using (List.getElem?_eq_some_iff.1 hj).1
    rw [h.row i hi j hl]; simpa using hj) Tryz.underlying60 rfl (by simpa using s_rt (rt L i))
theorem Rws.loadp {w : World} {g o : Nat} {L : List Rt} (h : Rws w g o L) {i : Nat} (hi : i < L.length) : (loadSem 46 (.pointer (some ⟨g, o + i * 19, none⟩))).run Tryz.prog w = .ok (.agg (rt L i).p.cs) w :=
  run_loadAt_mid (P := Tryz.prog) w g (o + i * 19) 46 (rt L i).p.cs.toList _ (fun j v hj => by
    have hl : j < 18 := by rw [← (rt L i).p.size]; simpa using (List.getElem?_eq_some_iff.1 hj).1
    rw [h.row i hi j (by omega), (rt L i).cp j hl]; simpa using hj) Tryz.underlying46 rfl (by simpa using s_px (rt L i).p)
theorem Rws.hop {w : World} {g o : Nat} {L : List Rt} (h : Rws w g o L) {i : Nat} (hi : i < L.length) : w.cell? ⟨g, o + i * 19 + 18, none⟩ = some (.int .i64 (rt L i).h) := (h.row i hi 18 (by omega)).trans (rt L i).ch
theorem rt_r {W : World} {g : Nat} {r : Rt} (h : Blk W g 60 r.cs) : ∀ w', Below W.heap.size W w' → (loadSem 60 (.pointer (some ⟨g, 0, none⟩))).run Tryz.prog w' = .ok (.agg r.cs) w' :=
  fun w' k => loadRes_of (o := 0) (h.later k) (fun q _ => by rw [Nat.zero_add]) _ Tryz.underlying60 rfl (s_rt r)
theorem rt_p {W : World} {g : Nat} {r : Rt} (h : Blk W g 60 r.cs) : ∀ w', Below W.heap.size W w' → (loadSem 46 (.pointer (some ⟨g, 0, none⟩))).run Tryz.prog w' = .ok (.agg r.p.cs) w' :=
  fun w' k => loadRes_of (o := 0) (h.later k) (fun q hq => by rw [Nat.zero_add]; exact r.cp q (by rw [Px.size] at hq; exact hq)) _ Tryz.underlying46 rfl (s_px r.p)
theorem rt_h {W : World} {g : Nat} {r : Rt} (h : Blk W g 60 r.cs) : ∀ w', Below W.heap.size W w' → w'.cell? ⟨g, 18, none⟩ = some (.int .i64 r.h) :=
  fun w' k => ((h.later k).cell 18).trans r.ch

theorem st_rt {w : World} {g : Nat} {p q : Rt} (h : Blk w g 60 p.cs) : (storeSem 60 (.pointer (some ⟨g, 0, none⟩)) (.agg q.cs)).run Tryz.prog w = .ok () (w.setRow g q.cs) := by
  have := storeRes_of (P := Tryz.prog) (ty := 60) (o := 0) (vs := q.cs) h (by rw [Rt.size, Rt.size]; omega) (s_rt q) q.one
  rwa [over_all (by rw [Rt.size, Rt.size])] at this
attribute [local go_sem ↓] load_b16_rule store_b16_rule load_ad_rule store_ad_rule load_px_rule store_px_rule eq_b16_rule eq_ad_rule eq_px_rule load_rt_rule store_rt_rule


end Go.Proofs.YtikdgbmdepplgaaGreatDoor
namespace Go.Proofs.YtikdgbmdepplgaaGreatDoor
open Go.RowKit Go.Shelf
set_option linter.unusedVariables false

/-! ### What speaks of cells alone -/
theorem own_blk {β : Type} (B g : Nat) (t : TypeId) (f : β → Array Value) : OwnFrom B (fun s W => Blk W g t (f s)) := fun s X Y row hs hg hrow =>
  (hg.block g hs.lt (fun e => by
    obtain ⟨_, o, ho, hc⟩ := hrow g e.symm
    rw [show X.heap[g]? = _ from hs] at ho; cases ho; cases hc)).trans hs
theorem own_kept {β : Type} {B : Nat} (S : List Nat) {w0 : World} (h : w0.heap.size ≤ B) : OwnFrom B (fun (_ : β) W => Kept S w0 W) := fun s X Y row hs hg hrow =>
  hs.grown hg (fun k e => .inr (Nat.le_trans h (hrow k e).1))
theorem KeepsFrom.row {B : Nat} {W : World} {g : Nat} (h : g < B) (cs : Array Value) : KeepsFrom B W (W.setRow g cs) :=
  KeepsFrom.of_grownBy (row := some g) ⟨rfl, rfl, rfl, by simp, fun k _ hk => setRow_other W g k cs (fun e => hk (by rw [e]))⟩ (fun j e => by cases e; exact h)
theorem KeepsFrom.kept {B : Nat} {W W' : World} {S : List Nat} (h : Kept S W W') (hS : ∀ k ∈ S, k < B) : KeepsFrom B W W' :=
  ⟨h.size, fun k o hB hk ho => (h.block k (Array.getElem?_eq_some_iff.1 hk).1 (fun hm => by have := hS k hm; omega)).trans hk⟩
theorem SameBuf.kept {bv : Value} {W W' : World} {S : List Nat} (h : Kept S W W') (hb : ∀ k, bv.ownBlock = some k → k < W.heap.size ∧ k ∉ S) : SameBuf bv W W' := fun k hk => h.block k (hb k hk).1 (hb k hk).2

/-- A function whose body holds a range over a function: its contract out of its body's walk. -/
theorem calls_of_wp_marks {f : FuncId} {fn : Func} {c : Code} {args : Array Value} {w : World} {R : Ending → World → Prop}
    (hf : Tryz.prog.funcs[f]? = some fn) (hb : fn.body = some c)
    (h : c.wp Tryz.prog (bodyPostM Fence.wide 10 Tryz.prog fn R) { tmps := args ++ Array.replicate (fn.ntmps - args.size) undef, defers := [] } w) : Calls Tryz.prog f args w R :=
  (callsIn_wide (n := 10)).1 (callsIn_of_wp_marks hf hb trivial (wpIn_wide.2 h) rfl)
/-- Where such a function returns. -/
theorem marks_ret {fn : Func} {R : Ending → World → Prop} {tmps : Array Value} {w : World} {d : Nat} {v : Value} (hd : w.heap[d]? = some (.deferred (some []))) (hr : (results fn tmps).run Tryz.prog (w.putObj d (.deferred none)) = .ok v (w.putObj d (.deferred none))) (h : R (.returned v) (w.putObj d (.deferred none))) :
    bodyPostM Fence.wide 10 Tryz.prog fn R .ret { tmps := tmps, defers := [{ target := .collected d, args := #[] }] } w :=
  ⟨by simp, .inl ⟨_, _, rfl, run_takeDeferred hd, ⟨_, hr, h⟩⟩⟩
theorem put_kept {S : List Nat} {w0 w : World} {d : Nat} {o o' : Obj} (h : Kept S w0 w) (hd : w.heap[d]? = some o) (hl : w0.heap.size ≤ d) : Kept S w0 (w.putObj d o') :=
  h.grown (grownBy_putObj' w d o') (fun k e => by cases e; exact .inr hl)

/-! ### shows -/
/-- What a sector shows. -/
def showsM (D : Dk) (i : Nat) : Bk := match D.rows.find? (fun r => r.s == i) with | some r => r.b | none => D.plate.getD i Bk.zero

theorem blk_put {w : World} {g d : Nat} {t : TypeId} {cs : Array Value} {o o' : Obj} (h : Blk w g t cs) (hd : w.heap[d]? = some o) (hc : o.isCells = false) : Blk (w.putObj d o') g t cs :=
  ((grownBy_putObj' w d o').block g h.lt (fun e => by
    cases e
    rw [show w.heap[g]? = _ from h] at hd; cases hd; cases hc)).trans h
theorem showsM_plate {D : Dk} {i : Nat} (hi : i < D.plate.length) (h : ∀ r ∈ D.rows, r.s ≠ i) : D.plate[i]? = some (showsM D i) := by
  unfold showsM
  rw [List.find?_eq_none.2 (fun r hr => by have := h r hr; simpa using this)]
  simp [List.getElem?_eq_getElem hi]
theorem showsM_row {D : Dk} {i k : Nat} (hk : k < D.rows.length) (h : ∀ j (hj : j < k), (D.rows[j]'(by omega)).s ≠ i) (he : D.rows[k].s = i) : showsM D i = D.rows[k].b := by
  unfold showsM
  have e : D.rows.find? (fun r => r.s == i) = some D.rows[k] := by
    rw [List.find?_eq_some_iff_getElem]
    exact ⟨by simpa using he, k, hk, rfl, fun j hj => by have := h j hj; simpa using this⟩
  rw [e]
attribute [local go_sem] Oper.semAt_some

end Go.Proofs.YtikdgbmdepplgaaGreatDoor
