/-
  That containing is an order and that Compare goes with it. Nothing here is a statement of the document.
-/
import Derived.Test.YtdbdmnahgkkjiaaDoorPfxOw
namespace Go.Proofs.YtdbdmnahgkkjiaaDoor
open Go.RowKit Go.Shelf
set_option linter.unusedVariables false

theorem cmpI_cases (x y : Int) : (x < y ∧ cmpI x y = -1) ∨ (x = y ∧ cmpI x y = 0) ∨ (y < x ∧ cmpI x y = 1) := by
  unfold cmpI
  by_cases h1 : x < y
  · simp [h1]
  · by_cases h2 : y < x
    · simp [h1, h2]
    · have : x = y := by omega
      simp [this]
theorem or_cons0 {x : Int} (l : List Int) (h : x = 0) : orL (x :: l) = orL l := if_pos h
theorem or_cons1 {x : Int} (l : List Int) (h : x ≠ 0) : orL (x :: l) = x := if_neg h
theorem lex_zero : ∀ (l m : List Int), l.length = m.length → (orL (zipC l m) = 0 ↔ l = m)
  | [], [], _ => by simp [zipC, orL]
  | [], _ :: _, h => by simp at h
  | _ :: _, [], h => by simp at h
  | x :: l, y :: m, h => by
    have ih := lex_zero l m (by simpa using h)
    simp only [zipC]
    rcases cmpI_cases x y with ⟨h1, e⟩ | ⟨h1, e⟩ | ⟨h1, e⟩
    · rw [or_cons1 _ (by omega), e]
      simp only [List.cons.injEq]
      constructor
      · intro h2; omega
      · intro h2; omega
    · rw [or_cons0 _ e, ih, h1]
      simp
    · rw [or_cons1 _ (by omega), e]
      simp only [List.cons.injEq]
      constructor
      · intro h2; omega
      · intro h2; omega
theorem lex_neg : ∀ (l m : List Int), orL (zipC l m) = - orL (zipC m l)
  | [], [] => by simp [zipC, orL]
  | [], _ :: _ => by simp [zipC, orL]
  | _ :: _, [] => by simp [zipC, orL]
  | x :: l, y :: m => by
    have ih := lex_neg l m
    simp only [zipC]
    rcases cmpI_cases x y with ⟨h1, e⟩ | ⟨h1, e⟩ | ⟨h1, e⟩ <;> rcases cmpI_cases y x with ⟨h2, e2⟩ | ⟨h2, e2⟩ | ⟨h2, e2⟩
    all_goals first
      | (exfalso; omega)
      | (rw [or_cons1 _ (by omega), or_cons1 _ (by omega), e, e2] <;> rfl)
      | (rw [or_cons0 _ e, or_cons0 _ e2, ih])
theorem lex_three : ∀ (l m : List Int), orL (zipC l m) = -1 ∨ orL (zipC l m) = 0 ∨ orL (zipC l m) = 1
  | [], [] => by simp [zipC, orL]
  | [], _ :: _ => by simp [zipC, orL]
  | _ :: _, [] => by simp [zipC, orL]
  | x :: l, y :: m => by
    have ih := lex_three l m
    simp only [zipC]
    rcases cmpI_cases x y with ⟨h1, e⟩ | ⟨h1, e⟩ | ⟨h1, e⟩
    · rw [or_cons1 _ (by omega), e]; simp
    · rw [or_cons0 _ e]; exact ih
    · rw [or_cons1 _ (by omega), e]; simp
theorem lex_lt : ∀ (l m n : List Int), l.length = m.length → m.length = n.length → orL (zipC l m) < 0 → orL (zipC m n) < 0 → orL (zipC l n) < 0
  | [], [], _, _, _, h1, _ => by simp [zipC, orL] at h1
  | [], _ :: _, _, h, _, _, _ => by simp at h
  | _ :: _, [], _, h, _, _, _ => by simp at h
  | _ :: _, _ :: _, [], _, h, _, _ => by simp at h
  | x :: l, y :: m, z :: n, h1, h2, h3, h4 => by
    have ih := lex_lt l m n (by simpa using h1) (by simpa using h2)
    simp only [zipC] at h3 h4 ⊢
    rcases cmpI_cases x y with ⟨a1, e1⟩ | ⟨a1, e1⟩ | ⟨a1, e1⟩
    · rw [or_cons1 _ (by omega)] at h3
      rcases cmpI_cases y z with ⟨a2, e2⟩ | ⟨a2, e2⟩ | ⟨a2, e2⟩
      · rcases cmpI_cases x z with ⟨a3, e3⟩ | ⟨a3, e3⟩ | ⟨a3, e3⟩
        · rw [or_cons1 _ (by omega)]; omega
        · omega
        · omega
      · rcases cmpI_cases x z with ⟨a3, e3⟩ | ⟨a3, e3⟩ | ⟨a3, e3⟩
        · rw [or_cons1 _ (by omega)]; omega
        · omega
        · omega
      · rw [or_cons1 _ (by omega)] at h4; omega
    · rw [or_cons0 _ e1] at h3
      rcases cmpI_cases y z with ⟨a2, e2⟩ | ⟨a2, e2⟩ | ⟨a2, e2⟩
      · rcases cmpI_cases x z with ⟨a3, e3⟩ | ⟨a3, e3⟩ | ⟨a3, e3⟩
        · rw [or_cons1 _ (by omega)]; omega
        · omega
        · omega
      · rw [or_cons0 _ e2] at h4
        rcases cmpI_cases x z with ⟨a3, e3⟩ | ⟨a3, e3⟩ | ⟨a3, e3⟩
        · rw [or_cons1 _ (by omega)]; omega
        · rw [or_cons0 _ e3]; exact ih h3 h4
        · omega
      · rw [or_cons1 _ (by omega)] at h4; omega
    · rw [or_cons1 _ (by omega)] at h3; omega
theorem rowP_inj {p q : Px} (h : rowP p = rowP q) : p = q := by
  unfold rowP at h
  simp only [List.cons_append, List.cons.injEq] at h
  have hl : (p.a.b.l.map Int.ofNat).length = (q.a.b.l.map Int.ofNat).length := by simp [p.a.b.len, q.a.b.len]
  have h2 := List.append_inj h.2 hl
  have h3 : p.a.b.l = q.a.b.l := (List.map_inj_right (fun a b h => Int.ofNat.inj h)).1 h2.1
  exact Px.same.2 ⟨Ad.same.2 ⟨h.1, B16.same h3⟩, by simpa using h2.2⟩
theorem cmpP_zero (p q : Px) : cmpP p q = 0 ↔ p = q := by
  rw [← or_rows, lex_zero _ _ (by rw [rowP_len, rowP_len])]
  exact ⟨rowP_inj, fun h => by rw [h]⟩
theorem cmpP_neg (p q : Px) : cmpP p q = - cmpP q p := by rw [← or_rows, ← or_rows]; exact lex_neg _ _
theorem cmpP_three (p q : Px) : cmpP p q = -1 ∨ cmpP p q = 0 ∨ cmpP p q = 1 := by rw [← or_rows]; exact lex_three _ _
theorem cmpP_lt (p q r : Px) : cmpP p q < 0 → cmpP q r < 0 → cmpP p r < 0 := by
  rw [← or_rows, ← or_rows, ← or_rows]
  exact lex_lt _ _ _ (by rw [rowP_len, rowP_len]) (by rw [rowP_len, rowP_len])
theorem cmpB_le : ∀ (l m : List Nat), l.length = m.length → (∀ i, i < l.length → l.getD i 0 ≤ m.getD i 0) → cmpB l m ≤ 0
  | [], [], _, _ => by simp [cmpB]
  | [], _ :: _, h, _ => by simp at h
  | _ :: _, [], h, _ => by simp at h
  | a :: l, b :: m, h, hi => by
    have h0 := hi 0 (by simp)
    simp only [List.getD_cons_zero] at h0
    have ih := cmpB_le l m (by simpa using h) (fun i hl => by
      have := hi (i + 1) (by simpa using hl)
      simpa only [List.getD_cons_succ] using this)
    simp only [cmpB]
    split
    · omega
    · split
      · omega
      · exact ih
theorem holds_refl {p : Px} (h : okP p) : holdsM p p := ⟨h, Int.le_refl _, h, h.1, rfl, ((kept_iff _ _).2 h.2.2.2).symm⟩
theorem holds_okP {p q : Px} (h : holdsM p q) : okP p ∧ okP q := ⟨h.2.2.1, h.1⟩
theorem holds_same {p q : Px} (h : holdsM p q) (k : holdsM q p) : p = q := by
  have hn : p.n = q.n := Int.le_antisymm h.2.1 k.2.1
  have h1 := h.2.2.2.2.2
  rw [hn, (kept_iff _ _).2 h.1.2.2.2] at h1
  exact Px.same.2 ⟨Ad.same.2 ⟨h.2.2.2.2.1, h1⟩, hn⟩
theorem holds_trans {p q r : Px} (h : holdsM p q) (k : holdsM q r) : holdsM p r := by
  have hp := okP_le h.2.2.1
  refine ⟨k.1, Int.le_trans h.2.1 k.2.1, h.2.2.1, k.1.1, h.2.2.2.2.1.trans k.2.2.2.2.1, ?_⟩
  have h1 := h.2.2.2.2.2
  rw [k.2.2.2.2.2, kept_kept _ (by have := h.2.1; omega)] at h1
  exact h1
theorem has_both {p q : Px} {a : Ad} (h : hasM p a) (k : hasM q a) : holdsM p q ∨ holdsM q p := by
  have key : ∀ {p q : Px}, hasM p a → hasM q a → p.n ≤ q.n → holdsM p q := fun {p q} h k hn => by
    refine ⟨k.1, hn, h.1, k.1.1, h.2.2.1.trans k.2.2.1.symm, ?_⟩
    rw [k.2.2.2, kept_kept _ (by omega)]
    exact h.2.2.2
  by_cases hn : p.n ≤ q.n
  · exact .inl (key h k hn)
  · exact .inr (key k h (by omega))
theorem holds_cmp {p q : Px} (h : holdsM p q) : cmpP p q ≤ 0 := by
  have h1 : cmpB p.a.b.l q.a.b.l ≤ 0 := by
    refine cmpB_le _ _ (by rw [p.a.b.len, q.a.b.len]) fun i hi => ?_
    have h2 : p.a.b.at i = keepN (q.a.b.at i) (stayN p.n.toNat i) := by
      have h3 := h.2.2.2.2.2
      have h4 := keptB_at q.a.b p.n.toNat i (by rw [← p.a.b.len]; exact hi)
      rw [← h3] at h4
      exact h4
    have h5 := keepN_le (q.a.b.at i) (stayN p.n.toNat i)
    rw [← h2] at h5
    exact h5
  have h2 : cmpI p.a.v q.a.v = 0 := by rw [h.2.2.2.2.1]; simp [cmpI]
  have h3 : cmpI p.n q.n ≤ 0 := by
    have := h.2.1
    rcases cmpI_cases p.n q.n with ⟨a, e⟩ | ⟨a, e⟩ | ⟨a, e⟩ <;> omega
  unfold cmpP
  rw [or_cons0 _ h2]
  by_cases h4 : cmpB p.a.b.l q.a.b.l = 0
  · rw [or_cons0 _ h4]
    by_cases h5 : cmpI p.n q.n = 0
    · rw [or_cons0 _ h5]; simp [orL]
    · rw [or_cons1 _ h5]; exact h3
  · rw [or_cons1 _ h4]; exact h1
end Go.Proofs.YtdbdmnahgkkjiaaDoor
