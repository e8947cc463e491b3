/-
  What a batch makes of a RIB, put in its place at once. Nothing here is a statement of the document.
-/
import Derived.Test.YtclkfmblogkakaaDoorRvA
namespace Go.Proofs.YtclkfmblogkakaaDoor
open Go.RowKit Go.Shelf
set_option linter.unusedVariables false
set_option maxRecDepth 100000
def ltQ (x y : Ro) : Prop := cmpR x y < 0
theorem cmpR_zero {x y : Ro} : cmpR x y = 0 ↔ x.p = y.p ∧ x.s = y.s := by
  constructor
  · intro h
    rw [cmpR_eq] at h
    by_cases e : cmpP x.p y.p = 0
    · rw [if_pos e] at h
      refine ⟨(cmpP_zero _ _).1 e, ?_⟩
      rcases cmpI_cases x.s y.s with k | k | k <;> omega
    · rw [if_neg e] at h; exact absurd h e
  · rintro ⟨h1, h2⟩; exact cmpR_same h1 h2
theorem ltQ_trans {x y z : Ro} (h : ltQ x y) (k : ltQ y z) : ltQ x z := cm_r.lt _ _ _ h k
theorem ltQ_irr {x y : Ro} (h : ltQ x y) (e : x = y) : False := by
  subst e
  unfold ltQ at h
  rw [cmpR_same rfl rfl] at h
  omega
theorem spk_zero {u : Up} {y : Ro} : spk u y ↔ cmpR (said u) y = 0 := by
  rw [cmpR_zero]; rfl
theorem Up2.pair {L : List Ro} : Up2 L ↔ L.Pairwise ltQ := by
  constructor
  · intro h
    rw [List.pairwise_iff_getElem]
    intro i j hi hj hij
    have := h.lt hij hj
    rw [rog_get hi, rog_get hj] at this
    exact this
  · intro h j hj
    have := (List.pairwise_iff_getElem.1 h) j (j + 1) (by omega) hj (by omega)
    rw [rog_get hj, rog_get (show j < L.length by omega)]
    exact this
theorem rise_ro : ∀ {L M : List Ro}, L.Pairwise ltQ → M.Pairwise ltQ → (∀ x, x ∈ L ↔ x ∈ M) → L = M
  | [], [], _, _, _ => rfl
  | [], y :: M, _, _, h => by have := (h y).2 (by simp); simp at this
  | x :: L, [], _, _, h => by have := (h x).1 (by simp); simp at this
  | x :: L, y :: M, h1, h2, h => by
    have g1 := List.pairwise_cons.1 h1
    have g2 := List.pairwise_cons.1 h2
    have e : x = y := by
      rcases List.mem_cons.1 ((h x).1 (by simp)) with k | k
      · exact k
      · rcases List.mem_cons.1 ((h y).2 (by simp)) with l | l
        · exact l.symm
        · exact absurd rfl (fun e => ltQ_irr (ltQ_trans (g1.1 y l) (g2.1 x k)) e)
    subst e
    congr 1
    refine rise_ro g1.2 g2.2 fun z => ?_
    constructor
    · intro hz
      rcases List.mem_cons.1 ((h z).1 (by simp [hz])) with k | k
      · exact absurd k.symm (fun e => ltQ_irr (g1.1 z hz) e)
      · exact k
    · intro hz
      rcases List.mem_cons.1 ((h z).2 (by simp [hz])) with k | k
      · exact absurd k.symm (fun e => ltQ_irr (g2.1 z hz) e)
      · exact k
/-- What stands behind the first k candidates: what is put together, whether the new one stands in it, whether there was one in its stead. -/
noncomputable def insK (L : List Ro) (u : Up) : Nat → List Ro × Bool × Bool
  | 0 => ([], u.g, false)
  | k + 1 => if spk u (rog L k) then ((insK L u k).1, (insK L u k).2.1, true)
    else if (insK L u k).2.1 = false ∧ cmpR (said u) (rog L k) < 0 then ((insK L u k).1 ++ [said u] ++ [rog L k], true, (insK L u k).2.2)
    else ((insK L u k).1 ++ [rog L k], (insK L u k).2.1, (insK L u k).2.2)
noncomputable def insR (L : List Ro) (u : Up) : List Ro := if (insK L u L.length).2.1 = false then (insK L u L.length).1 ++ [said u] else (insK L u L.length).1
noncomputable def hadL (L : List Ro) (u : Up) : Bool := (insK L u L.length).2.2
theorem insK_len (L : List Ro) (u : Up) : ∀ k, (insK L u k).1.length + (if (insK L u k).2.1 = false then 1 else 0) ≤ k + 1
  | 0 => by cases h : u.g <;> simp [insK, h]
  | k + 1 => by
    have ih := insK_len L u k
    rw [insK]
    split
    · simp only; omega
    · split
      · rename_i h; rw [if_pos h.1] at ih; simp; omega
      · simp only [List.length_append, List.length_cons, List.length_nil]; omega
theorem insR_len (L : List Ro) (u : Up) : (insR L u).length ≤ L.length + 1 := by
  have := insK_len L u L.length
  unfold insR
  split
  · rename_i h; rw [if_pos h] at this; simp; omega
  · omega
theorem had_iff (L : List Ro) (u : Up) : ∀ k, (insK L u k).2.2 = true ↔ ∃ j, j < k ∧ spk u (rog L j)
  | 0 => by simp [insK]
  | k + 1 => by
    have ih := had_iff L u k
    by_cases h : spk u (rog L k)
    · rw [insK, if_pos h]
      exact ⟨fun _ => ⟨k, by omega, h⟩, fun _ => rfl⟩
    · have e : (insK L u (k + 1)).2.2 = (insK L u k).2.2 := by
        rw [insK, if_neg h]; split <;> rfl
      rw [e, ih]
      constructor
      · rintro ⟨j, h1, h2⟩; exact ⟨j, by omega, h2⟩
      · rintro ⟨j, h1, h2⟩
        refine ⟨j, ?_, h2⟩
        by_cases e2 : j = k
        · subst e2; exact absurd h2 h
        · omega
structure InsOk (L : List Ro) (u : Up) (k : Nat) : Prop where
  rise : (insK L u k).1.Pairwise ltQ
  mem : ∀ x, x ∈ (insK L u k).1 ↔ ((∃ j, j < k ∧ rog L j = x) ∧ ¬ spk u x) ∨ ((insK L u k).2.1 = true ∧ u.g = false ∧ x = said u)
  low : (insK L u k).2.1 = false → ∀ x ∈ (insK L u k).1, ltQ x (said u)
  next : ∀ x ∈ (insK L u k).1, ∀ j, k ≤ j → j < L.length → ltQ x (rog L j)
  some : (insK L u k).2.1 = false → u.g = false
theorem ins_ok {L : List Ro} (hL : Up2 L) (u : Up) : ∀ k, k ≤ L.length → InsOk L u k
  | 0, _ => by
    refine ⟨List.Pairwise.nil, fun x => ?_, fun _ x hx => by simp [insK] at hx, fun x hx => by simp [insK] at hx, fun e => by simpa [insK] using e⟩
    simp [insK]
    intro e1 e2
    rw [e1] at e2; cases e2
  | k + 1, hk => by
    have ih := ins_ok hL u k (by omega)
    have hkl : k < L.length := by omega
    by_cases h1 : spk u (rog L k)
    · have e : (insK L u (k + 1)).1 = (insK L u k).1 := by rw [insK, if_pos h1]
      have e2 : (insK L u (k + 1)).2.1 = (insK L u k).2.1 := by rw [insK, if_pos h1]
      refine ⟨by rw [e]; exact ih.rise, fun x => ?_, by rw [e, e2]; exact ih.low, fun x hx j hj hjl => ih.next x (by rw [e] at hx; exact hx) j (by omega) hjl, by rw [e2]; exact ih.some⟩
      rw [e, e2, ih.mem]
      constructor
      · rintro (⟨⟨j, hj, hx⟩, hp⟩ | h2)
        · exact .inl ⟨⟨j, by omega, hx⟩, hp⟩
        · exact .inr h2
      · rintro (⟨⟨j, hj, hx⟩, hp⟩ | h2)
        · refine .inl ⟨⟨j, ?_, hx⟩, hp⟩
          by_cases ej : j = k
          · rw [ej] at hx; rw [← hx] at hp; exact absurd h1 hp
          · omega
        · exact .inr h2
    · have hlater : ∀ j, k + 1 ≤ j → j < L.length → ltQ (rog L k) (rog L j) := fun j hj hjl => hL.lt (by omega) hjl
      by_cases h2 : (insK L u k).2.1 = false ∧ cmpR (said u) (rog L k) < 0
      · have e : insK L u (k + 1) = ((insK L u k).1 ++ [said u] ++ [rog L k], true, (insK L u k).2.2) := by rw [insK, if_neg h1, if_pos h2]
        have hP : ltQ (said u) (rog L k) := h2.2
        refine ⟨?_, fun x => ?_, fun h9 => (by rw [e] at h9; cases h9), fun x hx j hj hjl => ?_, fun h9 => (by rw [e] at h9; cases h9)⟩
        · rw [e]
          simp only [List.append_assoc, List.pairwise_append, List.pairwise_cons, List.cons_append, List.nil_append]
          refine ⟨ih.rise, ⟨by simpa using hP, by simp, List.Pairwise.nil⟩, fun x hx y hy => ?_⟩
          rcases List.mem_cons.1 hy with e9 | hy
          · rw [e9]; exact ih.low h2.1 x hx
          · have e9 : y = rog L k := by simpa using hy
            rw [e9]; exact ih.next x hx k (Nat.le_refl _) hkl
        · rw [e]
          simp only [List.append_assoc, List.mem_append, List.mem_cons, List.cons_append, List.nil_append, List.not_mem_nil, or_false, true_and]
          rw [ih.mem]
          constructor
          · rintro ((⟨⟨j, hj, hx⟩, hp⟩ | ⟨_, q2, q3⟩) | hx | hx)
            · exact .inl ⟨⟨j, by omega, hx⟩, hp⟩
            · exact .inr ⟨q2, q3⟩
            · exact .inr ⟨ih.some h2.1, hx⟩
            · exact .inl ⟨⟨k, by omega, hx.symm⟩, by rw [hx]; exact h1⟩
          · rintro (⟨⟨j, hj, hx⟩, hp⟩ | ⟨q2, q3⟩)
            · by_cases ej : j = k
              · exact .inr (.inr (by rw [← hx, ej]))
              · exact .inl (.inl ⟨⟨j, by omega, hx⟩, hp⟩)
            · exact .inr (.inl q3)
        · rw [e] at hx
          simp only [List.append_assoc, List.mem_append, List.mem_cons, List.cons_append, List.nil_append, List.not_mem_nil, or_false] at hx
          rcases hx with hx | hx | hx
          · exact ih.next x hx j (by omega) hjl
          · rw [hx]; exact ltQ_trans hP (hlater j hj hjl)
          · rw [hx]; exact hlater j hj hjl
      · have e : insK L u (k + 1) = ((insK L u k).1 ++ [rog L k], (insK L u k).2.1, (insK L u k).2.2) := by rw [insK, if_neg h1, if_neg h2]
        refine ⟨?_, fun x => ?_, fun h9 x hx => ?_, fun x hx j hj hjl => ?_, fun h9 => ih.some (by rw [e] at h9; exact h9)⟩
        · rw [e]
          simp only [List.pairwise_append, List.pairwise_cons]
          exact ⟨ih.rise, ⟨by simp, List.Pairwise.nil⟩, fun x hx y hy => by
            have e9 : y = rog L k := by simpa using hy
            rw [e9]; exact ih.next x hx k (Nat.le_refl _) hkl⟩
        · rw [e]
          simp only [List.mem_append, List.mem_singleton]
          rw [ih.mem]
          constructor
          · rintro ((⟨⟨j, hj, hx⟩, hp⟩ | q) | hx)
            · exact .inl ⟨⟨j, by omega, hx⟩, hp⟩
            · exact .inr q
            · exact .inl ⟨⟨k, by omega, hx.symm⟩, by rw [hx]; exact h1⟩
          · rintro (⟨⟨j, hj, hx⟩, hp⟩ | q)
            · by_cases ej : j = k
              · exact .inr (by rw [← hx, ej])
              · exact .inl (.inl ⟨⟨j, by omega, hx⟩, hp⟩)
            · exact .inl (.inr q)
        · rw [e] at hx h9
          simp only [List.mem_append, List.mem_singleton] at hx
          rcases hx with hx | hx
          · exact ih.low h9 x hx
          · rw [hx]
            have c1 : ¬ cmpR (said u) (rog L k) < 0 := fun c => h2 ⟨h9, c⟩
            have c2 : cmpR (said u) (rog L k) ≠ 0 := fun c => h1 (spk_zero.2 c)
            have c3 := cm_r.flip (rog L k) (said u)
            show cmpR (rog L k) (said u) < 0
            omega
        · rw [e] at hx
          simp only [List.mem_append, List.mem_singleton] at hx
          rcases hx with hx | hx
          · exact ih.next x hx j (by omega) hjl
          · rw [hx]; exact hlater j hj hjl
theorem insR_spec {L : List Ro} (hL : Up2 L) (u : Up) : Up2 (insR L u) ∧ ∀ x, x ∈ insR L u ↔ (x ∈ L ∧ ¬ spk u x) ∨ (u.g = false ∧ x = said u) := by
  have ih := ins_ok hL u L.length (Nat.le_refl _)
  have hm : ∀ x, (∃ j, j < L.length ∧ rog L j = x) ↔ x ∈ L := fun x => ⟨fun ⟨j, hj, hx⟩ => by rw [← hx]; exact rog_mem hj, mem_rog⟩
  rw [Up2.pair]
  unfold insR
  by_cases h1 : (insK L u L.length).2.1 = false
  · rw [if_pos h1]
    refine ⟨?_, fun x => ?_⟩
    · simp only [List.pairwise_append, List.pairwise_cons]
      exact ⟨ih.rise, ⟨by simp, List.Pairwise.nil⟩, fun x hx y hy => by
        have e9 : y = said u := by simpa using hy
        rw [e9]; exact ih.low h1 x hx⟩
    · simp only [List.mem_append, List.mem_singleton]
      rw [ih.mem, hm, h1]
      constructor
      · rintro ((q | ⟨q, _⟩) | q)
        · exact .inl q
        · cases q
        · exact .inr ⟨ih.some h1, q⟩
      · rintro (q | ⟨_, q⟩)
        · exact .inl (.inl q)
        · exact .inr q
  · have h2 : (insK L u L.length).2.1 = true := by simpa using h1
    rw [if_neg h1]
    refine ⟨ih.rise, fun x => ?_⟩
    rw [ih.mem, hm, h2]
    simp
/-- The same candidates, each once. -/
structure Alike (M N : List Ro) : Prop where
  mem : ∀ x, x ∈ M ↔ x ∈ N
  one : One M
  up : Up2 N
theorem One.nodup {M : List Ro} (h : One M) : M.Nodup := by
  rw [List.nodup_iff_pairwise_ne, List.pairwise_iff_getElem]
  intro i j hi hj hij e
  have := h i j hi hj (by rw [rog_get hi, rog_get hj, e]) (by rw [rog_get hi, rog_get hj, e])
  omega
theorem alike_had {M N : List Ro} (h : Alike M N) (u : Up) : hadL N u = true ↔ spotF u M < M.length := by
  rw [hadL, had_iff]
  constructor
  · rintro ⟨j, hj, hs⟩
    obtain ⟨i, hi, e⟩ := mem_rog ((h.mem _).2 (rog_mem hj))
    refine Classical.byContradiction fun k => ?_
    have := spotF_ahead (u := u) (L := M) (j := i) (by omega)
    rw [e] at this
    exact this hs
  · intro k
    obtain ⟨j, hj, e⟩ := mem_rog ((h.mem _).1 (rog_mem k))
    exact ⟨j, hj, by rw [e]; exact spotF_at k⟩
theorem rest_mem {M : List Ro} (h : One M) (u : Up) (x : Ro) : x ∈ rest1 M u ↔ x ∈ M ∧ ¬ spk u x := by
  by_cases k : spotF u M < M.length
  · have hs := spotF_at k
    rw [rest1, if_pos k, List.mem_eraseIdx_iff_getElem]
    constructor
    · rintro ⟨j, hj, hne, e⟩
      refine ⟨by rw [← e]; exact List.getElem_mem hj, fun hx => hne ?_⟩
      rw [← e, ← rog_get hj] at hx
      exact h _ _ hj k (hx.1.symm.trans hs.1) (hx.2.symm.trans hs.2)
    · rintro ⟨hx, hn⟩
      obtain ⟨j, hj, e⟩ := mem_rog hx
      refine ⟨j, hj, fun e2 => hn ?_, by rw [← rog_get hj]; exact e⟩
      rw [← e, e2]; exact hs
  · rw [rest1, if_neg k]
    refine ⟨fun hx => ⟨hx, fun hs => ?_⟩, fun hx => hx.1⟩
    obtain ⟨j, hj, e⟩ := mem_rog hx
    have := spotF_ahead (u := u) (L := M) (j := j) (by omega)
    rw [e] at this
    exact this hs
theorem one_pair {M : List Ro} : One M ↔ M.Pairwise fun x y => ¬ (x.p = y.p ∧ x.s = y.s) := by
  rw [List.pairwise_iff_getElem]
  constructor
  · intro h i j hi hj hij ⟨e1, e2⟩
    have := h i j hi hj (by rw [rog_get hi, rog_get hj]; exact e1) (by rw [rog_get hi, rog_get hj]; exact e2)
    omega
  · intro h i j hi hj e1 e2
    rw [rog_get hi, rog_get hj] at e1 e2
    rcases Nat.lt_trichotomy i j with k | k | k
    · exact absurd ⟨e1, e2⟩ (h i j hi hj k)
    · exact k
    · exact absurd ⟨e1.symm, e2.symm⟩ (h j i hj hi k)
theorem alike_step {M N : List Ro} (h : Alike M N) (u : Up) : Alike (stepL M u) (insR N u) := by
  obtain ⟨q1, q2⟩ := insR_spec h.up u
  have r1 : One (rest1 M u) := by
    rw [rest1]
    split
    · exact one_pair.2 ((one_pair.1 h.one).sublist (List.eraseIdx_sublist _ _))
    · exact h.one
  refine ⟨fun x => ?_, ?_, q1⟩
  · rw [q2, stepL]
    split
    · rename_i hg
      rw [rest_mem h.one, h.mem]
      exact ⟨fun k => .inl k, fun k => k.resolve_right fun k2 => by rw [hg] at k2; cases k2.1⟩
    · rename_i hg
      rw [List.mem_append, rest_mem h.one, h.mem, List.mem_singleton]
      exact ⟨fun k => k.imp id fun k2 => ⟨by simpa using hg, k2⟩, fun k => k.imp id fun k2 => k2.2⟩
  · rw [stepL]
    split
    · exact r1
    · rw [one_pair, List.pairwise_append]
      refine ⟨one_pair.1 r1, by simp, fun x hx y hy => ?_⟩
      have hy2 : y = said u := by simpa using hy
      subst hy2
      rintro ⟨e1, e2⟩
      exact ((rest_mem h.one u x).1 hx).2 ⟨e1.symm, e2.symm⟩
theorem alike_self {L : List Ro} (h : Up2 L) : Alike L L := ⟨fun _ => Iff.rfl, h.uniq, h⟩
theorem alike_sorted {D S N : List Ro} (h : Alike D N) (hS : Sorted cmpR D S) : S = N := by
  refine rise_ro ?_ (Up2.pair.1 h.up) fun x => (hS.1.mem_iff).trans (h.mem x)
  have hl : S.length = D.length := hS.1.length_eq
  have ho : S.Pairwise fun x y => ¬ (x.p = y.p ∧ x.s = y.s) := (one_pair.1 h.one).perm hS.1.symm fun k e => k ⟨e.1.symm, e.2.symm⟩
  rw [List.pairwise_iff_getElem] at ho ⊢
  intro i j hi hj hij
  have h1 := hS.2 i j hij (by omega)
  rw [rog_get hi, rog_get hj] at h1
  have h2 : cmpR S[i] S[j] ≠ 0 := fun e => ho i j hi hj hij (cmpR_zero.1 e)
  show cmpR S[i] S[j] < 0
  omega
/-- What the document's words make of it. -/
noncomputable def runI : List Ro → List Up → Option (List Ro)
  | M, [] => some M
  | M, u :: U => open Classical in if u.g = true ∧ hadL M u = false then none else runI (insR M u) U
theorem run_same : ∀ (U : List Up) {M N : List Ro}, Alike M N → (runU M U = none ↔ runI N U = none) ∧ ∀ D, runU M U = some D → ∃ E, runI N U = some E ∧ Alike D E
  | [], M, N, h => ⟨by simp [runU, runI], fun D e => ⟨N, rfl, by cases e; exact h⟩⟩
  | u :: U, M, N, h => by
    have ih := run_same U (alike_step h u)
    have hh := alike_had h u
    by_cases k : badU M u
    · have k2 : u.g = true ∧ hadL N u = false := ⟨k.1, by cases e : hadL N u with
        | false => rfl
        | true => exact absurd (hh.1 e) k.2⟩
      rw [runU, if_pos k, runI, if_pos k2]
      exact ⟨by simp, fun D e => by cases e⟩
    · have k2 : ¬ (u.g = true ∧ hadL N u = false) := fun q => k ⟨q.1, fun e => by rw [hh.2 e] at q; cases q.2⟩
      rw [runU, if_neg k, runI, if_neg k2]
      exact ih
/-- What a batch makes of a RIB by the document's words, and the error. -/
inductive AppI (L : List Ro) (U : List Up) : List Ro → Int → Prop
  | rib : ¬ okRib L → AppI L U [] 211
  | bat : okRib L → ¬ okBat U → AppI L U [] 210
  | gone : okRib L → okBat U → runI L U = none → AppI L U [] 4
  | full {D : List Ro} : okRib L → okBat U → runI L U = some D → ¬ disN D D.length ≤ 40 → AppI L U [] 6
  | good {D : List Ro} : okRib L → okBat U → runI L U = some D → disN D D.length ≤ 40 → AppI L U D 0
theorem app_same {L M N : List Ro} {U : List Up} {e f : Int} (h : AppR L U M e) (k : AppI L U N f) : M = N ∧ e = f := by
  cases h with
  | rib h1 => cases k with
    | rib k1 => exact ⟨rfl, rfl⟩
    | bat k1 => exact absurd k1 h1
    | gone k1 => exact absurd k1 h1
    | full k1 => exact absurd k1 h1
    | good k1 => exact absurd k1 h1
  | bat h1 h2 => cases k with
    | rib k1 => exact absurd h1 k1
    | bat k1 => exact ⟨rfl, rfl⟩
    | gone _ k1 => exact absurd k1 h2
    | full _ k1 => exact absurd k1 h2
    | good _ k1 => exact absurd k1 h2
  | gone h1 h2 h3 =>
    have hr := run_same U (alike_self h1.2.1)
    cases k with
    | rib k1 => exact absurd h1 k1
    | bat _ k1 => exact absurd h2 k1
    | gone => exact ⟨rfl, rfl⟩
    | full _ _ k1 => rw [hr.1.1 h3] at k1; cases k1
    | good _ _ k1 => rw [hr.1.1 h3] at k1; cases k1
  | full h1 h2 h3 h4 h5 =>
    obtain ⟨E, e1, e2⟩ := (run_same U (alike_self h1.2.1)).2 _ h3
    cases k with
    | rib k1 => exact absurd h1 k1
    | bat _ k1 => exact absurd h2 k1
    | gone _ _ k1 => rw [e1] at k1; cases k1
    | full => exact ⟨rfl, rfl⟩
    | good _ _ k1 k2 =>
      rw [e1] at k1; cases k1
      have := alike_sorted e2 h4
      subst this
      rw [Up2.count e2.up _ (Nat.le_refl _)] at k2
      exact absurd k2 h5
  | good h1 h2 h3 h4 h5 =>
    obtain ⟨E, e1, e2⟩ := (run_same U (alike_self h1.2.1)).2 _ h3
    cases k with
    | rib k1 => exact absurd h1 k1
    | bat _ k1 => exact absurd h2 k1
    | gone _ _ k1 => rw [e1] at k1; cases k1
    | full _ _ k1 k2 =>
      rw [e1] at k1; cases k1
      have := alike_sorted e2 h4
      subst this
      rw [Up2.count e2.up _ (Nat.le_refl _)] at k2
      exact absurd h5 k2
    | good _ _ k1 k2 =>
      rw [e1] at k1; cases k1
      exact ⟨alike_sorted e2 h4, rfl⟩
end Go.Proofs.YtclkfmblogkakaaDoor
