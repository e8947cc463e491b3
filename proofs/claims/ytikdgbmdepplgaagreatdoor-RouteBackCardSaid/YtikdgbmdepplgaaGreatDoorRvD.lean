/-
  The contract of the reference's Apply. Nothing here is a statement of the document.
-/
import Derived.Test.YtikdgbmdepplgaaGreatDoorRtV
import Derived.Test.YtikdgbmdepplgaaGreatDoorTbS
namespace Go.Proofs.YtikdgbmdepplgaaGreatDoor
open Go.RowKit Go.Shelf
set_option linter.unusedVariables false
set_option maxRecDepth 100000
/-- The one is as good as the other. -/
def asGood (x y : Ro) : Prop := y.f < x.f ∨ (y.f = x.f ∧ x.s ≤ y.s)
theorem asGood.refl (x : Ro) : asGood x x := .inr ⟨rfl, Int.le_refl _⟩
/-- The rows are the best of each prefix, of those that Q tells. -/
structure BI (L : List Ro) (T : List Rt) (Q : Nat → Prop) : Prop where
  rise : T.Pairwise ltR
  mem : ∀ x, x ∈ T ↔ ∃ j, j < L.length ∧ Q j ∧ x = roRow (rog L j) ∧ ∀ i, i < L.length → Q i → (rog L i).p = (rog L j).p → asGood (rog L j) (rog L i)
/-- No two are of one prefix and one source. -/
def One (L : List Ro) : Prop := ∀ i j, i < L.length → j < L.length → (rog L i).p = (rog L j).p → (rog L i).s = (rog L j).s → i = j
theorem cmpR_same {x y : Ro} (hp : x.p = y.p) (hs : x.s = y.s) : cmpR x y = 0 := by
  rw [cmpR_eq, hp, hs, if_pos ((cmpP_zero _ _).2 rfl)]
  rcases cmpI_cases y.s y.s with h | h | h
  · omega
  · exact h.2
  · omega
theorem Up2.uniq {L : List Ro} (h : Up2 L) : One L := fun i j hi hj hp hs => by
  rcases Nat.lt_trichotomy i j with k | k | k
  · have := h.lt k hj; rw [cmpR_same hp hs] at this; omega
  · exact k
  · have := h.lt k hi; rw [cmpR_same hp.symm hs.symm] at this; omega
theorem BI.none (L : List Ro) {Q : Nat → Prop} (h : ∀ j, j < L.length → ¬ Q j) : BI L [] Q :=
  ⟨List.Pairwise.nil, fun x => ⟨fun hx => (by simp at hx), fun ⟨j, hj, hq, _⟩ => absurd hq (h j hj)⟩⟩
theorem BI.congr {L : List Ro} {T : List Rt} {Q Q' : Nat → Prop} (h : BI L T Q) (k : ∀ j, j < L.length → (Q j ↔ Q' j)) : BI L T Q' :=
  ⟨h.rise, fun x => (h.mem x).trans ⟨fun ⟨j, hj, hq, e, hb⟩ => ⟨j, hj, (k j hj).1 hq, e, fun i hi qi => hb i hi ((k i hi).2 qi)⟩, fun ⟨j, hj, hq, e, hb⟩ => ⟨j, hj, (k j hj).2 hq, e, fun i hi qi => hb i hi ((k i hi).1 qi)⟩⟩⟩
theorem BI.eq {L : List Ro} {T U : List Rt} {Q : Nat → Prop} (h : BI L T Q) (k : BI L U Q) : T = U :=
  rise_eq h.rise k.rise fun x => (h.mem x).trans (k.mem x).symm
theorem BI.put {L : List Ro} {T : List Rt} {Q : Nat → Prop} (h : BI L T Q) (hL : One L) {k : Nat} (hk : k < L.length) (hb : ∀ i, i < L.length → Q i → asGood (rog L k) (rog L i)) (hh : (rog L k).h ≠ 0) :
    BI L (putL T (rog L k).p (rog L k).h) (fun i => Q i ∨ i = k) := by
  obtain ⟨q1, q2⟩ := putL_spec h.rise (rog L k).p (rog L k).h
  refine ⟨q1, fun x => ?_⟩
  rw [q2, h.mem]
  constructor
  · rintro (⟨⟨j, hj, hq, rfl, hg⟩, hp⟩ | ⟨_, rfl⟩)
    · refine ⟨j, hj, .inl hq, rfl, fun i hi qi e => ?_⟩
      rcases qi with qi | rfl
      · exact hg i hi qi e
      · exact absurd e.symm hp
    · refine ⟨k, hk, .inr rfl, rfl, fun i hi qi e => ?_⟩
      rcases qi with qi | rfl
      · exact hb i hi qi
      · exact asGood.refl _
  · rintro ⟨j, hj, hq, rfl, hg⟩
    by_cases hjk : j = k
    · subst hjk; exact .inr ⟨hh, rfl⟩
    · have hqj : Q j := hq.resolve_right hjk
      refine .inl ⟨⟨j, hj, hqj, rfl, fun i hi qi e => hg i hi (.inl qi) e⟩, fun (e : (rog L j).p = (rog L k).p) => hjk ?_⟩
      have h1 := hg k hk (.inr rfl) e.symm
      have h2 := hb j hj hqj
      refine hL j k hj hk e ?_
      unfold asGood at h1 h2
      omega
theorem nodup_len : ∀ (A B : List Px), A.Nodup → (∀ x ∈ A, x ∈ B) → A.length ≤ B.length
  | [], B, _, _ => Nat.zero_le _
  | a :: A, B, h, k => by
    obtain ⟨s, t, rfl⟩ := List.append_of_mem (k a (by simp))
    have h2 := List.nodup_cons.1 h
    have := nodup_len A (s ++ t) h2.2 fun x hx => by
      have := k x (List.mem_cons_of_mem _ hx)
      simp only [List.mem_append, List.mem_cons] at this ⊢
      rcases this with q | q | q
      · exact .inl q
      · exact absurd (q ▸ hx) h2.1
      · exact .inr q
    simp only [List.length_append, List.length_cons] at this ⊢
    omega
theorem fstN_mem {L : List Ro} : ∀ m, m ≤ L.length → ∀ j, j < m → ∃ x ∈ fstN L m, x.p = (rog L j).p
  | 0, _, j, hj => absurd hj (Nat.not_lt_zero _)
  | m + 1, hm, j, hj => by
    by_cases k : m = 0 ∨ (rog L m).p ≠ (rog L (m - 1)).p
    · rw [fstN_new k]
      by_cases e : j = m
      · exact ⟨rog L m, by simp, by rw [e]⟩
      · obtain ⟨x, hx, h⟩ := fstN_mem (L := L) m (by omega) j (by omega)
        exact ⟨x, by simp [hx], h⟩
    · have k1 : m ≠ 0 := fun e => k (.inl e)
      have k2 : (rog L m).p = (rog L (m - 1)).p := Classical.not_not.1 fun e => k (.inr e)
      rw [fstN_old k1 k2]
      by_cases e : j = m
      · rw [e, k2]; exact fstN_mem (L := L) m (by omega) (m - 1) (by omega)
      · exact fstN_mem (L := L) m (by omega) j (by omega)
theorem ltR_ne {x y : Rt} (h : ltR x y) : x.p ≠ y.p := fun e => by
  unfold ltR at h
  rw [e, (cmpP_zero _ _).2 rfl] at h
  omega
theorem BI.len {L : List Ro} {T : List Rt} {Q : Nat → Prop} (h : BI L T Q) : T.length ≤ (fstL L).length := by
  have := nodup_len (T.map Rt.p) ((fstL L).map Ro.p) (by
    rw [List.nodup_iff_pairwise_ne, List.pairwise_map]
    exact h.rise.imp ltR_ne) fun x hx => by
    obtain ⟨r, hr, rfl⟩ := List.mem_map.1 hx
    obtain ⟨j, hj, _, rfl, _⟩ := (h.mem r).1 hr
    obtain ⟨y, hy, e⟩ := fstN_mem L.length (Nat.le_refl _) j hj
    exact List.mem_map.2 ⟨y, hy, e⟩
  simpa using this

/-! ### The first ones of candidates, the best ahead -/
theorem fstN_at {L : List Ro} : ∀ m, m ≤ L.length → ∀ x, x ∈ fstN L m ↔ ∃ j, j < m ∧ x = rog L j ∧ (j = 0 ∨ (rog L j).p ≠ (rog L (j - 1)).p)
  | 0, _, x => by simp [fstN]
  | m + 1, hm, x => by
    have ih := fstN_at (L := L) m (by omega) x
    by_cases k : m = 0 ∨ (rog L m).p ≠ (rog L (m - 1)).p
    · rw [fstN_new k, List.mem_append, ih, List.mem_singleton]
      constructor
      · rintro (⟨j, h1, h2⟩ | h)
        · exact ⟨j, by omega, h2⟩
        · exact ⟨m, by omega, h, k⟩
      · rintro ⟨j, h1, h2⟩
        by_cases e : j = m
        · subst e; exact .inr h2.1
        · exact .inl ⟨j, by omega, h2⟩
    · have k1 : m ≠ 0 := fun e => k (.inl e)
      have k2 : (rog L m).p = (rog L (m - 1)).p := Classical.not_not.1 fun e => k (.inr e)
      rw [fstN_old k1 k2, ih]
      constructor
      · rintro ⟨j, h1, h2⟩
        exact ⟨j, by omega, h2⟩
      · rintro ⟨j, h1, h2⟩
        refine ⟨j, ?_, h2⟩
        by_cases e : j = m
        · subst e; exact absurd h2.2 k
        · omega
theorem cmpB_le1 {x y : Ro} (h : cmpB1 x y ≤ 0) : cmpP x.p y.p ≤ 0 := by
  rw [cmpB1_eq] at h
  by_cases e : cmpP x.p y.p = 0
  · omega
  · rw [if_neg e] at h; omega
theorem cmpB_good {x y : Ro} (hp : x.p = y.p) : cmpB1 x y ≤ 0 ↔ asGood x y := by
  rw [cmpB1_eq, hp, if_pos ((cmpP_zero _ _).2 rfl)]
  unfold asGood
  rcases cmpI_cases y.f x.f with h | h | h
  · rw [if_neg (by omega)]; omega
  · rw [if_pos h.2]
    rcases cmpI_cases x.s y.s with k | k | k <;> omega
  · rw [if_neg (by omega)]; omega
/-- In order by that comparison. -/
def Ord (cf : Ro → Ro → Int) (S : List Ro) : Prop := ∀ i j, i < j → j < S.length → cf (rog S i) (rog S j) ≤ 0
theorem ord_run {S : List Ro} (h : Ord cmpB1 S) {i j : Nat} (hij : i < j) (hj : j < S.length) (e : (rog S i).p = (rog S j).p) : (rog S j).p = (rog S (j - 1)).p := by
  by_cases k : i = j - 1
  · rw [← k]; exact e.symm
  · have h1 := cmpB_le1 (h i (j - 1) (by omega) (by omega))
    have h2 := cmpB_le1 (h (j - 1) j (by omega) (by omega))
    rw [e] at h1
    have h3 := cmpP_neg (rog S j).p (rog S (j - 1)).p
    exact (cmpP_zero _ _).1 (by omega)
theorem ord_first {S : List Ro} (h : Ord cmpB1 S) {j : Nat} (hj : j < S.length) : (j = 0 ∨ (rog S j).p ≠ (rog S (j - 1)).p) ↔ ∀ i, i < j → (rog S i).p ≠ (rog S j).p := by
  constructor
  · rintro (h1 | h1) i hi e
    · omega
    · exact h1 (ord_run h hi hj e)
  · intro k
    by_cases e : j = 0
    · exact .inl e
    · exact .inr fun e2 => k (j - 1) (by omega) e2.symm
theorem ord_rise {S : List Ro} (h : Ord cmpB1 S) : ∀ m, m ≤ S.length → ((fstN S m).map roRow).Pairwise ltR
  | 0, _ => List.Pairwise.nil
  | m + 1, hm => by
    have ih := ord_rise h m (by omega)
    by_cases k : m = 0 ∨ (rog S m).p ≠ (rog S (m - 1)).p
    · rw [fstN_new k, List.map_append, List.pairwise_append]
      refine ⟨ih, by simp, fun x hx y hy => ?_⟩
      obtain ⟨r, hr, rfl⟩ := List.mem_map.1 hx
      obtain ⟨j, hj, rfl, _⟩ := (fstN_at m (by omega) r).1 hr
      have hy2 : y = roRow (rog S m) := by simpa using hy
      subst hy2
      have h1 := (ord_first h (by omega)).1 k j hj
      have h2 := cmpB_le1 (h j m hj (by omega))
      have h3 : cmpP (rog S j).p (rog S m).p ≠ 0 := fun e => h1 ((cmpP_zero _ _).1 e)
      show cmpP (rog S j).p (rog S m).p < 0
      omega
    · have k1 : m ≠ 0 := fun e => k (.inl e)
      have k2 : (rog S m).p = (rog S (m - 1)).p := Classical.not_not.1 fun e => k (.inr e)
      rw [fstN_old k1 k2]; exact ih
theorem mem_rog {L : List Ro} {x : Ro} (h : x ∈ L) : ∃ i, i < L.length ∧ rog L i = x := by
  obtain ⟨i, hi, e⟩ := List.getElem_of_mem h
  exact ⟨i, hi, by rw [rog_get hi]; exact e⟩
theorem BI.best {L S : List Ro} (hL : One L) (hS : Sorted cmpB1 L S) : BI L ((fstL S).map roRow) (fun _ => True) := by
  have hl : S.length = L.length := hS.1.length_eq
  have hO : Ord cmpB1 S := fun i j hi hj => hS.2 i j hi (by omega)
  refine ⟨ord_rise hO _ (Nat.le_refl _), fun x => ?_⟩
  rw [List.mem_map]
  constructor
  · rintro ⟨r, hr, rfl⟩
    obtain ⟨j, hj, rfl, hf⟩ := (fstN_at S.length (Nat.le_refl _) r).1 hr
    obtain ⟨q, hq, e⟩ := mem_rog (hS.1.mem_iff.1 (rog_mem hj))
    refine ⟨q, hq, trivial, by rw [e], fun i hi _ hp => ?_⟩
    obtain ⟨m, hm, e2⟩ := mem_rog (hS.1.mem_iff.2 (rog_mem hi))
    rw [e, ← e2] at hp ⊢
    by_cases hmj : m < j
    · exact absurd hp ((ord_first hO hj).1 hf m hmj)
    · by_cases e3 : m = j
      · rw [e3]; exact asGood.refl _
      · exact (cmpB_good hp.symm).1 (hO j m (by omega) hm)
  · rintro ⟨q, hq, _, rfl, hg⟩
    obtain ⟨m, hm, e⟩ := mem_rog (hS.1.mem_iff.2 (rog_mem hq))
    obtain ⟨r, hr, hp⟩ := fstN_mem S.length (Nat.le_refl _) m hm
    obtain ⟨j, hj, rfl, hf⟩ := (fstN_at S.length (Nat.le_refl _) r).1 hr
    refine ⟨rog S j, hr, ?_⟩
    obtain ⟨i, hi, e2⟩ := mem_rog (hS.1.mem_iff.1 (rog_mem hj))
    have h1 := hg i hi trivial (by rw [e2, hp, e])
    rw [e2, ← e] at h1
    by_cases e3 : m = j
    · rw [← e3, e]
    · have hjm : j < m := by
        rcases Nat.lt_or_ge m j with k | k
        · exact absurd hp.symm ((ord_first hO hj).1 hf m k)
        · omega
      have h2 := hO j m hjm hm
      have h3 : cmpB1 (rog S m) (rog S j) ≤ 0 := (cmpB_good hp.symm).2 h1
      have h4 := (cmpB_good hp).1 h2
      have h5 : (rog S j).s = (rog S m).s := by unfold asGood at h1 h4; omega
      have h6 := hL i q hi hq (by rw [e2, ← e]; exact hp) (by rw [e2, ← e]; exact h5)
      subst h6
      rw [e2]
end Go.Proofs.YtikdgbmdepplgaaGreatDoor
namespace Go.Proofs.YtikdgbmdepplgaaGreatDoor
open Go.RowKit Go.Shelf
set_option linter.unusedVariables false
set_option maxRecDepth 100000
def ltQ (x y : Ro) : Prop := cmpR x y < 0
theorem cmpR_zero {x y : Ro} : cmpR x y = 0 ↔ x.p = y.p ∧ x.s = y.s := by
  constructor
  · intro h
    rw [cmpR_eq] at h
    by_cases e : cmpP x.p y.p = 0
    · rw [if_pos e] at h
      refine ⟨(cmpP_zero _ _).1 e, ?_⟩
      rcases cmpI_cases x.s y.s with k | k | k <;> omega
    · rw [if_neg e] at h; exact absurd h e
  · rintro ⟨h1, h2⟩; exact cmpR_same h1 h2
theorem ltQ_trans {x y z : Ro} (h : ltQ x y) (k : ltQ y z) : ltQ x z := cm_r.lt _ _ _ h k
theorem ltQ_irr {x y : Ro} (h : ltQ x y) (e : x = y) : False := by
  subst e
  unfold ltQ at h
  rw [cmpR_same rfl rfl] at h
  omega
theorem spk_zero {u : Up} {y : Ro} : spk u y ↔ cmpR (said u) y = 0 := by
  rw [cmpR_zero]; rfl
theorem Up2.pair {L : List Ro} : Up2 L ↔ L.Pairwise ltQ := by
  constructor
  · intro h
    rw [List.pairwise_iff_getElem]
    intro i j hi hj hij
    have := h.lt hij hj
    rw [rog_get hi, rog_get hj] at this
    exact this
  · intro h j hj
    have := (List.pairwise_iff_getElem.1 h) j (j + 1) (by omega) hj (by omega)
    rw [rog_get hj, rog_get (show j < L.length by omega)]
    exact this
theorem rise_ro : ∀ {L M : List Ro}, L.Pairwise ltQ → M.Pairwise ltQ → (∀ x, x ∈ L ↔ x ∈ M) → L = M
  | [], [], _, _, _ => rfl
  | [], y :: M, _, _, h => by have := (h y).2 (by simp); simp at this
  | x :: L, [], _, _, h => by have := (h x).1 (by simp); simp at this
  | x :: L, y :: M, h1, h2, h => by
    have g1 := List.pairwise_cons.1 h1
    have g2 := List.pairwise_cons.1 h2
    have e : x = y := by
      rcases List.mem_cons.1 ((h x).1 (by simp)) with k | k
      · exact k
      · rcases List.mem_cons.1 ((h y).2 (by simp)) with l | l
        · exact l.symm
        · exact absurd rfl (fun e => ltQ_irr (ltQ_trans (g1.1 y l) (g2.1 x k)) e)
    subst e
    congr 1
    refine rise_ro g1.2 g2.2 fun z => ?_
    constructor
    · intro hz
      rcases List.mem_cons.1 ((h z).1 (by simp [hz])) with k | k
      · exact absurd k.symm (fun e => ltQ_irr (g1.1 z hz) e)
      · exact k
    · intro hz
      rcases List.mem_cons.1 ((h z).2 (by simp [hz])) with k | k
      · exact absurd k.symm (fun e => ltQ_irr (g2.1 z hz) e)
      · exact k
/-- What stands behind the first k candidates: what is put together, whether the new one stands in it, whether there was one in its stead. -/
noncomputable def insK (L : List Ro) (u : Up) : Nat → List Ro × Bool × Bool
  | 0 => ([], u.g, false)
  | k + 1 => if spk u (rog L k) then ((insK L u k).1, (insK L u k).2.1, true)
    else if (insK L u k).2.1 = false ∧ cmpR (said u) (rog L k) < 0 then ((insK L u k).1 ++ [said u] ++ [rog L k], true, (insK L u k).2.2)
    else ((insK L u k).1 ++ [rog L k], (insK L u k).2.1, (insK L u k).2.2)
noncomputable def insR (L : List Ro) (u : Up) : List Ro := if (insK L u L.length).2.1 = false then (insK L u L.length).1 ++ [said u] else (insK L u L.length).1
noncomputable def hadL (L : List Ro) (u : Up) : Bool := (insK L u L.length).2.2
theorem insK_len (L : List Ro) (u : Up) : ∀ k, (insK L u k).1.length + (if (insK L u k).2.1 = false then 1 else 0) ≤ k + 1
  | 0 => by cases h : u.g <;> simp [insK, h]
  | k + 1 => by
    have ih := insK_len L u k
    rw [insK]
    split
    · simp only; omega
    · split
      · rename_i h; rw [if_pos h.1] at ih; simp; omega
      · simp only [List.length_append, List.length_cons, List.length_nil]; omega
theorem insR_len (L : List Ro) (u : Up) : (insR L u).length ≤ L.length + 1 := by
  have := insK_len L u L.length
  unfold insR
  split
  · rename_i h; rw [if_pos h] at this; simp; omega
  · omega
theorem had_iff (L : List Ro) (u : Up) : ∀ k, (insK L u k).2.2 = true ↔ ∃ j, j < k ∧ spk u (rog L j)
  | 0 => by simp [insK]
  | k + 1 => by
    have ih := had_iff L u k
    by_cases h : spk u (rog L k)
    · rw [insK, if_pos h]
      exact ⟨fun _ => ⟨k, by omega, h⟩, fun _ => rfl⟩
    · have e : (insK L u (k + 1)).2.2 = (insK L u k).2.2 := by
        rw [insK, if_neg h]; split <;> rfl
      rw [e, ih]
      constructor
      · rintro ⟨j, h1, h2⟩; exact ⟨j, by omega, h2⟩
      · rintro ⟨j, h1, h2⟩
        refine ⟨j, ?_, h2⟩
        by_cases e2 : j = k
        · subst e2; exact absurd h2 h
        · omega
structure InsOk (L : List Ro) (u : Up) (k : Nat) : Prop where
  rise : (insK L u k).1.Pairwise ltQ
  mem : ∀ x, x ∈ (insK L u k).1 ↔ ((∃ j, j < k ∧ rog L j = x) ∧ ¬ spk u x) ∨ ((insK L u k).2.1 = true ∧ u.g = false ∧ x = said u)
  low : (insK L u k).2.1 = false → ∀ x ∈ (insK L u k).1, ltQ x (said u)
  next : ∀ x ∈ (insK L u k).1, ∀ j, k ≤ j → j < L.length → ltQ x (rog L j)
  some : (insK L u k).2.1 = false → u.g = false
theorem ins_ok {L : List Ro} (hL : Up2 L) (u : Up) : ∀ k, k ≤ L.length → InsOk L u k
  | 0, _ => by
    refine ⟨List.Pairwise.nil, fun x => ?_, fun _ x hx => by simp [insK] at hx, fun x hx => by simp [insK] at hx, fun e => by simpa [insK] using e⟩
    simp [insK]
    intro e1 e2
    rw [e1] at e2; cases e2
  | k + 1, hk => by
    have ih := ins_ok hL u k (by omega)
    have hkl : k < L.length := by omega
    by_cases h1 : spk u (rog L k)
    · have e : (insK L u (k + 1)).1 = (insK L u k).1 := by rw [insK, if_pos h1]
      have e2 : (insK L u (k + 1)).2.1 = (insK L u k).2.1 := by rw [insK, if_pos h1]
      refine ⟨by rw [e]; exact ih.rise, fun x => ?_, by rw [e, e2]; exact ih.low, fun x hx j hj hjl => ih.next x (by rw [e] at hx; exact hx) j (by omega) hjl, by rw [e2]; exact ih.some⟩
      rw [e, e2, ih.mem]
      constructor
      · rintro (⟨⟨j, hj, hx⟩, hp⟩ | h2)
        · exact .inl ⟨⟨j, by omega, hx⟩, hp⟩
        · exact .inr h2
      · rintro (⟨⟨j, hj, hx⟩, hp⟩ | h2)
        · refine .inl ⟨⟨j, ?_, hx⟩, hp⟩
          by_cases ej : j = k
          · rw [ej] at hx; rw [← hx] at hp; exact absurd h1 hp
          · omega
        · exact .inr h2
    · have hlater : ∀ j, k + 1 ≤ j → j < L.length → ltQ (rog L k) (rog L j) := fun j hj hjl => hL.lt (by omega) hjl
      by_cases h2 : (insK L u k).2.1 = false ∧ cmpR (said u) (rog L k) < 0
      · have e : insK L u (k + 1) = ((insK L u k).1 ++ [said u] ++ [rog L k], true, (insK L u k).2.2) := by rw [insK, if_neg h1, if_pos h2]
        have hP : ltQ (said u) (rog L k) := h2.2
        refine ⟨?_, fun x => ?_, fun h9 => (by rw [e] at h9; cases h9), fun x hx j hj hjl => ?_, fun h9 => (by rw [e] at h9; cases h9)⟩
        · rw [e]
          simp only [List.append_assoc, List.pairwise_append, List.pairwise_cons, List.cons_append, List.nil_append]
          refine ⟨ih.rise, ⟨by simpa using hP, by simp, List.Pairwise.nil⟩, fun x hx y hy => ?_⟩
          rcases List.mem_cons.1 hy with e9 | hy
          · rw [e9]; exact ih.low h2.1 x hx
          · have e9 : y = rog L k := by simpa using hy
            rw [e9]; exact ih.next x hx k (Nat.le_refl _) hkl
        · rw [e]
          simp only [List.append_assoc, List.mem_append, List.mem_cons, List.cons_append, List.nil_append, List.not_mem_nil, or_false, true_and]
          rw [ih.mem]
          constructor
          · rintro ((⟨⟨j, hj, hx⟩, hp⟩ | ⟨_, q2, q3⟩) | hx | hx)
            · exact .inl ⟨⟨j, by omega, hx⟩, hp⟩
            · exact .inr ⟨q2, q3⟩
            · exact .inr ⟨ih.some h2.1, hx⟩
            · exact .inl ⟨⟨k, by omega, hx.symm⟩, by rw [hx]; exact h1⟩
          · rintro (⟨⟨j, hj, hx⟩, hp⟩ | ⟨q2, q3⟩)
            · by_cases ej : j = k
              · exact .inr (.inr (by rw [← hx, ej]))
              · exact .inl (.inl ⟨⟨j, by omega, hx⟩, hp⟩)
            · exact .inr (.inl q3)
        · rw [e] at hx
          simp only [List.append_assoc, List.mem_append, List.mem_cons, List.cons_append, List.nil_append, List.not_mem_nil, or_false] at hx
          rcases hx with hx | hx | hx
          · exact ih.next x hx j (by omega) hjl
          · rw [hx]; exact ltQ_trans hP (hlater j hj hjl)
          · rw [hx]; exact hlater j hj hjl
      · have e : insK L u (k + 1) = ((insK L u k).1 ++ [rog L k], (insK L u k).2.1, (insK L u k).2.2) := by rw [insK, if_neg h1, if_neg h2]
        refine ⟨?_, fun x => ?_, fun h9 x hx => ?_, fun x hx j hj hjl => ?_, fun h9 => ih.some (by rw [e] at h9; exact h9)⟩
        · rw [e]
          simp only [List.pairwise_append, List.pairwise_cons]
          exact ⟨ih.rise, ⟨by simp, List.Pairwise.nil⟩, fun x hx y hy => by
            have e9 : y = rog L k := by simpa using hy
            rw [e9]; exact ih.next x hx k (Nat.le_refl _) hkl⟩
        · rw [e]
          simp only [List.mem_append, List.mem_singleton]
          rw [ih.mem]
          constructor
          · rintro ((⟨⟨j, hj, hx⟩, hp⟩ | q) | hx)
            · exact .inl ⟨⟨j, by omega, hx⟩, hp⟩
            · exact .inr q
            · exact .inl ⟨⟨k, by omega, hx.symm⟩, by rw [hx]; exact h1⟩
          · rintro (⟨⟨j, hj, hx⟩, hp⟩ | q)
            · by_cases ej : j = k
              · exact .inr (by rw [← hx, ej])
              · exact .inl (.inl ⟨⟨j, by omega, hx⟩, hp⟩)
            · exact .inl (.inr q)
        · rw [e] at hx h9
          simp only [List.mem_append, List.mem_singleton] at hx
          rcases hx with hx | hx
          · exact ih.low h9 x hx
          · rw [hx]
            have c1 : ¬ cmpR (said u) (rog L k) < 0 := fun c => h2 ⟨h9, c⟩
            have c2 : cmpR (said u) (rog L k) ≠ 0 := fun c => h1 (spk_zero.2 c)
            have c3 := cm_r.flip (rog L k) (said u)
            show cmpR (rog L k) (said u) < 0
            omega
        · rw [e] at hx
          simp only [List.mem_append, List.mem_singleton] at hx
          rcases hx with hx | hx
          · exact ih.next x hx j (by omega) hjl
          · rw [hx]; exact hlater j hj hjl
theorem insR_spec {L : List Ro} (hL : Up2 L) (u : Up) : Up2 (insR L u) ∧ ∀ x, x ∈ insR L u ↔ (x ∈ L ∧ ¬ spk u x) ∨ (u.g = false ∧ x = said u) := by
  have ih := ins_ok hL u L.length (Nat.le_refl _)
  have hm : ∀ x, (∃ j, j < L.length ∧ rog L j = x) ↔ x ∈ L := fun x => ⟨fun ⟨j, hj, hx⟩ => by rw [← hx]; exact rog_mem hj, mem_rog⟩
  rw [Up2.pair]
  unfold insR
  by_cases h1 : (insK L u L.length).2.1 = false
  · rw [if_pos h1]
    refine ⟨?_, fun x => ?_⟩
    · simp only [List.pairwise_append, List.pairwise_cons]
      exact ⟨ih.rise, ⟨by simp, List.Pairwise.nil⟩, fun x hx y hy => by
        have e9 : y = said u := by simpa using hy
        rw [e9]; exact ih.low h1 x hx⟩
    · simp only [List.mem_append, List.mem_singleton]
      rw [ih.mem, hm, h1]
      constructor
      · rintro ((q | ⟨q, _⟩) | q)
        · exact .inl q
        · cases q
        · exact .inr ⟨ih.some h1, q⟩
      · rintro (q | ⟨_, q⟩)
        · exact .inl (.inl q)
        · exact .inr q
  · have h2 : (insK L u L.length).2.1 = true := by simpa using h1
    rw [if_neg h1]
    refine ⟨ih.rise, fun x => ?_⟩
    rw [ih.mem, hm, h2]
    simp
/-- The same candidates, each once. -/
structure Alike (M N : List Ro) : Prop where
  mem : ∀ x, x ∈ M ↔ x ∈ N
  one : One M
  up : Up2 N
theorem One.nodup {M : List Ro} (h : One M) : M.Nodup := by
  rw [List.nodup_iff_pairwise_ne, List.pairwise_iff_getElem]
  intro i j hi hj hij e
  have := h i j hi hj (by rw [rog_get hi, rog_get hj, e]) (by rw [rog_get hi, rog_get hj, e])
  omega
theorem alike_had {M N : List Ro} (h : Alike M N) (u : Up) : hadL N u = true ↔ spotF u M < M.length := by
  rw [hadL, had_iff]
  constructor
  · rintro ⟨j, hj, hs⟩
    obtain ⟨i, hi, e⟩ := mem_rog ((h.mem _).2 (rog_mem hj))
    refine Classical.byContradiction fun k => ?_
    have := spotF_ahead (u := u) (L := M) (j := i) (by omega)
    rw [e] at this
    exact this hs
  · intro k
    obtain ⟨j, hj, e⟩ := mem_rog ((h.mem _).1 (rog_mem k))
    exact ⟨j, hj, by rw [e]; exact spotF_at k⟩
theorem rest_mem {M : List Ro} (h : One M) (u : Up) (x : Ro) : x ∈ rest1 M u ↔ x ∈ M ∧ ¬ spk u x := by
  by_cases k : spotF u M < M.length
  · have hs := spotF_at k
    rw [rest1, if_pos k, List.mem_eraseIdx_iff_getElem]
    constructor
    · rintro ⟨j, hj, hne, e⟩
      refine ⟨by rw [← e]; exact List.getElem_mem hj, fun hx => hne ?_⟩
      rw [← e, ← rog_get hj] at hx
      exact h _ _ hj k (hx.1.symm.trans hs.1) (hx.2.symm.trans hs.2)
    · rintro ⟨hx, hn⟩
      obtain ⟨j, hj, e⟩ := mem_rog hx
      refine ⟨j, hj, fun e2 => hn ?_, by rw [← rog_get hj]; exact e⟩
      rw [← e, e2]; exact hs
  · rw [rest1, if_neg k]
    refine ⟨fun hx => ⟨hx, fun hs => ?_⟩, fun hx => hx.1⟩
    obtain ⟨j, hj, e⟩ := mem_rog hx
    have := spotF_ahead (u := u) (L := M) (j := j) (by omega)
    rw [e] at this
    exact this hs
theorem one_pair {M : List Ro} : One M ↔ M.Pairwise fun x y => ¬ (x.p = y.p ∧ x.s = y.s) := by
  rw [List.pairwise_iff_getElem]
  constructor
  · intro h i j hi hj hij ⟨e1, e2⟩
    have := h i j hi hj (by rw [rog_get hi, rog_get hj]; exact e1) (by rw [rog_get hi, rog_get hj]; exact e2)
    omega
  · intro h i j hi hj e1 e2
    rw [rog_get hi, rog_get hj] at e1 e2
    rcases Nat.lt_trichotomy i j with k | k | k
    · exact absurd ⟨e1, e2⟩ (h i j hi hj k)
    · exact k
    · exact absurd ⟨e1.symm, e2.symm⟩ (h j i hj hi k)
theorem alike_step {M N : List Ro} (h : Alike M N) (u : Up) : Alike (stepL M u) (insR N u) := by
  obtain ⟨q1, q2⟩ := insR_spec h.up u
  have r1 : One (rest1 M u) := by
    rw [rest1]
    split
    · exact one_pair.2 ((one_pair.1 h.one).sublist (List.eraseIdx_sublist _ _))
    · exact h.one
  refine ⟨fun x => ?_, ?_, q1⟩
  · rw [q2, stepL]
    split
    · rename_i hg
      rw [rest_mem h.one, h.mem]
      exact ⟨fun k => .inl k, fun k => k.resolve_right fun k2 => by rw [hg] at k2; cases k2.1⟩
    · rename_i hg
      rw [List.mem_append, rest_mem h.one, h.mem, List.mem_singleton]
      exact ⟨fun k => k.imp id fun k2 => ⟨by simpa using hg, k2⟩, fun k => k.imp id fun k2 => k2.2⟩
  · rw [stepL]
    split
    · exact r1
    · rw [one_pair, List.pairwise_append]
      refine ⟨one_pair.1 r1, by simp, fun x hx y hy => ?_⟩
      have hy2 : y = said u := by simpa using hy
      subst hy2
      rintro ⟨e1, e2⟩
      exact ((rest_mem h.one u x).1 hx).2 ⟨e1.symm, e2.symm⟩
theorem alike_self {L : List Ro} (h : Up2 L) : Alike L L := ⟨fun _ => Iff.rfl, h.uniq, h⟩
theorem alike_sorted {D S N : List Ro} (h : Alike D N) (hS : Sorted cmpR D S) : S = N := by
  refine rise_ro ?_ (Up2.pair.1 h.up) fun x => (hS.1.mem_iff).trans (h.mem x)
  have hl : S.length = D.length := hS.1.length_eq
  have ho : S.Pairwise fun x y => ¬ (x.p = y.p ∧ x.s = y.s) := (one_pair.1 h.one).perm hS.1.symm fun k e => k ⟨e.1.symm, e.2.symm⟩
  rw [List.pairwise_iff_getElem] at ho ⊢
  intro i j hi hj hij
  have h1 := hS.2 i j hij (by omega)
  rw [rog_get hi, rog_get hj] at h1
  have h2 : cmpR S[i] S[j] ≠ 0 := fun e => ho i j hi hj hij (cmpR_zero.1 e)
  show cmpR S[i] S[j] < 0
  omega
/-- What the document's words make of it. -/
noncomputable def runI : List Ro → List Up → Option (List Ro)
  | M, [] => some M
  | M, u :: U => open Classical in if u.g = true ∧ hadL M u = false then none else runI (insR M u) U
theorem run_same : ∀ (U : List Up) {M N : List Ro}, Alike M N → (runU M U = none ↔ runI N U = none) ∧ ∀ D, runU M U = some D → ∃ E, runI N U = some E ∧ Alike D E
  | [], M, N, h => ⟨by simp [runU, runI], fun D e => ⟨N, rfl, by cases e; exact h⟩⟩
  | u :: U, M, N, h => by
    have ih := run_same U (alike_step h u)
    have hh := alike_had h u
    by_cases k : badU M u
    · have k2 : u.g = true ∧ hadL N u = false := ⟨k.1, by cases e : hadL N u with
        | false => rfl
        | true => exact absurd (hh.1 e) k.2⟩
      rw [runU, if_pos k, runI, if_pos k2]
      exact ⟨by simp, fun D e => by cases e⟩
    · have k2 : ¬ (u.g = true ∧ hadL N u = false) := fun q => k ⟨q.1, fun e => by rw [hh.2 e] at q; cases q.2⟩
      rw [runU, if_neg k, runI, if_neg k2]
      exact ih
/-- What a batch makes of a RIB by the document's words, and the error. -/
inductive AppI (L : List Ro) (U : List Up) : List Ro → Int → Prop
  | rib : ¬ okRib L → AppI L U [] 211
  | bat : okRib L → ¬ okBat U → AppI L U [] 210
  | gone : okRib L → okBat U → runI L U = none → AppI L U [] 4
  | full {D : List Ro} : okRib L → okBat U → runI L U = some D → ¬ disN D D.length ≤ 40 → AppI L U [] 6
  | good {D : List Ro} : okRib L → okBat U → runI L U = some D → disN D D.length ≤ 40 → AppI L U D 0
theorem app_same {L M N : List Ro} {U : List Up} {e f : Int} (h : AppR L U M e) (k : AppI L U N f) : M = N ∧ e = f := by
  cases h with
  | rib h1 => cases k with
    | rib k1 => exact ⟨rfl, rfl⟩
    | bat k1 => exact absurd k1 h1
    | gone k1 => exact absurd k1 h1
    | full k1 => exact absurd k1 h1
    | good k1 => exact absurd k1 h1
  | bat h1 h2 => cases k with
    | rib k1 => exact absurd h1 k1
    | bat k1 => exact ⟨rfl, rfl⟩
    | gone _ k1 => exact absurd k1 h2
    | full _ k1 => exact absurd k1 h2
    | good _ k1 => exact absurd k1 h2
  | gone h1 h2 h3 =>
    have hr := run_same U (alike_self h1.2.1)
    cases k with
    | rib k1 => exact absurd h1 k1
    | bat _ k1 => exact absurd h2 k1
    | gone => exact ⟨rfl, rfl⟩
    | full _ _ k1 => rw [hr.1.1 h3] at k1; cases k1
    | good _ _ k1 => rw [hr.1.1 h3] at k1; cases k1
  | full h1 h2 h3 h4 h5 =>
    obtain ⟨E, e1, e2⟩ := (run_same U (alike_self h1.2.1)).2 _ h3
    cases k with
    | rib k1 => exact absurd h1 k1
    | bat _ k1 => exact absurd h2 k1
    | gone _ _ k1 => rw [e1] at k1; cases k1
    | full => exact ⟨rfl, rfl⟩
    | good _ _ k1 k2 =>
      rw [e1] at k1; cases k1
      have := alike_sorted e2 h4
      subst this
      rw [Up2.count e2.up _ (Nat.le_refl _)] at k2
      exact absurd k2 h5
  | good h1 h2 h3 h4 h5 =>
    obtain ⟨E, e1, e2⟩ := (run_same U (alike_self h1.2.1)).2 _ h3
    cases k with
    | rib k1 => exact absurd h1 k1
    | bat _ k1 => exact absurd h2 k1
    | gone _ _ k1 => rw [e1] at k1; cases k1
    | full _ _ k1 k2 =>
      rw [e1] at k1; cases k1
      have := alike_sorted e2 h4
      subst this
      rw [Up2.count e2.up _ (Nat.le_refl _)] at k2
      exact absurd h5 k2
    | good _ _ k1 k2 =>
      rw [e1] at k1; cases k1
      exact ⟨alike_sorted e2 h4, rfl⟩
end Go.Proofs.YtikdgbmdepplgaaGreatDoor
namespace Go.Proofs.YtikdgbmdepplgaaGreatDoor
open Go.RowKit Go.Shelf
set_option linter.unusedVariables false
set_option maxRecDepth 100000
attribute [local go_sem ↓] load_b16_rule store_b16_rule load_ad_rule store_ad_rule load_px_rule store_px_rule eq_b16_rule eq_ad_rule eq_px_rule load_ro_rule store_ro_rule load_up_rule store_up_rule build_ro_rule
/-- The candidate of an update, as it is asked whether it may be. -/
def saidF (u : Up) : Ro := if u.g then ⟨u.p, u.s, u.f, 1⟩ else said u
theorem okUp_gone {u : Up} (hg : u.g = true) : okUp u ↔ (u.f = 0 ∧ u.h = 0) ∧ okRo (saidF u) := by
  unfold okUp saidF
  rw [if_pos hg, if_pos hg]
  constructor
  · rintro ⟨h1, h2, h3, h4⟩
    exact ⟨⟨h3, h4⟩, h1, h2, by show 0 ≤ u.f ∧ u.f ≤ 255; omega, by show (1 : Int) ≤ 1 ∧ (1 : Int) ≤ 255; omega⟩
  · rintro ⟨⟨h3, h4⟩, h1, h2, _, _⟩
    exact ⟨h1, h2, h3, h4⟩
theorem okUp_not {u : Up} (hg : u.g = false) : okUp u ↔ okRo (saidF u) := by
  unfold okUp saidF
  rw [if_neg (by simp [hg]), if_neg (by simp [hg])]
theorem ro_hop (r : Ro) (h : Int) : r.cs.setIfInBounds 20 (.int .i64 h) = (Ro.mk r.p r.s r.f h).cs := by
  unfold Ro.cs
  rw [Array.setIfInBounds_append, if_neg (by rw [Px.size]; omega), Px.size]
  rfl
end Go.Proofs.YtikdgbmdepplgaaGreatDoor
namespace Go.Proofs.YtikdgbmdepplgaaGreatDoor
open Go.RowKit Go.Shelf
set_option linter.unusedVariables false
set_option maxRecDepth 100000
attribute [local go_sem ↓] load_ro_rule store_ro_rule
end Go.Proofs.YtikdgbmdepplgaaGreatDoor
namespace Go.Proofs.YtikdgbmdepplgaaGreatDoor
open Go.RowKit Go.Shelf
set_option linter.unusedVariables false
set_option maxRecDepth 100000
theorem runI_append : ∀ (U V : List Up) (M : List Ro), runI M (U ++ V) = (runI M U).bind fun D => runI D V
  | [], V, M => rfl
  | u :: U, V, M => by
    show runI M (u :: (U ++ V)) = _
    by_cases h : u.g = true ∧ hadL M u = false
    · rw [runI, if_pos h, runI, if_pos h]; rfl
    · rw [runI, if_neg h, runI, if_neg h]; exact runI_append U V _
theorem runI_next {L M : List Ro} {U : List Up} {k : Nat} (hk : k < U.length) (h : runI L (U.take k) = some M) (hb : ¬ ((upg U k).g = true ∧ hadL M (upg U k) = false)) : runI L (U.take (k + 1)) = some (insR M (upg U k)) := by
  rw [List.take_succ_eq_append_getElem hk, runI_append, h, ← upg_get hk]
  show runI M [upg U k] = _
  rw [runI, if_neg hb, runI]
theorem runI_stop {L M : List Ro} {U : List Up} {k : Nat} (hk : k < U.length) (h : runI L (U.take k) = some M) (hb : (upg U k).g = true ∧ hadL M (upg U k) = false) : runI L U = none := by
  have e : U = U.take k ++ (upg U k :: U.drop (k + 1)) := by
    rw [upg_get hk, ← List.drop_eq_getElem_cons hk, List.take_append_drop]
  rw [e, runI_append]
  rw [show runI L (List.take k U) = some M from h]
  show runI M (upg U k :: U.drop (k + 1)) = none
  rw [runI, if_pos hb]
theorem put_gone (L : List Ro) (u : Up) (hg : u.g = true) : ∀ k, (insK L u k).2.1 = true
  | 0 => hg
  | k + 1 => by
    have ih := put_gone L u hg k
    rw [insK]
    split
    · exact ih
    · split
      · rfl
      · exact ih
theorem OwnRo.spare {w : World} {B : Nat} {v : Value} {L : List Ro} (h : OwnRo w B v L) : ∃ a c, v = .slice a L.length c ∧ RoAt w a L ∧ ∀ x, a = some x → B ≤ x.block := by
  obtain ⟨a, c, h1, _, _, h4, h5⟩ := h.lies
  exact ⟨a, c, h1, h4, h5⟩
theorem RoAt.sep {w : World} {a : Option Addr} {L : List Ro} (h : RoAt w a L) : L = [] ∨ ∀ x, a = some x → x.block < w.heap.size := by
  rcases h with h | ⟨g, o, h1, h2⟩
  · exact .inl h
  · exact .inr fun x hx => by rw [h1] at hx; injection hx with hx; rw [← hx]; exact h2.lt
theorem RoAt.set {w : World} {a : Option Addr} {L : List Ro} {g : Nat} (h : RoAt w a L) (k : L = [] ∨ ∀ x, a = some x → x.block ≠ g) (V : Array Value) : RoAt (w.setRow g V) a L := by
  rcases k with k | k
  · exact .inl k
  · exact h.kept ((Kept.refl [g] w).setRow (.inl (by simp)) _) (fun x hx => by have := k x hx; simp; omega)
attribute [local go_sem ↓] load_b16_rule store_b16_rule load_ad_rule store_ad_rule load_px_rule store_px_rule eq_b16_rule eq_ad_rule eq_px_rule load_ro_rule store_ro_rule load_up_rule store_up_rule load_rib_rule store_rib_rule build_rib_rule load_bat_rule roapp_rule robuild_rule build_ro_rule
end Go.Proofs.YtikdgbmdepplgaaGreatDoor
