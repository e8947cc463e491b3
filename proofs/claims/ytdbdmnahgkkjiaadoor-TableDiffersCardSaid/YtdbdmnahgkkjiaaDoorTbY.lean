/-
  Two tables merged by rising prefixes: the pure part of table.Differ. Nothing here is a statement of the document.
-/
import Derived.Test.YtdbdmnahgkkjiaaDoorTbX
namespace Go.Proofs.YtdbdmnahgkkjiaaDoor
open Go.RowKit Go.Shelf
set_option linter.unusedVariables false

/-- What two tables have of each prefix of theirs, by rising ones; a zero row: one has it not. -/
noncomputable def mg : List Rt → List Rt → List (Rt × Rt)
  | [], [] => []
  | x :: A, [] => (x, Rt.zero) :: mg A []
  | [], y :: B => (Rt.zero, y) :: mg [] B
  | x :: A, y :: B => if cmpP x.p y.p < 0 then (x, Rt.zero) :: mg A (y :: B) else if cmpP x.p y.p = 0 then (x, y) :: mg A B else (Rt.zero, y) :: mg (x :: A) B
termination_by A B => A.length + B.length
/-- Whose first row comes first. -/
noncomputable def nrM (L M : List Rt) : Int := if L = [] ∨ M = [] then (if M.length < L.length then -1 else if L.length < M.length then 1 else 0) else cmpP (rt L 0).p (rt M 0).p
theorem nr_left {L M : List Rt} (h : L ≠ [] ∨ M ≠ []) (k : nrM L M ≤ 0) : L ≠ [] := by
  rintro rfl
  unfold nrM at k
  rw [if_pos (.inl rfl), if_neg (by simp)] at k
  rcases M with _ | ⟨y, M⟩
  · rcases h with h | h <;> exact h rfl
  · rw [if_pos (by simp)] at k; omega
theorem nr_right {L M : List Rt} (h : L ≠ [] ∨ M ≠ []) (k : 0 ≤ nrM L M) : M ≠ [] := by
  rintro rfl
  unfold nrM at k
  rw [if_pos (.inr rfl)] at k
  rcases L with _ | ⟨y, L⟩
  · rcases h with h | h <;> exact h rfl
  · rw [if_pos (by simp)] at k; omega
theorem mg_step {L M : List Rt} (h : L ≠ [] ∨ M ≠ []) : mg L M = (if nrM L M ≤ 0 then rt L 0 else Rt.zero, if 0 ≤ nrM L M then rt M 0 else Rt.zero) :: mg (if nrM L M ≤ 0 then L.drop 1 else L) (if 0 ≤ nrM L M then M.drop 1 else M) := by
  rcases L with _ | ⟨x, L⟩ <;> rcases M with _ | ⟨y, M⟩
  · rcases h with h | h <;> exact absurd rfl h
  · have e : nrM [] (y :: M) = 1 := by simp [nrM]
    rw [e, mg]; simp [rt]
  · have e : nrM (x :: L) [] = -1 := by simp [nrM]
    rw [e, mg]; simp [rt]
  · have e : nrM (x :: L) (y :: M) = cmpP x.p y.p := by simp [nrM, rt]
    rw [e, mg]
    by_cases h1 : cmpP x.p y.p < 0
    · rw [if_pos h1, if_pos (by omega), if_neg (by omega), if_pos (by omega), if_neg (by omega)]; simp [rt]
    · rw [if_neg h1]
      by_cases h2 : cmpP x.p y.p = 0
      · rw [if_pos h2, if_pos (by omega), if_pos (by omega), if_pos (by omega), if_pos (by omega)]; simp [rt]
      · rw [if_neg h2, if_neg (by omega), if_pos (by omega), if_neg (by omega), if_pos (by omega)]; simp [rt]
theorem mg_none : mg [] [] = [] := by rw [mg]
theorem mg_len (L M : List Rt) : (mg L M).length ≤ L.length + M.length := by
  induction L, M using mg.induct with
  | case1 => simp [mg]
  | case2 x A ih => rw [mg]; simp at *; omega
  | case3 y B ih => rw [mg]; simp at *; omega
  | case4 x A y B h ih => rw [mg, if_pos h]; simp at *; omega
  | case5 x A y B h h2 ih => rw [mg, if_neg h, if_pos h2]; simp at *; omega
  | case6 x A y B h h2 ih => rw [mg, if_neg h, if_neg h2]; simp at *; omega
def MgAt (A B : List Rt) (q : Rt × Rt) : Prop := (q.1 ∈ A ∧ q.2 ∈ B ∧ q.1.p = q.2.p) ∨ (q.1 ∈ A ∧ q.2 = Rt.zero ∧ ∀ y ∈ B, y.p ≠ q.1.p) ∨ (q.1 = Rt.zero ∧ q.2 ∈ B ∧ ∀ x ∈ A, x.p ≠ q.2.p)
theorem mg_mem (A B : List Rt) : A.Pairwise ltR → B.Pairwise ltR → ∀ q, q ∈ mg A B ↔ MgAt A B q := by
  induction A, B using mg.induct with
  | case1 => intro _ _ q; simp [mg, MgAt]
  | case2 x A ih =>
    intro hA hB q
    obtain ⟨h1, h2⟩ := List.pairwise_cons.1 hA
    rw [mg, List.mem_cons, ih h2 hB]
    unfold MgAt
    simp
    constructor
    · rintro (rfl | ⟨h3, h4⟩)
      · simp
      · exact ⟨.inr h3, h4⟩
    · rintro ⟨rfl | h3, h4⟩
      · exact .inl (Prod.ext rfl h4)
      · exact .inr ⟨h3, h4⟩
  | case3 y B ih =>
    intro hA hB q
    obtain ⟨h1, h2⟩ := List.pairwise_cons.1 hB
    rw [mg, List.mem_cons, ih hA h2]
    unfold MgAt
    simp
    constructor
    · rintro (rfl | ⟨h3, h4⟩)
      · simp
      · exact ⟨h3, .inr h4⟩
    · rintro ⟨h4, rfl | h3⟩
      · exact .inl (Prod.ext h4 rfl)
      · exact .inr ⟨h4, h3⟩
  | case4 x A y B h ih =>
    intro hA hB q
    obtain ⟨h1, h2⟩ := List.pairwise_cons.1 hA
    obtain ⟨k1, k2⟩ := List.pairwise_cons.1 hB
    have hx : ∀ z ∈ y :: B, z.p ≠ x.p := by
      intro z hz e
      rcases List.mem_cons.1 hz with rfl | hz
      · exact cmp_self h e.symm
      · exact cmp_self (cmpP_lt _ _ _ h (k1 z hz)) e.symm
    rw [mg, if_pos h, List.mem_cons, ih h2 hB]
    unfold MgAt
    constructor
    · rintro (rfl | ⟨a1, a2, a3⟩ | ⟨a1, a2, a3⟩ | ⟨a1, a2, a3⟩)
      · exact .inr (.inl ⟨by simp, rfl, hx⟩)
      · exact .inl ⟨by simp [a1], a2, a3⟩
      · exact .inr (.inl ⟨by simp [a1], a2, a3⟩)
      · refine .inr (.inr ⟨a1, a2, fun z hz => ?_⟩)
        rcases List.mem_cons.1 hz with rfl | hz
        · exact (hx _ a2).symm
        · exact a3 z hz
    · rintro (⟨a1, a2, a3⟩ | ⟨a1, a2, a3⟩ | ⟨a1, a2, a3⟩)
      · rcases List.mem_cons.1 a1 with e | a1
        · exact absurd (by rw [← a3, e]) (hx _ a2)
        · exact .inr (.inl ⟨a1, a2, a3⟩)
      · rcases List.mem_cons.1 a1 with e | a1
        · exact .inl (Prod.ext e a2)
        · exact .inr (.inr (.inl ⟨a1, a2, a3⟩))
      · exact .inr (.inr (.inr ⟨a1, a2, fun z hz => a3 z (by simp [hz])⟩))
  | case5 x A y B h h0 ih =>
    intro hA hB q
    obtain ⟨h1, h2⟩ := List.pairwise_cons.1 hA
    obtain ⟨k1, k2⟩ := List.pairwise_cons.1 hB
    have e0 : x.p = y.p := (cmpP_zero _ _).1 h0
    have hx : ∀ z ∈ B, z.p ≠ x.p := fun z hz e => cmp_self (k1 z hz) (by rw [e, e0])
    have hy : ∀ z ∈ A, z.p ≠ y.p := fun z hz e => cmp_self (h1 z hz) (by rw [e, e0])
    rw [mg, if_neg h, if_pos h0, List.mem_cons, ih h2 k2]
    unfold MgAt
    constructor
    · rintro (rfl | ⟨a1, a2, a3⟩ | ⟨a1, a2, a3⟩ | ⟨a1, a2, a3⟩)
      · exact .inl ⟨by simp, by simp, e0⟩
      · exact .inl ⟨by simp [a1], by simp [a2], a3⟩
      · refine .inr (.inl ⟨by simp [a1], a2, fun z hz => ?_⟩)
        rcases List.mem_cons.1 hz with rfl | hz
        · exact fun e => hy _ a1 e.symm
        · exact a3 z hz
      · refine .inr (.inr ⟨a1, by simp [a2], fun z hz => ?_⟩)
        rcases List.mem_cons.1 hz with rfl | hz
        · exact fun e => hx _ a2 e.symm
        · exact a3 z hz
    · rintro (⟨a1, a2, a3⟩ | ⟨a1, a2, a3⟩ | ⟨a1, a2, a3⟩)
      · rcases List.mem_cons.1 a1 with e | a1
        · rcases List.mem_cons.1 a2 with f | a2
          · exact .inl (Prod.ext e f)
          · exact absurd (by rw [← a3, e]) (hx _ a2)
        · rcases List.mem_cons.1 a2 with f | a2
          · exact absurd (by rw [a3, f]) (hy _ a1)
          · exact .inr (.inl ⟨a1, a2, a3⟩)
      · rcases List.mem_cons.1 a1 with e | a1
        · exact absurd (by rw [e, e0]) (a3 y (by simp))
        · exact .inr (.inr (.inl ⟨a1, a2, fun z hz => a3 z (by simp [hz])⟩))
      · rcases List.mem_cons.1 a2 with f | a2
        · exact absurd (by rw [f, e0]) (a3 x (by simp))
        · exact .inr (.inr (.inr ⟨a1, a2, fun z hz => a3 z (by simp [hz])⟩))
  | case6 x A y B h h0 ih =>
    intro hA hB q
    obtain ⟨h1, h2⟩ := List.pairwise_cons.1 hA
    obtain ⟨k1, k2⟩ := List.pairwise_cons.1 hB
    have hl : cmpP y.p x.p < 0 := by
      rcases cmp_ways x.p y.p with c | c | c
      · exact absurd c h
      · exact absurd ((cmpP_zero _ _).2 c) h0
      · exact c
    have hy : ∀ z ∈ x :: A, z.p ≠ y.p := by
      intro z hz e
      rcases List.mem_cons.1 hz with rfl | hz
      · exact cmp_self hl e.symm
      · exact cmp_self (cmpP_lt _ _ _ hl (h1 z hz)) e.symm
    rw [mg, if_neg h, if_neg h0, List.mem_cons, ih hA k2]
    unfold MgAt
    constructor
    · rintro (rfl | ⟨a1, a2, a3⟩ | ⟨a1, a2, a3⟩ | ⟨a1, a2, a3⟩)
      · exact .inr (.inr ⟨rfl, by simp, hy⟩)
      · exact .inl ⟨a1, by simp [a2], a3⟩
      · refine .inr (.inl ⟨a1, a2, fun z hz => ?_⟩)
        rcases List.mem_cons.1 hz with rfl | hz
        · exact (hy _ a1).symm
        · exact a3 z hz
      · exact .inr (.inr ⟨a1, by simp [a2], a3⟩)
    · rintro (⟨a1, a2, a3⟩ | ⟨a1, a2, a3⟩ | ⟨a1, a2, a3⟩)
      · rcases List.mem_cons.1 a2 with f | a2
        · exact absurd (by rw [a3, f]) (hy _ a1)
        · exact .inr (.inl ⟨a1, a2, a3⟩)
      · exact .inr (.inr (.inl ⟨a1, a2, fun z hz => a3 z (by simp [hz])⟩))
      · rcases List.mem_cons.1 a2 with f | a2
        · exact .inl (Prod.ext a1 f)
        · exact .inr (.inr (.inr ⟨a1, a2, a3⟩))

/-- The first of two rows that is not zero. -/
noncomputable def orM (x y : Rt) : Rt := if x = Rt.zero then y else x
noncomputable def toldQ (q : Rt × Rt) : Option Px := if q.1 = q.2 then none else some (orM q.1 q.2).p
/-- The prefixes that two tables have not alike, rising. -/
noncomputable def mgP (A B : List Rt) : List Px := (mg A B).filterMap toldQ
theorem hop_zero {x : Rt} (h : 1 ≤ x.h) : x ≠ Rt.zero := fun e => by rw [e] at h; simp [Rt.zero] at h
theorem or_from {A B : List Rt} (pA : ∀ x ∈ A, 1 ≤ x.h) {q : Rt × Rt} (h : MgAt A B q) : orM q.1 q.2 ∈ A ∨ orM q.1 q.2 ∈ B := by
  unfold orM
  rcases h with ⟨h1, h2, h3⟩ | ⟨h1, h2, h3⟩ | ⟨h1, h2, h3⟩
  · rw [if_neg (hop_zero (pA _ h1))]; exact .inl h1
  · rw [if_neg (hop_zero (pA _ h1))]; exact .inl h1
  · rw [if_pos h1]; exact .inr h2
theorem mg_rise (A B : List Rt) : A.Pairwise ltR → B.Pairwise ltR → (∀ x ∈ A, 1 ≤ x.h) → (mg A B).Pairwise (fun q r => cmpP (orM q.1 q.2).p (orM r.1 r.2).p < 0) := by
  induction A, B using mg.induct with
  | case1 => intro _ _ _; simp [mg]
  | case2 x A ih =>
    intro hA hB pA
    obtain ⟨h1, h2⟩ := List.pairwise_cons.1 hA
    have pA2 : ∀ x ∈ A, 1 ≤ x.h := fun z hz => pA z (by simp [hz])
    rw [mg]
    refine List.pairwise_cons.2 ⟨fun r hr => ?_, ih h2 hB pA2⟩
    have e : orM x Rt.zero = x := if_neg (hop_zero (pA x (by simp)))
    rw [e]
    rcases or_from pA2 ((mg_mem _ _ h2 hB r).1 hr) with h | h
    · exact h1 _ h
    · simp at h
  | case3 y B ih =>
    intro hA hB pA
    obtain ⟨k1, k2⟩ := List.pairwise_cons.1 hB
    rw [mg]
    refine List.pairwise_cons.2 ⟨fun r hr => ?_, ih hA k2 pA⟩
    have e : orM Rt.zero y = y := if_pos rfl
    rw [e]
    rcases or_from pA ((mg_mem _ _ hA k2 r).1 hr) with h | h
    · simp at h
    · exact k1 _ h
  | case4 x A y B h ih =>
    intro hA hB pA
    obtain ⟨h1, h2⟩ := List.pairwise_cons.1 hA
    obtain ⟨k1, k2⟩ := List.pairwise_cons.1 hB
    have pA2 : ∀ x ∈ A, 1 ≤ x.h := fun z hz => pA z (by simp [hz])
    rw [mg, if_pos h]
    refine List.pairwise_cons.2 ⟨fun r hr => ?_, ih h2 hB pA2⟩
    have e : orM x Rt.zero = x := if_neg (hop_zero (pA x (by simp)))
    rw [e]
    rcases or_from pA2 ((mg_mem _ _ h2 hB r).1 hr) with g | g
    · exact h1 _ g
    · rcases List.mem_cons.1 g with g | g
      · rw [g]; exact h
      · exact cmpP_lt _ _ _ h (k1 _ g)
  | case5 x A y B h h0 ih =>
    intro hA hB pA
    obtain ⟨h1, h2⟩ := List.pairwise_cons.1 hA
    obtain ⟨k1, k2⟩ := List.pairwise_cons.1 hB
    have pA2 : ∀ x ∈ A, 1 ≤ x.h := fun z hz => pA z (by simp [hz])
    rw [mg, if_neg h, if_pos h0]
    refine List.pairwise_cons.2 ⟨fun r hr => ?_, ih h2 k2 pA2⟩
    have e : orM x y = x := if_neg (hop_zero (pA x (by simp)))
    rw [e]
    rcases or_from pA2 ((mg_mem _ _ h2 k2 r).1 hr) with g | g
    · exact h1 _ g
    · have := k1 _ g
      unfold ltR at this
      rwa [← (cmpP_zero _ _).1 h0] at this
  | case6 x A y B h h0 ih =>
    intro hA hB pA
    obtain ⟨h1, h2⟩ := List.pairwise_cons.1 hA
    obtain ⟨k1, k2⟩ := List.pairwise_cons.1 hB
    have hl : cmpP y.p x.p < 0 := by
      rcases cmp_ways x.p y.p with c | c | c
      · exact absurd c h
      · exact absurd ((cmpP_zero _ _).2 c) h0
      · exact c
    rw [mg, if_neg h, if_neg h0]
    refine List.pairwise_cons.2 ⟨fun r hr => ?_, ih hA k2 pA⟩
    have e : orM Rt.zero y = y := if_pos rfl
    rw [e]
    rcases or_from pA ((mg_mem _ _ hA k2 r).1 hr) with g | g
    · rcases List.mem_cons.1 g with g | g
      · rw [g]; exact hl
      · exact cmpP_lt _ _ _ hl (h1 _ g)
    · exact k1 _ g
theorem get_hit {L : List Rt} (hL : L.Pairwise ltR) {y : Rt} (hy : y ∈ L) : rgetV L y.p = y.h := by
  obtain ⟨i, hi, rfl⟩ := mem_rt hy
  unfold rgetV
  rw [ix_hit hL hi rfl, if_neg (by omega), Int.toNat_natCast]
theorem get_miss {L : List Rt} {p : Px} (h : ∀ y ∈ L, y.p ≠ p) : rgetV L p = 0 := by
  unfold rgetV
  rw [ix_miss (fun j hj => h _ (rt_mem hj)), if_pos rfl]
theorem mgP_mem {A B : List Rt} (hA : A.Pairwise ltR) (hB : B.Pairwise ltR) (pA : ∀ x ∈ A, 1 ≤ x.h) (pB : ∀ x ∈ B, 1 ≤ x.h) (p : Px) :
    p ∈ mgP A B ↔ (∃ x ∈ A, x.p = p ∧ rgetV B p ≠ x.h) ∨ (∃ y ∈ B, y.p = p ∧ rgetV A p ≠ y.h) := by
  unfold mgP
  rw [List.mem_filterMap]
  constructor
  · rintro ⟨q, hq, ht⟩
    unfold toldQ orM at ht
    by_cases e : q.1 = q.2
    · rw [if_pos e] at ht; cases ht
    · rw [if_neg e] at ht
      rcases (mg_mem _ _ hA hB q).1 hq with ⟨h1, h2, h3⟩ | ⟨h1, h2, h3⟩ | ⟨h1, h2, h3⟩
      · rw [if_neg (hop_zero (pA _ h1))] at ht
        obtain rfl := Option.some.inj ht
        refine .inl ⟨q.1, h1, rfl, fun e2 => e ?_⟩
        rw [h3, get_hit hB h2] at e2
        exact Rt.same.2 ⟨h3, e2.symm⟩
      · rw [if_neg (hop_zero (pA _ h1))] at ht
        obtain rfl := Option.some.inj ht
        refine .inl ⟨q.1, h1, rfl, fun e2 => ?_⟩
        rw [get_miss h3] at e2
        have := pA _ h1
        omega
      · rw [if_pos h1] at ht
        obtain rfl := Option.some.inj ht
        refine .inr ⟨q.2, h2, rfl, fun e2 => ?_⟩
        rw [get_miss h3] at e2
        have := pB _ h2
        omega
  · rintro (⟨x, hx, rfl, h⟩ | ⟨y, hy, rfl, h⟩)
    · by_cases hh : ∃ y ∈ B, y.p = x.p
      · obtain ⟨y, hy, e⟩ := hh
        refine ⟨(x, y), (mg_mem _ _ hA hB _).2 (.inl ⟨hx, hy, e.symm⟩), ?_⟩
        unfold toldQ orM
        rw [if_neg (fun e2 => h (by rw [← e, get_hit hB hy]; exact (congrArg Rt.h e2).symm)), if_neg (hop_zero (pA _ hx))]
      · have hh2 : ∀ y ∈ B, y.p ≠ x.p := fun y hy e => hh ⟨y, hy, e⟩
        refine ⟨(x, Rt.zero), (mg_mem _ _ hA hB _).2 (.inr (.inl ⟨hx, rfl, hh2⟩)), ?_⟩
        unfold toldQ orM
        rw [if_neg (hop_zero (pA _ hx)), if_neg (hop_zero (pA _ hx))]
    · by_cases hh : ∃ x ∈ A, x.p = y.p
      · obtain ⟨x, hx, e⟩ := hh
        refine ⟨(x, y), (mg_mem _ _ hA hB _).2 (.inl ⟨hx, hy, e⟩), ?_⟩
        unfold toldQ orM
        rw [if_neg (fun e2 => h (by rw [← e, get_hit hA hx]; exact congrArg Rt.h e2)), if_neg (hop_zero (pA _ hx)), e]
      · have hh2 : ∀ x ∈ A, x.p ≠ y.p := fun x hx e => hh ⟨x, hx, e⟩
        refine ⟨(Rt.zero, y), (mg_mem _ _ hA hB _).2 (.inr (.inr ⟨rfl, hy, hh2⟩)), ?_⟩
        unfold toldQ orM
        rw [if_neg (fun e => hop_zero (pB _ hy) e.symm), if_pos rfl]
theorem mgP_rise {A B : List Rt} (hA : A.Pairwise ltR) (hB : B.Pairwise ltR) (pA : ∀ x ∈ A, 1 ≤ x.h) : (mgP A B).Pairwise (fun p q => cmpP p q < 0) := by
  unfold mgP
  refine List.Pairwise.filterMap _ (fun q r hqr p hp p2 hp2 => ?_) (mg_rise A B hA hB pA)
  unfold toldQ at hp hp2
  split at hp
  · cases hp
  · split at hp2
    · cases hp2
    · obtain rfl := Option.some.inj hp
      obtain rfl := Option.some.inj hp2
      exact hqr
theorem dfK_mem (B A : List Rt) {acc : List Rt} (ha : acc.Pairwise ltR) (h1 : ∀ x ∈ acc, x.h = 1) : ∀ (k : Nat) (x : Rt), x ∈ dfK B A acc k ↔ x.h = 1 ∧ ((∃ y ∈ acc, y.p = x.p) ∨ ∃ i, i < k ∧ rgetV B (rt A i).p ≠ (rt A i).h ∧ (rt A i).p = x.p)
  | 0, x => by
    unfold dfK
    constructor
    · intro h; exact ⟨h1 x h, .inl ⟨x, h, rfl⟩⟩
    · rintro ⟨h, ⟨y, hy, e⟩ | ⟨i, hi, _⟩⟩
      · have : y = x := Rt.same.2 ⟨e, by rw [h1 y hy, h]⟩
        rw [← this]; exact hy
      · omega
  | k + 1, x => by
    have ih := dfK_mem B A ha h1 k
    by_cases hd : rgetV B (rt A k).p = (rt A k).h
    · rw [dfK_yes hd, ih x]
      constructor
      · rintro ⟨h, h2 | ⟨i, hi, h3⟩⟩
        · exact ⟨h, .inl h2⟩
        · exact ⟨h, .inr ⟨i, by omega, h3⟩⟩
      · rintro ⟨h, h2 | ⟨i, hi, h3⟩⟩
        · exact ⟨h, .inl h2⟩
        · refine ⟨h, .inr ⟨i, ?_, h3⟩⟩
          rcases Nat.lt_succ_iff_lt_or_eq.1 hi with h4 | h4
          · exact h4
          · subst h4; exact absurd hd h3.1
    · rw [dfK_no hd, (putL_spec (dfK_rise B A ha k) _ _).2, ih x]
      constructor
      · rintro (⟨⟨h, h2⟩, h3⟩ | ⟨_, rfl⟩)
        · refine ⟨h, ?_⟩
          rcases h2 with h2 | ⟨i, hi, h4⟩
          · exact .inl h2
          · exact .inr ⟨i, by omega, h4⟩
        · exact ⟨rfl, .inr ⟨k, by omega, hd, rfl⟩⟩
      · rintro ⟨h, h2⟩
        by_cases hp : x.p = (rt A k).p
        · exact .inr ⟨by omega, Rt.same.2 ⟨hp, h⟩⟩
        · refine .inl ⟨⟨h, ?_⟩, hp⟩
          rcases h2 with h2 | ⟨i, hi, h4⟩
          · exact .inl h2
          · refine .inr ⟨i, ?_, h4⟩
            rcases Nat.lt_succ_iff_lt_or_eq.1 hi with h5 | h5
            · exact h5
            · subst h5; exact absurd h4.2.symm hp
/-- What the program tells of two tables is what the document asks. -/
theorem mgP_df {A B : List Rt} (hA : okT A) (hB : okT B) : mgP A B = (dfK A B (dfK B A [] A.length) B.length).map (·.p) := by
  have pA : ∀ x ∈ A, 1 ≤ x.h := fun x hx => (hA.2.1 x hx).2.1
  have pB : ∀ x ∈ B, 1 ≤ x.h := fun x hx => (hB.2.1 x hx).2.1
  have r1 : (dfK B A [] A.length).Pairwise ltR := dfK_rise B A List.Pairwise.nil _
  have m1 := dfK_mem B A (acc := []) List.Pairwise.nil (by simp) A.length
  have r2 : (dfK A B (dfK B A [] A.length) B.length).Pairwise ltR := dfK_rise A B r1 _
  have m2 := dfK_mem A B r1 (fun x hx => ((m1 x).1 hx).1) B.length
  have r3 : ((mgP A B).map (fun p => Rt.mk p 1)).Pairwise ltR := by
    rw [List.pairwise_map]
    exact mgP_rise hA.2.2 hB.2.2 pA
  have e : (mgP A B).map (fun p => Rt.mk p 1) = dfK A B (dfK B A [] A.length) B.length := by
    refine rise_eq r3 r2 fun x => ?_
    rw [m2, List.mem_map]
    constructor
    · rintro ⟨p, hp, rfl⟩
      refine ⟨rfl, ?_⟩
      rcases (mgP_mem hA.2.2 hB.2.2 pA pB p).1 hp with ⟨x, hx, rfl, h⟩ | ⟨y, hy, rfl, h⟩
      · obtain ⟨i, hi, rfl⟩ := mem_rt hx
        exact .inl ⟨⟨(rt A i).p, 1⟩, (m1 _).2 ⟨rfl, .inr ⟨i, hi, h, rfl⟩⟩, rfl⟩
      · obtain ⟨i, hi, rfl⟩ := mem_rt hy
        exact .inr ⟨i, hi, h, rfl⟩
    · rintro ⟨h, h2⟩
      refine ⟨x.p, (mgP_mem hA.2.2 hB.2.2 pA pB x.p).2 ?_, Rt.same.2 ⟨rfl, h.symm⟩⟩
      rcases h2 with ⟨y, hy, e⟩ | ⟨i, hi, h3, h4⟩
      · obtain ⟨_, h5 | ⟨i, hi, h3, h4⟩⟩ := (m1 y).1 hy
        · obtain ⟨z, hz, _⟩ := h5; simp at hz
        · rw [← e, ← h4]; exact .inl ⟨rt A i, rt_mem hi, rfl, h3⟩
      · rw [← h4]; exact .inr ⟨rt B i, rt_mem hi, rfl, h3⟩
  rw [← e, List.map_map]
  simp [Function.comp_def]
end Go.Proofs.YtdbdmnahgkkjiaaDoor
