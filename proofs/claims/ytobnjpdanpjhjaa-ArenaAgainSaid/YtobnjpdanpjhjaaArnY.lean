/-
  What is given back, the last one first, is taken again, the first one first: the words are what they were. No walk. Nothing here is a statement of the document.
-/
import Derived.Test.YtobnjpdanpjhjaaArnU
namespace Go.Proofs.Ytobnjpdanpjhjaa
open Go.RowKit Go.Shelf
set_option linter.unusedVariables false

/-- An arena of which blocks were but taken, and nothing stored. -/
structure Fresh (ws : List Nat) (bs : List Bool) (B : List Bl) : Prop where
  inv : Inv ws bs B (fun _ => [])
  tk : ∀ b ∈ B, b.t = true
  zero : ∀ b ∈ B, ∀ j, j < 2 ^ b.c → ws.getD (b.x + j) 0 = 0
  above : ∀ i, ws.getD 15 0 ≤ i → ws.getD i 0 = 0
  low : ws.getD 5 0 = 0 ∧ ws.getD 6 0 = 0
theorem fresh_new {n : Nat} (h : 64 ≤ n) : Fresh (newWs n) (List.replicate n false) [] :=
  ⟨inv_new h, by simp, by simp, fun i hi => by rw [newWs_15 h] at hi; exact newWs_get h (by omega) (by omega), newWs_get h (by omega) (by omega), newWs_get h (by omega) (by omega)⟩
section
variable {ws ws1 : List Nat} {bs bs1 : List Bool} {B : List Bl}
theorem Fresh.grow (h : Fresh ws bs B) (hbl : bs.length = ws.length) {c : Nat} (hc : c ≤ 5) (hf : ws.getD 15 0 + 1 + 2 ^ c ≤ ws.length) : Fresh (growW ws c) (bs.set (ws.getD 15 0 + 1) true) (B ++ [⟨ws.getD 15 0 + 1, c, true⟩]) := by
  have h16 := h.inv.edge16
  have hp := (pow5 hc).1
  have hg := fun i => growW_get (c := c) h16 (by omega : ws.getD 15 0 < ws.length) i
  refine ⟨h.inv.grow hbl hc hf, fun b hb => ?_, fun b hb j hj => ?_, fun i hi => ?_, ?_, ?_⟩
  · rcases List.mem_append.1 hb with hb | hb
    · exact h.tk b hb
    · obtain rfl := List.mem_singleton.1 hb; rfl
  · rcases List.mem_append.1 hb with hb | hb
    · have h4 := h.inv.at hb
      rw [hg, if_neg (by omega), if_neg (by have := h4.2.2.2; omega)]
      exact h.zero b hb j hj
    · obtain rfl := List.mem_singleton.1 hb
      dsimp only
      rw [hg, if_neg (by omega), if_neg (by omega)]
      exact h.above _ (by omega)
  · rw [hg, if_pos rfl] at hi
    rw [hg, if_neg (by omega), if_neg (by omega)]
    exact h.above _ (by omega)
  · rw [hg, if_neg (by omega), if_neg (by omega)]; exact h.low.1
  · rw [hg, if_neg (by omega), if_neg (by omega)]; exact h.low.2

theorem chain_lt {ws : List Nat} : ∀ {B : List Bl} {a0 : Nat}, Chain ws a0 B → 16 ≤ a0 → ∀ {i j : Nat} {b b' : Bl}, i < j → B[i]? = some b → B[j]? = some b' → b.x < b'.x
  | [], _, _, _, i, j, b, b', _, hb, _ => by simp at hb
  | c :: r, a0, h, h16, i, 0, b, b', hij, _, _ => absurd hij (by omega)
  | c :: r, a0, h, h16, 0, j + 1, b, b', hij, hb, hb' => by
    obtain rfl : c = b := by simpa using hb
    obtain ⟨h1, h2, h3, h4, h5⟩ := h
    have hz : 0 ≤ 2 ^ c.c := Nat.zero_le _
    have := (chain_mem h5 (by generalize 2 ^ c.c = z at *; omega) (List.mem_of_getElem? (by simpa using hb' : r[j]? = some b'))).2.1
    generalize 2 ^ c.c = z at *
    omega
  | c :: r, a0, h, h16, i + 1, j + 1, b, b', hij, hb, hb' => by
    obtain ⟨h1, h2, h3, h4, h5⟩ := h
    have hz : 0 ≤ 2 ^ c.c := Nat.zero_le _
    exact chain_lt h5 (by generalize 2 ^ c.c = z at *; omega) (by omega : i < j) (by simpa using hb) (by simpa using hb')
theorem Inv.differ {L : Nat → List Nat} (h : Inv ws bs B L) {i j : Nat} {b b' : Bl} (hij : i ≠ j) (hb : B[i]? = some b) (hb' : B[j]? = some b') : b.x ≠ b'.x := by
  rcases Nat.lt_or_gt_of_ne hij with h1 | h1
  · have := chain_lt h.chain (Nat.le_refl _) h1 hb hb'; omega
  · have := chain_lt h.chain (Nat.le_refl _) h1 hb' hb; omega

/-- The first k are taken, the others are free. -/
def half (B : List Bl) (k : Nat) : List Bl := B.mapIdx fun i b => if i < k then b else b.mark false
def halfL (B : List Bl) (k : Nat) : Nat → List Nat := fun c => ((B.drop k).filter fun b => b.c == c).map Bl.x
theorem half_get (B : List Bl) (k i : Nat) : (half B k)[i]? = B[i]?.map fun b => if i < k then b else b.mark false := by
  unfold half
  rw [List.getElem?_mapIdx]
theorem half_len (B : List Bl) (k : Nat) : (half B k).length = B.length := by simp [half]
theorem half_all (B : List Bl) : half B B.length = B := by
  apply List.ext_getElem?
  intro i
  rw [half_get]
  cases h : B[i]? with
  | none => rfl
  | some b =>
    have := (List.getElem?_eq_some_iff.1 h).1
    simp [this]
theorem halfL_all (B : List Bl) : halfL B B.length = fun _ => [] := by
  unfold halfL
  simp
theorem halfL_step {k : Nat} {b : Bl} (hb : B[k]? = some b) (c : Nat) : halfL B k c = if c = b.c then b.x :: halfL B (k + 1) c else halfL B (k + 1) c := by
  obtain ⟨hk, hb2⟩ := List.getElem?_eq_some_iff.1 hb
  unfold halfL
  rw [List.drop_eq_getElem_cons hk, hb2, List.filter_cons]
  by_cases h : c = b.c
  · subst h; simp
  · rw [if_neg h, if_neg (by simpa using fun e => h e.symm)]
theorem half_marked {k : Nat} {b : Bl} (hd : ∀ i b', i ≠ k → B[i]? = some b' → b'.x ≠ b.x) (hb : B[k]? = some b) : marked (half B (k + 1)) b.x false = half B k := by
  apply List.ext_getElem?
  intro i
  unfold marked
  rw [List.getElem?_map, half_get, half_get]
  cases h : B[i]? with
  | none => rfl
  | some b' =>
    simp only [Option.map_some, Option.some.injEq]
    by_cases hi : i = k
    · subst hi
      obtain rfl : b = b' := by rw [hb] at h; injection h
      have e : (if i < i + 1 then b else b.mark false) = b := if_pos (by omega)
      rw [e, if_pos rfl, if_neg (by omega)]
    · have hx := hd i b' hi h
      by_cases h2 : i < k
      · have e : (if i < k + 1 then b' else b'.mark false) = b' := if_pos (by omega)
        rw [e, if_neg hx, if_pos h2]
      · have e : (if i < k + 1 then b' else b'.mark false) = b'.mark false := if_neg (by omega)
        rw [e, if_neg (show (b'.mark false).x ≠ b.x from hx), if_neg h2]
theorem half_marked2 {k : Nat} {b : Bl} (hd : ∀ i b', i ≠ k → B[i]? = some b' → b'.x ≠ b.x) (ht : b.t = true) (hb : B[k]? = some b) : marked (half B k) b.x true = half B (k + 1) := by
  apply List.ext_getElem?
  intro i
  unfold marked
  rw [List.getElem?_map, half_get, half_get]
  cases h : B[i]? with
  | none => rfl
  | some b' =>
    simp only [Option.map_some, Option.some.injEq]
    by_cases hi : i = k
    · subst hi
      obtain rfl : b = b' := by rw [hb] at h; injection h
      have e : (if i < i then b else b.mark false) = b.mark false := if_neg (by omega)
      rw [e, if_pos (show (b.mark false).x = b.x from rfl), if_pos (by omega)]
      cases b; simp only [Bl.mark] at *; rw [ht]
    · have hx := hd i b' hi h
      by_cases h2 : i < k
      · have e : (if i < k then b' else b'.mark false) = b' := if_pos h2
        rw [e, if_neg hx, if_pos (by omega)]
      · have e : (if i < k then b' else b'.mark false) = b'.mark false := if_neg h2
        rw [e, if_neg (show (b'.mark false).x ≠ b.x from hx), if_neg (by omega)]

structure Half (ws1 ws : List Nat) (bs : List Bool) (B : List Bl) (k : Nat) : Prop where
  inv : Inv ws bs (half B k) (halfL B k)
  same : ∀ i, (i < 9 ∨ 14 < i) → (∀ b ∈ B, i ≠ b.x - 1 ∧ i ≠ b.x ∧ ¬ (b.x ≤ i ∧ i < b.x + 2 ^ b.c)) → ws.getD i 0 = ws1.getD i 0
  zero : ∀ b ∈ B, ∀ j, 1 ≤ j → j < 2 ^ b.c → ws.getD (b.x + j) 0 = 0
  zero0 : ∀ i b, i < k → B[i]? = some b → ws.getD b.x 0 = 0
  len : ws.length = ws1.length
theorem Fresh.half (h : Fresh ws bs B) : Half ws ws bs B B.length :=
  ⟨by rw [half_all, halfL_all]; exact h.inv, fun _ _ _ => rfl, fun b hb j _ hj => h.zero b hb j hj, fun i b _ hb => by
    have hm := List.mem_of_getElem? hb
    have := h.zero b hm 0 (by have := (pow5 (h.inv.at hm).1).1; omega)
    simpa using this, rfl⟩
/-- All of them taken again: the words are what they were. -/
theorem Half.done (F : Fresh ws1 bs1 B) (h : Half ws1 ws bs B B.length) : ws = ws1 := by
  have hi := h.inv
  rw [half_all, halfL_all] at hi
  have key : ∀ i, ws.getD i 0 = ws1.getD i 0 := by
    intro i
    by_cases h1 : 9 ≤ i ∧ i ≤ 14
    · obtain ⟨c, hc, rfl⟩ : ∃ c, c ≤ 5 ∧ i = 9 + c := ⟨i - 9, by omega, by omega⟩
      have a := hi.lst c hc
      have b := F.inv.lst c hc
      rw [show ws.getD (9 + c) 0 = 0 from a, show ws1.getD (9 + c) 0 = 0 from b]
    · by_cases h2 : ∃ b ∈ B, i = b.x - 1 ∨ i = b.x ∨ (b.x ≤ i ∧ i < b.x + 2 ^ b.c)
      · obtain ⟨b, hb, h3⟩ := h2
        by_cases h4 : i = b.x - 1
        · rw [h4, (hi.at hb).2.2.1, (F.inv.at hb).2.2.1]
        · have hp := (pow5 (F.inv.at hb).1).1
          obtain ⟨j, hj, rfl⟩ : ∃ j, j < 2 ^ b.c ∧ i = b.x + j := ⟨i - b.x, by omega, by omega⟩
          rw [F.zero b hb j hj]
          by_cases h5 : j = 0
          · subst h5
            obtain ⟨k, hk, rfl⟩ := List.mem_iff_getElem.1 hb
            exact h.zero0 k _ hk (List.getElem?_eq_getElem hk)
          · exact h.zero b hb j (by omega) hj
      · exact h.same i (by omega) (fun b hb => ⟨fun e => h2 ⟨b, hb, .inl e⟩, fun e => h2 ⟨b, hb, .inr (.inl e)⟩, fun e => h2 ⟨b, hb, .inr (.inr e)⟩⟩)
  apply List.ext_getElem h.len
  intro i h1 h2
  have := key i
  simpa [List.getD_eq_getElem?_getD, h1, h2] using this
theorem Fresh.others (F : Fresh ws1 bs1 B) {k : Nat} {b : Bl} (hb : B[k]? = some b) : ∀ i b', i ≠ k → B[i]? = some b' → b'.x ≠ b.x := fun i b' hi hb' => F.inv.differ hi hb' hb
/-- The k-th one is taken. -/
theorem Half.kth {k m : Nat} {b : Bl} (h : Half ws1 ws bs B m) (hk : k < m) (hb : B[k]? = some b) : b ∈ half B m := by
  refine List.mem_of_getElem? (i := k) ?_
  rw [half_get, hb, Option.map_some, if_pos hk]
theorem Half.low {m : Nat} (F : Fresh ws1 bs1 B) (h : Half ws1 ws bs B m) {i : Nat} (hi : i < 9) : ws.getD i 0 = ws1.getD i 0 :=
  h.same i (.inl hi) fun b hb => by have := (F.inv.at hb).2.1; omega
theorem Half.free {k : Nat} {b : Bl} (F : Fresh ws1 bs1 B) (h : Half ws1 ws bs B (k + 1)) (hb : B[k]? = some b) (y : Nat) : Half ws1 (freeW (ws.set (b.x + 0) y) b.x b.c) bs B k := by
  have hm := h.kth (Nat.lt_succ_self k) hb
  have hmB := List.mem_of_getElem? hb
  have ht := F.tk b hmB
  obtain ⟨hc, h17, hh, he⟩ := F.inv.at hmB
  have hp := (pow5 hc).1
  have hE := h.inv.edge
  have hE2 := (h.inv.at hm).2.2.2
  have i1 := h.inv.store hm ht (i := 0) (by omega) y
  have i2 := i1.free hm ht
  rw [half_marked (F.others hb) hb] at i2
  have hLL : (fun k' => if k' = b.c then b.x :: halfL B (k + 1) b.c else halfL B (k + 1) k') = halfL B k := by
    funext c
    rw [halfL_step hb c]
    by_cases hcc : c = b.c
    · rw [if_pos hcc, if_pos hcc, hcc]
    · rw [if_neg hcc, if_neg hcc]
  rw [hLL] at i2
  have hx : b.x < ws.length := by omega
  have hg := fun i => freeW_get (ws := ws.set (b.x + 0) y) hc h17 (by simp; omega) i
  have hset : ∀ i, i ≠ b.x → (ws.set (b.x + 0) y).getD i 0 = ws.getD i 0 := fun i hi => by rw [Nat.add_zero, getD_set _ _ _ _ _ hx, if_neg (Ne.symm hi)]
  refine ⟨i2, fun i h1 h2 => ?_, fun b' hb' j hj1 hj2 => ?_, fun i b' hi hb' => ?_, by rw [freeW_len]; simpa using h.len⟩
  · have h3 := h2 b hmB
    rw [hg, if_neg h3.1, if_neg (by omega), if_neg h3.2.1, if_neg h3.2.2, hset i h3.2.1]
    exact h.same i h1 h2
  · by_cases hne : b'.x = b.x
    · obtain rfl := chain_same F.inv.chain (Nat.le_refl _) hb' hmB hne
      rw [hg, if_neg (by omega), if_neg (by omega), if_neg (by omega), if_pos (by omega)]
    · have ha := F.inv.apart hb' hmB hne
      have ha2 := F.inv.apart hmB hb' (Ne.symm hne)
      have h5 := ha.1 j hj2
      have h6 := (F.inv.at hb').2.1
      have h7 : ¬ (b.x ≤ b'.x + j ∧ b'.x + j < b.x + 2 ^ b.c) := by
        rcases chain_apart F.inv.chain (Nat.le_refl _) hb' hmB with rfl | h9 | h9
        · exact absurd rfl hne
        · omega
        · omega
      rw [hg, if_neg (by omega), if_neg (by omega), if_neg (by omega), if_neg h7, hset _ (by omega)]
      exact h.zero b' hb' j hj1 hj2
  · have hmB' := List.mem_of_getElem? hb'
    have hne := F.others hb i b' (by omega) hb'
    have ha := F.inv.apart hmB' hmB hne
    have h6 := (F.inv.at hmB').2.1
    have hp' := (pow5 (F.inv.at hmB').1).1
    have h5 := ha.1 0 (by omega)
    have h7 : ¬ (b.x ≤ b'.x ∧ b'.x < b.x + 2 ^ b.c) := by
      rcases chain_apart F.inv.chain (Nat.le_refl _) hmB' hmB with rfl | h9 | h9
      · exact absurd rfl hne
      · omega
      · omega
    rw [hg, if_neg (by omega), if_neg (by omega), if_neg (by omega), if_neg h7, hset _ hne]
    exact h.zero0 i b' (by omega) hb'
theorem Half.take {k : Nat} {b : Bl} (F : Fresh ws1 bs1 B) (h : Half ws1 ws bs B k) (hb : B[k]? = some b) : ws.getD (9 + b.c) 0 = b.x ∧ b.x < ws.length ∧ Half ws1 (listW ws b.c b.x) bs B (k + 1) := by
  have hmB := List.mem_of_getElem? hb
  have ht := F.tk b hmB
  obtain ⟨hc, h17, hh, he⟩ := F.inv.at hmB
  have hL := halfL_step hb b.c
  rw [if_pos rfl] at hL
  obtain ⟨g1, g2, g3, g4⟩ := h.inv.list hc hL
  rw [half_marked2 (F.others hb) ht hb] at g4
  have hLL : (fun k' => if k' = b.c then halfL B (k + 1) b.c else halfL B k k') = halfL B (k + 1) := by
    funext c
    by_cases hcc : c = b.c
    · subst hcc; rw [if_pos rfl]
    · rw [if_neg hcc, halfL_step hb c, if_neg hcc]
  rw [hLL] at g4
  have hg := fun i => listW_get (ws := ws) hc g2 g3 i
  refine ⟨g1, g3, g4, fun i h1 h2 => ?_, fun b' hb' j hj1 hj2 => ?_, fun i b' hi hb' => ?_, by rw [listW_len]; exact h.len⟩
  · have h3 := h2 b hmB
    rw [hg, if_neg h3.1, if_neg h3.2.1, if_neg (by omega)]
    exact h.same i h1 h2
  · have h6 := (F.inv.at hb').2.1
    by_cases hne : b'.x = b.x
    · obtain rfl := chain_same F.inv.chain (Nat.le_refl _) hb' hmB hne
      rw [hg, if_neg (by omega), if_neg (by omega), if_neg (by omega)]
      exact h.zero b' hb' j hj1 hj2
    · have h5 := (F.inv.apart hb' hmB hne).1 j hj2
      rw [hg, if_neg (by omega), if_neg (by omega), if_neg (by omega)]
      exact h.zero b' hb' j hj1 hj2
  · by_cases hik : i = k
    · subst hik
      obtain rfl : b = b' := by rw [hb] at hb'; injection hb'
      rw [hg, if_neg (by omega), if_pos rfl]
    · have hmB' := List.mem_of_getElem? hb'
      have hne := F.others hb i b' hik hb'
      have h6 := (F.inv.at hmB').2.1
      have hp' := (pow5 (F.inv.at hmB').1).1
      have h5 := (F.inv.apart hmB' hmB hne).1 0 (by omega)
      rw [hg, if_neg (by omega), if_neg (by omega), if_neg (by omega)]
      exact h.zero0 i b' (by omega) hb'
end
end Go.Proofs.Ytobnjpdanpjhjaa
