/-
  What holds of an arena's words: block behind block, and the free lists; what each call makes of it. No walk. Nothing here is a statement of the document.
-/
import Derived.Test.YtoidklkloagioaaArnH
import Derived.Test.YtoidklkloagioaaArnG
import Derived.Test.YtoidklkloagioaaArnF
namespace Go.Proofs.Ytoidklkloagioaa
open Go.RowKit Go.Shelf
set_option linter.unusedVariables false

/-! ### block behind block -/
theorem chain_mem {ws : List Nat} {B : List Bl} {a0 : Nat} (hC : Chain ws a0 B) (h16 : 16 ≤ a0) {b : Bl} (hb : b ∈ B) : b.c ≤ 5 ∧ a0 + 1 ≤ b.x ∧ ws.getD (b.x - 1) 0 = hdN b.c b.t ∧ b.x + 2 ^ b.c ≤ ws.getD 15 0 := by
  obtain ⟨k, hk, rfl⟩ := List.mem_iff_getElem.1 hb
  obtain ⟨h1, h2, h3, h4, _⟩ := chain_get hC h16 (List.getElem?_eq_getElem hk)
  exact ⟨h1, h2, h3, h4⟩
/-- Two blocks are one, or apart. -/
theorem chain_apart {ws : List Nat} : ∀ {B : List Bl} {a0 : Nat}, Chain ws a0 B → 16 ≤ a0 → ∀ {b b' : Bl}, b ∈ B → b' ∈ B → b = b' ∨ b.x + 2 ^ b.c + 1 ≤ b'.x ∨ b'.x + 2 ^ b'.c + 1 ≤ b.x
  | [], _, _, _, b, b', hb, _ => by simp at hb
  | c :: r, a0, h, h16, b, b', hb, hb' => by
    obtain ⟨h1, h2, h3, h4, h5⟩ := h
    have hz : 0 ≤ 2 ^ c.c := Nat.zero_le _
    rcases List.mem_cons.1 hb with rfl | hr <;> rcases List.mem_cons.1 hb' with rfl | hr'
    · exact .inl rfl
    · have := (chain_mem h5 (by generalize 2 ^ b.c = z at *; omega) hr').2.1
      exact .inr (.inl (by generalize 2 ^ b.c = z at *; omega))
    · have := (chain_mem h5 (by generalize 2 ^ b'.c = z at *; omega) hr).2.1
      exact .inr (.inr (by generalize 2 ^ b'.c = z at *; omega))
    · exact chain_apart h5 (by generalize 2 ^ c.c = z at *; omega) hr hr'
theorem chain_same {ws : List Nat} {B : List Bl} {a0 : Nat} (hC : Chain ws a0 B) (h16 : 16 ≤ a0) {b b' : Bl} (hb : b ∈ B) (hb' : b' ∈ B) (hx : b.x = b'.x) : b = b' := by
  have p1 := Nat.pos_of_ne_zero (show 2 ^ b.c ≠ 0 by simp)
  have p2 := Nat.pos_of_ne_zero (show 2 ^ b'.c ≠ 0 by simp)
  rcases chain_apart hC h16 hb hb' with h | h | h
  · exact h
  · generalize 2 ^ b.c = z at *; omega
  · generalize 2 ^ b'.c = z at *; omega
/-- The block with another mark. -/
def Bl.mark (b : Bl) (t : Bool) : Bl := ⟨b.x, b.c, t⟩
def marked (B : List Bl) (x : Nat) (t : Bool) : List Bl := B.map fun b => if b.x = x then b.mark t else b
theorem mark_x (b : Bl) (x : Nat) (t : Bool) : (if b.x = x then b.mark t else b).x = b.x ∧ (if b.x = x then b.mark t else b).c = b.c := by
  split <;> exact ⟨rfl, rfl⟩
theorem chain_marked {ws ws' : List Nat} {x : Nat} {t : Bool} : ∀ {B : List Bl} {a0 : Nat}, Chain ws a0 B → ws'.getD 15 0 = ws.getD 15 0 → (∀ b ∈ B, ws'.getD (b.x - 1) 0 = hdN b.c (if b.x = x then t else b.t)) → Chain ws' a0 (marked B x t)
  | [], a0, h, he, _ => by
    have h1 : a0 = ws.getD 15 0 := h
    show a0 = ws'.getD 15 0
    rw [he]; exact h1
  | c :: r, a0, h, he, hh => by
    obtain ⟨h1, h2, h3, h4, h5⟩ := h
    have h6 := hh c (by simp)
    have h7 := chain_marked h5 he (fun b hb => hh b (by simp [hb]))
    have h8 := mark_x c x t
    show Chain ws' a0 ((if c.x = x then c.mark t else c) :: marked r x t)
    refine ⟨by rw [h8.1]; exact h1, by rw [h8.2]; exact h2, ?_, by rw [h8.2, he]; exact h4, by rw [h8.2]; exact h7⟩
    rw [h8.2]
    have e : a0 = c.x - 1 := by omega
    rw [e, h6]
    split <;> rfl
theorem chain_congr {ws ws' : List Nat} : ∀ {B : List Bl} {a0 : Nat}, Chain ws a0 B → ws'.getD 15 0 = ws.getD 15 0 → (∀ b ∈ B, ws'.getD (b.x - 1) 0 = ws.getD (b.x - 1) 0) → Chain ws' a0 B
  | [], a0, h, he, _ => by
    have h1 : a0 = ws.getD 15 0 := h
    show a0 = ws'.getD 15 0
    rw [he]; exact h1
  | c :: r, a0, h, he, hh => by
    obtain ⟨h1, h2, h3, h4, h5⟩ := h
    have h6 := hh c (by simp)
    refine ⟨h1, h2, ?_, by rw [he]; exact h4, chain_congr h5 he (fun b hb => hh b (by simp [hb]))⟩
    have e : a0 = c.x - 1 := by omega
    rw [← h3, e, h6]
theorem chain_grow {ws ws' : List Nat} {c : Nat} (hc : c ≤ 5) (hh : ws'.getD (ws.getD 15 0) 0 = hdN c true) (he : ws'.getD 15 0 = ws.getD 15 0 + 1 + 2 ^ c) : ∀ {B : List Bl} {a0 : Nat}, Chain ws a0 B → (∀ b ∈ B, ws'.getD (b.x - 1) 0 = ws.getD (b.x - 1) 0) → Chain ws' a0 (B ++ [⟨ws.getD 15 0 + 1, c, true⟩])
  | [], a0, h, _ => by
    have h1 : a0 = ws.getD 15 0 := h
    subst h1
    exact ⟨rfl, hc, hh, by rw [he]; exact Nat.le_refl _, he.symm⟩
  | d :: r, a0, h, hg => by
    obtain ⟨h1, h2, h3, h4, h5⟩ := h
    have h6 := hg d (by simp)
    have hz : 0 ≤ 2 ^ c := Nat.zero_le _
    refine ⟨h1, h2, ?_, by rw [he]; generalize 2 ^ c = z at *; omega, chain_grow hc hh he h5 (fun b hb => hg b (by simp [hb]))⟩
    have e : a0 = d.x - 1 := by omega
    rw [← h3, e, h6]

/-! ### free lists -/
/-- A free list, from its first place on. -/
def Lst (ws : List Nat) : Nat → List Nat → Prop
  | s, [] => s = 0
  | s, x :: r => s = x ∧ 17 ≤ x ∧ Lst ws (ws.getD x 0) r
theorem lst_congr {ws ws' : List Nat} : ∀ {l : List Nat} {s : Nat}, Lst ws s l → (∀ x ∈ l, ws'.getD x 0 = ws.getD x 0) → Lst ws' s l
  | [], _, h, _ => h
  | x :: r, s, h, hh => by
    obtain ⟨h1, h2, h3⟩ := h
    refine ⟨h1, h2, ?_⟩
    rw [hh x (by simp)]
    exact lst_congr h3 (fun y hy => hh y (by simp [hy]))

/-- What holds of an arena's words, and of where blocks begin. -/
structure Inv (ws : List Nat) (bs : List Bool) (B : List Bl) (L : Nat → List Nat) : Prop where
  chain : Chain ws 16 B
  edge : ws.getD 15 0 ≤ ws.length
  begs : ∀ i, bs.getD i false = true ↔ ∃ b ∈ B, b.x = i
  lst : ∀ c, c ≤ 5 → Lst ws (ws.getD (9 + c) 0) (L c)
  mem : ∀ c, c ≤ 5 → ∀ x, x ∈ L c ↔ ∃ b ∈ B, b.x = x ∧ b.c = c ∧ b.t = false
  nodup : ∀ c, c ≤ 5 → (L c).Nodup

section
variable {ws : List Nat} {bs : List Bool} {B : List Bl} {L : Nat → List Nat}
theorem Inv.edge16 (h : Inv ws bs B L) : 16 ≤ ws.getD 15 0 := by have := chain_len' h.chain; omega
where
  chain_len' {ws : List Nat} : ∀ {B : List Bl} {a0 : Nat}, Chain ws a0 B → a0 ≤ ws.getD 15 0
  | [], a0, h => Nat.le_of_eq h
  | b :: r, a0, h => by
    have := chain_len' h.2.2.2.2
    have := Nat.zero_le (2 ^ b.c)
    generalize 2 ^ b.c = z at *
    omega
theorem Inv.at (h : Inv ws bs B L) {b : Bl} (hb : b ∈ B) : b.c ≤ 5 ∧ 17 ≤ b.x ∧ ws.getD (b.x - 1) 0 = hdN b.c b.t ∧ b.x + 2 ^ b.c ≤ ws.getD 15 0 := chain_mem h.chain (Nat.le_refl _) hb
theorem Inv.yes (h : Inv ws bs B L) {b : Bl} (hb : b ∈ B) (ht : b.t = true) : Yes ws bs b.x b.c := by
  obtain ⟨h1, h2, h3, h4⟩ := h.at hb
  have he := h.edge
  exact ⟨by omega, by generalize 2 ^ b.c = z at *; omega, h1, (h.begs _).2 ⟨b, hb, rfl⟩, by rw [h3, ht]⟩
theorem Inv.no_free (h : Inv ws bs B L) {b : Bl} (hb : b ∈ B) (ht : b.t = false) : No ws bs (b.x : Int) := by
  obtain ⟨h1, h2, h3, h4⟩ := h.at hb
  have he := h.edge
  have hp := (pow5 h1).1
  refine .inr ⟨by omega, by generalize 2 ^ b.c = z at *; omega, ?_, b.c, h1, by rw [Int.toNat_natCast, h3, ht]⟩
  unfold isB
  rw [Int.toNat_natCast, (h.begs _).2 ⟨b, hb, rfl⟩]
  simp
theorem Inv.no_none (h : Inv ws bs B L) {x : Int} (hx : ∀ b ∈ B, (b.x : Int) ≠ x) : No ws bs x := by
  refine .inl ?_
  unfold isB
  by_cases h0 : 0 ≤ x
  · cases hb : bs.getD x.toNat false with
    | false => simp
    | true =>
      obtain ⟨b, hb1, hb2⟩ := (h.begs _).1 hb
      exact absurd (by omega) (hx b hb1)
  · simp [h0]
/-- A place: a block that is taken is there, or none. -/
theorem Inv.cases (h : Inv ws bs B L) (x : Int) : (∃ b ∈ B, b.t = true ∧ x = (b.x : Int)) ∨ (No ws bs x ∧ ∀ b ∈ B, b.t = true → (b.x : Int) ≠ x) := by
  by_cases hx : ∃ b ∈ B, (b.x : Int) = x
  · obtain ⟨b, hb, rfl⟩ := hx
    cases ht : b.t with
    | true => exact .inl ⟨b, hb, ht, rfl⟩
    | false =>
      refine .inr ⟨h.no_free hb ht, fun b' hb' ht' he => ?_⟩
      have := chain_same h.chain (Nat.le_refl _) hb' hb (by omega)
      rw [this, ht] at ht'
      cases ht'
  · exact .inr ⟨h.no_none (fun b hb he => hx ⟨b, hb, he⟩), fun b hb _ he => hx ⟨b, hb, he⟩⟩
theorem Inv.lead (h : Inv ws bs B L) (x : Int) : Lead ws bs x ∨ (x ≠ 0 ∧ No ws bs x) := by
  rcases h.cases x with ⟨b, hb, ht, rfl⟩ | ⟨hn, _⟩
  · exact .inl (.inr ⟨b.x, b.c, rfl, h.yes hb ht⟩)
  · by_cases h0 : x = 0
    · subst h0; exact .inl (.inl ⟨rfl, hn⟩)
    · exact .inr ⟨h0, hn⟩

/-- It reads nothing but the edge, the heads, and the first words of what is free. -/
theorem Inv.congr (h : Inv ws bs B L) {ws' : List Nat} (hl : ws'.length = ws.length) (hw : ∀ i, 9 ≤ i → i ≤ 15 → ws'.getD i 0 = ws.getD i 0) (hh : ∀ b ∈ B, ws'.getD (b.x - 1) 0 = ws.getD (b.x - 1) 0) (hf : ∀ b ∈ B, b.t = false → ws'.getD b.x 0 = ws.getD b.x 0) : Inv ws' bs B L := by
  refine ⟨chain_congr h.chain (hw 15 (by omega) (by omega)) hh, by rw [hw 15 (by omega) (by omega), hl]; exact h.edge, h.begs, fun c hc => ?_, h.mem, h.nodup⟩
  rw [hw (9 + c) (by omega) (by omega)]
  refine lst_congr (h.lst c hc) (fun x hx => ?_)
  obtain ⟨b, hb, rfl, _, ht⟩ := (h.mem c hc x).1 hx
  exact hf b hb ht
theorem Inv.low (h : Inv ws bs B L) {ws' : List Nat} (hl : ws'.length = ws.length) (hw : ∀ i, 9 ≤ i → ws'.getD i 0 = ws.getD i 0) : Inv ws' bs B L :=
  h.congr hl (fun i h1 _ => hw i h1) (fun b hb => hw _ (by have := (h.at hb).2.1; omega)) (fun b hb _ => hw _ (by have := (h.at hb).2.1; omega))
theorem Inv.store (h : Inv ws bs B L) {b : Bl} (hb : b ∈ B) (ht : b.t = true) {i : Nat} (hi : i < 2 ^ b.c) (y : Nat) : Inv (ws.set (b.x + i) y) bs B L := by
  obtain ⟨h1, h2, h3, h4⟩ := h.at hb
  have he := h.edge
  have hlt : b.x + i < ws.length := by generalize 2 ^ b.c = z at *; omega
  have hne : ∀ j, (∀ k, k < 2 ^ b.c → j ≠ b.x + k) → (ws.set (b.x + i) y).getD j 0 = ws.getD j 0 := fun j hj => by
    rw [getD_set _ _ _ _ _ hlt, if_neg (fun e => hj i hi e.symm)]
  refine h.congr (by simp) (fun j _ _ => hne j (fun k _ => by omega)) (fun b' hb' => hne _ (fun k hk e => ?_)) (fun b' hb' ht' => hne _ (fun k hk e => ?_))
  · have hb1 := (h.at hb').2.1
    rcases chain_apart h.chain (Nat.le_refl _) hb hb' with rfl | h9 | h9
    · omega
    · generalize 2 ^ b.c = z at *; omega
    · have := Nat.zero_le (2 ^ b'.c); generalize 2 ^ b'.c = z at *; omega
  · rcases chain_apart h.chain (Nat.le_refl _) hb hb' with rfl | h9 | h9
    · rw [ht] at ht'; cases ht'
    · generalize 2 ^ b.c = z at *; omega
    · have := Nat.zero_le (2 ^ b'.c); generalize 2 ^ b'.c = z at *; omega
end
end Go.Proofs.Ytoidklkloagioaa
