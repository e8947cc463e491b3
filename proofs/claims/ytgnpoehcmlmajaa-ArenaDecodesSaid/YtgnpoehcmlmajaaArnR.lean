/-
  The place that an op names, of an arena. Nothing here is a statement of the document.
-/
import Derived.Test.YtgnpoehcmlmajaaRgC
import Derived.Test.YtgnpoehcmlmajaaArnG
import Derived.Test.YtgnpoehcmlmajaaArnF
import Derived.Test.YtgnpoehcmlmajaaArnK
namespace Go.Proofs.Ytgnpoehcmlmajaa
open Go.RowKit Go.Shelf
set_option linter.unusedVariables false

/-! ### block behind block -/
theorem chain_mem {ws : List Nat} {B : List Bl} {a0 : Nat} (hC : Chain ws a0 B) (h16 : 16 ≤ a0) {b : Bl} (hb : b ∈ B) : b.c ≤ 5 ∧ a0 + 1 ≤ b.x ∧ ws.getD (b.x - 1) 0 = hdN b.c b.t ∧ b.x + 2 ^ b.c ≤ ws.getD 15 0 := by
  obtain ⟨k, hk, rfl⟩ := List.mem_iff_getElem.1 hb
  obtain ⟨h1, h2, h3, h4, _⟩ := chain_get hC h16 (List.getElem?_eq_getElem hk)
  exact ⟨h1, h2, h3, h4⟩
/-- Two blocks are one, or apart. -/
theorem chain_apart {ws : List Nat} : ∀ {B : List Bl} {a0 : Nat}, Chain ws a0 B → 16 ≤ a0 → ∀ {b b' : Bl}, b ∈ B → b' ∈ B → b = b' ∨ b.x + 2 ^ b.c + 1 ≤ b'.x ∨ b'.x + 2 ^ b'.c + 1 ≤ b.x
  | [], _, _, _, b, b', hb, _ => by simp at hb
  | c :: r, a0, h, h16, b, b', hb, hb' => by
    obtain ⟨h1, h2, h3, h4, h5⟩ := h
    have hz : 0 ≤ 2 ^ c.c := Nat.zero_le _
    rcases List.mem_cons.1 hb with rfl | hr <;> rcases List.mem_cons.1 hb' with rfl | hr'
    · exact .inl rfl
    · have := (chain_mem h5 (by generalize 2 ^ b.c = z at *; omega) hr').2.1
      exact .inr (.inl (by generalize 2 ^ b.c = z at *; omega))
    · have := (chain_mem h5 (by generalize 2 ^ b'.c = z at *; omega) hr).2.1
      exact .inr (.inr (by generalize 2 ^ b'.c = z at *; omega))
    · exact chain_apart h5 (by generalize 2 ^ c.c = z at *; omega) hr hr'
theorem chain_same {ws : List Nat} {B : List Bl} {a0 : Nat} (hC : Chain ws a0 B) (h16 : 16 ≤ a0) {b b' : Bl} (hb : b ∈ B) (hb' : b' ∈ B) (hx : b.x = b'.x) : b = b' := by
  have p1 := Nat.pos_of_ne_zero (show 2 ^ b.c ≠ 0 by simp)
  have p2 := Nat.pos_of_ne_zero (show 2 ^ b'.c ≠ 0 by simp)
  rcases chain_apart hC h16 hb hb' with h | h | h
  · exact h
  · generalize 2 ^ b.c = z at *; omega
  · generalize 2 ^ b'.c = z at *; omega
/-- The block with another mark. -/
def Bl.mark (b : Bl) (t : Bool) : Bl := ⟨b.x, b.c, t⟩
def marked (B : List Bl) (x : Nat) (t : Bool) : List Bl := B.map fun b => if b.x = x then b.mark t else b
theorem mark_x (b : Bl) (x : Nat) (t : Bool) : (if b.x = x then b.mark t else b).x = b.x ∧ (if b.x = x then b.mark t else b).c = b.c := by
  split <;> exact ⟨rfl, rfl⟩
theorem chain_marked {ws ws' : List Nat} {x : Nat} {t : Bool} : ∀ {B : List Bl} {a0 : Nat}, Chain ws a0 B → ws'.getD 15 0 = ws.getD 15 0 → (∀ b ∈ B, ws'.getD (b.x - 1) 0 = hdN b.c (if b.x = x then t else b.t)) → Chain ws' a0 (marked B x t)
  | [], a0, h, he, _ => by
    have h1 : a0 = ws.getD 15 0 := h
    show a0 = ws'.getD 15 0
    rw [he]; exact h1
  | c :: r, a0, h, he, hh => by
    obtain ⟨h1, h2, h3, h4, h5⟩ := h
    have h6 := hh c (by simp)
    have h7 := chain_marked h5 he (fun b hb => hh b (by simp [hb]))
    have h8 := mark_x c x t
    show Chain ws' a0 ((if c.x = x then c.mark t else c) :: marked r x t)
    refine ⟨by rw [h8.1]; exact h1, by rw [h8.2]; exact h2, ?_, by rw [h8.2, he]; exact h4, by rw [h8.2]; exact h7⟩
    rw [h8.2]
    have e : a0 = c.x - 1 := by omega
    rw [e, h6]
    split <;> rfl
theorem chain_congr {ws ws' : List Nat} : ∀ {B : List Bl} {a0 : Nat}, Chain ws a0 B → ws'.getD 15 0 = ws.getD 15 0 → (∀ b ∈ B, ws'.getD (b.x - 1) 0 = ws.getD (b.x - 1) 0) → Chain ws' a0 B
  | [], a0, h, he, _ => by
    have h1 : a0 = ws.getD 15 0 := h
    show a0 = ws'.getD 15 0
    rw [he]; exact h1
  | c :: r, a0, h, he, hh => by
    obtain ⟨h1, h2, h3, h4, h5⟩ := h
    have h6 := hh c (by simp)
    refine ⟨h1, h2, ?_, by rw [he]; exact h4, chain_congr h5 he (fun b hb => hh b (by simp [hb]))⟩
    have e : a0 = c.x - 1 := by omega
    rw [← h3, e, h6]
theorem chain_grow {ws ws' : List Nat} {c : Nat} (hc : c ≤ 5) (hh : ws'.getD (ws.getD 15 0) 0 = hdN c true) (he : ws'.getD 15 0 = ws.getD 15 0 + 1 + 2 ^ c) : ∀ {B : List Bl} {a0 : Nat}, Chain ws a0 B → (∀ b ∈ B, ws'.getD (b.x - 1) 0 = ws.getD (b.x - 1) 0) → Chain ws' a0 (B ++ [⟨ws.getD 15 0 + 1, c, true⟩])
  | [], a0, h, _ => by
    have h1 : a0 = ws.getD 15 0 := h
    subst h1
    exact ⟨rfl, hc, hh, by rw [he]; exact Nat.le_refl _, he.symm⟩
  | d :: r, a0, h, hg => by
    obtain ⟨h1, h2, h3, h4, h5⟩ := h
    have h6 := hg d (by simp)
    have hz : 0 ≤ 2 ^ c := Nat.zero_le _
    refine ⟨h1, h2, ?_, by rw [he]; generalize 2 ^ c = z at *; omega, chain_grow hc hh he h5 (fun b hb => hg b (by simp [hb]))⟩
    have e : a0 = d.x - 1 := by omega
    rw [← h3, e, h6]

/-! ### free lists -/
/-- A free list, from its first place on. -/
def Lst (ws : List Nat) : Nat → List Nat → Prop
  | s, [] => s = 0
  | s, x :: r => s = x ∧ 17 ≤ x ∧ Lst ws (ws.getD x 0) r
theorem lst_congr {ws ws' : List Nat} : ∀ {l : List Nat} {s : Nat}, Lst ws s l → (∀ x ∈ l, ws'.getD x 0 = ws.getD x 0) → Lst ws' s l
  | [], _, h, _ => h
  | x :: r, s, h, hh => by
    obtain ⟨h1, h2, h3⟩ := h
    refine ⟨h1, h2, ?_⟩
    rw [hh x (by simp)]
    exact lst_congr h3 (fun y hy => hh y (by simp [hy]))

/-- What holds of an arena's words, and of where blocks begin. -/
structure Inv (ws : List Nat) (bs : List Bool) (B : List Bl) (L : Nat → List Nat) : Prop where
  chain : Chain ws 16 B
  edge : ws.getD 15 0 ≤ ws.length
  begs : ∀ i, bs.getD i false = true ↔ ∃ b ∈ B, b.x = i
  lst : ∀ c, c ≤ 5 → Lst ws (ws.getD (9 + c) 0) (L c)
  mem : ∀ c, c ≤ 5 → ∀ x, x ∈ L c ↔ ∃ b ∈ B, b.x = x ∧ b.c = c ∧ b.t = false
  nodup : ∀ c, c ≤ 5 → (L c).Nodup

section
variable {ws : List Nat} {bs : List Bool} {B : List Bl} {L : Nat → List Nat}
theorem Inv.edge16 (h : Inv ws bs B L) : 16 ≤ ws.getD 15 0 := by have := chain_len' h.chain; omega
where
  chain_len' {ws : List Nat} : ∀ {B : List Bl} {a0 : Nat}, Chain ws a0 B → a0 ≤ ws.getD 15 0
  | [], a0, h => Nat.le_of_eq h
  | b :: r, a0, h => by
    have := chain_len' h.2.2.2.2
    have := Nat.zero_le (2 ^ b.c)
    generalize 2 ^ b.c = z at *
    omega
theorem Inv.at (h : Inv ws bs B L) {b : Bl} (hb : b ∈ B) : b.c ≤ 5 ∧ 17 ≤ b.x ∧ ws.getD (b.x - 1) 0 = hdN b.c b.t ∧ b.x + 2 ^ b.c ≤ ws.getD 15 0 := chain_mem h.chain (Nat.le_refl _) hb
theorem Inv.yes (h : Inv ws bs B L) {b : Bl} (hb : b ∈ B) (ht : b.t = true) : Yes ws bs b.x b.c := by
  obtain ⟨h1, h2, h3, h4⟩ := h.at hb
  have he := h.edge
  exact ⟨by omega, by generalize 2 ^ b.c = z at *; omega, h1, (h.begs _).2 ⟨b, hb, rfl⟩, by rw [h3, ht]⟩
theorem Inv.no_free (h : Inv ws bs B L) {b : Bl} (hb : b ∈ B) (ht : b.t = false) : No ws bs (b.x : Int) := by
  obtain ⟨h1, h2, h3, h4⟩ := h.at hb
  have he := h.edge
  have hp := (pow5 h1).1
  refine .inr ⟨by omega, by generalize 2 ^ b.c = z at *; omega, ?_, b.c, h1, by rw [Int.toNat_natCast, h3, ht]⟩
  unfold isB
  rw [Int.toNat_natCast, (h.begs _).2 ⟨b, hb, rfl⟩]
  simp
theorem Inv.no_none (h : Inv ws bs B L) {x : Int} (hx : ∀ b ∈ B, (b.x : Int) ≠ x) : No ws bs x := by
  refine .inl ?_
  unfold isB
  by_cases h0 : 0 ≤ x
  · cases hb : bs.getD x.toNat false with
    | false => simp
    | true =>
      obtain ⟨b, hb1, hb2⟩ := (h.begs _).1 hb
      exact absurd (by omega) (hx b hb1)
  · simp [h0]
/-- A place: a block that is taken is there, or none. -/
theorem Inv.cases (h : Inv ws bs B L) (x : Int) : (∃ b ∈ B, b.t = true ∧ x = (b.x : Int)) ∨ (No ws bs x ∧ ∀ b ∈ B, b.t = true → (b.x : Int) ≠ x) := by
  by_cases hx : ∃ b ∈ B, (b.x : Int) = x
  · obtain ⟨b, hb, rfl⟩ := hx
    cases ht : b.t with
    | true => exact .inl ⟨b, hb, ht, rfl⟩
    | false =>
      refine .inr ⟨h.no_free hb ht, fun b' hb' ht' he => ?_⟩
      have := chain_same h.chain (Nat.le_refl _) hb' hb (by omega)
      rw [this, ht] at ht'
      cases ht'
  · exact .inr ⟨h.no_none (fun b hb he => hx ⟨b, hb, he⟩), fun b hb _ he => hx ⟨b, hb, he⟩⟩
theorem Inv.lead (h : Inv ws bs B L) (x : Int) : Lead ws bs x ∨ (x ≠ 0 ∧ No ws bs x) := by
  rcases h.cases x with ⟨b, hb, ht, rfl⟩ | ⟨hn, _⟩
  · exact .inl (.inr ⟨b.x, b.c, rfl, h.yes hb ht⟩)
  · by_cases h0 : x = 0
    · subst h0; exact .inl (.inl ⟨rfl, hn⟩)
    · exact .inr ⟨h0, hn⟩

/-- It reads nothing but the edge, the heads, and the first words of what is free. -/
theorem Inv.congr (h : Inv ws bs B L) {ws' : List Nat} (hl : ws'.length = ws.length) (hw : ∀ i, 9 ≤ i → i ≤ 15 → ws'.getD i 0 = ws.getD i 0) (hh : ∀ b ∈ B, ws'.getD (b.x - 1) 0 = ws.getD (b.x - 1) 0) (hf : ∀ b ∈ B, b.t = false → ws'.getD b.x 0 = ws.getD b.x 0) : Inv ws' bs B L := by
  refine ⟨chain_congr h.chain (hw 15 (by omega) (by omega)) hh, by rw [hw 15 (by omega) (by omega), hl]; exact h.edge, h.begs, fun c hc => ?_, h.mem, h.nodup⟩
  rw [hw (9 + c) (by omega) (by omega)]
  refine lst_congr (h.lst c hc) (fun x hx => ?_)
  obtain ⟨b, hb, rfl, _, ht⟩ := (h.mem c hc x).1 hx
  exact hf b hb ht
theorem Inv.low (h : Inv ws bs B L) {ws' : List Nat} (hl : ws'.length = ws.length) (hw : ∀ i, 9 ≤ i → ws'.getD i 0 = ws.getD i 0) : Inv ws' bs B L :=
  h.congr hl (fun i h1 _ => hw i h1) (fun b hb => hw _ (by have := (h.at hb).2.1; omega)) (fun b hb _ => hw _ (by have := (h.at hb).2.1; omega))
theorem Inv.store (h : Inv ws bs B L) {b : Bl} (hb : b ∈ B) (ht : b.t = true) {i : Nat} (hi : i < 2 ^ b.c) (y : Nat) : Inv (ws.set (b.x + i) y) bs B L := by
  obtain ⟨h1, h2, h3, h4⟩ := h.at hb
  have he := h.edge
  have hlt : b.x + i < ws.length := by generalize 2 ^ b.c = z at *; omega
  have hne : ∀ j, (∀ k, k < 2 ^ b.c → j ≠ b.x + k) → (ws.set (b.x + i) y).getD j 0 = ws.getD j 0 := fun j hj => by
    rw [getD_set _ _ _ _ _ hlt, if_neg (fun e => hj i hi e.symm)]
  refine h.congr (by simp) (fun j _ _ => hne j (fun k _ => by omega)) (fun b' hb' => hne _ (fun k hk e => ?_)) (fun b' hb' ht' => hne _ (fun k hk e => ?_))
  · have hb1 := (h.at hb').2.1
    rcases chain_apart h.chain (Nat.le_refl _) hb hb' with rfl | h9 | h9
    · omega
    · generalize 2 ^ b.c = z at *; omega
    · have := Nat.zero_le (2 ^ b'.c); generalize 2 ^ b'.c = z at *; omega
  · rcases chain_apart h.chain (Nat.le_refl _) hb hb' with rfl | h9 | h9
    · rw [ht] at ht'; cases ht'
    · generalize 2 ^ b.c = z at *; omega
    · have := Nat.zero_le (2 ^ b'.c); generalize 2 ^ b'.c = z at *; omega
end
end Go.Proofs.Ytgnpoehcmlmajaa
namespace Go.Proofs.Ytgnpoehcmlmajaa
open Go.RowKit Go.Shelf
set_option linter.unusedVariables false

theorem growW_get {ws : List Nat} {c : Nat} (h16 : 16 ≤ ws.getD 15 0) (hl : ws.getD 15 0 < ws.length) (i : Nat) : (growW ws c).getD i 0 = if i = 15 then ws.getD 15 0 + 1 + 2 ^ c else if i = ws.getD 15 0 then hdN c true else ws.getD i 0 := by
  unfold growW
  rw [getD_set _ _ _ _ _ (by simp; omega), getD_set _ _ _ _ _ hl]
  by_cases h1 : i = 15
  · subst h1; simp
  · rw [if_neg (Ne.symm h1), if_neg h1]
    by_cases h2 : i = ws.getD 15 0
    · rw [if_pos h2.symm, if_pos h2]
    · rw [if_neg (Ne.symm h2), if_neg h2]
theorem growW_len (ws : List Nat) (c : Nat) : (growW ws c).length = ws.length := by simp [growW]
theorem listW_get {ws : List Nat} {c x : Nat} (hc : c ≤ 5) (hx : 17 ≤ x) (hl : x < ws.length) (i : Nat) : (listW ws c x).getD i 0 = if i = x - 1 then hdN c true else if i = x then 0 else if i = 9 + c then ws.getD x 0 else ws.getD i 0 := by
  unfold listW
  rw [getD_set _ _ _ _ _ (by simp; omega), getD_set _ _ _ _ _ (by simp; omega), getD_set _ _ _ _ _ (by omega)]
  simp only [eq_comm (a := x - 1), eq_comm (a := x), eq_comm (a := 9 + c)]
theorem listW_len (ws : List Nat) (c x : Nat) : (listW ws c x).length = ws.length := by simp [listW]
theorem freeW_get {ws : List Nat} {c x : Nat} (hc : c ≤ 5) (hx : 17 ≤ x) (hl : x + 2 ^ c ≤ ws.length) (i : Nat) : (freeW ws x c).getD i 0 = if i = x - 1 then hdN c false else if i = 9 + c then x else if i = x then ws.getD (9 + c) 0 else if x ≤ i ∧ i < x + 2 ^ c then 0 else ws.getD i 0 := by
  have hp := (pow5 hc).1
  unfold freeW
  rw [getD_set _ _ _ _ _ (by simp [zeroW_len]; omega), getD_set _ _ _ _ _ (by simp [zeroW_len]; omega), getD_set _ _ _ _ _ (by simp [zeroW_len]; omega), zeroW_get _ _ _ _ hl]
  simp only [eq_comm (a := x - 1), eq_comm (a := x) (b := i), eq_comm (a := 9 + c)]
theorem freeW_len (ws : List Nat) (x c : Nat) : (freeW ws x c).length = ws.length := by simp [freeW, zeroW_len]

section
variable {ws : List Nat} {bs : List Bool} {B : List Bl} {L : Nat → List Nat}
theorem Inv.lt_edge (h : Inv ws bs B L) {b : Bl} (hb : b ∈ B) : b.x < ws.getD 15 0 := by
  have := (h.at hb).2.2.2
  have := (pow5 (h.at hb).1).1
  generalize 2 ^ b.c = z at *
  omega
theorem Inv.free_of (h : Inv ws bs B L) {c x : Nat} (hc : c ≤ 5) (hx : x ∈ L c) : ∃ b ∈ B, b.x = x ∧ b.c = c ∧ b.t = false := (h.mem c hc x).1 hx
/-- Heads and places of two blocks are apart. -/
theorem Inv.apart (h : Inv ws bs B L) {b b' : Bl} (hb : b ∈ B) (hb' : b' ∈ B) (hne : b.x ≠ b'.x) : (∀ j, j < 2 ^ b.c → b.x + j ≠ b'.x ∧ b.x + j ≠ b'.x - 1) ∧ b.x - 1 ≠ b'.x - 1 ∧ b.x - 1 ≠ b'.x := by
  have h1 := (h.at hb).2.1
  have h2 := (h.at hb').2.1
  have p1 := (pow5 (h.at hb).1).1
  have p2 := (pow5 (h.at hb').1).1
  rcases chain_apart h.chain (Nat.le_refl _) hb hb' with rfl | h9 | h9
  · exact absurd rfl hne
  · generalize 2 ^ b.c = z at *
    exact ⟨fun j hj => by omega, by omega, by omega⟩
  · generalize 2 ^ b'.c = z at *
    exact ⟨fun j hj => by omega, by omega, by omega⟩

theorem Inv.grow (h : Inv ws bs B L) (hbl : bs.length = ws.length) {c : Nat} (hc : c ≤ 5) (hf : ws.getD 15 0 + 1 + 2 ^ c ≤ ws.length) : Inv (growW ws c) (bs.set (ws.getD 15 0 + 1) true) (B ++ [⟨ws.getD 15 0 + 1, c, true⟩]) L := by
  have h16 := h.edge16
  have hp := (pow5 hc).1
  have hg := fun i => growW_get (c := c) h16 (by omega : ws.getD 15 0 < ws.length) i
  have hlo : ∀ i, i ≠ 15 → i < ws.getD 15 0 → (growW ws c).getD i 0 = ws.getD i 0 := fun i h1 h2 => by rw [hg, if_neg h1, if_neg (by omega)]
  refine ⟨chain_grow hc (by rw [hg, if_neg (by omega), if_pos rfl]) (by rw [hg, if_pos rfl]) h.chain (fun b hb => hlo _ (by have := (h.at hb).2.1; omega) (by have := h.lt_edge hb; omega)), by rw [hg, if_pos rfl, growW_len]; exact hf, fun i => ?_, fun k hk => ?_, fun k hk x => ?_, h.nodup⟩
  · rw [getD_set _ _ _ _ _ (by omega)]
    by_cases hi : ws.getD 15 0 + 1 = i
    · rw [if_pos hi]
      exact ⟨fun _ => ⟨⟨ws.getD 15 0 + 1, c, true⟩, List.mem_append.2 (.inr (List.mem_singleton.2 rfl)), hi⟩, fun _ => rfl⟩
    · rw [if_neg hi, h.begs]
      constructor
      · rintro ⟨b, hb, hx⟩
        exact ⟨b, by simp [hb], hx⟩
      · rintro ⟨b, hb, hx⟩
        rcases List.mem_append.1 hb with hb | hb
        · exact ⟨b, hb, hx⟩
        · obtain rfl : b = _ := by simpa using hb
          exact absurd hx hi
  · rw [hlo _ (by omega) (by omega)]
    refine lst_congr (h.lst k hk) (fun x hx => ?_)
    obtain ⟨b, hb, rfl, _, _⟩ := h.free_of hk hx
    exact hlo _ (by have := (h.at hb).2.1; omega) (h.lt_edge hb)
  · rw [h.mem k hk]
    constructor
    · rintro ⟨b, hb, hx⟩
      exact ⟨b, by simp [hb], hx⟩
    · rintro ⟨b, hb, hx⟩
      rcases List.mem_append.1 hb with hb | hb
      · exact ⟨b, hb, hx⟩
      · obtain rfl : b = _ := by simpa using hb
        exact absurd hx.2.2 (by simp)

theorem mem_marked {x : Nat} {t : Bool} {b : Bl} : b ∈ marked B x t ↔ ∃ b0 ∈ B, b = if b0.x = x then b0.mark t else b0 := by
  unfold marked
  rw [List.mem_map]
  constructor
  · rintro ⟨b0, h1, h2⟩; exact ⟨b0, h1, h2.symm⟩
  · rintro ⟨b0, h1, h2⟩; exact ⟨b0, h1, h2.symm⟩
theorem begs_marked (h : Inv ws bs B L) (x : Nat) (t : Bool) (i : Nat) : bs.getD i false = true ↔ ∃ b ∈ marked B x t, b.x = i := by
  rw [h.begs]
  constructor
  · rintro ⟨b, hb, rfl⟩
    exact ⟨_, mem_marked.2 ⟨b, hb, rfl⟩, (mark_x b x t).1⟩
  · rintro ⟨b, hb, rfl⟩
    obtain ⟨b0, hb0, rfl⟩ := mem_marked.1 hb
    exact ⟨b0, hb0, (mark_x b0 x t).1.symm⟩

theorem Inv.list (h : Inv ws bs B L) {c x : Nat} {r : List Nat} (hc : c ≤ 5) (hL : L c = x :: r) : ws.getD (9 + c) 0 = x ∧ 17 ≤ x ∧ x < ws.length ∧ Inv (listW ws c x) bs (marked B x true) (fun k => if k = c then r else L k) := by
  have hl := h.lst c hc
  rw [hL] at hl
  obtain ⟨h1, h2, h3⟩ := hl
  obtain ⟨b, hb, hbx, hbc, hbt⟩ := h.free_of hc (show x ∈ L c by rw [hL]; simp)
  have hlt : x < ws.length := by have := h.lt_edge hb; have := h.edge; omega
  have hg := fun i => listW_get (ws := ws) hc h2 hlt i
  have hnd := h.nodup c hc
  rw [hL] at hnd
  have hxr : x ∉ r := (List.nodup_cons.1 hnd).1
  -- a place of another block that is free
  have hoth : ∀ b' ∈ B, b'.x ≠ x → (listW ws c x).getD b'.x 0 = ws.getD b'.x 0 ∧ (listW ws c x).getD (b'.x - 1) 0 = ws.getD (b'.x - 1) 0 := fun b' hb' hne => by
    have ha := h.apart hb' hb (by omega)
    have hb17 := (h.at hb').2.1
    have hp := (pow5 (h.at hb').1).1
    have ha0 := ha.1 0 (by omega)
    rw [hg, hg, if_neg (by omega), if_neg (by omega), if_neg (by omega), if_neg (by omega), if_neg (by omega), if_neg (by omega)]
    exact ⟨rfl, rfl⟩
  refine ⟨h1, h2, hlt, chain_marked h.chain (by rw [hg, if_neg (by omega), if_neg (by omega), if_neg (by omega)]) (fun b' hb' => ?_), ?_, begs_marked h x true, fun k hk => ?_, fun k hk y => ?_, fun k hk => ?_⟩
  · by_cases he : b'.x = x
    · obtain rfl := chain_same h.chain (Nat.le_refl _) hb' hb (by omega)
      rw [if_pos he, hg, if_pos (by omega), hbc]
    · rw [if_neg he, (hoth b' hb' he).2, (h.at hb').2.2.1]
  · rw [hg, if_neg (by omega), if_neg (by omega), if_neg (by omega), listW_len]; exact h.edge
  · by_cases hk2 : k = c
    · subst hk2
      show Lst _ _ (if k = k then r else L k)
      rw [if_pos rfl, hg (9 + k), if_neg (by omega), if_neg (by omega), if_pos rfl]
      refine lst_congr h3 (fun y hy => ?_)
      obtain ⟨b', hb', rfl, _, _⟩ := h.free_of hk (show y ∈ L k by rw [hL]; simp [hy])
      exact (hoth b' hb' (fun e => hxr (by rw [← e]; exact hy))).1
    · show Lst _ _ (if k = c then r else L k)
      rw [if_neg hk2, hg (9 + k), if_neg (by omega), if_neg (by omega), if_neg (by omega)]
      refine lst_congr (h.lst k hk) (fun y hy => ?_)
      obtain ⟨b', hb', rfl, hc', _⟩ := h.free_of hk hy
      refine (hoth b' hb' (fun e => hk2 ?_)).1
      obtain rfl := chain_same h.chain (Nat.le_refl _) hb' hb (by omega)
      omega
  · show y ∈ (if k = c then r else L k) ↔ _
    constructor
    · intro hy
      have hy2 : y ∈ L k ∧ y ≠ x := by
        by_cases hk2 : k = c
        · subst hk2
          rw [if_pos rfl] at hy
          exact ⟨by rw [hL]; simp [hy], fun e => hxr (by rw [← e]; exact hy)⟩
        · rw [if_neg hk2] at hy
          refine ⟨hy, fun e => hk2 ?_⟩
          obtain ⟨b', hb', hx', hc', _⟩ := h.free_of hk hy
          obtain rfl := chain_same h.chain (Nat.le_refl _) hb' hb (by omega)
          omega
      obtain ⟨b', hb', hx', hc', ht'⟩ := h.free_of hk hy2.1
      exact ⟨b', mem_marked.2 ⟨b', hb', by rw [if_neg (by omega)]⟩, hx', hc', ht'⟩
    · rintro ⟨b1, hb1, hx1, hc1, ht1⟩
      obtain ⟨b0, hb0, rfl⟩ := mem_marked.1 hb1
      by_cases he : b0.x = x
      · rw [if_pos he] at ht1; exact absurd ht1 (by simp [Bl.mark])
      · rw [if_neg he] at hx1 hc1 ht1
        have hy := (h.mem k hk y).2 ⟨b0, hb0, hx1, hc1, ht1⟩
        by_cases hk2 : k = c
        · subst hk2
          rw [if_pos rfl]
          rw [hL] at hy
          rcases List.mem_cons.1 hy with h9 | h9
          · omega
          · exact h9
        · rw [if_neg hk2]; exact hy
  · show (if k = c then r else L k).Nodup
    by_cases hk2 : k = c
    · rw [if_pos hk2]; exact (List.nodup_cons.1 hnd).2
    · rw [if_neg hk2]; exact h.nodup k hk

theorem Inv.free (h : Inv ws bs B L) {b : Bl} (hb : b ∈ B) (ht : b.t = true) : Inv (freeW ws b.x b.c) bs (marked B b.x false) (fun k => if k = b.c then b.x :: L b.c else L k) := by
  obtain ⟨hc, h2, hh, he⟩ := h.at hb
  have hE := h.edge
  have hfit : b.x + 2 ^ b.c ≤ ws.length := Nat.le_trans he hE
  have hg := fun i => freeW_get (ws := ws) hc h2 hfit i
  have hp0 := (pow5 hc).1
  have hoth : ∀ b' ∈ B, b'.x ≠ b.x → (freeW ws b.x b.c).getD b'.x 0 = ws.getD b'.x 0 ∧ (freeW ws b.x b.c).getD (b'.x - 1) 0 = ws.getD (b'.x - 1) 0 := fun b' hb' hne => by
    have ha := h.apart hb hb' (Ne.symm hne)
    have ha2 := h.apart hb' hb hne
    have hb17 := (h.at hb').2.1
    have hp := (pow5 (h.at hb').1).1
    have ha0 := ha.1 0 (by omega)
    have ha20 := ha2.1 0 (by omega)
    have hin : ∀ i, (∀ j, j < 2 ^ b.c → b.x + j ≠ i) → ¬ (b.x ≤ i ∧ i < b.x + 2 ^ b.c) := fun i hi hh => hi (i - b.x) (by omega) (by omega)
    rw [hg, hg, if_neg (by omega), if_neg (by omega), if_neg (by omega), if_neg (hin _ fun j hj => (ha.1 j hj).1), if_neg (by omega), if_neg (by omega), if_neg (by omega), if_neg (hin _ fun j hj => (ha.1 j hj).2)]
    exact ⟨rfl, rfl⟩
  have hlow : ∀ i, 9 ≤ i → i ≤ 15 → i ≠ 9 + b.c → (freeW ws b.x b.c).getD i 0 = ws.getD i 0 := fun i h5 h6 h7 => by rw [hg, if_neg (by omega), if_neg h7, if_neg (by omega), if_neg (by omega)]
  have hnew : b.x ∉ L b.c := fun hm => by
    obtain ⟨b', hb', hx', _, ht'⟩ := h.free_of hc hm
    obtain rfl := chain_same h.chain (Nat.le_refl _) hb' hb hx'
    rw [ht] at ht'; cases ht'
  refine ⟨chain_marked h.chain (hlow 15 (by omega) (by omega) (by omega)) (fun b' hb' => ?_), by rw [hlow 15 (by omega) (by omega) (by omega), freeW_len]; exact hE, begs_marked h b.x false, fun k hk => ?_, fun k hk y => ?_, fun k hk => ?_⟩
  · by_cases hx : b'.x = b.x
    · obtain rfl := chain_same h.chain (Nat.le_refl _) hb' hb hx
      rw [if_pos rfl, hg, if_pos rfl]
    · rw [if_neg hx, (hoth b' hb' hx).2, (h.at hb').2.2.1]
  · by_cases hk2 : k = b.c
    · subst hk2
      show Lst _ _ (if b.c = b.c then b.x :: L b.c else L b.c)
      rw [if_pos rfl, hg (9 + b.c), if_neg (by omega), if_pos rfl]
      refine ⟨rfl, h2, ?_⟩
      rw [hg b.x, if_neg (by omega), if_neg (by omega), if_pos rfl]
      refine lst_congr (h.lst b.c hk) (fun y hy => ?_)
      obtain ⟨b', hb', rfl, _, _⟩ := h.free_of hk hy
      exact (hoth b' hb' (fun e => hnew (by rw [← e]; exact hy))).1
    · show Lst _ _ (if k = b.c then b.x :: L b.c else L k)
      rw [if_neg hk2, hlow (9 + k) (by omega) (by omega) (by omega)]
      refine lst_congr (h.lst k hk) (fun y hy => ?_)
      obtain ⟨b', hb', rfl, hc', _⟩ := h.free_of hk hy
      refine (hoth b' hb' (fun e => hk2 ?_)).1
      obtain rfl := chain_same h.chain (Nat.le_refl _) hb' hb e
      exact hc'.symm
  · show y ∈ (if k = b.c then b.x :: L b.c else L k) ↔ _
    constructor
    · intro hy
      by_cases hyx : y = b.x ∧ k = b.c
      · exact ⟨_, mem_marked.2 ⟨b, hb, rfl⟩, by rw [if_pos rfl]; exact hyx.1.symm, by rw [if_pos rfl]; exact hyx.2.symm, by rw [if_pos rfl]; rfl⟩
      · have hy2 : y ∈ L k := by
          by_cases hk2 : k = b.c
          · rw [if_pos hk2] at hy
            rcases List.mem_cons.1 hy with h9 | h9
            · exact absurd ⟨h9, hk2⟩ hyx
            · rw [hk2]; exact h9
          · rw [if_neg hk2] at hy; exact hy
        obtain ⟨b', hb', hx', hc', ht'⟩ := h.free_of hk hy2
        refine ⟨b', mem_marked.2 ⟨b', hb', ?_⟩, hx', hc', ht'⟩
        rw [if_neg]
        intro e
        obtain rfl := chain_same h.chain (Nat.le_refl _) hb' hb e
        rw [ht] at ht'; cases ht'
    · rintro ⟨b1, hb1, hx1, hc1, ht1⟩
      obtain ⟨b0, hb0, rfl⟩ := mem_marked.1 hb1
      by_cases he : b0.x = b.x
      · obtain rfl := chain_same h.chain (Nat.le_refl _) hb0 hb he
        rw [if_pos rfl] at hx1 hc1
        have hk2 : k = b0.c := hc1.symm
        rw [if_pos hk2, show y = b0.x from hx1.symm]
        simp
      · rw [if_neg he] at hx1 hc1 ht1
        have hy := (h.mem k hk y).2 ⟨b0, hb0, hx1, hc1, ht1⟩
        by_cases hk2 : k = b.c
        · rw [if_pos hk2]; rw [hk2] at hy; simp [hy]
        · rw [if_neg hk2]; exact hy
  · show (if k = b.c then b.x :: L b.c else L k).Nodup
    by_cases hk2 : k = b.c
    · rw [if_pos hk2]; exact List.nodup_cons.2 ⟨hnew, h.nodup _ hc⟩
    · rw [if_neg hk2]; exact h.nodup k hk
end
end Go.Proofs.Ytgnpoehcmlmajaa
namespace Go.Proofs.Ytgnpoehcmlmajaa
open Go.RowKit Go.Shelf
set_option linter.unusedVariables false

theorem bel_kept {w a b : World} (h : Below w.heap.size w a) {S : List Nat} (k : Kept S a b) (hS : ∀ k ∈ S, w.heap.size ≤ k) : Below w.heap.size w b := h.trans (k.below hS h.size)
theorem bel_later {w a b : World} (h : Below w.heap.size w a) (k : Below a.heap.size a b) : Below w.heap.size w b := h.trans (k.mono h.size)

def kW0 : List Nat := newWs 64
def kW1 : List Nat := growW kW0 0
def kW2 : List Nat := growW kW1 2
def kW3 : List Nat := kW2.set 22 7
def kW4 : List Nat := ((setN (setN kW3 1 1) 3 0).set 5 19).set 6 0
def kB0 : List Bool := List.replicate 64 false
def kB1 : List Bool := kB0.set 17 true
def kB2 : List Bool := kB1.set 19 true
theorem kF1 : kW0.getD 9 0 = 0 ∧ kW0.getD 15 0 = 16 ∧ kW0.length = 64 := by decide +kernel
theorem kF2 : kW1.getD 11 0 = 0 ∧ kW1.getD 15 0 = 18 ∧ kW1.length = 64 := by decide +kernel
theorem kF3 : kW2.getD 15 0 = 23 ∧ kW2.length = 64 := by decide +kernel
theorem kY2 : Yes kW2 kB2 19 2 := ⟨by decide +kernel, by decide +kernel, by decide +kernel, by decide +kernel, by decide +kernel⟩
theorem kY3 : Yes kW3 kB2 19 2 := ⟨by decide +kernel, by decide +kernel, by decide +kernel, by decide +kernel, by decide +kernel⟩
theorem kY4 : Yes kW4 kB2 19 2 := ⟨by decide +kernel, by decide +kernel, by decide +kernel, by decide +kernel, by decide +kernel⟩
theorem kN3 : No kW3 kB2 0 := .inl (by decide +kernel)
theorem kF4 : kW3.getD 22 0 = 7 ∧ twoN kW3 7 = 0 ∧ twoN kW3 1 = 0 := by decide +kernel
theorem kF5 : kW4.getD 5 0 = 19 ∧ twoN kW4 7 = 0 := by decide +kernel
theorem kF6 : twoN (setN kW4 7 2) 7 = 2 := by decide +kernel

set_option maxRecDepth 100000 in
set_option maxHeartbeats 1000000 in
theorem wakes6_any (w : World) : Calls Try.prog 5 #[] w fun e w' => e = .returned (.bool true) ∧ Below w.heap.size w w' := by
  have hnew := new_yes 64 (by omega) (by omega) w
  have hbd := fun w' => (show (Instr.build 34 #[(0, .int .u64 1), (2, .int .i64 19)]).run Try.prog w' = .ok (.agg #[.int .u64 1, .int .u64 0, .int .i64 19, .int .i64 0]) w' by kernel_rfl)
  go_enter Try.func5, Try.ntmps5
  go_wp2_with fail
  refine hnew.mono ?_
  rintro e w0 ⟨rfl, A0, b0⟩
  clear hnew
  have hp := A0.wds.lt
  have hpq : ∀ k ∈ [w.heap.size, w.heap.size + 1], w.heap.size ≤ k := by simp
  have hpp : ∀ k ∈ [w.heap.size], w.heap.size ≤ k := by simp
  have h1 := alloc_grow A0 0 (by omega) kF1.1 (by rw [show (newWs 64).getD 15 0 = 16 from kF1.2.1]; omega) (by decide +kernel)
  rw [show (newWs 64).getD 15 0 = 16 from kF1.2.1] at h1
  go_wp2_with fail
  refine h1.mono ?_
  rintro e w1 ⟨rfl, A1, k1⟩
  have b1 := bel_kept b0 k1 hpq
  clear h1 k1 A0 b0
  have h2 := alloc_grow A1 2 (by omega) kF2.1 (by rw [show (growW (newWs 64) 0).getD 15 0 = 18 from kF2.2.1]; omega) (by decide +kernel)
  rw [show (growW (newWs 64) 0).getD 15 0 = 18 from kF2.2.1] at h2
  go_wp2_with fail
  refine h2.mono ?_
  rintro e w2 ⟨rfl, A2, k2⟩
  have b2 := bel_kept b1 k2 hpq
  clear h2 k2 A1 b1
  replace A2 : Ar w2 (w.heap.size + 2) w.heap.size (w.heap.size + 1) kW2 kB2 := A2
  have h3 := aleft_any A2 (by rw [kF3.1, kF3.2]; omega)
  rw [kF3.1, kF3.2] at h3
  go_wp2_with fail
  refine h3.mono ?_
  rintro e w3 ⟨rfl, n, hn⟩
  have A3 : Ar w3 (w.heap.size + 2) w.heap.size (w.heap.size + 1) kW2 kB2 := by rw [hn]; exact A2.drewN n
  have b3 : Below w.heap.size w w3 := by rw [hn]; exact below_drewN b2 n
  clear h3 hn A2 b2
  have h4 := store_yes A3 kY2 (i := 3) (by decide) 7 (by omega)
  go_wp2_with fail
  refine h4.mono ?_
  rintro e w4 ⟨rfl, A4, k4⟩
  have b4 := bel_kept b3 k4 hpp
  clear h4 k4 A3 b3
  replace A4 : Ar w4 (w.heap.size + 2) w.heap.size (w.heap.size + 1) kW3 kB2 := A4
  have h5 := load_yes A4 kY3 (i := 3) (by decide)
  rw [show (19 + 3 : Nat) = 22 from rfl, kF4.1] at h5
  go_wp2_with fail
  refine h5.mono ?_
  rintro e w5 ⟨rfl, n, hn⟩
  have A5 : Ar w5 (w.heap.size + 2) w.heap.size (w.heap.size + 1) kW3 kB2 := by rw [hn]; exact A4.drewN n
  have b5 : Below w.heap.size w w5 := by rw [hn]; exact below_drewN b4 n
  clear h5 hn A4 b4
  have h6 := pub_yes A5 1 0 19 0 (by rw [kF4.2.1]; omega) (by omega) (by omega) (by omega) (by rw [kF4.2.2]) (.inr ⟨19, 2, rfl, kY3⟩) (.inl ⟨rfl, kN3⟩)
  go_wp2_with fail
  refine h6.mono ?_
  rintro e w6 ⟨rfl, A6, k6⟩
  have b6 := bel_kept b5 k6 hpp
  clear h6 k6 A5 b5
  replace A6 : Ar w6 (w.heap.size + 2) w.heap.size (w.heap.size + 1) kW4 kB2 := A6
  have h7 := free_arg A6 kY4 (.inl kF5.1)
  go_wp2_with fail
  refine h7.mono ?_
  rintro e w7 ⟨rfl, k7⟩
  have A7 := A6.later k7
  have b7 := bel_later b6 k7
  clear h7 k7 A6 b6
  have h8 := raise_yes A7 2 (by rw [kF5.2]; omega) (by omega)
  go_wp2_with fail
  refine h8.mono ?_
  rintro e w8 ⟨rfl, A8, k8⟩
  have b8 := bel_kept b7 k8 hpp
  clear h8 k8 A7 b7
  have h9 := fence_any A8
  rw [kF6] at h9
  go_wp2_with fail
  refine h9.mono ?_
  rintro e w9 ⟨rfl, n, hn⟩
  have b9 : Below w.heap.size w w9 := by rw [hn]; exact below_drewN b8 n
  clear h9 hn A8 b8
  go_wp2
  go_ret
  exact ⟨rfl, b9⟩
end Go.Proofs.Ytgnpoehcmlmajaa
namespace Go.Proofs.Ytgnpoehcmlmajaa
open Go.RowKit Go.Shelf
set_option linter.unusedVariables false

/-- What is done. -/
structure OpM where
  kind : Int
  cls : Int
  place : Int
  i : Int
  n : Int
  x : Int
  f : Bool
def OpM.cs (o : OpM) : Array Value := #[.int .i64 o.kind, .int .i64 o.cls, .int .i64 o.place, .int .i64 o.i, .int .i64 o.n, .int .u64 o.x, .bool o.f]
structure OpM.Ok (o : OpM) : Prop where
  kind : -9223372036854775808 ≤ o.kind ∧ o.kind ≤ 9223372036854775807
  cls : -9223372036854775808 ≤ o.cls ∧ o.cls ≤ 9223372036854775807
  place : -9223372036854775808 ≤ o.place ∧ o.place ≤ 9223372036854775807
  i : -9223372036854775808 ≤ o.i ∧ o.i ≤ 9223372036854775807
  n : -9223372036854775808 ≤ o.n ∧ o.n ≤ 9223372036854775807
  x : 0 ≤ o.x ∧ o.x ≤ 18446744073709551615
/-- A number as one without a sign. -/
def unN (z : Int) : Nat := (z % 18446744073709551616).toNat
/-- The place that it names. -/
def OpM.row (o : OpM) (B : List Bl) : Int := if o.f = true ∧ 0 < (ofT true B).length then (((ofT true B).getD (unN o.place % (ofT true B).length) Bl.zero).x : Int) else o.place

theorem s_op : (Try.prog.info? 38).map (·.size) = some 7 := by kernel_rfl
theorem load_op_rule (v : Value) : Instr.loadAt 38 v = loadSem 38 v := rfl
theorem ld_op {w : World} {g : Nat} {o : OpM} (h : Blk w g 38 o.cs) : (loadSem 38 (.pointer (some ⟨g, 0, none⟩))).run Try.prog w = .ok (.agg o.cs) w :=
  loadRes_of (w := w) h (fun j _ => by rw [Nat.zero_add]) _ Try.underlying38 rfl s_op
theorem pcl_get {L : List Bl} {k : Nat} {b : Bl} (h : L[k]? = some b) {j : Nat} (hj : j < 2) : (pcl L)[k * 2 + j]? = (pccs b)[j]? := flat_get (f := pccs) (n := 2) (fun _ => rfl) L k b h j hj
theorem owns_sl {w : World} {B : Nat} {e : TypeId} {z : Nat} {v : Value} {n : Nat} {xs : List Value} (h : w.ownsRow B e z v n xs) : ∃ a c, v = .slice a n c := by
  rcases h.2 with ⟨h9, h0⟩ | ⟨g, cap, cur, h9, _⟩
  · exact ⟨none, 0, by rw [h9, h0]⟩
  · exact ⟨_, _, h9⟩
theorem owns_cell {w : World} {B : Nat} {e : TypeId} {z : Nat} {v : Value} {n : Nat} {xs : List Value} (h : w.ownsRow B e z v n xs) (hn : 0 < n) : ∃ g c, v = .slice (some ⟨g, 0, none⟩) n c ∧ n ≤ c ∧ c ≤ maxLen ∧ ∀ j u, xs[j]? = some u → w.cell? ⟨g, j, none⟩ = some u := by
  rcases h.2 with ⟨h9, h0⟩ | ⟨g, cap, cur, h9, hb, hg, hc, hm, hs, ht⟩
  · omega
  · refine ⟨g, cap, h9, hc, hm, fun j u hj => ?_⟩
    rw [show w.cell? ⟨g, j, none⟩ = cur[j]? from cell_of_row w g j cur e (0, 0) hg]
    rw [← ht, List.getElem?_take] at hj
    split at hj
    · simpa using hj
    · cases hj

section
variable {w : World} {g p q : Nat} {ws : List Nat} {bs : List Bool} {B : List Bl} {L : Nat → List Nat}
end
end Go.Proofs.Ytgnpoehcmlmajaa
