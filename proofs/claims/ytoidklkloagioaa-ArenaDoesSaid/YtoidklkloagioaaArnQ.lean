/-
  What taking and giving back make of an arena's words. No walk. Nothing here is a statement of the document.
-/
import Derived.Test.YtoidklkloagioaaArnP
namespace Go.Proofs.Ytoidklkloagioaa
open Go.RowKit Go.Shelf
set_option linter.unusedVariables false

theorem growW_get {ws : List Nat} {c : Nat} (h16 : 16 ≤ ws.getD 15 0) (hl : ws.getD 15 0 < ws.length) (i : Nat) : (growW ws c).getD i 0 = if i = 15 then ws.getD 15 0 + 1 + 2 ^ c else if i = ws.getD 15 0 then hdN c true else ws.getD i 0 := by
  unfold growW
  rw [getD_set _ _ _ _ _ (by simp; omega), getD_set _ _ _ _ _ hl]
  by_cases h1 : i = 15
  · subst h1; simp
  · rw [if_neg (Ne.symm h1), if_neg h1]
    by_cases h2 : i = ws.getD 15 0
    · rw [if_pos h2.symm, if_pos h2]
    · rw [if_neg (Ne.symm h2), if_neg h2]
theorem growW_len (ws : List Nat) (c : Nat) : (growW ws c).length = ws.length := by simp [growW]
theorem listW_get {ws : List Nat} {c x : Nat} (hc : c ≤ 5) (hx : 17 ≤ x) (hl : x < ws.length) (i : Nat) : (listW ws c x).getD i 0 = if i = x - 1 then hdN c true else if i = x then 0 else if i = 9 + c then ws.getD x 0 else ws.getD i 0 := by
  unfold listW
  rw [getD_set _ _ _ _ _ (by simp; omega), getD_set _ _ _ _ _ (by simp; omega), getD_set _ _ _ _ _ (by omega)]
  simp only [eq_comm (a := x - 1), eq_comm (a := x), eq_comm (a := 9 + c)]
theorem listW_len (ws : List Nat) (c x : Nat) : (listW ws c x).length = ws.length := by simp [listW]
theorem freeW_get {ws : List Nat} {c x : Nat} (hc : c ≤ 5) (hx : 17 ≤ x) (hl : x + 2 ^ c ≤ ws.length) (i : Nat) : (freeW ws x c).getD i 0 = if i = x - 1 then hdN c false else if i = 9 + c then x else if i = x then ws.getD (9 + c) 0 else if x ≤ i ∧ i < x + 2 ^ c then 0 else ws.getD i 0 := by
  have hp := (pow5 hc).1
  unfold freeW
  rw [getD_set _ _ _ _ _ (by simp [zeroW_len]; omega), getD_set _ _ _ _ _ (by simp [zeroW_len]; omega), getD_set _ _ _ _ _ (by simp [zeroW_len]; omega), zeroW_get _ _ _ _ hl]
  simp only [eq_comm (a := x - 1), eq_comm (a := x) (b := i), eq_comm (a := 9 + c)]
theorem freeW_len (ws : List Nat) (x c : Nat) : (freeW ws x c).length = ws.length := by simp [freeW, zeroW_len]

section
variable {ws : List Nat} {bs : List Bool} {B : List Bl} {L : Nat → List Nat}
theorem Inv.lt_edge (h : Inv ws bs B L) {b : Bl} (hb : b ∈ B) : b.x < ws.getD 15 0 := by
  have := (h.at hb).2.2.2
  have := (pow5 (h.at hb).1).1
  generalize 2 ^ b.c = z at *
  omega
theorem Inv.free_of (h : Inv ws bs B L) {c x : Nat} (hc : c ≤ 5) (hx : x ∈ L c) : ∃ b ∈ B, b.x = x ∧ b.c = c ∧ b.t = false := (h.mem c hc x).1 hx
/-- Heads and places of two blocks are apart. -/
theorem Inv.apart (h : Inv ws bs B L) {b b' : Bl} (hb : b ∈ B) (hb' : b' ∈ B) (hne : b.x ≠ b'.x) : (∀ j, j < 2 ^ b.c → b.x + j ≠ b'.x ∧ b.x + j ≠ b'.x - 1) ∧ b.x - 1 ≠ b'.x - 1 ∧ b.x - 1 ≠ b'.x := by
  have h1 := (h.at hb).2.1
  have h2 := (h.at hb').2.1
  have p1 := (pow5 (h.at hb).1).1
  have p2 := (pow5 (h.at hb').1).1
  rcases chain_apart h.chain (Nat.le_refl _) hb hb' with rfl | h9 | h9
  · exact absurd rfl hne
  · generalize 2 ^ b.c = z at *
    exact ⟨fun j hj => by omega, by omega, by omega⟩
  · generalize 2 ^ b'.c = z at *
    exact ⟨fun j hj => by omega, by omega, by omega⟩

theorem Inv.grow (h : Inv ws bs B L) (hbl : bs.length = ws.length) {c : Nat} (hc : c ≤ 5) (hf : ws.getD 15 0 + 1 + 2 ^ c ≤ ws.length) : Inv (growW ws c) (bs.set (ws.getD 15 0 + 1) true) (B ++ [⟨ws.getD 15 0 + 1, c, true⟩]) L := by
  have h16 := h.edge16
  have hp := (pow5 hc).1
  have hg := fun i => growW_get (c := c) h16 (by omega : ws.getD 15 0 < ws.length) i
  have hlo : ∀ i, i ≠ 15 → i < ws.getD 15 0 → (growW ws c).getD i 0 = ws.getD i 0 := fun i h1 h2 => by rw [hg, if_neg h1, if_neg (by omega)]
  refine ⟨chain_grow hc (by rw [hg, if_neg (by omega), if_pos rfl]) (by rw [hg, if_pos rfl]) h.chain (fun b hb => hlo _ (by have := (h.at hb).2.1; omega) (by have := h.lt_edge hb; omega)), by rw [hg, if_pos rfl, growW_len]; exact hf, fun i => ?_, fun k hk => ?_, fun k hk x => ?_, h.nodup⟩
  · rw [getD_set _ _ _ _ _ (by omega)]
    by_cases hi : ws.getD 15 0 + 1 = i
    · rw [if_pos hi]
      exact ⟨fun _ => ⟨⟨ws.getD 15 0 + 1, c, true⟩, List.mem_append.2 (.inr (List.mem_singleton.2 rfl)), hi⟩, fun _ => rfl⟩
    · rw [if_neg hi, h.begs]
      constructor
      · rintro ⟨b, hb, hx⟩
        exact ⟨b, by simp [hb], hx⟩
      · rintro ⟨b, hb, hx⟩
        rcases List.mem_append.1 hb with hb | hb
        · exact ⟨b, hb, hx⟩
        · obtain rfl : b = _ := by simpa using hb
          exact absurd hx hi
  · rw [hlo _ (by omega) (by omega)]
    refine lst_congr (h.lst k hk) (fun x hx => ?_)
    obtain ⟨b, hb, rfl, _, _⟩ := h.free_of hk hx
    exact hlo _ (by have := (h.at hb).2.1; omega) (h.lt_edge hb)
  · rw [h.mem k hk]
    constructor
    · rintro ⟨b, hb, hx⟩
      exact ⟨b, by simp [hb], hx⟩
    · rintro ⟨b, hb, hx⟩
      rcases List.mem_append.1 hb with hb | hb
      · exact ⟨b, hb, hx⟩
      · obtain rfl : b = _ := by simpa using hb
        exact absurd hx.2.2 (by simp)

theorem mem_marked {x : Nat} {t : Bool} {b : Bl} : b ∈ marked B x t ↔ ∃ b0 ∈ B, b = if b0.x = x then b0.mark t else b0 := by
  unfold marked
  rw [List.mem_map]
  constructor
  · rintro ⟨b0, h1, h2⟩; exact ⟨b0, h1, h2.symm⟩
  · rintro ⟨b0, h1, h2⟩; exact ⟨b0, h1, h2.symm⟩
theorem begs_marked (h : Inv ws bs B L) (x : Nat) (t : Bool) (i : Nat) : bs.getD i false = true ↔ ∃ b ∈ marked B x t, b.x = i := by
  rw [h.begs]
  constructor
  · rintro ⟨b, hb, rfl⟩
    exact ⟨_, mem_marked.2 ⟨b, hb, rfl⟩, (mark_x b x t).1⟩
  · rintro ⟨b, hb, rfl⟩
    obtain ⟨b0, hb0, rfl⟩ := mem_marked.1 hb
    exact ⟨b0, hb0, (mark_x b0 x t).1.symm⟩

theorem Inv.list (h : Inv ws bs B L) {c x : Nat} {r : List Nat} (hc : c ≤ 5) (hL : L c = x :: r) : ws.getD (9 + c) 0 = x ∧ 17 ≤ x ∧ x < ws.length ∧ Inv (listW ws c x) bs (marked B x true) (fun k => if k = c then r else L k) := by
  have hl := h.lst c hc
  rw [hL] at hl
  obtain ⟨h1, h2, h3⟩ := hl
  obtain ⟨b, hb, hbx, hbc, hbt⟩ := h.free_of hc (show x ∈ L c by rw [hL]; simp)
  have hlt : x < ws.length := by have := h.lt_edge hb; have := h.edge; omega
  have hg := fun i => listW_get (ws := ws) hc h2 hlt i
  have hnd := h.nodup c hc
  rw [hL] at hnd
  have hxr : x ∉ r := (List.nodup_cons.1 hnd).1
  -- a place of another block that is free
  have hoth : ∀ b' ∈ B, b'.x ≠ x → (listW ws c x).getD b'.x 0 = ws.getD b'.x 0 ∧ (listW ws c x).getD (b'.x - 1) 0 = ws.getD (b'.x - 1) 0 := fun b' hb' hne => by
    have ha := h.apart hb' hb (by omega)
    have hb17 := (h.at hb').2.1
    have hp := (pow5 (h.at hb').1).1
    have ha0 := ha.1 0 (by omega)
    rw [hg, hg, if_neg (by omega), if_neg (by omega), if_neg (by omega), if_neg (by omega), if_neg (by omega), if_neg (by omega)]
    exact ⟨rfl, rfl⟩
  refine ⟨h1, h2, hlt, chain_marked h.chain (by rw [hg, if_neg (by omega), if_neg (by omega), if_neg (by omega)]) (fun b' hb' => ?_), ?_, begs_marked h x true, fun k hk => ?_, fun k hk y => ?_, fun k hk => ?_⟩
  · by_cases he : b'.x = x
    · obtain rfl := chain_same h.chain (Nat.le_refl _) hb' hb (by omega)
      rw [if_pos he, hg, if_pos (by omega), hbc]
    · rw [if_neg he, (hoth b' hb' he).2, (h.at hb').2.2.1]
  · rw [hg, if_neg (by omega), if_neg (by omega), if_neg (by omega), listW_len]; exact h.edge
  · by_cases hk2 : k = c
    · subst hk2
      show Lst _ _ (if k = k then r else L k)
      rw [if_pos rfl, hg (9 + k), if_neg (by omega), if_neg (by omega), if_pos rfl]
      refine lst_congr h3 (fun y hy => ?_)
      obtain ⟨b', hb', rfl, _, _⟩ := h.free_of hk (show y ∈ L k by rw [hL]; simp [hy])
      exact (hoth b' hb' (fun e => hxr (by rw [← e]; exact hy))).1
    · show Lst _ _ (if k = c then r else L k)
      rw [if_neg hk2, hg (9 + k), if_neg (by omega), if_neg (by omega), if_neg (by omega)]
      refine lst_congr (h.lst k hk) (fun y hy => ?_)
      obtain ⟨b', hb', rfl, hc', _⟩ := h.free_of hk hy
      refine (hoth b' hb' (fun e => hk2 ?_)).1
      obtain rfl := chain_same h.chain (Nat.le_refl _) hb' hb (by omega)
      omega
  · show y ∈ (if k = c then r else L k) ↔ _
    constructor
    · intro hy
      have hy2 : y ∈ L k ∧ y ≠ x := by
        by_cases hk2 : k = c
        · subst hk2
          rw [if_pos rfl] at hy
          exact ⟨by rw [hL]; simp [hy], fun e => hxr (by rw [← e]; exact hy)⟩
        · rw [if_neg hk2] at hy
          refine ⟨hy, fun e => hk2 ?_⟩
          obtain ⟨b', hb', hx', hc', _⟩ := h.free_of hk hy
          obtain rfl := chain_same h.chain (Nat.le_refl _) hb' hb (by omega)
          omega
      obtain ⟨b', hb', hx', hc', ht'⟩ := h.free_of hk hy2.1
      exact ⟨b', mem_marked.2 ⟨b', hb', by rw [if_neg (by omega)]⟩, hx', hc', ht'⟩
    · rintro ⟨b1, hb1, hx1, hc1, ht1⟩
      obtain ⟨b0, hb0, rfl⟩ := mem_marked.1 hb1
      by_cases he : b0.x = x
      · rw [if_pos he] at ht1; exact absurd ht1 (by simp [Bl.mark])
      · rw [if_neg he] at hx1 hc1 ht1
        have hy := (h.mem k hk y).2 ⟨b0, hb0, hx1, hc1, ht1⟩
        by_cases hk2 : k = c
        · subst hk2
          rw [if_pos rfl]
          rw [hL] at hy
          rcases List.mem_cons.1 hy with h9 | h9
          · omega
          · exact h9
        · rw [if_neg hk2]; exact hy
  · show (if k = c then r else L k).Nodup
    by_cases hk2 : k = c
    · rw [if_pos hk2]; exact (List.nodup_cons.1 hnd).2
    · rw [if_neg hk2]; exact h.nodup k hk

theorem Inv.free (h : Inv ws bs B L) {b : Bl} (hb : b ∈ B) (ht : b.t = true) : Inv (freeW ws b.x b.c) bs (marked B b.x false) (fun k => if k = b.c then b.x :: L b.c else L k) := by
  obtain ⟨hc, h2, hh, he⟩ := h.at hb
  have hE := h.edge
  have hfit : b.x + 2 ^ b.c ≤ ws.length := Nat.le_trans he hE
  have hg := fun i => freeW_get (ws := ws) hc h2 hfit i
  have hp0 := (pow5 hc).1
  have hoth : ∀ b' ∈ B, b'.x ≠ b.x → (freeW ws b.x b.c).getD b'.x 0 = ws.getD b'.x 0 ∧ (freeW ws b.x b.c).getD (b'.x - 1) 0 = ws.getD (b'.x - 1) 0 := fun b' hb' hne => by
    have ha := h.apart hb hb' (Ne.symm hne)
    have ha2 := h.apart hb' hb hne
    have hb17 := (h.at hb').2.1
    have hp := (pow5 (h.at hb').1).1
    have ha0 := ha.1 0 (by omega)
    have ha20 := ha2.1 0 (by omega)
    have hin : ∀ i, (∀ j, j < 2 ^ b.c → b.x + j ≠ i) → ¬ (b.x ≤ i ∧ i < b.x + 2 ^ b.c) := fun i hi hh => hi (i - b.x) (by omega) (by omega)
    rw [hg, hg, if_neg (by omega), if_neg (by omega), if_neg (by omega), if_neg (hin _ fun j hj => (ha.1 j hj).1), if_neg (by omega), if_neg (by omega), if_neg (by omega), if_neg (hin _ fun j hj => (ha.1 j hj).2)]
    exact ⟨rfl, rfl⟩
  have hlow : ∀ i, 9 ≤ i → i ≤ 15 → i ≠ 9 + b.c → (freeW ws b.x b.c).getD i 0 = ws.getD i 0 := fun i h5 h6 h7 => by rw [hg, if_neg (by omega), if_neg h7, if_neg (by omega), if_neg (by omega)]
  have hnew : b.x ∉ L b.c := fun hm => by
    obtain ⟨b', hb', hx', _, ht'⟩ := h.free_of hc hm
    obtain rfl := chain_same h.chain (Nat.le_refl _) hb' hb hx'
    rw [ht] at ht'; cases ht'
  refine ⟨chain_marked h.chain (hlow 15 (by omega) (by omega) (by omega)) (fun b' hb' => ?_), by rw [hlow 15 (by omega) (by omega) (by omega), freeW_len]; exact hE, begs_marked h b.x false, fun k hk => ?_, fun k hk y => ?_, fun k hk => ?_⟩
  · by_cases hx : b'.x = b.x
    · obtain rfl := chain_same h.chain (Nat.le_refl _) hb' hb hx
      rw [if_pos rfl, hg, if_pos rfl]
    · rw [if_neg hx, (hoth b' hb' hx).2, (h.at hb').2.2.1]
  · by_cases hk2 : k = b.c
    · subst hk2
      show Lst _ _ (if b.c = b.c then b.x :: L b.c else L b.c)
      rw [if_pos rfl, hg (9 + b.c), if_neg (by omega), if_pos rfl]
      refine ⟨rfl, h2, ?_⟩
      rw [hg b.x, if_neg (by omega), if_neg (by omega), if_pos rfl]
      refine lst_congr (h.lst b.c hk) (fun y hy => ?_)
      obtain ⟨b', hb', rfl, _, _⟩ := h.free_of hk hy
      exact (hoth b' hb' (fun e => hnew (by rw [← e]; exact hy))).1
    · show Lst _ _ (if k = b.c then b.x :: L b.c else L k)
      rw [if_neg hk2, hlow (9 + k) (by omega) (by omega) (by omega)]
      refine lst_congr (h.lst k hk) (fun y hy => ?_)
      obtain ⟨b', hb', rfl, hc', _⟩ := h.free_of hk hy
      refine (hoth b' hb' (fun e => hk2 ?_)).1
      obtain rfl := chain_same h.chain (Nat.le_refl _) hb' hb e
      exact hc'.symm
  · show y ∈ (if k = b.c then b.x :: L b.c else L k) ↔ _
    constructor
    · intro hy
      by_cases hyx : y = b.x ∧ k = b.c
      · exact ⟨_, mem_marked.2 ⟨b, hb, rfl⟩, by rw [if_pos rfl]; exact hyx.1.symm, by rw [if_pos rfl]; exact hyx.2.symm, by rw [if_pos rfl]; rfl⟩
      · have hy2 : y ∈ L k := by
          by_cases hk2 : k = b.c
          · rw [if_pos hk2] at hy
            rcases List.mem_cons.1 hy with h9 | h9
            · exact absurd ⟨h9, hk2⟩ hyx
            · rw [hk2]; exact h9
          · rw [if_neg hk2] at hy; exact hy
        obtain ⟨b', hb', hx', hc', ht'⟩ := h.free_of hk hy2
        refine ⟨b', mem_marked.2 ⟨b', hb', ?_⟩, hx', hc', ht'⟩
        rw [if_neg]
        intro e
        obtain rfl := chain_same h.chain (Nat.le_refl _) hb' hb e
        rw [ht] at ht'; cases ht'
    · rintro ⟨b1, hb1, hx1, hc1, ht1⟩
      obtain ⟨b0, hb0, rfl⟩ := mem_marked.1 hb1
      by_cases he : b0.x = b.x
      · obtain rfl := chain_same h.chain (Nat.le_refl _) hb0 hb he
        rw [if_pos rfl] at hx1 hc1
        have hk2 : k = b0.c := hc1.symm
        rw [if_pos hk2, show y = b0.x from hx1.symm]
        simp
      · rw [if_neg he] at hx1 hc1 ht1
        have hy := (h.mem k hk y).2 ⟨b0, hb0, hx1, hc1, ht1⟩
        by_cases hk2 : k = b.c
        · rw [if_pos hk2]; rw [hk2] at hy; simp [hy]
        · rw [if_neg hk2]; exact hy
  · show (if k = b.c then b.x :: L b.c else L k).Nodup
    by_cases hk2 : k = b.c
    · rw [if_pos hk2]; exact List.nodup_cons.2 ⟨hnew, h.nodup _ hc⟩
    · rw [if_neg hk2]; exact h.nodup k hk
end
end Go.Proofs.Ytoidklkloagioaa
