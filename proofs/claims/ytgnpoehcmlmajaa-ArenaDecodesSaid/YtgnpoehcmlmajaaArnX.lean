/-
  The contract of Encode. Nothing here is a statement of the document.
-/
import Derived.Test.YtgnpoehcmlmajaaArnR
import Derived.Test.YtgnpoehcmlmajaaOctM
import Derived.Laws.AppendOwn
namespace Go.Proofs.Ytgnpoehcmlmajaa
open Go.RowKit Go.Shelf
set_option linter.unusedVariables false

/-- What else an arena's words keep: how many they are, nought where nothing is, the root cell's places. -/
structure Nice (ws : List Nat) (B : List Bl) : Prop where
  first : ws.getD 0 0 = ws.length
  behind : ∀ i, ws.getD 15 0 ≤ i → i < ws.length → ws.getD i 0 = 0
  nought : ∀ b ∈ B, b.t = false → ∀ i, b.x < i → i < b.x + 2 ^ b.c → ws.getD i 0 = 0
  four : ws.getD 5 0 = 0 ∨ ∃ b ∈ B, b.t = true ∧ b.x = ws.getD 5 0
  six : ws.getD 6 0 = 0 ∨ ∃ b ∈ B, b.t = true ∧ b.x = ws.getD 6 0

/-- What a call leaves of blocks that are taken (but those that it may touch), of the fence, of the root cell. -/
structure StepOk (B : List Bl) (ws ws' : List Nat) (B' : List Bl) (sk : Int → Prop) : Prop where
  keep : ∀ b ∈ B, b.t = true → ¬ sk (b.x : Int) → b ∈ B' ∧ ∀ j, j < 2 ^ b.c → ws'.getD (b.x + j) 0 = ws.getD (b.x + j) 0
  fence : twoN ws 7 ≤ twoN ws' 7
  root : (∀ i, 1 ≤ i → i ≤ 6 → ws'.getD i 0 = ws.getD i 0) ∨ (twoN ws' 1 = twoN ws 1 + 1 ∧ twoN ws 7 ≤ twoN ws' 3)
  len : ws'.length = ws.length
  nice : Nice ws B → Nice ws' B'

theorem setN_len (ws : List Nat) (k x : Nat) : (setN ws k x).length = ws.length := by simp [setN]
theorem setN_get {ws : List Nat} {k x : Nat} (hk : k + 1 < ws.length) (i : Nat) : (setN ws k x).getD i 0 = if i = k + 1 then x % 4294967296 else if i = k then x / 4294967296 else ws.getD i 0 := by
  unfold setN
  rw [getD_set _ _ _ _ _ (by simp; omega), getD_set _ _ _ _ _ (by omega)]
  simp only [eq_comm (a := k + 1), eq_comm (a := k)]
theorem twoN_same {ws ws' : List Nat} {k : Nat} (h1 : ws'.getD k 0 = ws.getD k 0) (h2 : ws'.getD (k + 1) 0 = ws.getD (k + 1) 0) : twoN ws' k = twoN ws k := by unfold twoN; rw [h1, h2]
theorem twoN_setN {ws : List Nat} {k x : Nat} (hk : k + 1 < ws.length) : twoN (setN ws k x) k = x := by
  unfold twoN
  rw [setN_get hk, setN_get hk, if_neg (by omega), if_pos rfl, if_pos rfl]
  omega

section
variable {ws : List Nat} {bs : List Bool} {B : List Bl} {L : Nat → List Nat}
theorem StepOk.refl (B : List Bl) (ws : List Nat) (sk : Int → Prop) : StepOk B ws ws B sk := ⟨fun b hb _ _ => ⟨hb, fun _ _ => rfl⟩, Nat.le_refl _, .inl (fun _ _ _ => rfl), rfl, fun h => h⟩
theorem StepOk.high {ws' : List Nat} {B' : List Bl} {sk : Int → Prop} (hk : ∀ b ∈ B, b.t = true → ¬ sk (b.x : Int) → b ∈ B' ∧ ∀ j, j < 2 ^ b.c → ws'.getD (b.x + j) 0 = ws.getD (b.x + j) 0) (hl : ∀ i, 1 ≤ i → i ≤ 8 → ws'.getD i 0 = ws.getD i 0) (hn : ws'.length = ws.length) (hnc : Nice ws B → Nice ws' B') : StepOk B ws ws' B' sk :=
  ⟨hk, Nat.le_of_eq (twoN_same (hl 7 (by omega) (by omega)) (hl 8 (by omega) (by omega))).symm, .inl (fun i h1 h2 => hl i h1 (by omega)), hn, hnc⟩
theorem Inv.step_grow (h : Inv ws bs B L) {c : Nat} (hc : c ≤ 5) (hf : ws.getD 15 0 + 1 + 2 ^ c ≤ ws.length) (sk : Int → Prop) : StepOk B ws (growW ws c) (B ++ [⟨ws.getD 15 0 + 1, c, true⟩]) sk := by
  have h16 := h.edge16
  have hp := (pow5 hc).1
  have hg := fun i => growW_get (c := c) h16 (by omega : ws.getD 15 0 < ws.length) i
  refine StepOk.high (fun b hb ht _ => ⟨by simp [hb], fun j hj => ?_⟩) (fun i h1 h2 => by rw [hg, if_neg (by omega), if_neg (by omega)]) (growW_len _ _) (fun hN => ?_)
  · have := (h.at hb).2.1
    have := (h.at hb).2.2.2
    rw [hg, if_neg (by omega), if_neg (by generalize 2 ^ b.c = z at *; omega)]
  · have hlo : ∀ i, i ≠ 15 → i < ws.getD 15 0 → (growW ws c).getD i 0 = ws.getD i 0 := fun i h1 h2 => by rw [hg, if_neg h1, if_neg (by omega)]
    refine ⟨by rw [hlo 0 (by omega) (by omega), growW_len]; exact hN.first, fun i h1 h2 => ?_, fun b hb ht i h1 h2 => ?_, ?_, ?_⟩
    · rw [hg 15, if_pos rfl] at h1
      rw [growW_len] at h2
      generalize 2 ^ c = z at *
      rw [hg i, if_neg (by omega), if_neg (by omega)]
      exact hN.behind i (by omega) h2
    · rcases List.mem_append.1 hb with hb | hb
      · have := (h.at hb).2.1
        have := (h.at hb).2.2.2
        rw [hlo i (by omega) (by generalize 2 ^ b.c = z at *; omega)]
        exact hN.nought b hb ht i h1 h2
      · obtain rfl : b = _ := by simpa using hb
        cases ht
    · rw [hlo 5 (by omega) (by omega)]
      exact hN.four.imp id fun ⟨b, hb, h1, h2⟩ => ⟨b, by simp [hb], h1, h2⟩
    · rw [hlo 6 (by omega) (by omega)]
      exact hN.six.imp id fun ⟨b, hb, h1, h2⟩ => ⟨b, by simp [hb], h1, h2⟩
theorem Inv.step_list (h : Inv ws bs B L) {c x : Nat} {r : List Nat} (hc : c ≤ 5) (hL : L c = x :: r) (sk : Int → Prop) : StepOk B ws (listW ws c x) (marked B x true) sk := by
  obtain ⟨h1, h2, h3, _⟩ := h.list hc hL
  obtain ⟨b0, hb0, hx0, hc0, ht0⟩ := h.free_of hc (show x ∈ L c by rw [hL]; simp)
  have hg := fun i => listW_get (ws := ws) hc h2 h3 i
  refine StepOk.high (fun b hb ht _ => ?_) (fun i h4 h5 => by rw [hg, if_neg (by omega), if_neg (by omega), if_neg (by omega)]) (listW_len _ _ _) (fun hN => ?_)
  · have hne : b.x ≠ b0.x := fun e => by
      obtain rfl := chain_same h.chain (Nat.le_refl _) hb hb0 e
      rw [ht] at ht0; cases ht0
    have ha := h.apart hb hb0 hne
    refine ⟨mem_marked.2 ⟨b, hb, by rw [if_neg (by omega)]⟩, fun j hj => ?_⟩
    have := (ha.1 j hj)
    have := (h.at hb).2.1
    rw [hg, if_neg (by omega), if_neg (by omega), if_neg (by omega)]
  · have hE := h.edge
    have hxe := h.lt_edge hb0
    have hkeep : ∀ b ∈ B, b.t = true → b ∈ marked B x true := fun b hb ht => mem_marked.2 ⟨b, hb, by
      split
      · cases b; simp only [Bl.mark] at *; rw [ht]
      · rfl⟩
    refine ⟨by rw [hg, if_neg (by omega), if_neg (by omega), if_neg (by omega), listW_len]; exact hN.first, fun i h1 h2 => ?_, fun b' hb' ht' i h1 h2 => ?_, ?_, ?_⟩
    · rw [hg 15, if_neg (by omega), if_neg (by omega), if_neg (by omega)] at h1
      rw [listW_len] at h2
      rw [hg i, if_neg (by omega), if_neg (by omega), if_neg (by omega)]
      exact hN.behind i h1 h2
    · obtain ⟨b, hb, rfl⟩ := mem_marked.1 hb'
      by_cases hx : b.x = x
      · rw [if_pos hx] at ht'; cases ht'
      · rw [if_neg hx] at ht' h1 h2
        have ha := (h.apart hb hb0 (by omega)).1 (i - b.x) (by omega)
        have := (h.at hb).2.1
        rw [hg i, if_neg (by omega), if_neg (by omega), if_neg (by omega)]
        exact hN.nought b hb ht' i h1 h2
    · rw [hg 5, if_neg (by omega), if_neg (by omega), if_neg (by omega)]
      exact hN.four.imp id fun ⟨b, hb, h1, h2⟩ => ⟨b, hkeep b hb h1, h1, h2⟩
    · rw [hg 6, if_neg (by omega), if_neg (by omega), if_neg (by omega)]
      exact hN.six.imp id fun ⟨b, hb, h1, h2⟩ => ⟨b, hkeep b hb h1, h1, h2⟩
theorem Inv.step_free (h : Inv ws bs B L) {b : Bl} (hb : b ∈ B) (ht : b.t = true) (hx5 : ws.getD 5 0 ≠ b.x) (hx6 : ws.getD 6 0 ≠ b.x) : StepOk B ws (freeW ws b.x b.c) (marked B b.x false) (fun x => x = (b.x : Int)) := by
  obtain ⟨hc, h2, hh, he⟩ := h.at hb
  have hE := h.edge
  have hg := fun i => freeW_get (ws := ws) hc h2 (Nat.le_trans he hE) i
  refine StepOk.high (fun b' hb' ht' hsk => ?_) (fun i h4 h5 => by rw [hg, if_neg (by omega), if_neg (by omega), if_neg (by omega), if_neg (by omega)]) (freeW_len _ _ _) (fun hN => ?_)
  · have hne : b'.x ≠ b.x := fun e => hsk (by rw [e])
    refine ⟨mem_marked.2 ⟨b', hb', by rw [if_neg hne]⟩, fun j hj => ?_⟩
    have h17 := (h.at hb').2.1
    have ha := (h.apart hb' hb hne).1 j hj
    have hap := chain_apart h.chain (Nat.le_refl _) hb' hb
    have hnin : ¬ (b.x ≤ b'.x + j ∧ b'.x + j < b.x + 2 ^ b.c) := by
      rcases hap with rfl | h9 | h9
      · exact absurd rfl hne
      · generalize 2 ^ b'.c = z at *; omega
      · generalize 2 ^ b.c = z at *; omega
    rw [hg, if_neg (by omega), if_neg (by omega), if_neg (by omega), if_neg hnin]
  · have hp := (pow5 hc).1
    have hbe := h.lt_edge hb
    have hkeep : ∀ b' ∈ B, b'.t = true → b'.x ≠ b.x → b' ∈ marked B b.x false := fun b' hb' ht' hx => mem_marked.2 ⟨b', hb', by rw [if_neg hx]⟩
    refine ⟨by rw [hg, if_neg (by omega), if_neg (by omega), if_neg (by omega), if_neg (by omega), freeW_len]; exact hN.first, fun i h1 h2' => ?_, fun b' hb' ht' i h1 h2' => ?_, ?_, ?_⟩
    · rw [hg 15, if_neg (by omega), if_neg (by omega), if_neg (by omega), if_neg (by omega)] at h1
      rw [freeW_len] at h2'
      rw [hg i, if_neg (by omega), if_neg (by omega), if_neg (by omega), if_neg (by generalize 2 ^ b.c = z at *; omega)]
      exact hN.behind i h1 h2'
    · obtain ⟨b2, hb2, rfl⟩ := mem_marked.1 hb'
      by_cases hx : b2.x = b.x
      · obtain rfl := chain_same h.chain (Nat.le_refl _) hb2 hb hx
        rw [if_pos rfl] at h1 h2'
        have h1' : b2.x < i := h1
        have h2'' : i < b2.x + 2 ^ b2.c := h2'
        rw [hg i, if_neg (by omega), if_neg (by omega), if_neg (by omega), if_pos ⟨by omega, h2''⟩]
      · rw [if_neg hx] at ht' h1 h2'
        have ha := (h.apart hb2 hb hx).1 (i - b2.x) (by omega)
        have h17 := (h.at hb2).2.1
        have hnin : ¬ (b.x ≤ i ∧ i < b.x + 2 ^ b.c) := by
          rcases chain_apart h.chain (Nat.le_refl _) hb2 hb with rfl | h9 | h9
          · exact absurd rfl hx
          · generalize 2 ^ b2.c = z at *; omega
          · generalize 2 ^ b.c = z at *; omega
        rw [hg i, if_neg (by omega), if_neg (by omega), if_neg (by omega), if_neg hnin]
        exact hN.nought b2 hb2 ht' i h1 h2'
    · rw [hg 5, if_neg (by omega), if_neg (by omega), if_neg (by omega), if_neg (by omega)]
      exact hN.four.imp id fun ⟨b', hb', h1, h2⟩ => ⟨b', hkeep b' hb' h1 (by omega), h1, h2⟩
    · rw [hg 6, if_neg (by omega), if_neg (by omega), if_neg (by omega), if_neg (by omega)]
      exact hN.six.imp id fun ⟨b', hb', h1, h2⟩ => ⟨b', hkeep b' hb' h1 (by omega), h1, h2⟩
theorem Inv.step_store (h : Inv ws bs B L) {b : Bl} (hb : b ∈ B) (ht : b.t = true) {i : Nat} (hi : i < 2 ^ b.c) (y : Nat) : StepOk B ws (ws.set (b.x + i) y) B (fun x => x = (b.x : Int)) := by
  obtain ⟨hc, h2, hh, he⟩ := h.at hb
  have hE := h.edge
  have hlt : b.x + i < ws.length := by generalize 2 ^ b.c = z at *; omega
  refine StepOk.high (fun b' hb' ht' hsk => ⟨hb', fun j hj => ?_⟩) (fun i h4 h5 => by rw [getD_set _ _ _ _ _ hlt, if_neg (by omega)]) (by simp) (fun hN => ?_)
  · have hne : b'.x ≠ b.x := fun e => hsk (by rw [e])
    rw [getD_set _ _ _ _ _ hlt, if_neg]
    intro e
    rcases chain_apart h.chain (Nat.le_refl _) hb' hb with rfl | h9 | h9
    · exact absurd rfl hne
    · generalize 2 ^ b'.c = z at *; omega
    · generalize 2 ^ b.c = z at *; omega
  · have hg : ∀ k, k < b.x ∨ b.x + 2 ^ b.c ≤ k → (ws.set (b.x + i) y).getD k 0 = ws.getD k 0 := fun k hk => by rw [getD_set _ _ _ _ _ hlt, if_neg (by generalize 2 ^ b.c = z at *; omega)]
    refine ⟨by rw [hg 0 (by omega)]; simpa using hN.first, fun k h1 h2' => ?_, fun b' hb' ht' k h1 h2' => ?_, by rw [hg 5 (by omega)]; exact hN.four, by rw [hg 6 (by omega)]; exact hN.six⟩
    · rw [hg 15 (by omega)] at h1
      rw [hg k (by omega)]
      exact hN.behind k h1 (by simpa using h2')
    · have hne : b'.x ≠ b.x := fun e => by
        obtain rfl := chain_same h.chain (Nat.le_refl _) hb' hb e
        rw [ht] at ht'; cases ht'
      rw [hg k (by
        rcases chain_apart h.chain (Nat.le_refl _) hb' hb with rfl | h9 | h9
        · exact absurd rfl hne
        · generalize 2 ^ b'.c = z at *; omega
        · generalize 2 ^ b.c = z at *; omega)]
      exact hN.nought b' hb' ht' k h1 h2'
/-- The words with another root cell. -/
def rootW (ws : List Nat) (v e four six : Nat) : List Nat := ((setN (setN ws 1 v) 3 e).set 5 four).set 6 six
theorem rootW_len (ws : List Nat) (v e four six : Nat) : (rootW ws v e four six).length = ws.length := by simp [rootW, setN_len]
theorem rootW_get {ws : List Nat} (hl : 64 ≤ ws.length) (v e four six i : Nat) (hi : 7 ≤ i) : (rootW ws v e four six).getD i 0 = ws.getD i 0 := by
  unfold rootW
  rw [getD_set _ _ _ _ _ (by simp [setN_len]; omega), if_neg (by omega), getD_set _ _ _ _ _ (by simp [setN_len]; omega), if_neg (by omega), setN_get (by rw [setN_len]; omega), if_neg (by omega), if_neg (by omega), setN_get (by omega), if_neg (by omega), if_neg (by omega)]
theorem rootW_two {ws : List Nat} (hl : 64 ≤ ws.length) (v e four six : Nat) : twoN (rootW ws v e four six) 1 = v ∧ twoN (rootW ws v e four six) 3 = e := by
  have g : ∀ i, i < 5 → (rootW ws v e four six).getD i 0 = (setN (setN ws 1 v) 3 e).getD i 0 := fun i hi => by
    unfold rootW
    rw [getD_set _ _ _ _ _ (by simp [setN_len]; omega), if_neg (by omega), getD_set _ _ _ _ _ (by simp [setN_len]; omega), if_neg (by omega)]
  constructor
  · rw [twoN_same (g 1 (by omega)) (g 2 (by omega)), twoN_same (ws := setN ws 1 v) (by rw [setN_get (by rw [setN_len]; omega), if_neg (by omega), if_neg (by omega)]) (by rw [setN_get (by rw [setN_len]; omega), if_neg (by omega), if_neg (by omega)])]
    exact twoN_setN (by omega)
  · rw [twoN_same (g 3 (by omega)) (g 4 (by omega))]
    exact twoN_setN (by rw [setN_len]; omega)
theorem Inv.root (h : Inv ws bs B L) (hl : 64 ≤ ws.length) (v e four six : Nat) : Inv (rootW ws v e four six) bs B L := h.low (rootW_len _ _ _ _ _) (fun i hi => rootW_get hl v e four six i (by omega))
theorem Inv.step_root (h : Inv ws bs B L) (hl : 64 ≤ ws.length) {v e : Nat} (four six : Nat) (hv : v ≠ 0) (hn : v - 1 = twoN ws 1) (he : twoN ws 7 ≤ e) (h4 : four = 0 ∨ ∃ b ∈ B, b.t = true ∧ b.x = four) (h6 : six = 0 ∨ ∃ b ∈ B, b.t = true ∧ b.x = six) (sk : Int → Prop) : StepOk B ws (rootW ws v e four six) B sk := by
  obtain ⟨h1, h2⟩ := rootW_two hl v e four six
  have e1 : v = twoN ws 1 + 1 := by clear h4 h6; omega
  exact ⟨fun b hb _ _ => ⟨hb, fun j _ => rootW_get hl v e four six _ (by have := (h.at hb).2.1; omega)⟩, Nat.le_of_eq (twoN_same (rootW_get hl v e four six 7 (by omega)) (rootW_get hl v e four six 8 (by omega))).symm, .inr ⟨by rw [h1]; exact e1, by rw [h2]; exact he⟩, rootW_len _ _ _ _ _, fun hN => by
    have hg := fun i hi => rootW_get hl v e four six i hi
    have r5 : (rootW ws v e four six).getD 5 0 = four := by
      unfold rootW
      rw [getD_set _ _ _ _ _ (by simp [setN_len]; omega), if_neg (by omega), getD_set _ _ _ _ _ (by simp [setN_len]; omega), if_pos rfl]
    have r6 : (rootW ws v e four six).getD 6 0 = six := by
      unfold rootW
      rw [getD_set _ _ _ _ _ (by simp [setN_len]; omega), if_pos rfl]
    have r0 : (rootW ws v e four six).getD 0 0 = ws.getD 0 0 := by
      unfold rootW
      rw [getD_set _ _ _ _ _ (by simp [setN_len]; omega), if_neg (by omega), getD_set _ _ _ _ _ (by simp [setN_len]; omega), if_neg (by omega), setN_get (by rw [setN_len]; omega), if_neg (by omega), if_neg (by omega), setN_get (by omega), if_neg (by omega), if_neg (by omega)]
    refine ⟨by rw [r0, rootW_len]; exact hN.first, fun i h1 h2 => ?_, fun b hb ht i h1 h2 => ?_, by rw [r5]; exact h4, by rw [r6]; exact h6⟩
    · rw [hg 15 (by omega)] at h1
      rw [rootW_len] at h2
      have := h.edge16
      rw [hg i (by omega)]
      exact hN.behind i h1 h2
    · have := (h.at hb).2.1
      rw [hg i (by omega)]
      exact hN.nought b hb ht i h1 h2⟩
theorem Inv.raise (h : Inv ws bs B L) (hl : 64 ≤ ws.length) (y : Nat) : Inv (setN ws 7 y) bs B L := h.low (setN_len _ _ _) (fun i hi => by rw [setN_get (by omega), if_neg (by omega), if_neg (by omega)])
theorem Inv.step_raise (h : Inv ws bs B L) (hl : 64 ≤ ws.length) {y : Nat} (hy : twoN ws 7 ≤ y) (sk : Int → Prop) : StepOk B ws (setN ws 7 y) B sk :=
  ⟨fun b hb _ _ => ⟨hb, fun j _ => by have := (h.at hb).2.1; rw [setN_get (by omega), if_neg (by omega), if_neg (by omega)]⟩, by rw [twoN_setN (by omega)]; exact hy, .inl (fun i h1 h2 => by rw [setN_get (by omega), if_neg (by omega), if_neg (by omega)]), setN_len _ _ _, fun hN => by
    have hg : ∀ i, i < 7 ∨ 8 < i → (setN ws 7 y).getD i 0 = ws.getD i 0 := fun i hi => by rw [setN_get (by omega), if_neg (by omega), if_neg (by omega)]
    refine ⟨by rw [hg 0 (by omega), setN_len]; exact hN.first, fun i h1 h2 => ?_, fun b hb ht i h1 h2 => ?_, by rw [hg 5 (by omega)]; exact hN.four, by rw [hg 6 (by omega)]; exact hN.six⟩
    · rw [hg 15 (by omega)] at h1
      rw [setN_len] at h2
      have := h.edge16
      rw [hg i (by omega)]
      exact hN.behind i h1 h2
    · have := (h.at hb).2.1
      rw [hg i (by omega)]
      exact hN.nought b hb ht i h1 h2⟩
theorem Inv.led (h : Inv ws bs B L) {x : Int} (hl : Lead ws bs x) : x.toNat = 0 ∨ ∃ b ∈ B, b.t = true ∧ b.x = x.toNat := by
  rcases hl with ⟨rfl, _⟩ | ⟨y, c, rfl, hy⟩
  · exact .inl rfl
  · obtain ⟨b, hb, hx⟩ := (h.begs y).1 hy.beg
    refine .inr ⟨b, hb, ?_, by rw [hx]; simp⟩
    have h1 := (h.at hb).2.2.1
    rw [hx, hy.hd] at h1
    cases ht : b.t
    · rw [ht] at h1; unfold hdN at h1; simp at h1; omega
    · rfl
end

/-! ### the calls -/
/-- What a call leaves. -/
def Left (w w' : World) (g p q : Nat) (ws : List Nat) (B : List Bl) (sk : Int → Prop) : Prop :=
  ∃ ws' bs' B' L', Ar w' g p q ws' bs' ∧ Inv ws' bs' B' L' ∧ StepOk B ws ws' B' sk ∧ Kept [p, q] w w'
section
variable {w : World} {g p q : Nat} {ws : List Nat} {bs : List Bool} {B : List Bl} {L : Nat → List Nat}
theorem left_same (h : Ar w g p q ws bs) (hI : Inv ws bs B L) {w' : World} (hk : Kept [] w w') (sk : Int → Prop) : Left w w' g p q ws B sk :=
  ⟨ws, bs, B, L, h.kept hk (by simp) (by simp) (by simp), hI, StepOk.refl _ _ _, hk.more (by simp)⟩
theorem alloc_do (h : Ar w g p q ws bs) (hI : Inv ws bs B L) (c : Int) (sk : Int → Prop) : Calls Try.prog 11 #[.pointer (some ⟨g, 0, none⟩), .int .i64 c] w fun e w' => (∃ v, e = .returned v) ∧ Left w w' g p q ws B sk := by
  by_cases hc : 0 ≤ c ∧ c ≤ 5
  · obtain ⟨k, rfl⟩ : ∃ k : Nat, c = (k : Int) := ⟨c.toNat, by omega⟩
    have hk : k ≤ 5 := by omega
    cases hL : L k with
    | nil =>
      have h0 : ws.getD (9 + k) 0 = 0 := by have := hI.lst k hk; rw [hL] at this; exact this
      by_cases hf : ws.getD 15 0 + 1 + 2 ^ k ≤ ws.length
      · exact (alloc_grow h k hk h0 hI.edge16 hf).mono fun e w' ⟨he, ha, hk'⟩ => ⟨⟨_, he⟩, _, _, _, _, ha, hI.grow h.len hk hf, hI.step_grow hk hf sk, hk'⟩
      · exact (alloc_full h k hk h0 hI.edge16 hI.edge (by omega)).mono fun e w' ⟨he, hw⟩ => ⟨⟨_, he⟩, left_same h hI (by rw [hw]; exact Kept.refl _ _) sk⟩
    | cons x r =>
      obtain ⟨h1, h2, h3, h4⟩ := hI.list hk hL
      exact (alloc_list h k x hk h1 h2 h3).mono fun e w' ⟨he, ha, hk'⟩ => ⟨⟨_, he⟩, _, _, _, _, ha, h4, hI.step_list hk hL sk, hk'.more (by simp)⟩
  · exact (alloc_arg c (by omega) _ w).mono fun e w' ⟨he, hw⟩ => ⟨⟨_, he⟩, left_same h hI (by rw [hw]; exact Kept.refl _ _) sk⟩
theorem free_do (h : Ar w g p q ws bs) (hI : Inv ws bs B L) (x : Int) : Calls Try.prog 16 #[.pointer (some ⟨g, 0, none⟩), .int .i64 x] w fun e w' => (∃ v, e = .returned v) ∧ Left w w' g p q ws B (fun y => y = x) := by
  rcases hI.cases x with ⟨b, hb, ht, rfl⟩ | ⟨hn, _⟩
  · by_cases hx : ws.getD 5 0 = b.x ∨ ws.getD 6 0 = b.x
    · exact (free_arg h (hI.yes hb ht) hx).mono fun e w' ⟨he, hw⟩ => ⟨⟨_, he⟩, left_same h hI (Kept.of_below _ hw) _⟩
    · exact (free_yes h (hI.yes hb ht) (hI.at hb).2.1 (fun e => hx (.inl e)) (fun e => hx (.inr e))).mono fun e w' ⟨he, ha, hk'⟩ => ⟨⟨_, he⟩, _, _, _, _, ha, hI.free hb ht, hI.step_free hb ht (fun e => hx (.inl e)) (fun e => hx (.inr e)), hk'.more (by simp)⟩
  · exact (free_no h x hn).mono fun e w' ⟨he, hw⟩ => ⟨⟨_, he⟩, left_same h hI (by rw [hw]; exact Kept.refl _ _) _⟩
theorem load_do (h : Ar w g p q ws bs) (hI : Inv ws bs B L) (x i : Int) (sk : Int → Prop) : Calls Try.prog 14 #[.pointer (some ⟨g, 0, none⟩), .int .i64 x, .int .i64 i] w fun e w' => (∃ v, e = .returned v) ∧ Left w w' g p q ws B sk := by
  rcases hI.cases x with ⟨b, hb, ht, rfl⟩ | ⟨hn, _⟩
  · by_cases hi : i < 0 ∨ ((2 ^ b.c : Nat) : Int) ≤ i
    · exact (load_out h (hI.yes hb ht) i hi).mono fun e w' ⟨he, n, hw⟩ => ⟨⟨_, he⟩, left_same h hI (by rw [hw]; exact (Kept.refl _ _).drewN n) sk⟩
    · obtain ⟨k, rfl⟩ : ∃ k : Nat, i = (k : Int) := ⟨i.toNat, by omega⟩
      exact (load_yes h (hI.yes hb ht) (i := k) (by omega)).mono fun e w' ⟨he, n, hw⟩ => ⟨⟨_, he⟩, left_same h hI (by rw [hw]; exact (Kept.refl _ _).drewN n) sk⟩
  · exact (load_no h x i hn).mono fun e w' ⟨he, hw⟩ => ⟨⟨_, he⟩, left_same h hI (by rw [hw]; exact Kept.refl _ _) sk⟩
theorem store_do (h : Ar w g p q ws bs) (hI : Inv ws bs B L) (x i : Int) (y : Nat) (hy : y < 4294967296) : Calls Try.prog 13 #[.pointer (some ⟨g, 0, none⟩), .int .i64 x, .int .i64 i, .int .u32 (y : Int)] w fun e w' => (∃ v, e = .returned v) ∧ Left w w' g p q ws B (fun z => z = x) := by
  rcases hI.cases x with ⟨b, hb, ht, rfl⟩ | ⟨hn, _⟩
  · by_cases hi : i < 0 ∨ ((2 ^ b.c : Nat) : Int) ≤ i
    · exact (store_out h (hI.yes hb ht) i y hi).mono fun e w' ⟨he, n, hw⟩ => ⟨⟨_, he⟩, left_same h hI (by rw [hw]; exact (Kept.refl _ _).drewN n) _⟩
    · obtain ⟨k, rfl⟩ : ∃ k : Nat, i = (k : Int) := ⟨i.toNat, by omega⟩
      have hk : k < 2 ^ b.c := by omega
      exact (store_yes h (hI.yes hb ht) hk y hy).mono fun e w' ⟨he, ha, hk'⟩ => ⟨⟨_, he⟩, _, _, _, _, ha, hI.store hb ht hk y, hI.step_store hb ht hk y, hk'.more (by simp)⟩
  · exact (store_no h x i y hn).mono fun e w' ⟨he, hw⟩ => ⟨⟨_, he⟩, left_same h hI (by rw [hw]; exact Kept.refl _ _) _⟩
theorem pub_do (h : Ar w g p q ws bs) (hI : Inv ws bs B L) (v e : Nat) (hv : v < 18446744073709551616) (he : e < 18446744073709551616) (four six : Int) (sk : Int → Prop) : Calls Try.prog 15 #[.pointer (some ⟨g, 0, none⟩), .agg (rtcs v e four six)] w fun e w' => (∃ v, e = .returned v) ∧ Left w w' g p q ws B sk := by
  by_cases h1 : e < twoN ws 7
  · exact (pub_fence h v e four six h1).mono fun e w' ⟨he, hw⟩ => ⟨⟨_, he⟩, left_same h hI (Kept.of_below _ hw) _⟩
  · by_cases h2 : v = 0 ∨ v - 1 ≠ twoN ws 1
    · exact (pub_version h v e four six (by omega) hv h2).mono fun e w' ⟨he, hw⟩ => ⟨⟨_, he⟩, left_same h hI (Kept.of_below _ hw) _⟩
    · have hz : v ≠ 0 := fun e => h2 (.inl e)
      have hn : v - 1 = twoN ws 1 := Decidable.byContradiction fun e => h2 (.inr e)
      rcases hI.lead four with h4 | h4
      · rcases hI.lead six with h6 | h6
        · exact (pub_yes h v e four six (by omega) he hv hz hn h4 h6).mono fun e' w' ⟨he', ha, hk'⟩ => ⟨⟨_, he'⟩, _, _, _, _, ha, hI.root h.lo v e four.toNat six.toNat, hI.step_root h.lo four.toNat six.toNat hz hn (by omega) (hI.led h4) (hI.led h6) sk, hk'.more (by simp)⟩
        · exact (pub_none h v e four six (by omega) hv hz hn (.inr ⟨h4, h6.1, h6.2⟩)).mono fun e w' ⟨he, hw⟩ => ⟨⟨_, he⟩, left_same h hI (Kept.of_below _ hw) _⟩
      · exact (pub_none h v e four six (by omega) hv hz hn (.inl ⟨h4.1, h4.2⟩)).mono fun e w' ⟨he, hw⟩ => ⟨⟨_, he⟩, left_same h hI (Kept.of_below _ hw) _⟩
theorem raise_do (h : Ar w g p q ws bs) (hI : Inv ws bs B L) (y : Nat) (hy : y < 18446744073709551616) (sk : Int → Prop) : Calls Try.prog 17 #[.pointer (some ⟨g, 0, none⟩), .int .u64 (y : Int)] w fun e w' => (∃ v, e = .returned v) ∧ Left w w' g p q ws B sk := by
  by_cases h1 : y < twoN ws 7
  · exact (raise_low h y h1).mono fun e w' ⟨he, n, hw⟩ => ⟨⟨_, he⟩, left_same h hI (by rw [hw]; exact (Kept.refl _ _).drewN n) sk⟩
  · exact (raise_yes h y (by omega) hy).mono fun e w' ⟨he, ha, hk'⟩ => ⟨⟨_, he⟩, _, _, _, _, ha, hI.raise h.lo y, hI.step_raise h.lo (by omega) sk, hk'.more (by simp)⟩
end
end Go.Proofs.Ytgnpoehcmlmajaa
namespace Go.Proofs.Ytgnpoehcmlmajaa
open Go.RowKit Go.Shelf
set_option linter.unusedVariables false

/-- The words as bytes. -/
def wbytes (ws : List Nat) : List Nat := ws.flatMap fun x => highB x 4
theorem wbytes_snoc (ws : List Nat) (x : Nat) : wbytes (ws ++ [x]) = wbytes ws ++ highB x 4 := by simp [wbytes]
theorem wbytes_len : ∀ ws : List Nat, (wbytes ws).length = 4 * ws.length
  | [] => rfl
  | x :: r => by
    have := wbytes_len r
    have e : wbytes (x :: r) = highB x 4 ++ wbytes r := by simp [wbytes]
    rw [e, List.length_append, length_highB, this, List.length_cons]; omega
theorem wbytes_bys (ws : List Nat) : Bys (wbytes ws) := fun n hn => by
  obtain ⟨x, _, hx⟩ := List.mem_flatMap.1 hn
  exact highB_bys x 4 n hx
theorem wbytes_take {ws : List Nat} {k : Nat} (hk : k < ws.length) : wbytes (ws.take (k + 1)) = wbytes (ws.take k) ++ highB (ws.getD k 0) 4 := by
  rw [List.take_succ_eq_append_getElem hk, wbytes_snoc]
  simp [hk]
theorem owns_later {w w' : World} {B : Nat} {e : TypeId} {z : Nat} {v : Value} {n : Nat} {xs : List Value} (h : w.ownsRow B e z v n xs) (hb : Below w.heap.size w w') : w'.ownsRow B e z v n xs :=
  h.kept (row := none) ⟨hb.os, hb.tape, hb.output, hb.size, fun k hk _ => hb.block k hk⟩ (by cases v.ownBlock <;> simp)
section
variable {w : World} {g p q : Nat} {ws : List Nat} {bs : List Bool}
set_option maxRecDepth 100000 in
set_option maxHeartbeats 2000000 in
theorem encode_cap (h : Ar w g p q ws bs) : Calls Try.prog 38 #[.pointer (some ⟨g, 0, none⟩)] w fun e w' => ∃ b c, e = .returned (.slice (some ⟨b, 0, none⟩) (4 * ws.length) c) ∧ Lies w' (some ⟨b, 0, none⟩) (wbytes ws) ∧ w.heap.size ≤ b ∧ Below w.heap.size w w' ∧ 4 * ws.length ≤ c := by
  obtain ⟨i0, hi, hz0, hz1, hz2⟩ := info_parts Try.info5
  have hlo := h.lo
  have hhi := h.hi
  obtain ⟨n, hn⟩ : ∃ n, ws.length = n := ⟨_, rfl⟩
  have hmk := run_make (P := Try.prog) w 44 5 i0 (.int .u8 0) Try.underlying44 hi hz0 .i64 .i64 0 (4 * (n : Int)) (by omega) (by omega) (by rw [hz2]; omega) (by omega)
  rw [hz1, show (4 * (n : Int)).toNat = 4 * n from by omega, Nat.mul_one, show (0 : Int).toNat = 0 from rfl] at hmk
  obtain ⟨W1, hW1⟩ : ∃ W1, w.alloc (.cells (madeCells (Value.int .u8 0).cells (4 * n)) 5) = W1 := ⟨_, rfl⟩
  rw [hW1] at hmk
  have hb1 : Below w.heap.size w W1 := by rw [← hW1]; exact (Below.refl _ _).alloc (Nat.le_refl _) _
  have hs1 : (madeCells (Value.int .u8 0).cells (4 * n)).size = 4 * n * 1 := by rw [made_bytes]; simp
  have how : W1.ownsRow w.heap.size 5 1 (.slice (some ⟨w.heap.size, 0, none⟩) 0 (4 * n)) 0 ((wbytes (ws.take 0)).map byc) := by rw [← hW1]; exact World.ownsRow_made w _ _ (Nat.le_refl _) (by unfold maxLen; omega) hs1
  have A1 := h.later hb1
  have c0 := h.c0
  have c01 := A1.c0
  rw [hn] at c0 c01 hlo hhi ⊢
  have HA := Lib.hid (And.intro h (And.intro how (And.intro hb1 hn)))
  clear h A1 how hb1 hn hs1
  generalize madeCells (Value.int .u8 0).cells (4 * n) = mc at *
  go_enter Try.func38, Try.ntmps38
  go_wp2_with fail
  clear hmk hW1 c0 c01
  go_loopw [3, 20] (fun o i wr => ∃ k : Nat, k ≤ n ∧ i = .int .i64 k ∧ wr.ownsRow w.heap.size 5 1 o (4 * k) ((wbytes (ws.take k)).map byc) ∧ Below w.heap.size w wr) (fun o i _ => n - (intOf i).toNat)
  case atStart => exact ⟨0, Nat.zero_le _, rfl, HA.out.2.1, HA.out.2.2.1⟩
  case round =>
    obtain ⟨k, hk, rfl, how, hb⟩ := hrel
    have hA := HA.out.1.later hb
    by_cases hlt : k < n
    · have hki : (k : Int) < (n : Int) := by omega
      have cx := hA.word (i := k) (by rw [HA.out.2.2.2]; exact hlt)
      have hsm := hA.small k
      have hsn := wbytes_take (ws := ws) (k := k) (by rw [HA.out.2.2.2]; exact hlt)
      generalize ws.getD k 0 = x at *
      have hp := put32_any none 0 0 [] x wr rfl (by omega) (.inl rfl) (by omega)
      rw [List.nil_append, Nat.zero_add] at hp
      have HX := Lib.hid (And.intro how (And.intro hA (And.intro hb hsn)))
      clear how hA hb hsn
      go_wp2_with fail
      refine hp.mono ?_
      rintro e w2 ⟨rfl, hO, hb2⟩
      have how2 := owns_later HX.out.1 hb2
      have hL := hO.lies
      have hB2 := bel_later HX.out.2.2.1 hb2
      have hlt0 := hB2.size
      have hbw := HX.out.2.2.1.size
      have hsz : (highB x 4).length = 4 := length_highB _ _
      obtain ⟨ad, had, hcl⟩ := hL.cells (by rw [hsz]; omega)
      cases had
      clear hp cx
      generalize hbx : highB x 4 = bx at *
      clear hbx hO hL
      generalize wr.heap.size = pb at *
      go_wp2_with (at_builtin; refine wpList_append_own _ rfl _ _ 44 rfl w.heap.size 5 i0 (.int .u8 0) 1 1 Try.underlying44 hi hz0 hz1 hz2 rfl (by decide) _ _ _ rfl how2 ⟨pb, 0, none⟩ 4 4 (bx.map byc) rfl ?c0 ?c1 ?c2 ?c3 ?c4 ?c5 ?_)
      case c0 => rw [List.length_map, hsz]
      case c1 => exact hcl
      case c2 => exact byc_one _
      case c3 => unfold maxLen; omega
      case c4 => omega
      case c5 => exact hlt0
      intro v' w3 how3 hg3 _
      have hb3 : Below w.heap.size w w3 := hB2.grown hg3 hlt0 (fun j hj => (how2.lt j hj).1)
      go_wp2_with fail
      go_roundw
      case rel => exact ⟨k + 1, by omega, by go_num, by rw [HX.out.2.2.2, List.map_append]; exact how3, hb3⟩
      case measure => simp [intOf]; omega
    · obtain rfl : k = n := by omega
      have hfull : ws.take k = ws := List.take_of_length_le (by have := HA.out.2.2.2; omega)
      rw [hfull] at how
      obtain ⟨g9, c9, rfl, hc9, hm9, hcl⟩ := owns_cell how (by omega)
      have hfin : Lies wr (some ⟨g9, 0, none⟩) (wbytes ws) := .inr ⟨g9, 0, rfl, (how.lt g9 rfl).2, fun i hi => by
        rw [Nat.zero_add]
        refine hcl i _ ?_
        simp [byc, hi]⟩
      have hge := (how.lt g9 rfl).1
      have HZ := Lib.hid (And.intro hfin (And.intro hge hb))
      have hc10 := hc9
      clear hfin hge hb how hA hcl
      go_wp2_with fail
      go_ret
      exact ⟨g9, c9, rfl, HZ.out.1, HZ.out.2.1, HZ.out.2.2, by have := HA.out.2.2.2; omega⟩
theorem encode_any (h : Ar w g p q ws bs) : Calls Try.prog 38 #[.pointer (some ⟨g, 0, none⟩)] w fun e w' => ∃ b c, e = .returned (.slice (some ⟨b, 0, none⟩) (4 * ws.length) c) ∧ Lies w' (some ⟨b, 0, none⟩) (wbytes ws) ∧ w.heap.size ≤ b ∧ Below w.heap.size w w' :=
  (encode_cap h).mono fun e w' ⟨b, c, h1, h2, h3, h4, _⟩ => ⟨b, c, h1, h2, h3, h4⟩
end
end Go.Proofs.Ytgnpoehcmlmajaa
