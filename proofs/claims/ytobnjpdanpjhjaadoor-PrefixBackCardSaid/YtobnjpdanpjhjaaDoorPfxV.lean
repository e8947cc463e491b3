/-
  That bytes of a cut are read back as they were written, and written as they were read. Nothing here is a statement of the document.
-/
import Derived.Test.YtobnjpdanpjhjaaDoorPfxM
namespace Go.Proofs.YtobnjpdanpjhjaaDoor
open Go.RowKit Go.Shelf
set_option linter.unusedVariables false

theorem f16 {n : Nat} (h : n ≤ 128) : fill8 n ≤ 16 := by unfold fill8; omega
theorem fill_ge (n : Nat) : n ≤ 8 * fill8 n := by unfold fill8; omega
theorem at_zero_bt {b : B16} {i : Nat} (h : b.at (i / 8) = 0) : bt b i = false := by unfold bt; rw [h]; simp
theorem pad_take {b : B16} {n : Nat} (hn : n ≤ 128) (h : clear b n) : padB (b.l.take (fill8 n)) = b := bt_ext fun i hi => by
  have hB : Bys (b.l.take (fill8 n)) := b.bys.take2 _
  have h16 : i / 8 < 16 := by omega
  by_cases h1 : i / 8 < fill8 n
  · unfold bt
    rw [padB_at _ hB _ h16]
    have : (b.l.take (fill8 n)).getD (i / 8) 0 = b.at (i / 8) := by simp [B16.at, List.getElem?_take, h1]
    rw [this]
  · rw [h i (by have := fill_ge n; omega) hi]
    refine at_zero_bt ?_
    rw [padB_at _ hB _ h16]
    simp [List.getElem?_take, h1]
theorem pad_body {M : List Nat} (hB : Bys M) (h : M.length ≤ 16) : (padB M).l.take M.length = M := by
  apply List.ext_getElem?
  intro i
  rw [List.getElem?_take]
  by_cases h1 : i < M.length
  · rw [if_pos h1]
    have h2 := padB_at M hB i (by omega)
    unfold B16.at at h2
    have h3 : i < (padB M).l.length := by rw [(padB M).len]; omega
    simp [h3, h1] at h2
    simp [h3, h1, h2]
  · rw [if_neg h1, List.getElem?_eq_none (by omega)]
theorem encP_len {p : Px} (h : okP p) : (encP p).length = 2 + fill8 p.n.toNat := by
  have hw := wid_le p.a.v
  have := f16 (show p.n.toNat ≤ 128 by have := h.2.2.1; omega)
  unfold encP
  simp [p.a.b.len]
  omega
theorem enc_v {p : Px} (h : okP p) : ((p.a.v.toNat : Nat) : Int) = p.a.v := by have := wid_cases h.1.1; omega
theorem enc_n {p : Px} (h : okP p) : ((p.n.toNat : Nat) : Int) = p.n := by have := h.2.1; omega
theorem dec_enc {p : Px} (h : okP p) (R : List Nat) : decPE (encP p ++ R) = 0 ∧ decPX (encP p ++ R) = p ∧ decPN (encP p ++ R) = (encP p).length := by
  have hw := wid_le p.a.v
  have hn : p.n.toNat ≤ 128 := by have := h.2.2.1; omega
  have hf := f16 hn
  have h0 : by0 (encP p ++ R) = p.a.v.toNat := rfl
  have h1 : by1 (encP p ++ R) = p.n.toNat := rfl
  have hl : (encP p ++ R).length = 2 + fill8 p.n.toNat + R.length := by rw [List.length_append, encP_len h]
  have hd : ((encP p ++ R).drop 2).take (fill8 p.n.toNat) = p.a.b.l.take (fill8 p.n.toNat) := by
    have e : (encP p ++ R).drop 2 = p.a.b.l.take (fill8 p.n.toNat) ++ R := rfl
    rw [e, List.take_append_of_le_length (by simp [p.a.b.len]; omega), List.take_take, Nat.min_self]
  have hp : padF (encP p ++ R) 2 p.n.toNat = p.a.b := by unfold padF; rw [hd]; exact pad_take hn h.2.2.2
  have hE : decPE (encP p ++ R) = 0 := by
    unfold decPE bodyE
    rw [h0, h1, enc_v h, hp, (kept_iff _ _).2 h.2.2.2, if_neg (by omega), if_neg h.1.1, if_neg (by omega), if_neg (by have := h.2.2.1; omega), if_neg (by omega), if_pos rfl]
  refine ⟨hE, ?_, ?_⟩
  · unfold decPX
    rw [if_pos hE, h0, h1, hp, enc_v h, enc_n h]
  · unfold decPN
    rw [if_pos hE, h1, encP_len h]
theorem dec_short {p : Px} (h : okP p) (j : Nat) (hj : j < (encP p).length) : decPE ((encP p).take j) = 7 := by
  rw [encP_len h] at hj
  have hl : ((encP p).take j).length = j := by rw [List.length_take, encP_len h]; omega
  unfold decPE
  rw [hl]
  by_cases h1 : j < 1
  · rw [if_pos h1]
  · rw [if_neg h1]
    have h0 : by0 ((encP p).take j) = p.a.v.toNat := by
      match j, h1 with
      | j + 1, _ => rfl
    rw [h0, enc_v h, if_neg h.1.1]
    by_cases h2 : j < 2
    · rw [if_pos h2]
    · rw [if_neg h2]
      have h3 : by1 ((encP p).take j) = p.n.toNat := by
        match j, h2 with
        | j + 2, _ => rfl
        | 1, h2 => exact absurd (by omega) h2
      rw [h3, if_neg (by have := h.2.2.1; omega)]
      unfold bodyE
      rw [hl, if_pos hj]
theorem enc_dec {L : List Nat} (hB : Bys L) (h : decPE L = 0) : okP (decPX L) ∧ encP (decPX L) = L.take (decPN L) ∧ decPN L ≤ L.length := by
  have hX : decPX L = ⟨⟨(by0 L : Int), padF L 2 (by1 L)⟩, (by1 L : Int)⟩ := if_pos h
  have hN : decPN L = 2 + fill8 (by1 L) := if_pos h
  unfold decPE at h
  by_cases h1 : L.length < 1
  · rw [if_pos h1] at h; omega
  rw [if_neg h1] at h
  by_cases h2 : wid (by0 L : Int) = 0
  · rw [if_pos h2] at h; omega
  rw [if_neg h2] at h
  by_cases h3 : L.length < 2
  · rw [if_pos h3] at h; omega
  rw [if_neg h3] at h
  by_cases h4 : wid (by0 L : Int) < by1 L
  · rw [if_pos h4] at h; omega
  rw [if_neg h4] at h
  unfold bodyE at h
  by_cases h5 : L.length < 2 + fill8 (by1 L)
  · rw [if_pos h5] at h; omega
  rw [if_neg h5] at h
  by_cases h6 : keptB (padF L 2 (by1 L)) (by1 L) = padF L 2 (by1 L)
  rotate_left
  · rw [if_neg h6] at h; omega
  have hc := (kept_iff _ _).1 h6
  have hw := wid_le (by0 L : Int)
  have hf := f16 (show by1 L ≤ 128 by omega)
  have hML : ((L.drop 2).take (fill8 (by1 L))).length = fill8 (by1 L) := by rw [List.length_take, List.length_drop]; omega
  have hMB : Bys ((L.drop 2).take (fill8 (by1 L))) := fun m hm => hB m (List.mem_of_mem_drop (List.mem_of_mem_take hm))
  have hpb := pad_body hMB (by omega)
  rw [hML] at hpb
  rw [hX, hN]
  refine ⟨⟨⟨h2, clear_mono hc (show by1 L ≤ wid (by0 L : Int) by omega)⟩, by simp, by simp; omega, by simpa using hc⟩, ?_, by omega⟩
  unfold encP padF
  simp only [Int.toNat_natCast]
  rw [hpb]
  rcases L with _ | ⟨x, _ | ⟨y, L⟩⟩
  · simp at h1
  · simp at h3
  · rw [Nat.add_comm 2]
    rfl
end Go.Proofs.YtobnjpdanpjhjaaDoor
