/-
  Decode, in parts: words out of bytes. Nothing here is a statement of the document.
-/
import Derived.Test.YtngnlepocahpaaaSrtP
namespace Go.Proofs.Ytngnlepocahpaaa
open Go.RowKit Go.Shelf
set_option linter.unusedVariables false

theorem wbytes_drop : ∀ (ws : List Nat) (k : Nat), k < ws.length → ((wbytes ws).drop (4 * k)).take 4 = highB (ws.getD k 0) 4
  | [], k, h => by simp at h
  | x :: r, 0, h => by
    have e : wbytes (x :: r) = highB x 4 ++ wbytes r := by simp [wbytes]
    rw [e, Nat.mul_zero, List.drop_zero, List.take_append_of_le_length (by rw [length_highB]; omega), List.take_of_length_le (by rw [length_highB]; omega)]
    rfl
  | x :: r, k + 1, h => by
    have e : wbytes (x :: r) = highB x 4 ++ wbytes r := by simp [wbytes]
    have h4 : 4 * (k + 1) = (highB x 4).length + 4 * k := by rw [length_highB]; omega
    rw [e, h4, ← List.drop_drop, List.drop_left]
    exact wbytes_drop r k (by simpa using h)
theorem came_word {ws : List Nat} {k : Nat} (hk : k < ws.length) : came (wbytes ws) (4 * k) 0 4 = highB (ws.getD k 0) 4 := by
  unfold came
  have hl := wbytes_len ws
  rw [if_neg (by simp), if_neg (by omega), if_neg (by omega)]
  exact wbytes_drop ws k hk
theorem off_word {ws : List Nat} {k : Nat} (hk : k < ws.length) : offTo (wbytes ws).length (4 * k) 0 4 = (4 * (k + 1), 0) := by
  unfold offTo
  have hl := wbytes_len ws
  rw [if_neg (by simp), if_neg (by omega), if_neg (by omega)]
  simp; omega
theorem pile_word {x : Nat} (h : x < 4294967296) : pile 0 (highB x 4) % 4294967296 = x := by
  have e : List.range 4 = [0, 1, 2, 3] := rfl
  simp [highB, pile, e]
  omega
/-- The first k words are there. -/
def upto (ws : List Nat) (k : Nat) : List Nat := ws.take k ++ List.replicate (ws.length - k) 0
theorem upto_set {ws : List Nat} {k : Nat} (hk : k < ws.length) : (upto ws k).set k (ws.getD k 0) = upto ws (k + 1) := by
  apply List.ext_getElem?
  intro i
  have hl : (upto ws k).length = ws.length := by simp [upto]; omega
  unfold upto at *
  rw [List.getElem?_set]
  by_cases hik : k = i
  · subst hik
    rw [if_pos rfl, if_pos (by rw [hl]; exact hk), List.getElem?_append_left (by simp; omega), List.getElem?_take, if_pos (by omega)]
    simp [hk]
  · rw [if_neg hik]
    by_cases h1 : i < k
    · rw [List.getElem?_append_left (by simp; omega), List.getElem?_append_left (by simp; omega), List.getElem?_take, List.getElem?_take, if_pos h1, if_pos (by omega)]
    · rw [List.getElem?_append_right (by simp; omega), List.getElem?_append_right (by simp; omega), List.getElem?_replicate, List.getElem?_replicate]
      simp only [List.length_take]
      have e1 : min k ws.length = k := by omega
      have e2 : min (k + 1) ws.length = k + 1 := by omega
      rw [e1, e2]
      by_cases h2 : i < ws.length
      · rw [if_pos (by omega), if_pos (by omega)]
      · rw [if_neg (by omega), if_neg (by omega)]
theorem upto_all (ws : List Nat) : upto ws ws.length = ws := by simp [upto]
theorem upto_none (ws : List Nat) : upto ws 0 = List.replicate ws.length 0 := by simp [upto]

set_option maxRecDepth 100000 in
set_option maxHeartbeats 2000000 in
theorem wordsof_any (a : Option Addr) (len cap n : Nat) (ws : List Nat) (hn : ws.length = n) (hl : 4 * n = len) (hle : n ≤ 16384) (hsm : ∀ x ∈ ws, x < 4294967296) (w : World) (hL : Lies w a (wbytes ws)) :
    Calls Try.prog 45 #[.slice a len cap] w fun e w' => ∃ pp, e = .returned (.slice (some ⟨pp, 0, none⟩) n n) ∧ w.heap.size ≤ pp ∧ Blk w' pp 59 (wcs ws) ∧ Below w.heap.size w w' := by
  obtain ⟨i0, hi, hz0, hz1, hz2⟩ := info_parts i_u32
  have hmk : ∀ w, (Instr.makeSlice 67 (.int .i64 (n : Int)) (.int .i64 (n : Int))).run Try.prog w = .ok (.slice (some ⟨w.heap.size, 0, none⟩) n n) (w.alloc (.cells (wcs (List.replicate n 0)) 59)) := fun w => by
    have h := run_make (P := Try.prog) w 67 59 i0 (.int .u32 0) Try.underlying67 hi hz0 .i64 .i64 (n : Int) (n : Int) (by omega) (by omega) (by rw [hz2]; omega) (by omega)
    rw [hz1, show (n : Int).toNat = n from by omega, made_words] at h
    exact h
  have hlb : (wbytes ws).length = len := by rw [wbytes_len, hn, hl]
  have hrd := read_any a len cap (wbytes ws) w hlb (by omega) hL
  have hquo : ((len : Nat) : Int) / 4 = (n : Int) := by omega
  have hquo2 : ((len : Nat) : Int).tdiv 4 = (n : Int) := by rw [Int.tdiv_eq_ediv_of_nonneg (by omega)]; exact hquo
  have hwn : wrap64 (n : Int) = (n : Int) := w64s (by omega)
  have hsmall : ∀ k, ws.getD k 0 < 4294967296 := fun k => by
    by_cases hk : k < ws.length
    · rw [show ws.getD k 0 = ws[k] by simp [hk]]; exact hsm _ (List.getElem_mem hk)
    · rw [show ws.getD k 0 = 0 by simp [List.getElem?_eq_none (by omega : ws.length ≤ k)]]; omega
  have H := Lib.hid (And.intro hn (And.intro hle (And.intro hlb (And.intro hsmall hl))))
  clear hi hz0 hz1 hz2 hn hle hlb hsm hsmall hL hl
  go_enter Try.func45, Try.ntmps45
  go_wp2_with fail
  refine hrd.mono ?_
  rintro e w1 ⟨p, rfl, hp, hR, hb1⟩
  clear hrd
  go_wp2
  have hs1 := hb1.size
  have hR2 := hR.below ((Below.refl _ w1).alloc (Nat.le_refl _) (.cells (wcs (List.replicate n 0)) 59))
  have hB2 := Blk.new w1 59 (wcs (List.replicate n 0))
  have hb2 : Below w.heap.size w (w1.alloc (.cells (wcs (List.replicate n 0)) 59)) := hb1.alloc hs1 _
  have hpp : w1.heap.size ≠ p ∧ w1.heap.size ≠ w.heap.size := ⟨by have := hR.lt; omega, by have := hR.own.lt; omega⟩
  have hu0 : upto ws 0 = List.replicate n 0 := by rw [upto_none, H.out.1]
  rw [← hu0] at hR2 hB2 hb2 ⊢
  have HP := Lib.hid (And.intro hpp (And.intro hs1 hp))
  clear hR hb1 hs1 hpp hp
  generalize w1.heap.size = pp at *
  clear hwn hquo hquo2
  go_loopw [14] (fun i wr => ∃ k : Nat, k ≤ n ∧ i = .int .i64 (k : Int) ∧ Rd wr p w.heap.size (wbytes ws) (4 * k) 0 ∧ Blk wr pp 59 (wcs (upto ws k)) ∧ Below w.heap.size w wr) (fun i _ => n - (intOf i).toNat)
  case atStart => exact ⟨0, Nat.zero_le _, rfl, hR2, hB2, hb2⟩
  case round =>
    obtain ⟨k, hk, rfl, hRk, hBk, hbk⟩ := hrel
    by_cases hlt : k < n
    · have d1 : decide ((k : Int) < (n : Int)) = true := by simp; omega
      have d2 : decide (k < n) = true := by simp; omega
      have hkw : k < ws.length := by rw [H.out.1]; exact hlt
      have hu := u32_any hRk (wbytes_bys ws) (by rw [H.out.2.2.1]; have := H.out.2.1; have := H.out.2.2.2.2; omega)
      rw [came_word hkw, pile_word (H.out.2.2.2.1 k)] at hu
      have ho := off_word hkw
      have hus := upto_set hkw
      have hk20 := w64k (k := k) (by have := H.out.2.1; omega)
      have HW := Lib.hid (And.intro ho (And.intro hus (And.intro hBk (And.intro hbk hk20))))
      have hul : k < (wcs (upto ws k)).size := by simp [wcs, upto]; omega
      have HUL := Lib.hid hul
      clear ho hus hBk hbk hul hR2 hB2 hb2 hk20
      generalize ws.getD k 0 = x at *
      go_wp2_with fail
      refine hu.mono ?_
      rintro e w3 ⟨rfl, hA⟩
      have hR3 := hA.rd HW.out.1
      have hB3 : Blk w3 pp 59 (wcs (upto ws k)) := (hA.2.block pp HW.out.2.2.1.lt (by simp; exact HP.out.1.1)).trans HW.out.2.2.1
      have hb3 := hA.below HW.out.2.2.2.1 HW.out.2.2.2.1.size (Nat.le_of_lt HP.out.2.2)
      have c3 : ∃ v, w3.cell? ⟨pp, k, none⟩ = some v := ⟨_, (hB3.cell k).trans (Array.getElem?_eq_getElem HUL.out)⟩
      obtain ⟨v, c3⟩ := c3
      have f3 := hB3.free k
      have hB4 := hB3.set k (.int .u32 (x : Int))
      rw [wcs_set, HW.out.2.1] at hB4
      have hR4 : Rd (w3.setCell ⟨pp, k, none⟩ (.int .u32 (x : Int))) p w.heap.size (wbytes ws) (4 * (k + 1)) 0 := hR3.kept (Below.heap_setCell w3 _ _ p (by simp; exact fun h => HP.out.1.1 h.symm)) (Below.heap_setCell w3 _ _ _ (by simp; exact fun h => HP.out.1.2 h.symm))
      have hb4 : Below w.heap.size w (w3.setCell ⟨pp, k, none⟩ (.int .u32 (x : Int))) := hb3.setCell (by simp; exact HP.out.2.1) _
      have H4 := Lib.hid (And.intro hB4 (And.intro hR4 hb4))
      clear hA hB4 hR4 hb4 hB3 hR3 hb3 hu
      have hk20 := HW.out.2.2.2.2
      go_wp2
      rw [hk20]
      refine ⟨⟨k + 1, hlt, by rw [Int.natCast_add]; rfl, H4.out.2.1, H4.out.1, H4.out.2.2⟩, ?_⟩
      clear hk20
      simp [intOf]; omega
    · have e : k = n := by omega
      subst e
      have hd1 : decide ((k : Int) < (k : Int)) = false := by simp
      rw [show upto ws k = ws by rw [← H.out.1]; exact upto_all ws] at hBk
      go_wp2
      go_ret
      exact ⟨pp, rfl, HP.out.2.1, hBk, hbk⟩
end Go.Proofs.Ytngnlepocahpaaa
