/-
  What prefix.DecodeAddr and Decode answer, of whatever bytes. Nothing here is a statement of the document.
-/
import Derived.Test.YtfnagfmbhcaphaaDoorPfxL
namespace Go.Proofs.YtfnagfmbhcaphaaDoor
open Go.RowKit Go.Shelf
set_option linter.unusedVariables false

def padF (L : List Nat) (k n : Nat) : B16 := padB ((L.drop k).take (fill8 n))
noncomputable def bodyE (L : List Nat) (k n : Nat) (wrong : Int) : Int := if L.length < k + fill8 n then 7 else if keptB (padF L k n) n = padF L k n then 0 else wrong
def by0 (L : List Nat) : Nat := L.getD 0 0
def by1 (L : List Nat) : Nat := L.getD 1 0
noncomputable def decAE (L : List Nat) : Int := if L.length < 1 then 7 else if wid (by0 L : Int) = 0 then 150 else bodyE L 1 (wid (by0 L : Int)) 150
noncomputable def decAX (L : List Nat) : Ad := if decAE L = 0 then ⟨(by0 L : Int), padF L 1 (wid (by0 L : Int))⟩ else Ad.zero
noncomputable def decAN (L : List Nat) : Nat := if decAE L = 0 then 1 + fill8 (wid (by0 L : Int)) else 0
noncomputable def decPE (L : List Nat) : Int := if L.length < 1 then 7 else if wid (by0 L : Int) = 0 then 151 else if L.length < 2 then 7 else if wid (by0 L : Int) < by1 L then 151 else bodyE L 2 (by1 L) 151
noncomputable def decPX (L : List Nat) : Px := if decPE L = 0 then ⟨⟨(by0 L : Int), padF L 2 (by1 L)⟩, (by1 L : Int)⟩ else Px.zero
noncomputable def decPN (L : List Nat) : Nat := if decPE L = 0 then 2 + fill8 (by1 L) else 0

theorem t18_get (L : List Nat) (i : Nat) (h : i < 18) : (L.take 18).getD i 0 = L.getD i 0 := by simp [List.getElem?_take, h]
theorem t18_drop (L : List Nat) (k f : Nat) (h : k + f ≤ 18) : ((L.take 18).drop k).take f = (L.drop k).take f := by
  apply List.ext_getElem?
  intro i
  rw [List.getElem?_take, List.getElem?_take]
  by_cases hi : i < f
  · rw [if_pos hi, if_pos hi, List.getElem?_drop, List.getElem?_drop, List.getElem?_take, if_pos (by omega)]
  · rw [if_neg hi, if_neg hi]
theorem kept_pad_nil (n : Nat) : keptB (padB []) n = padB [] := by
  apply bt_ext
  intro i hi
  rw [bt_kept _ _ _ hi]
  have : ∀ i, i < 128 → bt (padB []) i = false := by decide +kernel
  rw [this i hi]
  simp
theorem fill8_le {n : Nat} (h : n ≤ 128) : fill8 n ≤ 16 := by unfold fill8; omega
/-- What the error comes to, the bytes of the number taken off at k. -/
theorem body_err (L : List Nat) (k n : Nat) (fault : Int) (wr : Bool) (hk : k ≤ (L.take 18).length) (hn : k + fill8 n ≤ 18) (hf : fault ≠ 0) :
    (if (if keptB (padB (came (L.take 18) k 0 (fill8 n : Nat))) n = padB (came (L.take 18) k 0 (fill8 n : Nat)) then wr else if (offTo (L.take 18).length k 0 (fill8 n : Nat)).2 = 0 then true else wr) = true then fault else (offTo (L.take 18).length k 0 (fill8 n : Nat)).2) = (if wr = true then fault else bodyE L k n fault) ∧
    (wr = false → bodyE L k n fault = 0 → (offTo (L.take 18).length k 0 (fill8 n : Nat)).1 = k + fill8 n ∧ padB (came (L.take 18) k 0 (fill8 n : Nat)) = padF L k n) ∧ (offTo (L.take 18).length k 0 (fill8 n : Nat)).1 ≤ (L.take 18).length := by
  have hlen : (L.take 18).length = min 18 L.length := List.length_take
  by_cases h : k + fill8 n ≤ (L.take 18).length
  · rw [came_some h, offTo_some h, t18_drop L k (fill8 n) hn]
    have h2 : ¬ L.length < k + fill8 n := by omega
    refine ⟨?_, fun _ _ => ⟨rfl, rfl⟩, h⟩
    unfold bodyE
    rw [if_neg h2]
    show (if (if keptB (padF L k n) n = padF L k n then wr else if (0 : Int) = 0 then true else wr) = true then fault else 0) = _
    by_cases h3 : keptB (padF L k n) n = padF L k n
    · rw [if_pos h3, if_pos h3]
    · rw [if_neg h3, if_neg h3]
      cases wr <;> simp
  · have hd : dry (L.take 18).length k 0 (fill8 n) := .inr (by omega)
    rw [came_none hk hd, offTo_none hk hd, if_pos (kept_pad_nil n)]
    have h2 : L.length < k + fill8 n := by omega
    unfold bodyE
    rw [if_pos h2]
    exact ⟨rfl, fun _ h9 => absurd h9 (by decide), hk⟩
theorem body_dry (L : List Nat) (k n : Nat) (fault e : Int) (wr : Bool) (he : e ≠ 0) :
    (if (if keptB (padB (came (L.take 18) k e (fill8 n : Nat))) n = padB (came (L.take 18) k e (fill8 n : Nat)) then wr else if (offTo (L.take 18).length k e (fill8 n : Nat)).2 = 0 then true else wr) = true then fault else (offTo (L.take 18).length k e (fill8 n : Nat)).2) = (if wr = true then fault else e) ∧ (offTo (L.take 18).length k e (fill8 n : Nat)).1 = k := by
  have h1 : offTo (L.take 18).length k e (fill8 n : Nat) = (k, e) := by unfold offTo; rw [if_pos he]
  rw [h1]
  refine ⟨?_, rfl⟩
  show (if (if _ then wr else if e = 0 then true else wr) = true then fault else e) = _
  rw [if_neg he]
  split <;> rfl
theorem px_ans {L : List Nat} (h : decPE L ≠ 0) : decPX L = Px.zero ∧ decPN L = 0 := ⟨if_neg h, if_neg h⟩
theorem ad_ans {L : List Nat} (h : decAE L ≠ 0) : decAX L = Ad.zero ∧ decAN L = 0 := ⟨if_neg h, if_neg h⟩

theorem decode_any (a : Option Addr) (cap : Nat) (l : List Nat) (w : World) (hW : Wid w) (hB : Bys l) (hlm : l.length ≤ 1100) (hc : l.length ≤ cap) (hcm : cap ≤ 9223372036854775807) (hL : Lies w a l) :
    Calls Tryd.prog 72 #[.slice a l.length cap] w fun e w' => e = .returned (.tuple #[.agg (decPX l).cs, .int .i64 (decPN l : Int), .int .i64 (decPE l)]) ∧ Below w.heap.size w w' := by
  have hB' := Bys.take2 hB 18
  have hlen : (l.take 18).length = min 18 l.length := List.length_take
  by_cases h1 : l.length < 1
  · have hE : decPE l = 7 := if_pos h1
    obtain ⟨q1, q2⟩ := body_dry l 0 0 151 7 false (by omega)
    refine (decode_walk a cap l w hW hlm hc hcm hL 0 _ 0 _ 7 _ false _ 0 0 7 false (fun w' r p g h hw hne => (version_none h hB' (by omega) (Nat.zero_le _) (.inr (by omega)) hw hne)) (fun w' r p g h => bits_none h hB' (by omega) (Nat.zero_le _) (.inl (by omega)) (wid 0)) (fun w' r p g h => addr_any h hB' (by omega) 0 0 (by decide)) 7 q1 (by rw [q2]; omega)).mono ?_
    rintro e w' ⟨_, h3, h4⟩
    obtain ⟨e1, e2⟩ := px_ans (L := l) (by rw [hE]; omega)
    exact ⟨by rw [e1, e2, hE]; exact h3 (by omega), h4⟩
  · have hv : (l.take 18).getD 0 0 = by0 l := t18_get l 0 (by omega)
    have hw128 := wid_le (by0 l : Int)
    have hx0 := hB.at 0
    by_cases h2 : l.length < 2
    · obtain ⟨q1, q2⟩ := body_dry l 1 0 151 7 (false || decide (wid (by0 l : Int) = 0)) (by omega)
      have hE : decPE l ≠ 0 := by unfold decPE; rw [if_neg h1]; split <;> omega
      refine (decode_walk a cap l w hW hlm hc hcm hL (by0 l : Int) _ 1 _ 0 _ (false || decide (wid (by0 l : Int) = 0)) _ 0 1 7 (false || decide (wid (by0 l : Int) = 0)) (fun w' r p g h hw hne => ?_) (fun w' r p g h => bits_none h hB' (by omega) (by omega) (.inr (by omega)) (wid (by0 l : Int))) (fun w' r p g h => addr_any h hB' (by omega) (by0 l : Int) 0 (by decide)) (decPE l) ?_ (by rw [q2]; omega)).mono ?_
      · have := version_some h hB' (by omega) (by omega) hw hne
        rw [hv] at this
        exact this
      · rw [q1]
        unfold decPE
        rw [if_neg h1]
        by_cases h3 : wid (by0 l : Int) = 0
        · rw [if_pos h3]; simp [h3]
        · rw [if_neg h3, if_pos h2]; simp [h3]
      · rintro e w' ⟨_, h3, h4⟩
        obtain ⟨e1, e2⟩ := px_ans hE
        exact ⟨by rw [e1, e2]; exact h3 hE, h4⟩
    · have hv1 : (l.take 18).getD 1 0 = by1 l := t18_get l 1 (by omega)
      have hx1 : by1 l < 256 := hB.at 1
      have hbits := fun w' r p g (h : PR w' r p g (l.take 18) 1 0 (l.take 18).length 151 (false || decide (wid (by0 l : Int) = 0))) => bits_some h hB' (by omega) (by omega) (wid (by0 l : Int))
      rw [hv1] at hbits
      have hver := fun w' r p g (h : PR w' r p g (l.take 18) 0 0 (l.take 18).length 151 false) (hw : Wid w') (hne : r ≠ 0 ∧ p ≠ 0) => version_some h hB' (by omega) (by omega) hw hne
      rw [hv] at hver
      generalize hwr : ((false || decide (wid (by0 l : Int) = 0)) || decide (wid (by0 l : Int) < by1 l)) = wr at hbits
      by_cases hsm : by1 l ≤ 128
      · obtain ⟨q1, q2, q3⟩ := body_err l 2 (by1 l) 151 wr (by omega) (by have := fill8_le hsm; omega) (by omega)
        refine (decode_walk a cap l w hW hlm hc hcm hL (by0 l : Int) _ 1 _ 0 _ _ _ (by1 l) 2 0 wr hver hbits (fun w' r p g h => addr_any h hB' (by omega) (by0 l : Int) (by1 l) (by omega)) (decPE l) ?_ q3).mono ?_
        · rw [q1, ← hwr]
          unfold decPE
          rw [if_neg h1]
          by_cases h3 : wid (by0 l : Int) = 0
          · rw [if_pos h3]; simp [h3]
          · rw [if_neg h3, if_neg h2]
            by_cases h5 : wid (by0 l : Int) < by1 l
            · rw [if_pos h5]; simp [h5]
            · rw [if_neg h5]; simp [h3, h5]
        · rintro e w' ⟨h3, h5, h4⟩
          refine ⟨?_, h4⟩
          by_cases h0 : decPE l = 0
          · have hu := h0
            unfold decPE at hu
            rw [if_neg h1] at hu
            have hw0 : wid (by0 l : Int) ≠ 0 := fun h9 => by rw [if_pos h9] at hu; omega
            rw [if_neg hw0, if_neg h2] at hu
            have hlt : ¬ wid (by0 l : Int) < by1 l := fun h9 => by rw [if_pos h9] at hu; omega
            rw [if_neg hlt] at hu
            obtain ⟨e1, e2⟩ := q2 (by rw [← hwr]; simp [hw0]; omega) hu
            have e3 := h3 h0
            rw [e1, e2] at e3
            rw [h0, show decPX l = _ from if_pos h0, show decPN l = _ from if_pos h0]
            exact e3
          · obtain ⟨e1, e2⟩ := px_ans h0
            rw [e1, e2]
            exact h5 h0
      · have hlt : wid (by0 l : Int) < by1 l := by omega
        have hwr2 : wr = true := by rw [← hwr]; simp [hlt]
        have hE : decPE l = 151 := by
          unfold decPE
          rw [if_neg h1]
          split
          · rfl
          · first | rfl | rw [if_neg h2, if_pos hlt]
        subst hwr2
        have q1 : ∀ (c : Prop) [Decidable c] (e3 : Int), (if (if c then true else if e3 = 0 then true else true) = true then (151 : Int) else e3) = 151 := fun c _ e3 => by split <;> simp_all
        have q3 : (offTo (l.take 18).length 2 0 (fill8 (by1 l) : Nat)).1 ≤ (l.take 18).length := by
          unfold offTo
          rw [if_neg (by simp), if_neg (by omega)]
          split
          · show 2 ≤ _
            omega
          · show 2 + _ ≤ _
            omega
        refine (decode_walk a cap l w hW hlm hc hcm hL (by0 l : Int) _ 1 _ 0 _ _ _ (by1 l) 2 0 true hver hbits (fun w' r p g h => addr_any h hB' (by omega) (by0 l : Int) (by1 l) (by omega)) 151 (q1 _ _) q3).mono ?_
        rintro e w' ⟨_, h3, h4⟩
        obtain ⟨e1, e2⟩ := px_ans (L := l) (by rw [hE]; omega)
        exact ⟨by rw [e1, e2, hE]; exact h3 (by omega), h4⟩
end Go.Proofs.YtfnagfmbhcaphaaDoor
