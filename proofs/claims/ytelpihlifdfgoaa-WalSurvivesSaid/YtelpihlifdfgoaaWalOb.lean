/-
  leftOver: a function that tells. Nothing here is a statement of the document.
-/
import Derived.Test.YtelpihlifdfgoaaWalU
import Derived.Test.YtelpihlifdfgoaaWalCo
import Derived.Test.YtelpihlifdfgoaaWalPo
import Derived.Test.YtelpihlifdfgoaaWalOa
import Derived.Test.YtelpihlifdfgoaaLin
namespace Go.Proofs.Ytelpihlifdfgoaa
open Go.RowKit Go.Shelf
set_option linter.unusedVariables false
theorem pile2 (x : Nat) (hx : x < 65536) : pile 0 (highB x 2) = x := by
  simp [pile, highB, List.range_succ]
  omega
theorem high2 (l : List Nat) (hB : Bys l) (h : l.length = 2) : highB (pile 0 l) 2 = l := by
  match l, h with
  | [a, b], _ =>
    have ha := hB a (by simp)
    have hb := hB b (by simp)
    simp [pile, highB, List.range_succ]
    omega
theorem pile2_lt (l : List Nat) (hB : Bys l) (h : l.length = 2) : pile 0 l < 65536 := by
  match l, h with
  | [a, b], _ =>
    have ha := hB a (by simp)
    have hb := hB b (by simp)
    simp [pile]
    omega
theorem Bys.sub {m : List Nat} (h : Bys m) (j k : Nat) : Bys ((m.drop j).take k) := fun x hx => h x (List.mem_of_mem_drop (List.mem_of_mem_take hx))
theorem num4_high {m : List Nat} {j : Nat} (hB : Bys m) (h : j + 4 ≤ m.length) : highB (num4 m j) 4 = (m.drop j).take 4 := by
  have hl : ((m.drop j).take 4).length = 4 := by simp; omega
  unfold num4
  rw [Nat.mod_eq_of_lt (pile4_lt _ (hB.sub j 4) hl)]
  exact high4 _ (hB.sub j 4) hl
theorem num2_high {m : List Nat} {j : Nat} (hB : Bys m) (h : j + 2 ≤ m.length) : highB (num2 m j) 2 = (m.drop j).take 2 := by
  have hl : ((m.drop j).take 2).length = 2 := by simp; omega
  unfold num2
  rw [Nat.mod_eq_of_lt (pile2_lt _ (hB.sub j 2) hl)]
  exact high2 _ (hB.sub j 2) hl
theorem join_at (m : List Nat) (j a b : Nat) : (m.drop j).take a ++ (m.drop (j + a)).take b = (m.drop j).take (a + b) := by
  rw [List.take_add, List.drop_drop]
theorem okPt_bytes {m : List Nat} (hl : m.length = 64) (hB : Bys m) (h : okPt m = true) : (ptOf m).bytes = m := by
  unfold okPt at h
  simp only [Bool.and_eq_true, decide_eq_true_eq] at h
  unfold Pt.bytes Pt.head
  rw [← h.2]
  show (((highB (num4 m 0) 4 ++ highB (num4 m 4) 4) ++ highB (num2 m 8) 2) ++ highB (num2 m 10) 2 ++ highB (num4 m 12) 4) ++ (m.drop 16).take 48 = m
  rw [num4_high hB (by omega), num4_high hB (by omega), num4_high hB (by omega), num2_high hB (by omega), num2_high hB (by omega)]
  have e1 := join_at m 0 4 4
  have e2 := join_at m 0 8 2
  have e3 := join_at m 0 10 2
  have e4 := join_at m 0 12 4
  have e5 := join_at m 0 16 48
  simp only [Nat.zero_add, Nat.reduceAdd] at e1 e2 e3 e4 e5
  rw [e1, e2, e3, e4, e5, List.drop_zero, List.take_of_length_le (by omega)]
theorem cut_front (a b : List Nat) (k : Nat) (h : a.length = k) : (a ++ b).take k = a ∧ (a ++ b).drop k = b := by
  subst h
  exact ⟨List.take_left, List.drop_left⟩
theorem ptOf_bytes {p : Pt} (h : p.Ok) : ptOf p.bytes = p := by
  obtain ⟨t, n, bh, sz, l⟩ := p
  have h1 := h.t
  have h2 := h.n
  have h3 := h.bh
  have h4 := h.sz
  have h5 := h.len
  simp only at h1 h2 h3 h4 h5
  obtain ⟨s, hs⟩ : ∃ s, (Pt.mk t n bh sz l).sum = s := ⟨_, rfl⟩
  have hb : (Pt.mk t n bh sz l).bytes = highB t 4 ++ (highB n 4 ++ (highB bh 2 ++ (highB sz 2 ++ (highB s 4 ++ l)))) := by
    unfold Pt.bytes Pt.head
    rw [hs]
    simp only [List.append_assoc]
  rw [hb]
  have d4 : (highB t 4 ++ (highB n 4 ++ (highB bh 2 ++ (highB sz 2 ++ (highB s 4 ++ l))))).drop 4 = highB n 4 ++ (highB bh 2 ++ (highB sz 2 ++ (highB s 4 ++ l))) := (cut_front _ _ 4 (length_highB _ _)).2
  have d8 : (highB t 4 ++ (highB n 4 ++ (highB bh 2 ++ (highB sz 2 ++ (highB s 4 ++ l))))).drop 8 = highB bh 2 ++ (highB sz 2 ++ (highB s 4 ++ l)) := by
    rw [show (8 : Nat) = 4 + 4 from rfl, ← List.drop_drop, d4]; exact (cut_front _ _ 4 (length_highB _ _)).2
  have d10 : (highB t 4 ++ (highB n 4 ++ (highB bh 2 ++ (highB sz 2 ++ (highB s 4 ++ l))))).drop 10 = highB sz 2 ++ (highB s 4 ++ l) := by
    rw [show (10 : Nat) = 8 + 2 from rfl, ← List.drop_drop, d8]; exact (cut_front _ _ 2 (length_highB _ _)).2
  have d12 : (highB t 4 ++ (highB n 4 ++ (highB bh 2 ++ (highB sz 2 ++ (highB s 4 ++ l))))).drop 12 = highB s 4 ++ l := by
    rw [show (12 : Nat) = 10 + 2 from rfl, ← List.drop_drop, d10]; exact (cut_front _ _ 2 (length_highB _ _)).2
  have d16 : (highB t 4 ++ (highB n 4 ++ (highB bh 2 ++ (highB sz 2 ++ (highB s 4 ++ l))))).drop 16 = l := by
    rw [show (16 : Nat) = 12 + 4 from rfl, ← List.drop_drop, d12]; exact (cut_front _ _ 4 (length_highB _ _)).2
  unfold ptOf num4 num2
  rw [List.drop_zero, d4, d8, d10, d16, (cut_front _ _ 4 (length_highB _ _)).1, (cut_front _ _ 4 (length_highB _ _)).1, (cut_front _ _ 2 (length_highB _ _)).1, (cut_front _ _ 2 (length_highB _ _)).1, pile4 t (by omega), pile4 n (by omega), pile2 bh (by omega), pile2 sz (by omega), List.take_of_length_le (by omega), Nat.mod_eq_of_lt (by omega), Nat.mod_eq_of_lt (by omega), Nat.mod_eq_of_lt (by omega), Nat.mod_eq_of_lt (by omega)]
theorem okPt_of {p : Pt} (h : p.Ok) (hs : p.sz ≤ 48) : okPt p.bytes = true := by
  unfold okPt
  rw [ptOf_bytes h, decide_eq_true hs, Bool.true_and, decide_eq_true_eq]
  have e : (p.bytes.drop 12).take 4 = highB p.sum 4 := by
    unfold Pt.bytes
    rw [List.append_assoc, ← (show p.head.length = 12 from Pt.head_len p), List.drop_left]
    exact (cut_front _ _ 4 (length_highB _ _)).1
  unfold num4
  have := p.sum_lt
  rw [e, pile4 _ (by omega), Nat.mod_eq_of_lt (by omega)]
/-- A sector says a right part just if it is what that part makes. -/
theorem blk_of_part {b : Bk} (hb : b.Byt) : okPt b.n = true ↔ ∃ p : Pt, p.Ok ∧ p.sz ≤ 48 ∧ b = p.blk := by
  constructor
  · intro h
    have h2 := h
    unfold okPt at h2
    simp only [Bool.and_eq_true, decide_eq_true_eq] at h2
    refine ⟨ptOf b.n, ptOf_ok b.n_len hb.bys, h2.1, ?_⟩
    unfold Pt.blk
    rw [okPt_bytes b.n_len hb.bys h]
    exact hb.of
  · rintro ⟨p, hp, hs, rfl⟩
    have e : p.blk.n = p.bytes := Bk.n_of _ (Pt.bytes_len hp.len)
    rw [e]
    exact okPt_of hp hs
end Go.Proofs.Ytelpihlifdfgoaa
namespace Go.Proofs.Ytelpihlifdfgoaa
open Go.RowKit Go.Shelf
set_option linter.unusedVariables false
/-- The sectors of a frame. -/
def frameB (t n : Nat) (l : List Nat) : List Bk := (List.range (secN l.length)).map fun k => (partAt t n l k).blk
theorem frameB_len (t n : Nat) (l : List Nat) : (frameB t n l).length = secN l.length := by simp [frameB]
theorem frameB_at {t n k : Nat} {l : List Nat} (h : k < secN l.length) : (frameB t n l)[k]? = some (partAt t n l k).blk := by
  unfold frameB
  rw [List.getElem?_map, List.getElem?_range h]
  rfl
theorem partAt_sz (t n : Nat) (l : List Nat) (k : Nat) : (partAt t n l k).sz ≤ 48 := by
  have := cutL_len l k
  simp only [partAt]
  omega
theorem pqOf_blk {p : Pt} (h : p.Ok) : (pqOf p.blk).p = p := by
  show ptOf p.blk.n = p
  rw [show p.blk.n = p.bytes from Bk.n_of _ (Pt.bytes_len h.len)]
  exact ptOf_bytes h
theorem cuts_take (l : List Nat) : ∀ K, ((List.range K).flatMap fun k => cutL l k) = l.take (48 * K)
  | 0 => by simp
  | K + 1 => by
    rw [List.range_succ, List.flatMap_append, cuts_take l K, show 48 * (K + 1) = 48 * K + 48 from by omega, List.take_add]
    simp [cutL]
theorem parts_stand {t n : Nat} {l : List Nat} {L rest : List Bk} (ht : t ≤ 4294967295) (hn : n ≤ 4294967295) (hB : Bys l) (hl : l.length ≤ 40000) (h : L = frameB t n l ++ rest) : partsR L = (frameB t n l).map pqOf := by
  have hs := (secN_pos hl).1
  have hok := fun k => partAt_ok (t := t) (n := n) (l := l) ht hn hB k
  have h0 : L[0]? = some (partAt t n l 0).blk := by
    rw [h, List.getElem?_append_left (by rw [frameB_len]; omega)]
    exact frameB_at (by omega)
  cases L with
  | nil => simp at h0
  | cons b r =>
    have e : b = (partAt t n l 0).blk := by simpa using h0
    have hbh : (pqOf b).p.bh + 1 = (frameB t n l).length := by
      rw [e, pqOf_blk (hok 0), frameB_len]
      simp only [partAt]
      omega
    have htk : (b :: r).take ((pqOf b).p.bh + 1) = frameB t n l := by
      rw [hbh, h, List.take_left]
    simp only [partsR]
    rw [htk, if_pos]
    refine ⟨?_, fun x hx => ?_⟩
    · have := congrArg List.length h
      rw [List.length_append] at this
      omega
    · unfold frameB at hx
      obtain ⟨k, _, rfl⟩ := List.mem_map.1 hx
      rw [show (partAt t n l k).blk.n = (partAt t n l k).bytes from Bk.n_of _ (Pt.bytes_len (hok k).len)]
      exact okPt_of (hok k) (partAt_sz t n l k)
theorem frame_stands {t n : Nat} {l : List Nat} {L rest : List Bk} (ht0 : 0 < t) (ht : t ≤ 4294967295) (hn : n ≤ 4294967295) (hB : Bys l) (hl : l.length ≤ 40000) (h : L = frameB t n l ++ rest) : foundR L = some (t, n, l) := by
  have hs := (secN_pos hl).1
  have hok := fun k => partAt_ok (t := t) (n := n) (l := l) ht hn hB k
  have hR := parts_stand ht hn hB hl h
  have hat : ∀ k, k < secN l.length → ∃ q, ((frameB t n l).map pqOf)[k]? = some q ∧ q.p = partAt t n l k := fun k hk => by
    refine ⟨pqOf (partAt t n l k).blk, ?_, pqOf_blk (hok k)⟩
    rw [List.getElem?_map, frameB_at hk]
    rfl
  obtain ⟨q0, hq0, hp0⟩ := hat 0 (by omega)
  have hb : bytesOf ((frameB t n l).map pqOf) = l := by
    have h1 : bytesOf ((frameB t n l).map pqOf) = (List.range (secN l.length)).flatMap fun k => cutL l k := by
      unfold bytesOf frameB
      rw [List.map_map, List.flatMap_map]
      refine congrArg List.flatten (List.map_congr_left fun k _ => ?_)
      simp only [Function.comp]
      rw [pqOf_blk (hok k)]
      simp only [partAt, pad48]
      exact List.take_left
    rw [h1, cuts_take, List.take_of_length_le]
    by_cases h0 : 0 < l.length
    · exact ((secN_pos hl).2 h0).2
    · omega
  have := foundR_some hR hq0 hb (by rw [hp0]; simp only [partAt]; omega) hl (by
    unfold allSame
    rw [List.all_eq_true]
    intro k hk
    obtain ⟨q, hq, hp⟩ := hat k (List.mem_range.1 hk)
    rw [hq]
    simp only
    rw [samePt_iff, hp, hp0]
    rfl)
  rw [this, hp0]
  rfl
theorem frame_found {t n : Nat} {l : List Nat} {L : List Bk} (hB : ∀ b ∈ L, b.Byt) (h : foundR L = some (t, n, l)) : 0 < t ∧ ∃ rest, L = frameB t n l ++ rest := by
  have hnum := foundR_nums hB h
  have hfit := foundR_fits h
  unfold foundR at h
  cases hR : partsR L with
  | nil => rw [hR] at h; cases h
  | cons q r =>
    rw [hR] at h
    simp only at h
    split at h
    · cases h
    · rename_i hno
      simp only [Option.some.injEq, Prod.mk.injEq] at h
      obtain ⟨h1, h2, h3⟩ := h
      rw [h1, h2, h3] at hno
      have hall : allSame (q :: r) t n l (secN l.length) = true := by
        cases h8 : allSame (q :: r) t n l (secN l.length) with
        | true => rfl
        | false => exact absurd (.inr (.inr h8)) hno
      refine ⟨Nat.pos_of_ne_zero (fun e => hno (.inl e)), L.drop (secN l.length), ?_⟩
      have hk : ∀ k, k < secN l.length → L[k]? = some (partAt t n l k).blk := by
        intro k hk
        unfold allSame at hall
        have h4 := List.all_eq_true.1 hall k (List.mem_range.2 hk)
        cases hq : (q :: r)[k]? with
        | none => rw [hq] at h4; cases h4
        | some x =>
          rw [hq] at h4
          simp only at h4
          have h5 := (samePt_iff _ _).1 h4
          cases L with
          | nil => simp [partsR] at hR
          | cons b0 r0 =>
            simp only [partsR] at hR
            split at hR
            · rename_i hc
              rw [← hR] at hq
              rw [List.getElem?_map] at hq
              cases hb : ((b0 :: r0).take ((pqOf b0).p.bh + 1))[k]? with
              | none => rw [hb] at hq; cases hq
              | some b =>
                rw [hb] at hq
                simp only [Option.map_some, Option.some.injEq] at hq
                have hm := List.mem_of_getElem? hb
                have hbB := hB b (List.mem_of_mem_take hm)
                have hy := hc.2 b hm
                rw [List.getElem?_take] at hb
                split at hb
                · rw [hb]
                  have e1 : ptOf b.n = partAt t n l k := by rw [← h5, ← hq]; rfl
                  have e2 := okPt_bytes b.n_len hbB.bys hy
                  rw [e1] at e2
                  unfold Pt.blk
                  rw [e2, ← hbB.of]
                · cases hb
            · cases hR
      have ht : L.take (secN l.length) = frameB t n l := by
        apply List.ext_getElem?
        intro k
        rw [List.getElem?_take]
        by_cases hk2 : k < secN l.length
        · rw [if_pos hk2, hk k hk2, frameB_at hk2]
        · rw [if_neg hk2, List.getElem?_eq_none (by rw [frameB_len]; omega)]
      rw [← ht, List.take_append_drop]
end Go.Proofs.Ytelpihlifdfgoaa
namespace Go.Proofs.Ytelpihlifdfgoaa
open Go.RowKit Go.Shelf
set_option linter.unusedVariables false
/-- The sectors of transactions, the first of them numbered m + 1. -/
def txsB (t : Nat) : Nat → List (List Nat) → List Bk
  | _, [] => []
  | m, l :: ls => frameB t (m + 1) l ++ txsB t (m + 1) ls
/-- The sectors of a chain. -/
def chainB (t : Nat) (l : List Nat) (txs : List (List Nat)) : List Bk := frameB t 0 l ++ txsB t 0 txs
theorem foundR_nil : foundR [] = none := rfl
theorem more_found {L : List Bk} {t : Nat} (hB : ∀ b ∈ L, b.Byt) : ∀ (f m u : Nat), L.length ≤ u + f → ∃ rest, L.drop u = txsB t m (moreR L t f m u).1 ++ rest ∧ (moreR L t f m u).2 = u + (txsB t m (moreR L t f m u).1).length ∧ (∀ x, foundR rest ≠ some (t, m + (moreR L t f m u).1.length + 1, x)) ∧ ∀ x ∈ (moreR L t f m u).1, x.length ≤ 40000 ∧ Bys x
  | 0, m, u, hf => by
    refine ⟨[], ?_, rfl, (fun x h => by rw [foundR_nil] at h; cases h), fun x hx => by simp [moreR] at hx⟩
    simp only [moreR, txsB]
    exact List.drop_eq_nil_iff.2 (by omega)
  | f + 1, m, u, hf => by
    have hBd : ∀ b ∈ L.drop u, b.Byt := fun b hb => hB b (List.mem_of_mem_drop hb)
    cases hfr : foundR (L.drop u) with
    | none =>
      rw [moreR_stop (.inl hfr)]
      exact ⟨L.drop u, rfl, rfl, (fun x h => by rw [hfr] at h; cases h), fun x hx => by cases hx⟩
    | some y =>
      obtain ⟨t1, m1, l1⟩ := y
      by_cases he : t1 = t ∧ m1 = m + 1
      · obtain ⟨rfl, rfl⟩ := he
        have hfit := foundR_fits hfr
        have hnum := foundR_nums hBd hfr
        obtain ⟨_, rest, hrest⟩ := frame_found hBd hfr
        rw [moreR_go hfr rfl]
        obtain ⟨rest2, h1, h2, h3, h4⟩ := more_found (t := t1) hB f (m + 1) (u + secN l1.length) (by omega)
        have hd : L.drop (u + secN l1.length) = rest := by
          rw [← List.drop_drop, hrest, ← frameB_len t1 (m + 1) l1, List.drop_left]
        rw [hd] at h1
        refine ⟨rest2, ?_, ?_, ?_, ?_⟩
        · simp only [txsB]
          rw [hrest, h1, List.append_assoc]
        · simp only [txsB]
          rw [h2, List.length_append, frameB_len]
          omega
        · intro x
          have := h3 x
          rw [List.length_cons, show m + ((moreR L t1 f (m + 1) (u + secN l1.length)).1.length + 1) + 1 = m + 1 + (moreR L t1 f (m + 1) (u + secN l1.length)).1.length + 1 from by omega]
          exact this
        · intro x hx
          rcases List.mem_cons.1 hx with rfl | hx
          · exact ⟨hfit.1, hnum.2.2⟩
          · exact h4 x hx
      · rw [moreR_stop (.inr ⟨t1, m1, l1, hfr, he⟩)]
        refine ⟨L.drop u, rfl, rfl, (fun x h => ?_), fun x hx => by cases hx⟩
        rw [hfr] at h
        simp only [Option.some.injEq, Prod.mk.injEq, List.length_nil, Nat.add_zero] at h
        exact he ⟨h.1, h.2.1⟩
theorem chain_found {L : List Bk} (hB : ∀ b ∈ L, b.Byt) {t u : Nat} {l : List Nat} {txs : List (List Nat)} (h : chainR L = some (t, l, txs, u)) : 0 < t ∧ t ≤ 4294967295 ∧ l.length ≤ 40000 ∧ Bys l ∧ (∀ x ∈ txs, x.length ≤ 40000 ∧ Bys x) ∧ ∃ rest, L = chainB t l txs ++ rest ∧ u = (chainB t l txs).length ∧ ∀ x, foundR rest ≠ some (t, txs.length + 1, x) := by
  unfold chainR at h
  cases hfr : foundR L with
  | none => rw [hfr] at h; cases h
  | some y =>
    obtain ⟨t1, m1, l1⟩ := y
    rw [hfr] at h
    simp only at h
    split at h
    · rename_i hm
      subst hm
      simp only [Option.some.injEq, Prod.mk.injEq] at h
      obtain ⟨rfl, rfl, h3, h4⟩ := h
      have hfit := foundR_fits hfr
      have hnum := foundR_nums hB hfr
      obtain ⟨h0, rest, hrest⟩ := frame_found hB hfr
      obtain ⟨rest2, e1, e2, e3, e4⟩ := more_found (t := t1) hB L.length 0 (secN l1.length) (by omega)
      rw [h3] at e1 e2 e3 e4
      rw [h4] at e2
      have hd : L.drop (secN l1.length) = rest := by
        rw [hrest, ← frameB_len t1 0 l1, List.drop_left]
      rw [hd] at e1
      refine ⟨h0, hnum.1, hfit.1, hnum.2.2, e4, rest2, ?_, ?_, ?_⟩
      · unfold chainB
        rw [hrest, e1, List.append_assoc]
      · unfold chainB
        rw [e2, List.length_append, frameB_len]
      · intro x
        have := e3 x
        rwa [Nat.zero_add] at this
    · cases h
theorem more_stands {L rest : List Bk} {t : Nat} (ht0 : 0 < t) (ht : t ≤ 4294967295) : ∀ (txs : List (List Nat)) (f m u : Nat), (∀ x ∈ txs, x.length ≤ 40000 ∧ Bys x) → m + txs.length ≤ 4294967295 → L.drop u = txsB t m txs ++ rest → L.length ≤ u + f → (∀ x, foundR rest ≠ some (t, m + txs.length + 1, x)) → moreR L t f m u = (txs, u + (txsB t m txs).length)
  | [], f, m, u, _, _, hd, _, hno => by
    simp only [txsB, List.nil_append] at hd
    have : moreR L t f m u = ([], u) := by
      cases hfr : foundR (L.drop u) with
      | none => exact moreR_stop (.inl hfr)
      | some y =>
        obtain ⟨t1, m1, l1⟩ := y
        refine moreR_stop (.inr ⟨t1, m1, l1, hfr, ?_⟩)
        rintro ⟨rfl, rfl⟩
        rw [hd] at hfr
        exact hno l1 hfr
    rw [this]
    rfl
  | l :: ls, f, m, u, hx, hm, hd, hf, hno => by
    have hl := hx l (by simp)
    have hs := (secN_pos hl.1).1
    simp only [txsB] at hd
    rw [List.append_assoc] at hd
    have hfr : foundR (L.drop u) = some (t, m + 1, l) := frame_stands ht0 ht (by simp at hm; omega) hl.2 hl.1 hd
    have hlen : (L.drop u).length = (frameB t (m + 1) l).length + (txsB t (m + 1) ls ++ rest).length := by rw [hd, List.length_append]
    rw [List.length_drop, frameB_len] at hlen
    obtain ⟨f', rfl⟩ : ∃ f', f = f' + 1 := ⟨f - 1, by omega⟩
    have hd2 : L.drop (u + secN l.length) = txsB t (m + 1) ls ++ rest := by
      rw [← List.drop_drop, hd, ← frameB_len t (m + 1) l, List.drop_left]
    have ih := more_stands ht0 ht ls f' (m + 1) (u + secN l.length) (fun x hx2 => hx x (by simp [hx2])) (by simp at hm; omega) hd2 (by omega) (fun x => by
      have := hno x
      rw [List.length_cons, show m + (ls.length + 1) + 1 = m + 1 + ls.length + 1 from by omega] at this
      exact this)
    rw [moreR_go hfr rfl, ih]
    simp only [txsB, List.length_append, frameB_len]
    rw [Nat.add_assoc]
theorem chain_stands {L rest : List Bk} {t : Nat} {l : List Nat} {txs : List (List Nat)} (ht0 : 0 < t) (ht : t ≤ 4294967295) (hl : l.length ≤ 40000) (hB : Bys l) (hx : ∀ x ∈ txs, x.length ≤ 40000 ∧ Bys x) (hm : txs.length ≤ 4294967295) (h : L = chainB t l txs ++ rest) (hno : ∀ x, foundR rest ≠ some (t, txs.length + 1, x)) : chainR L = some (t, l, txs, (chainB t l txs).length) := by
  have h2 : L = frameB t 0 l ++ (txsB t 0 txs ++ rest) := by rw [h]; unfold chainB; rw [List.append_assoc]
  have hfr : foundR L = some (t, 0, l) := frame_stands ht0 ht (by omega) hB hl h2
  have hd : L.drop (secN l.length) = txsB t 0 txs ++ rest := by rw [h2, ← frameB_len t 0 l, List.drop_left]
  have hmo := more_stands (L := L) (rest := rest) ht0 ht txs L.length 0 (secN l.length) hx (by omega) hd (by omega) (fun x => by rw [Nat.zero_add]; exact hno x)
  unfold chainR
  rw [hfr]
  simp only
  rw [if_pos trivial, hmo]
  unfold chainB
  rw [List.length_append, frameB_len]
end Go.Proofs.Ytelpihlifdfgoaa
namespace Go.Proofs.Ytelpihlifdfgoaa
open Go.RowKit Go.Shelf
set_option linter.unusedVariables false
theorem byt_downs : ∀ (l : List Rw) {D : Dk}, (∀ b ∈ D.plate, b.Byt) → (∀ r ∈ l, r.b.Byt) → ∀ b ∈ (downsM D l).plate, b.Byt
  | [], D, h, _ => h
  | r :: l, D, h, hr => byt_downs l (D := downM D r) (fun b hb => by
      rcases List.mem_or_eq_of_mem_set (show b ∈ D.plate.set r.s r.b from hb) with h1 | h1
      · exact h b h1
      · rw [h1]; exact hr r (by simp)) (fun x hx => hr x (by simp [hx]))
theorem byt_drain {D : Dk} (h : D.Byt) (n : Nat) : (drainM D n).Byt :=
  ⟨fun b hb => byt_downs (D.rows.take n) h.plate (fun r hr => h.rows r (List.mem_of_mem_take hr)) b hb, fun r hr => h.rows r (List.mem_of_mem_drop hr)⟩
theorem byt_hold {D : Dk} (h : D.Byt) (r : Rw) (hr : r.b.Byt) : (holdM D r).Byt := by
  unfold holdM
  split
  · refine ⟨h.plate, fun x hx => ?_⟩
    rcases List.mem_or_eq_of_mem_set hx with h1 | h1
    · exact h.rows x h1
    · rw [h1]; exact hr
  · have h2 : (if D.rows.length = 8 then drainM D 1 else D).Byt := by
      split
      · exact byt_drain h 1
      · exact h
    refine ⟨h2.plate, fun x hx => ?_⟩
    rcases List.mem_append.1 hx with h1 | h1
    · exact h2.rows x h1
    · rw [List.mem_singleton.1 h1]; exact hr
theorem byt_turn {D E : Dk} (h : D.Byt) (h1 : E.plate = D.plate) (h2 : E.rows = D.rows) : E.Byt := ⟨by rw [h1]; exact h.plate, by rw [h2]; exact h.rows⟩
theorem byt_write {D : Dk} (h : D.Byt) (i : Int) {b : Bk} (hb : b.Byt) : (writeM D i b).1.Byt := by
  unfold writeM
  split
  · exact h
  · split
    · exact byt_turn h rfl rfl
    · split
      · exact byt_turn h rfl rfl
      · exact byt_turn (byt_hold (D := fuseM (flawM D)) (byt_turn h rfl rfl) ⟨i.toNat, b⟩ hb) rfl rfl
theorem byt_sync {D : Dk} (h : D.Byt) : (syncM D).1.Byt := by
  unfold syncM
  split
  · exact h
  · split
    · exact byt_turn h rfl rfl
    · split
      · exact byt_turn h rfl rfl
      · exact byt_turn (byt_drain (D := fuseM (flawM D)) (byt_turn h rfl rfl) D.rows.length) rfl rfl
theorem byt_puts : ∀ (l : List (Nat × Bk)) {D : Dk}, D.Byt → (∀ x ∈ l, x.2.Byt) → (putsM D l).1.Byt
  | [], D, h, _ => h
  | x :: l, D, h, hx => by
    unfold putsM
    split
    · exact byt_puts l (byt_write h _ (hx x (by simp))) (fun y hy => hx y (by simp [hy]))
    · exact byt_write h _ (hx x (by simp))
theorem byt_lay {D : Dk} (h : D.Byt) {l : List (Nat × Bk)} (hx : ∀ x ∈ l, x.2.Byt) : (layM D l).1.Byt := by
  unfold layM
  split
  · exact byt_sync (byt_puts l h hx)
  · exact byt_puts l h hx
theorem byt_lays : ∀ (ls : List (List (Nat × Bk))) {D : Dk}, D.Byt → (∀ l ∈ ls, ∀ x ∈ l, x.2.Byt) → (laysM D ls).1.Byt
  | [], D, h, _ => h
  | l :: ls, D, h, hx => by
    unfold laysM
    split
    · exact byt_lays ls (byt_lay h (hx l (by simp))) (fun y hy => hx y (by simp [hy]))
    · exact byt_lay h (hx l (by simp))
def areaL (f : Nat → Bk) (first n : Nat) : List Bk := (List.range n).map fun k => f (first + k)
theorem areaL_len (f : Nat → Bk) (first n : Nat) : (areaL f first n).length = n := by simp [areaL]
theorem areaL_at (f : Nat → Bk) (first n k : Nat) (h : k < n) : (areaL f first n)[k]? = some (f (first + k)) := by
  unfold areaL
  rw [List.getElem?_map, List.getElem?_range h]; rfl
theorem txsB_snoc (t : Nat) (l : List Nat) : ∀ (txs : List (List Nat)) (m : Nat), txsB t m (txs ++ [l]) = txsB t m txs ++ frameB t (m + txs.length + 1) l
  | [], m => by simp [txsB]
  | x :: txs, m => by
    rw [List.cons_append]
    simp only [txsB]
    rw [txsB_snoc t l txs (m + 1), List.append_assoc, List.length_cons, show m + 1 + txs.length + 1 = m + (txs.length + 1) + 1 from by omega]
theorem chainB_snoc (t : Nat) (s l : List Nat) (txs : List (List Nat)) : chainB t s (txs ++ [l]) = chainB t s txs ++ frameB t (txs.length + 1) l := by
  unfold chainB
  rw [txsB_snoc, List.append_assoc, Nat.zero_add]
theorem chainB_one (t : Nat) (s : List Nat) : chainB t s [] = frameB t 0 s := by simp [chainB, txsB]
theorem part_turn {t n k : Nat} {l : List Nat} (ht : t ≤ 4294967295) (hn : n ≤ 4294967295) (hB : Bys l) : num4 (partAt t n l k).blk.n 0 = t := by
  have hok := partAt_ok (t := t) (n := n) (l := l) ht hn hB k
  have h := pqOf_blk hok
  have h2 := congrArg Pt.t h
  exact h2
theorem part_byt {t n k : Nat} {l : List Nat} (ht : t ≤ 4294967295) (hn : n ≤ 4294967295) (hB : Bys l) : (partAt t n l k).blk.Byt := by
  have hok := partAt_ok (t := t) (n := n) (l := l) ht hn hB k
  exact Bk.byt_of _ (Pt.bytes_len hok.len) (by
    unfold Pt.bytes
    exact ((Pt.head_bys _).append (highB_bys _ _)).append hok.bys)
/-- What stands in the sectors of a log that is whole. -/
structure LogF (f : Nat → Bk) (n t c : Nat) (s : List Nat) (txs : List (List Nat)) : Prop where
  lab : f 0 = labL n ∧ f 1 = labL n
  t0 : 0 < t ∧ t ≤ 4294967295
  c2 : c < 2
  n4 : 4 ≤ n ∧ n ≤ 1000
  fit : (chainB t s txs).length ≤ n
  len : s.length ≤ 40000 ∧ Bys s ∧ ∀ x ∈ txs, x.length ≤ 40000 ∧ Bys x
  chain : ∀ k b, (chainB t s txs)[k]? = some b → f (2 + c * n + k) = b
  rest : ∀ i, i < 2 * n → ¬ (c * n ≤ i ∧ i < c * n + (chainB t s txs).length) → num4 (f (2 + i)).n 0 < t
  byt : ∀ i, i < 2 + 2 * n → (f i).Byt
section
variable {f : Nat → Bk} {n t c : Nat} {s : List Nat} {txs : List (List Nat)}
theorem frameB_first {t m : Nat} {l : List Nat} (hl : l.length ≤ 40000) (R : List Bk) : (frameB t m l ++ R)[0]? = some (partAt t m l 0).blk := by
  have hs := (secN_pos hl).1
  rw [List.getElem?_append_left (by rw [frameB_len]; omega)]
  exact frameB_at (by omega)
theorem txs_le : ∀ (t m : Nat) (txs : List (List Nat)), (∀ x ∈ txs, x.length ≤ 40000 ∧ Bys x) → txs.length ≤ (txsB t m txs).length
  | _, _, [], _ => by simp [txsB]
  | t, m, x :: txs, h => by
    simp only [txsB, List.length_append, List.length_cons, frameB_len]
    have := txs_le t (m + 1) txs (fun y hy => h y (by simp [hy]))
    have := (secN_pos (h x (by simp)).1).1
    omega
theorem LogF.more (h : LogF f n t c s txs) : txs.length ≤ n := by
  have h1 := h.fit
  have h2 := txs_le t 0 txs h.len.2.2
  unfold chainB at h1
  rw [List.length_append] at h1
  omega
theorem LogF.cn (h : LogF f n t c s txs) : c * n + n ≤ 2 * n := by
  have := h.c2
  rcases (show c = 0 ∨ c = 1 by omega) with rfl | rfl <;> omega
/-- The area that counts tells the chain. -/
theorem LogF.counts (h : LogF f n t c s txs) : chainR (areaL f (2 + c * n) n) = some (t, s, txs, (chainB t s txs).length) := by
  have hfit := h.fit
  have hcn := h.cn
  have hL : areaL f (2 + c * n) n = chainB t s txs ++ (areaL f (2 + c * n) n).drop (chainB t s txs).length := by
    have ht : (areaL f (2 + c * n) n).take (chainB t s txs).length = chainB t s txs := by
      apply List.ext_getElem?
      intro k
      rw [List.getElem?_take]
      by_cases hk : k < (chainB t s txs).length
      · rw [if_pos hk, areaL_at _ _ _ _ (by omega), List.getElem?_eq_getElem hk, h.chain k _ (List.getElem?_eq_getElem hk)]
      · rw [if_neg hk, List.getElem?_eq_none (by omega)]
    conv => lhs; rw [← List.take_append_drop (chainB t s txs).length (areaL f (2 + c * n) n), ht]
  have hbyt : ∀ b ∈ areaL f (2 + c * n) n, b.Byt := fun b hb => by
    obtain ⟨k, hk, rfl⟩ := List.mem_map.1 hb
    have := List.mem_range.1 hk
    exact h.byt _ (by omega)
  refine chain_stands h.t0.1 h.t0.2 h.len.1 h.len.2.1 h.len.2.2 (by have := h.more; have := h.n4; omega) hL (fun x hx => ?_)
  have hb2 : ∀ b ∈ (areaL f (2 + c * n) n).drop (chainB t s txs).length, b.Byt := fun b hb => hbyt b (List.mem_of_mem_drop hb)
  have hnum := foundR_nums hb2 hx
  have hfits := foundR_fits hx
  obtain ⟨_, R, hR⟩ := frame_found hb2 hx
  have h0 : ((areaL f (2 + c * n) n).drop (chainB t s txs).length)[0]? = some (partAt t (txs.length + 1) x 0).blk := by rw [hR]; exact frameB_first hfits.1 R
  rw [List.getElem?_drop, Nat.add_zero] at h0
  have hlt : (chainB t s txs).length < n := by
    have := (List.getElem?_eq_some_iff.1 h0).1
    rwa [areaL_len] at this
  rw [areaL_at _ _ _ _ hlt] at h0
  have he := Option.some.inj h0
  have h1 := h.rest (c * n + (chainB t s txs).length) (by omega) (by omega)
  rw [show 2 + (c * n + (chainB t s txs).length) = 2 + c * n + (chainB t s txs).length from by omega, he, part_turn hnum.1 hnum.2.1 hnum.2.2] at h1
  omega
/-- What the other area tells is of an earlier turn. -/
theorem LogF.other (h : LogF f n t c s txs) {d : Nat} (hd : d < 2) (hdc : d ≠ c) : turnOf (chainR (areaL f (2 + d * n) n)) < t := by
  have h0 := h.t0
  have hn := h.n4
  have hc := h.c2
  cases hch : chainR (areaL f (2 + d * n) n) with
  | none => exact h0.1
  | some y =>
    obtain ⟨t1, l1, x1, u1⟩ := y
    have hdn : d * n + n ≤ 2 * n := by rcases (show d = 0 ∨ d = 1 by omega) with rfl | rfl <;> omega
    have hbyt : ∀ b ∈ areaL f (2 + d * n) n, b.Byt := fun b hb => by
      obtain ⟨k, hk, rfl⟩ := List.mem_map.1 hb
      have := List.mem_range.1 hk
      exact h.byt _ (by omega)
    obtain ⟨g1, g2, g3, g4, g5, R, hR, g7, g8⟩ := chain_found hbyt hch
    have h1 : (areaL f (2 + d * n) n)[0]? = some (partAt t1 0 l1 0).blk := by
      rw [hR]
      unfold chainB
      rw [List.append_assoc]
      exact frameB_first g3 _
    rw [areaL_at _ _ _ _ (by omega)] at h1
    have he := Option.some.inj h1
    have hfit := h.fit
    have h2 := h.rest (d * n) (by omega) (by
      rcases (show d = 0 ∧ c = 1 ∨ d = 1 ∧ c = 0 by omega) with ⟨rfl, rfl⟩ | ⟨rfl, rfl⟩ <;> omega)
    rw [show 2 + d * n = 2 + d * n + 0 from rfl, he, part_turn g2 (by omega) g4] at h2
    exact h2
theorem LogF.best (h : LogF f n t c s txs) : bestR (areaL f 2 n) (areaL f (2 + n) n) 2 = (some (t, s, txs, (chainB t s txs).length), c) := by
  have h1 := h.counts
  have hc := h.c2
  have h0 := h.t0.1
  show better (better (none, 0) (areaL f 2 n) 0) (areaL f (2 + n) n) 1 = _
  rcases (show c = 0 ∨ c = 1 by omega) with rfl | rfl
  · have h2 := h.other (d := 1) (by omega) (by omega)
    rw [Nat.zero_mul, Nat.add_zero] at h1
    rw [Nat.one_mul] at h2
    unfold better
    rw [h1]
    have e : turnOf (none, 0).1 < turnOf (some (t, s, txs, (chainB t s txs).length)) := h0
    rw [if_pos e]
    exact if_neg (Nat.not_lt.2 (Nat.le_of_lt h2))
  · have h2 := h.other (d := 0) (by omega) (by omega)
    rw [Nat.zero_mul, Nat.add_zero] at h2
    rw [Nat.one_mul] at h1
    unfold better
    rw [h1]
    by_cases h3 : turnOf ((none, 0) : Option (Nat × List Nat × List (List Nat) × Nat) × Nat).1 < turnOf (chainR (areaL f 2 n))
    · rw [if_pos h3]
      exact if_pos h2
    · rw [if_neg h3]
      exact if_pos h0
theorem told_none {L : List Bk} {first t u : Nat} {cs : Bool} (h : ∀ k, k < L.length → keepL L t u cs k = false) : toldL L first t u cs L.length = [] := by
  unfold toldL
  rw [List.filter_eq_nil_iff.2 (fun k hk => by rw [h k (List.mem_range.1 hk)]; simp), List.map_nil]
theorem LogF.left (h : LogF f n t c s txs) : leftPl (areaL f 2 n) (areaL f (2 + n) n) t (chainB t s txs).length n c = [] := by
  have hc := h.c2
  have hk : ∀ d, d < 2 → ∀ k, k < (areaL f (2 + d * n) n).length → keepL (areaL f (2 + d * n) n) t (chainB t s txs).length (d == c) k = false := by
    intro d hd k hk
    rw [areaL_len] at hk
    have hfit := h.fit
    unfold keepL
    rw [List.getD_eq_getElem?_getD, areaL_at _ _ _ _ hk, Option.getD_some]
    by_cases h1 : d = c ∧ k < (chainB t s txs).length
    · simp [h1.1, h1.2]
    · have hdn : d * n + k < 2 * n := by rcases (show d = 0 ∨ d = 1 by omega) with rfl | rfl <;> omega
      have h2 := h.rest (d * n + k) hdn (by
        rcases (show d = 0 ∨ d = 1 by omega) with rfl | rfl <;> rcases (show c = 0 ∨ c = 1 by omega) with rfl | rfl <;> omega)
      rw [show 2 + (d * n + k) = 2 + d * n + k from by omega] at h2
      simp [h2]
  have h0 := told_none (first := 2) (hk 0 (by omega))
  have h1 := told_none (first := 2 + n) (hk 1 (by omega))
  rw [Nat.zero_mul, Nat.add_zero] at h0
  rw [Nat.one_mul] at h1
  unfold leftPl
  rw [h0, h1]; rfl
theorem lab_num (n : Nat) (hn : n ≤ 4294967295) : num4 (labL n).n 8 = n := by
  unfold labL
  rw [Bk.n_of _ (labS_len n)]
  unfold num4 labS labH
  obtain ⟨r, hr⟩ : ∃ r, ((junc ++ highB n 4) ++ List.replicate 48 0) ++ highB (goS 1 ((junc ++ highB n 4) ++ List.replicate 48 0)) 4 = junc ++ (highB n 4 ++ r) := ⟨List.replicate 48 0 ++ highB (goS 1 ((junc ++ highB n 4) ++ List.replicate 48 0)) 4, by simp only [List.append_assoc]⟩
  rw [hr, (cut_front _ _ 8 (by rfl)).2, (cut_front _ _ 4 (length_highB _ _)).1, pile4 n (by omega), Nat.mod_eq_of_lt (by omega)]
theorem lab_byt (n : Nat) : (labL n).Byt := Bk.byt_of _ (labS_len n) ((labH_bys n).append (highB_bys _ _))
theorem lab_size {n len : Nat} (hn : 4 ≤ n ∧ n ≤ 1000) (hl : 2 + 2 * n ≤ len) (L : List Bk) : sizeR (labL n :: L) len = some n := by
  have hnum : num4 (labL n).n 8 = n := lab_num n (by omega)
  refine (sizeR_some (k := 0) (b := labL n) rfl (by simp) ?_).trans (by rw [hnum])
  unfold isLab
  rw [hnum]
  have hm : mayB (n : Int) len = true := by unfold mayB; simp; omega
  rw [hm]
  simp
/-- What Open makes of it. -/
theorem LogF.opens {D : Dk} {N : Nat} (hw : D.Well N) (hn : D.Nod N) (hN : 2 + 2 * n ≤ N) (h : LogF (showsM D) n t c s txs) : ∃ E, openM D = ⟨E, 0, n, (some (t, s, txs, (chainB t s txs).length), c)⟩ ∧ E.Well N ∧ E.Nod N ∧ showsM E = showsM D ∧ (D.Byt → E.Byt) := by
  obtain ⟨D1, a1, a2, a3, a4⟩ := reads_well hw hn 0 2 (by omega)
  obtain ⟨D2, b1, b2, b3, b4⟩ := reads_well a2 a3 2 n (by omega)
  obtain ⟨D3, c1, c2, c3, c4⟩ := reads_well b2 b3 (2 + n) n (by omega)
  have y1 : D.Byt → D1.Byt := fun h => by have := (h.reads 0 2).1; rwa [a1] at this
  have y2 : D1.Byt → D2.Byt := fun h => by have := (h.reads 2 n).1; rwa [b1] at this
  have y3 : D2.Byt → D3.Byt := fun h => by have := (h.reads (2 + n) n).1; rwa [c1] at this
  have hH : (List.range 2).map (fun i => showsM D (0 + i)) = [labL n, labL n] := by
    show [showsM D 0, showsM D 1] = _
    rw [h.lab.1, h.lab.2]
  rw [hH] at a1
  have hsz : sizeR [labL n, labL n] D1.plate.length = some n := lab_size h.n4 (by rw [a2.len]; exact hN) _
  rw [a4] at b1
  rw [b4, a4] at c1
  have hb := h.best
  obtain ⟨s1, s2⟩ := sync_well c2
  obtain ⟨s3, s4⟩ := sync_shows c2 c3
  refine ⟨(syncM D3).1, ?_, s2, s3, by rw [s4, c4, b4, a4], fun h => byt_sync (y3 (y2 (y1 h)))⟩
  refine open_some a1 hsz b1 c1 hb (by show t ≠ 0; have := h.t0.1; omega) ?_
  show layM D3 (openL (leftPl (areaL (showsM D) 2 n) (areaL (showsM D) (2 + n) n) t (chainB t s txs).length n c)) = _
  rw [h.left]
  show (if (0 : Int) = 0 then syncM D3 else (D3, 0)) = _
  rw [if_pos rfl, ← s1]
end
end Go.Proofs.Ytelpihlifdfgoaa
namespace Go.Proofs.Ytelpihlifdfgoaa
open Go.RowKit Go.Shelf
set_option linter.unusedVariables false
theorem put_fil (f : Nat → Bk) (first size : Nat) (b : Bk) (j : Nat) : putF f (filL first size b) j = if first ≤ j ∧ j < first + size then b else f j := put_row f first (fun _ => b) size j
theorem put_frm (f : Nat → Bk) (first t m : Nat) (l : List Nat) (j : Nat) : putF f (frmL first t m l) j = if first ≤ j ∧ j < first + secN l.length then (partAt t m l (j - first)).blk else f j := put_row f first (fun k => (partAt t m l k).blk) (secN l.length) j
theorem zero_turn : num4 Bk.zero.n 0 = 0 := by
  show num4 ((List.replicate 64 (0 : Int)).map Int.toNat) 0 = 0
  decide
theorem frameB_get {t m k : Nat} {l : List Nat} {b : Bk} (h : (frameB t m l)[k]? = some b) : k < secN l.length ∧ b = (partAt t m l k).blk := by
  have hk : k < secN l.length := by
    have := (List.getElem?_eq_some_iff.1 h).1
    rwa [frameB_len] at this
  rw [frameB_at hk] at h
  exact ⟨hk, (Option.some.inj h).symm⟩
theorem txs_turn {t : Nat} (ht : t ≤ 4294967295) : ∀ (txs : List (List Nat)) (m : Nat), (∀ x ∈ txs, x.length ≤ 40000 ∧ Bys x) → m + txs.length ≤ 4294967295 → ∀ b ∈ txsB t m txs, num4 b.n 0 = t
  | [], _, _, _, b, hb => by simp [txsB] at hb
  | x :: txs, m, h, hm, b, hb => by
    simp only [txsB] at hb
    rw [List.length_cons] at hm
    rcases List.mem_append.1 hb with h1 | h1
    · obtain ⟨k, hk⟩ := List.mem_iff_getElem?.1 h1
      rw [(frameB_get hk).2]
      exact part_turn ht (by omega) (h x (by simp)).2
    · exact txs_turn ht txs (m + 1) (fun y hy => h y (by simp [hy])) (by omega) b h1
theorem chain_turn {t : Nat} (ht : t ≤ 4294967295) {s : List Nat} {txs : List (List Nat)} (hs : Bys s) (h : ∀ x ∈ txs, x.length ≤ 40000 ∧ Bys x) (hm : txs.length ≤ 4294967295) : ∀ b ∈ chainB t s txs, num4 b.n 0 = t := by
  intro b hb
  unfold chainB at hb
  rcases List.mem_append.1 hb with h1 | h1
  · obtain ⟨k, hk⟩ := List.mem_iff_getElem?.1 h1
    rw [(frameB_get hk).2]
    exact part_turn ht (by omega) hs
  · exact txs_turn ht txs 0 h (by omega) b h1
theorem logf_format {f : Nat → Bk} {n : Nat} (hn : 4 ≤ n ∧ n ≤ 1000) : LogF ((fmtL n).foldl putF f) n 1 0 [] [] := by
  obtain ⟨g, hg⟩ : ∃ g, (fmtL n).foldl putF f = g := ⟨_, rfl⟩
  have e : ∀ j, g j = if 0 ≤ j ∧ j < 0 + 2 then labL n else if 2 ≤ j ∧ j < 2 + secN ([] : List Nat).length then (partAt 1 0 [] (j - 2)).blk else if 0 ≤ j ∧ j < 0 + (2 + 2 * n) then Bk.zero else f j := by
    intro j
    rw [← hg]
    show putF (putF (putF f (filL 0 (2 + 2 * n) Bk.zero)) (frmL 2 1 0 [])) (filL 0 2 (labL n)) j = _
    rw [put_fil, put_frm, put_fil]
  have hs : secN ([] : List Nat).length = 1 := rfl
  rw [hs] at e
  rw [hg]
  have hch : (chainB 1 [] []).length = 1 := by rw [chainB_one, frameB_len]; rfl
  refine ⟨⟨by rw [e]; rfl, by rw [e]; rfl⟩, by omega, by omega, hn, by rw [hch]; omega, ⟨by simp, (by intro x hx; cases hx), by simp⟩, fun k b hk => ?_, fun i hi hno => ?_, fun i hi => ?_⟩
  · rw [chainB_one] at hk
    obtain ⟨h1, rfl⟩ := frameB_get hk
    rw [hs] at h1
    rw [e, if_neg (by omega), if_pos (by omega), show 2 + 0 * n + k - 2 = k from by omega]
  · rw [hch] at hno
    rw [e, if_neg (by omega), if_neg (by omega), if_pos (by omega), zero_turn]
    omega
  · rw [e]
    split
    · exact lab_byt n
    · split
      · exact part_byt (by omega) (by omega) (by intro x hx; cases hx)
      · rw [if_pos (by omega)]; exact byt_zero
section
variable {f : Nat → Bk} {n t c : Nat} {s : List Nat} {txs : List (List Nat)}
theorem LogF.app (h : LogF f n t c s txs) {l : List Nat} (hl : l.length ≤ 40000) (hB : Bys l) (hfit : (chainB t s txs).length + secN l.length ≤ n) : LogF (putF f (frmL (2 + c * n + (chainB t s txs).length) t (txs.length + 1) l)) n t c s (txs ++ [l]) := by
  obtain ⟨u, hu⟩ : ∃ u, (chainB t s txs).length = u := ⟨_, rfl⟩
  rw [hu] at hfit ⊢
  obtain ⟨g, hg⟩ : ∃ g, putF f (frmL (2 + c * n + u) t (txs.length + 1) l) = g := ⟨_, rfl⟩
  have e : ∀ j, g j = if 2 + c * n + u ≤ j ∧ j < 2 + c * n + u + secN l.length then (partAt t (txs.length + 1) l (j - (2 + c * n + u))).blk else f j := fun j => by rw [← hg]; exact put_frm _ _ _ _ _ _
  rw [hg]
  have hcn := h.cn
  have hm := h.more
  have hn4 := h.n4
  have ht := h.t0
  have hlen : (chainB t s (txs ++ [l])).length = u + secN l.length := by rw [chainB_snoc, List.length_append, hu, frameB_len]
  refine ⟨⟨?_, ?_⟩, h.t0, h.c2, h.n4, by rw [hlen]; exact hfit, ⟨h.len.1, h.len.2.1, fun x hx => ?_⟩, fun k b hk => ?_, fun i hi hno => ?_, fun i hi => ?_⟩
  · rw [e, if_neg (by omega)]; exact h.lab.1
  · rw [e, if_neg (by omega)]; exact h.lab.2
  · rcases List.mem_append.1 hx with h1 | h1
    · exact h.len.2.2 x h1
    · rw [List.mem_singleton.1 h1]; exact ⟨hl, hB⟩
  · rw [chainB_snoc] at hk
    by_cases h1 : k < u
    · rw [List.getElem?_append_left (by rw [hu]; exact h1)] at hk
      rw [e, if_neg (by omega)]
      exact h.chain k b hk
    · rw [List.getElem?_append_right (by rw [hu]; omega), hu] at hk
      obtain ⟨h2, rfl⟩ := frameB_get hk
      rw [e, if_pos (by omega), show 2 + c * n + k - (2 + c * n + u) = k - u from by omega]
  · rw [hlen] at hno
    rw [e, if_neg (by omega)]
    exact h.rest i hi (by rw [hu]; omega)
  · rw [e]
    split
    · exact part_byt ht.2 (by omega) hB
    · exact h.byt i hi
theorem LogF.chk (h : LogF f n t c s txs) {l : List Nat} (hl : l.length ≤ 40000) (hB : Bys l) (hfit : secN l.length ≤ n) (htt : t < 4294967295) : LogF (putF f (frmL (2 + (1 - c) * n) (t + 1) 0 l)) n (t + 1) (1 - c) l [] := by
  obtain ⟨d, hd⟩ : ∃ d, 1 - c = d := ⟨_, rfl⟩
  have hc := h.c2
  rw [hd]
  obtain ⟨g, hg⟩ : ∃ g, putF f (frmL (2 + d * n) (t + 1) 0 l) = g := ⟨_, rfl⟩
  have e : ∀ j, g j = if 2 + d * n ≤ j ∧ j < 2 + d * n + secN l.length then (partAt (t + 1) 0 l (j - (2 + d * n))).blk else f j := fun j => by rw [← hg]; exact put_frm _ _ _ _ _ _
  rw [hg]
  have hcn := h.cn
  have hn4 := h.n4
  have ht := h.t0
  have hdn : d * n + n ≤ 2 * n := by rcases (show d = 0 ∨ d = 1 by omega) with rfl | rfl <;> omega
  have hlen : (chainB (t + 1) l []).length = secN l.length := by rw [chainB_one, frameB_len]
  refine ⟨⟨?_, ?_⟩, by omega, by omega, h.n4, by rw [hlen]; exact hfit, ⟨hl, hB, by simp⟩, fun k b hk => ?_, fun i hi hno => ?_, fun i hi => ?_⟩
  · rw [e, if_neg (by omega)]; exact h.lab.1
  · rw [e, if_neg (by omega)]; exact h.lab.2
  · rw [chainB_one] at hk
    obtain ⟨h2, rfl⟩ := frameB_get hk
    rw [e, if_pos (by omega), show 2 + d * n + k - (2 + d * n) = k from by omega]
  · rw [hlen] at hno
    rw [e, if_neg (by omega)]
    by_cases h1 : c * n ≤ i ∧ i < c * n + (chainB t s txs).length
    · have hx : ∃ b, (chainB t s txs)[i - c * n]? = some b := ⟨_, List.getElem?_eq_getElem (by omega)⟩
      obtain ⟨b, hb⟩ := hx
      have h2 := h.chain _ b hb
      rw [show 2 + c * n + (i - c * n) = 2 + i from by omega] at h2
      rw [h2]
      have h3 := chain_turn h.t0.2 h.len.2.1 h.len.2.2 (by have := h.more; omega) b (List.mem_of_getElem? hb)
      omega
    · have := h.rest i hi h1
      omega
  · rw [e]
    split
    · exact part_byt (by omega) (by omega) hB
    · exact h.byt i hi
end
end Go.Proofs.Ytelpihlifdfgoaa
namespace Go.Proofs.Ytelpihlifdfgoaa
open Go.RowKit Go.Shelf
set_option linter.unusedVariables false
attribute [local go_sem ↓] load_chain_rule store_chain_rule
set_option maxRecDepth 100000 in
set_option maxHeartbeats 4000000 in
theorem wcheck_done1 {w : World} {B p pb g t u n : Nat} {bv sv tv : Value} {D : Dk} (hD : Dsk w B p pb bv D) (hB : B ≤ w.heap.size) (h : Blk w g 67 (lgcs t sv tv u p n 1 false)) (hn : n ≤ 1000) (a : Option Addr) (len c : Nat) (l : List Nat) (hL : Lies w a l) (hl : l.length = len) (hlm : len ≤ 40000) (hc : len ≤ c) (hBy : Bys l) (hsf : Safe w a)
    (hap : ∀ x, a = some x → x.block ≠ p ∧ x.block ≠ pb ∧ x.block ≠ g) (h0 : a = none → len = 0) (hN : secN len ≤ n) (ht : t < 4294967295) :
    Calls Try.prog 30 #[.pointer (some ⟨g, 0, none⟩), .slice a len c] w fun e w' => e = .returned (.int .i64 (layM D (frmL 2 (t + 1) 0 l)).2) ∧ ∃ bv', Dsk w' B p pb bv' (layM D (frmL 2 (t + 1) 0 l)).1 ∧
      ((layM D (frmL 2 (t + 1) 0 l)).2 = 0 → ∃ v, w'.ownsRow w.heap.size 5 1 v len (l.map byc) ∧ Blk w' g 67 (lgcs (t + 1) v (.slice none 0 0) (secN len) p n 0 false)) ∧
      ((layM D (frmL 2 (t + 1) 0 l)).2 ≠ 0 → Blk w' g 67 (lgcs t sv tv u p n 1 true)) ∧ Kept (g :: fp p pb bv) w w' ∧ (∀ k, bv'.ownBlock = some k → bv.ownBlock = some k ∨ w.heap.size ≤ k) := by
  have hre := refuses_any (w := w) (g := g) (b := false) (h.cell 10) a len c
  rw [if_neg (by simp), if_neg (by omega)] at hre
  have hse := sectors_any (len : Int)
  rw [secI_nat] at hse
  have c9 : w.cell? ⟨g, 9, none⟩ = some (.int .i64 1) := h.cell 9
  have c0 : ∀ k, (w.drewN k).cell? ⟨g, 0, none⟩ = some (.int .u32 (t : Int)) := fun k => h.cell 0
  have c8 : ∀ k, (w.drewN k).cell? ⟨g, 6, none⟩ = some (.int .i64 (n : Int)) := fun k => h.cell 6
  have c7 : ∀ k, (w.drewN k).cell? ⟨g, 5, none⟩ = some (.int .i64 2) := fun k => h.cell 5
  have e1 : fcs (t + 1) 0 a len c = #[.int .u32 ((t : Int) + 1), .int .u32 0, .slice a len c] := by simp [fcs]
  have hro : ∀ W, Calls Try.prog 48 #[.agg #[.int .u32 ((t : Int) + 1), .int .u32 0, .slice a len c], .int .i64 2] W fun e w' =>
      e = .returned (.func (.func 64) #[] #[.pointer (some ⟨W.heap.size, 0, none⟩), .pointer (some ⟨W.heap.size + 1, 0, none⟩)]) ∧ Blk w' W.heap.size 105 (fcs (t + 1) 0 a len c) ∧ Blk w' (W.heap.size + 1) 3 #[.int .i64 ((2 : Nat) : Int)] ∧ Below W.heap.size W w' := fun W => by
    have h9 := rows_of 2 (t + 1) 0 a len c l W
    rw [e1] at h9
    rw [e1]
    exact h9
  have hq1 : decide (n < secN len) = false := decide_eq_false (by omega)
  have hN2 : ¬ (n : Int) < (secN len : Int) := by omega
  have htn : ¬ ((t : Int) = 4294967295) := by omega
  have hq2 : ((t : Int) == 4294967295) = false := by simpa using htn
  have HH := Lib.hid (And.intro hD (And.intro h (And.intro hL (And.intro hsf (And.intro hap (And.intro h0 hBy))))))
  clear hD h hL hsf hap h0 hBy
  obtain ⟨LR, hLR⟩ : ∃ LR, layM D (frmL 2 (t + 1) 0 l) = LR := ⟨_, rfl⟩
  rw [hLR]
  go_enter Try.func30, Try.ntmps30
  go_wp2_with fail
  refine hre.mono ?_
  rintro e w1 ⟨rfl, rfl⟩
  go_wp2_with fail
  go_quiet ((go_at_call 23; exact Calls.quiet_of_same ((hse _).mono fun _ _ h => ⟨h.1, h.2.symm⟩)))
  have hbq : Below w.heap.size w (w.drewN nq) := ⟨rfl, rfl, rfl, Nat.le_refl _, fun _ _ => rfl⟩
  have d0 := c0 nq
  have d7 := c7 nq
  have d9 : (w.drewN nq).cell? ⟨g, 9, none⟩ = some (.int .i64 1) := c9
  generalize w.drewN nq = W at *
  clear c0 c7 c8 c9 hre hse
  go_wp2_with fail
  refine (hro W).mono ?_
  rintro e W2 ⟨rfl, bf, bi, hb2⟩
  have hb2w : Below w.heap.size w W2 := hbq.trans (hb2.mono hbq.size)
  obtain ⟨W3, hW3⟩ : ∃ W3, W2.alloc (.cells #[.func (.func 64) #[] #[.pointer (some ⟨W.heap.size, 0, none⟩), .pointer (some ⟨W.heap.size + 1, 0, none⟩)]] 95) = W3 := ⟨_, rfl⟩
  have hb3 : Below w.heap.size w W3 := by rw [← hW3]; exact hb2w.alloc hb2w.size _
  have hb23 : Below W2.heap.size W2 W3 := by rw [← hW3]; exact (Below.refl _ _).alloc (Nat.le_refl _) _
  have br : Blk W3 W2.heap.size 95 (rowVals [frameR 2 (t + 1) 0 l W.heap.size (W.heap.size + 1)]) := by rw [← hW3]; exact Blk.new _ _ _
  have hD3 := HH.out.1.later hb3
  have hg3 := HH.out.2.1.kept (Kept.of_below [] hb3) (by simp)
  have hpW : p < W.heap.size := Nat.lt_of_lt_of_le HH.out.1.lt hbq.size
  have hpbW : pb < W.heap.size := Nat.lt_of_lt_of_le HH.out.1.plate.lt hbq.size
  have htold := told_rows (w := W3) (first := 2) (t := t + 1) (n := 0) hl hlm hc HH.out.2.2.2.2.2.2 (by omega) (by omega) (bf.kept (Kept.of_below [] hb23) (by simp)) (bi.kept (Kept.of_below [] hb23) (by simp)) (HH.out.2.2.1.kept hb3) (fun x hx => by
    obtain ⟨o, ho, h9⟩ := HH.out.2.2.2.1 x hx
    exact ⟨o, (hb3.block _ (Array.getElem?_eq_some_iff.1 ho).1).trans ho, h9⟩) (by omega)
  have hnC : ∀ q, q < W.heap.size → (∀ x, a = some x → x.block ≠ q) → q ∉ W.heap.size :: (W.heap.size + 1) :: (a.map (·.block)).toList := fun q hq hx hm => by
    simp only [List.mem_cons, Option.mem_toList] at hm
    rcases hm with h9 | h9 | h9
    · omega
    · omega
    · obtain ⟨x, hx9, h8⟩ := Option.map_eq_some_iff.1 h9
      exact hx x hx9 h8
  have hwr := wwrite_any hD3 (Nat.le_trans hB hb3.size) hg3 rfl rfl [frameR 2 (t + 1) 0 l W.heap.size (W.heap.size + 1)] _ (hnC p hpW (fun x hx => (HH.out.2.2.2.2.1 x hx).1)) (hnC pb hpbW (fun x hx => (HH.out.2.2.2.2.1 x hx).2.1)) (fun x hx => by rw [List.mem_singleton.1 hx]; exact htold) br (by simp)
  rw [errs_one, show (frameR 2 (t + 1) 0 l W.heap.size (W.heap.size + 1)).items = frmL 2 (t + 1) 0 l from rfl, hLR] at hwr
  have HW := Lib.hid (And.intro hb3 (And.intro hg3 hb23))
  clear hD3 hg3 htold hnC br bf bi hb2 hb2w hb23 hb3 hro
  go_wp2_with fail
  refine hwr.mono ?_
  rintro e w4 ⟨rfl, bv', hD4, hg4, hk4, ho4⟩
  obtain ⟨D2, er⟩ := LR
  have hk04 : Kept (g :: fp p pb bv) w w4 := (Kept.of_below _ HW.out.1).trans hk4
  have hL4 : Lies w4 a l := lies_same HH.out.2.2.1 (a_kept HH.out.1 HH.out.2.2.2.1 HH.out.2.2.2.2.1 hk04)
  have hs4 : w.heap.size ≤ w4.heap.size := hk04.size
  have ho04 : ∀ k, bv'.ownBlock = some k → bv.ownBlock = some k ∨ w.heap.size ≤ k := fun k hk => (ho4 k hk).imp id (fun h9 => Nat.le_trans HW.out.1.size h9)
  by_cases he : er = 0
  · subst he
    rw [show decide (((D2, (0 : Int)) : Dk × Int).2 ≠ 0) = false from rfl] at hg4
    have hbe := begun_any (t + 1) (by omega) a len c l w4 hL4 hl hlm HH.out.2.2.2.2.2.1
    rw [show ((t + 1 : Nat) : Int) = (t : Int) + 1 from by omega] at hbe
    clear hwr
    go_wp2_with fail
    refine hbe.mono ?_
    rintro e w5 ⟨v, rfl, hown, hb5⟩
    obtain ⟨a2, c2, rfl⟩ := wown_slice hown
    have hg5 := hg4.kept (Kept.of_below [] hb5) (by simp)
    have hD5 := hD4.later hb5
    have hgp : ∀ i ∈ [g], i ∉ fp p pb bv' := fun i hi => (List.mem_singleton.1 hi) ▸ g_far hD5 hg5
    have hgl : g < w4.heap.size := hg4.lt
    have S := storeRes_of (P := Try.prog) (ty := 62) (o := 0) (vs := chcs (t + 1) (.slice a2 len c2) (.slice none 0 0) (secN len)) hg5 (by simp [lgcs, chcs]) (s_chain _ _ _ _) (by simp [chcs, Value.oneCell'])
    rw [show over ((lgcs t sv tv u p n 1 false).setIfInBounds 10 (.bool false)) 0 (chcs (t + 1) (.slice a2 len c2) (.slice none 0 0) (secN len)) = lgcs (t + 1) (.slice a2 len c2) (.slice none 0 0) (secN len) p n 1 false from rfl] at S
    have hg6 := hg5.row (lgcs (t + 1) (.slice a2 len c2) (.slice none 0 0) (secN len) p n 1 false)
    generalize hW6 : w5.setRow g (lgcs (t + 1) (.slice a2 len c2) (.slice none 0 0) (secN len) p n 1 false) = W6 at *
    have c9 : W6.cell? ⟨g, 9, none⟩ = some (.int .i64 1) := hg6.cell 9
    have z9 := hg6.free 9
    have H5 := Lib.hid (And.intro hg6 (And.intro hD5 (And.intro hown (And.intro hb5 hgp))))
    clear hg6 hg5 hg4 hD4 hD5 hown hb5 hgp hbe hk4 hL4
    go_wp2_with fail
    go_ret
    have hk5 : Kept [g] w5 (W6.setCell ⟨g, 9, none⟩ (.int .i64 0)) := by rw [← hW6]; exact ((Kept.refl [g] w5).setRow (.inl (by simp)) _).setCell (.inl (by simp)) _
    refine ⟨rfl, bv', H5.out.2.1.apart hk5 H5.out.2.2.2.2, ⟨_, ?_, H5.out.1.set 9 (.int .i64 0)⟩, (hk04.trans (Kept.of_below _ H5.out.2.2.2.1)).trans (hk5.more (by simp)), ho04⟩
    rcases H5.out.2.2.1.2 with h9 | ⟨q, cap, cur, h1, h2, h3, h4⟩
    · exact ⟨H5.out.2.2.1.1, .inl h9⟩
    · exact ⟨H5.out.2.2.1.1, .inr ⟨q, cap, cur, h1, by omega, (hk5.block q (Array.getElem?_eq_some_iff.1 h3).1 (by simp; omega)).trans h3, h4⟩⟩
  · have heb : (er != 0) = true := by simpa using he
    rw [show decide (((D2, er) : Dk × Int).2 ≠ 0) = true from decide_eq_true he] at hg4
    clear hwr
    go_wp2_with fail
    go_ret
    exact ⟨rfl, bv', hD4, hg4, hk04, ho04⟩
end Go.Proofs.Ytelpihlifdfgoaa
namespace Go.Proofs.Ytelpihlifdfgoaa
open Go.RowKit Go.Shelf
set_option linter.unusedVariables false
set_option maxHeartbeats 400000 in
theorem leftover_any (g : Nat) (x0 x1 : Value) (w : World) : Calls Try.prog 42 #[.pointer (some ⟨g, 0, none⟩), .agg #[x0, x1]] w fun e w' =>
    e = .returned (.func (.func 60) #[] #[.pointer (some ⟨w.heap.size + 1, 0, none⟩), .pointer (some ⟨w.heap.size, 0, none⟩)]) ∧ Blk w' w.heap.size 24 #[.pointer (some ⟨g, 0, none⟩)] ∧ Blk w' (w.heap.size + 1) 91 #[x0, x1] ∧ Below w.heap.size w w' := by
  have hmf : ∀ (fn : Fn) (first cap : Array Value) (w : World), (Instr.makeFunc fn first cap).run Try.prog w = .ok (.func fn first cap) w := fun _ _ _ _ => rfl
  have h1 := (Blk.new w 24 #[.pointer (some ⟨g, 0, none⟩)]).alloc (.cells #[x0, x1] 91)
  have h2 := Blk.wnew2 w (.cells #[.pointer (some ⟨g, 0, none⟩)] 24) 91 #[x0, x1]
  have h3 : Below w.heap.size w ((w.alloc (.cells #[.pointer (some ⟨g, 0, none⟩)] 24)).alloc (.cells #[x0, x1] 91)) := ((Below.refl _ _).alloc (Nat.le_refl _) _).alloc (by simp) _
  have H := Lib.hid (And.intro h1 (And.intro h2 h3))
  clear h1 h2 h3
  go_enter Try.func42, Try.ntmps42
  go_wp2
  go_ret
  exact ⟨rfl, H.out⟩
end Go.Proofs.Ytelpihlifdfgoaa
