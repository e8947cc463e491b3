/-
  Decode of any bytes, the program's and the document's: both refuse, with the same number, or both tell an arena, the same. Nothing here is a statement of the document.
-/
import Derived.Test.YtgnpoehcmlmajaaRhEa
import Derived.Test.YtgnpoehcmlmajaaRhEb
import Derived.Test.YtgnpoehcmlmajaaRhEc
import Derived.Test.YtgnpoehcmlmajaaRhC
import Derived.Test.YtgnpoehcmlmajaaRfV
import Derived.Test.YtgnpoehcmlmajaaArpH
import Derived.Test.YtgnpoehcmlmajaaOctM
import Derived.Deep.Matrix
namespace Go.Proofs.Ytgnpoehcmlmajaa
open Go.RowKit Go.Shelf
set_option linter.unusedVariables false
theorem rdec_main {l ws : List Nat} {b len cap : Nat} (h : Byt l ws len) (hs : Sz ws) (hcap : len ≤ cap) (h16 : 16 ≤ ws.getD 15 0) (he : ws.getD 15 0 ≤ ws.length) {B : List Bl} (hC : Chain ws 16 B) (w : World) (hL : Lies w (some ⟨b, 0, none⟩) l) :
    Calls Try.prog 10 #[.slice (some ⟨b, 0, none⟩) len cap] w fun e w' => RdAns ws w w' e := by
  by_cases h5 : ws.getD 5 0 = 0
  · exact rdec_maina h5 h hs hcap h16 he hC w hL
  · by_cases h6 : ws.getD 6 0 = 0
    · exact rdec_mainb ⟨h5, h6⟩ h hs hcap h16 he hC w hL
    · exact rdec_mainc ⟨h5, h6⟩ h hs hcap h16 he hC w hL
end Go.Proofs.Ytgnpoehcmlmajaa
namespace Go.Proofs.Ytgnpoehcmlmajaa
open Go.ChangeShapes Go.WideShapes Go.ChangeAt Go.RowKit Go.Shelf
set_option linter.unusedVariables false
/-- Both refuse. -/
structure DecNo (l : List Nat) (len : Nat) (err : Int) : Prop where
  ne : err = 7 ∨ err = 160
  p : ∀ (a : Option Addr) (cap : Nat), len ≤ cap → (64 ≤ len → ∃ b, a = some ⟨b, 0, none⟩) → ∀ w, Lies w a l → Calls Try.prog 9 #[.slice a len cap] w fun e w' => e = .returned (.tuple #[.pointer none, .int .i64 err]) ∧ Below w.heap.size w w'
  r : ∀ (a : Option Addr) (cap : Nat), len ≤ cap → (64 ≤ len → ∃ b, a = some ⟨b, 0, none⟩) → ∀ w, Lies w a l → Calls Try.prog 10 #[.slice a len cap] w fun e w' => NoR w w' e err
/-- Both tell an arena. -/
structure DecYes (l : List Nat) (len : Nat) (ws : List Nat) (bs : List Bool) : Prop where
  big : 64 ≤ len
  p : ∀ (b cap : Nat), len ≤ cap → ∀ w, Lies w (some ⟨b, 0, none⟩) l → Calls Try.prog 9 #[.slice (some ⟨b, 0, none⟩) len cap] w fun e w' => ∃ ga pp qq, e = .returned (.tuple #[.pointer (some ⟨ga, 0, none⟩), .int .i64 0]) ∧ Ar w' ga pp qq ws bs ∧ Below w.heap.size w w' ∧ w.heap.size ≤ ga ∧ w.heap.size ≤ pp ∧ w.heap.size ≤ qq
  r : ∀ (b cap : Nat), len ≤ cap → ∀ w, Lies w (some ⟨b, 0, none⟩) l → Calls Try.prog 10 #[.slice (some ⟨b, 0, none⟩) len cap] w fun e w' => ∃ M lo bv ls vs, e = .returned (.tuple #[.agg (Mo.vals M bv ls), .int .i64 0]) ∧ Rfa w' lo bv ls vs M ∧ w.heap.size ≤ lo ∧ lo ≤ w'.heap.size ∧ Pur ws bs M ∧ Below w.heap.size w w'
/-- Rows of bytes that came in. -/
def RowsB (w : World) (a : Option Addr) (n : Nat) : Prop := ∀ k, k < n → ∃ b o, a = some ⟨b, o, none⟩ ∧ ∃ (ad : Option Addr) (x : List Nat) (cap : Nat), w.cell? ⟨b, o + k, none⟩ = some (.slice ad x.length cap) ∧ Lies w ad x ∧ Bys x ∧ x.length ≤ cap ∧ cap ≤ 9223372036854775807 ∧ (ad = none → cap = 0)
theorem opc_sl8 : Try.prog.cellsOf 44 = 1 := by kernel_rfl
theorem opc_u8 : Try.prog.cellsOf 5 = 1 := by kernel_rfl
theorem rows_of {H : Type} {enc : TypeId × Value → H} {W : World} {held : Bool} {a : Option Addr} {len cap : Nat} {d : DataW H} {p : List MemPlace} (h : DataW.Trod enc Try.prog W 0 (fun _ => true) held 43 (.slice a len cap) d p) :
    len ≤ 9223372036854775807 ∧ RowsB W a len := by
  obtain ⟨fuel, hf⟩ := h
  rcases Go.Deep.open_int_rows Try.underlying43 Try.underlying44 Try.underlying5 opc_sl8 opc_u8 hf with ⟨hcs, _⟩ | ⟨x, len', cap', A, L, C, Z, hcs, _, hl, hm, _, hr⟩
  · simp [Value.cells] at hcs
    obtain ⟨rfl, rfl, rfl⟩ := hcs
    exact ⟨by omega, fun k hk => by omega⟩
  · simp [Value.cells] at hcs
    obtain ⟨rfl, rfl, rfl⟩ := hcs
    refine ⟨by unfold maxLen at hm; omega, fun k hk => ?_⟩
    obtain ⟨hc, h1, h2, h3, h4, h5, h6⟩ := hr k (by omega)
    obtain ⟨b, o, q⟩ := x
    have hq : q = none := by
      have h9 := World.cell?_spot (hr 0 (by omega)).1
      simpa [Addr.add] using h9
    subst hq
    have hI : IsRow .u8 W (A k) (L k) (C k) (Z k) := by
      cases hA : A k with
      | none =>
        have hc0 := h5 hA
        exact .inl ⟨rfl, by omega, hc0, List.eq_nil_of_length_eq_zero (by omega)⟩
      | some a' => exact .inr ⟨a', rfl, h1, h2, h3, fun i hi => (h6 a' hA).2 i (by omega), h4⟩
    obtain ⟨y, hy, _, hL, hB⟩ := hI.bytes
    refine ⟨b, o, rfl, A k, y, C k, ?_, hL, hB, by omega, by unfold maxLen at h2; omega, h5⟩
    rw [hy]
    rw [Addr.add_lit] at hc
    exact hc
theorem ownb (w : World) : (w.alloc (.cells #[] 5)).ownsRow w.heap.size 5 1 (.slice (some ⟨w.heap.size, 0, none⟩) 0 0) 0 [] :=
  ⟨rfl, .inr ⟨w.heap.size, 0, #[], rfl, Nat.le_refl _, heap_alloc_new _ _, Nat.le_refl _, by unfold maxLen; omega, rfl, rfl⟩⟩
/-- A copy of bytes: where it lies, in a block of the call's own. -/
theorem own_copy {w : World} {B : Nat} {v : Value} {l : List Nat} (h : w.ownsRow B 5 1 v l.length (l.map byc)) : ∃ a cap, v = .slice a l.length cap ∧ Lies w a l ∧ l.length ≤ cap ∧ (a = none → cap = 0) ∧ (64 ≤ l.length → ∃ b, a = some ⟨b, 0, none⟩) ∧ (l = [] ∨ ∃ g C, a = some ⟨g, 0, none⟩ ∧ B ≤ g ∧ Blk w g 5 C ∧ C.size = cap) := by
  rcases h.2 with ⟨rfl, h0⟩ | ⟨g, cap, cur, rfl, hb, hg, hc, hm, hs, ht⟩
  · have : l = [] := List.eq_nil_of_length_eq_zero h0
    subst this
    exact ⟨none, 0, rfl, .inl rfl, Nat.le_refl _, (fun _ => rfl), (fun h => by simp at h), .inl rfl⟩
  · refine ⟨_, cap, rfl, ?_, hc, (fun h => by cases h), (fun _ => ⟨g, rfl⟩), .inr ⟨g, cur, rfl, hb, hg, by omega⟩⟩
    refine .inr ⟨g, 0, rfl, (Array.getElem?_eq_some_iff.1 hg).1, fun i hi => ?_⟩
    rw [Nat.zero_add]
    have h1 : cur.toList[i]? = (l.map byc)[i]? := by
      rw [← ht, List.getElem?_take, if_pos (by omega)]
    have h2 : w.cell? ⟨g, i, none⟩ = cur[i]? := cell_of_row w g i cur _ (0, 0) hg
    rw [h2, ← Array.getElem?_toList, h1]
    simp [byc, hi]
end Go.Proofs.Ytgnpoehcmlmajaa
namespace Go.Proofs.Ytgnpoehcmlmajaa
open Go.RowKit Go.Shelf
set_option linter.unusedVariables false
theorem nor_of {ws : List Nat} {w w' : World} {e : Ending} (h : RdAns ws w w' e) (hn : ¬ ∃ B L, Dec ws B L) : NoR w w' e 160 := by
  obtain ⟨h1 | ⟨B, L, M, lo, bv, ls, vs, _, hd, _⟩, hb⟩ := h
  · exact ⟨h1.1, hb⟩
  · exact absurd ⟨B, L, hd⟩ hn
theorem dec_both (l : List Nat) (len : Nat) (hl : l.length = len) (hB : Bys l) (h14 : len ≤ 1400) : (∃ err, DecNo l len err) ∨ ∃ ws bs, DecYes l len ws bs := by
  by_cases h64 : 64 ≤ len
  case neg => exact .inl ⟨7, .inl rfl, fun a cap hc _ w hL => (decode_short a len cap (by omega) w).mono (fun e w' ⟨h1, h2⟩ => ⟨h1, by rw [← h2]; exact Below.refl _ _⟩), fun a cap hc _ w hL => rdec_short a len cap (by omega) w⟩
  by_cases hs : len < 4 * wdB l 0
  · refine .inl ⟨7, .inl rfl, fun a cap hc ha w hL => ?_, fun a cap hc ha w hL => ?_⟩
    · obtain ⟨b, rfl⟩ := ha h64
      have := decode_size b len cap l hl h64 hc (by omega) hB (by omega) w hL
      unfold errL at this
      rwa [if_pos hs] at this
    · obtain ⟨b, rfl⟩ := ha h64
      exact rdec_short2 b len cap l hl h64 hc (by omega) hB hs w hL
  by_cases hg : len = 4 * wdB l 0
  case neg =>
    refine .inl ⟨160, .inr rfl, fun a cap hc ha w hL => ?_, fun a cap hc ha w hL => ?_⟩
    · obtain ⟨b, rfl⟩ := ha h64
      have := decode_size b len cap l hl h64 hc (by omega) hB (by omega) w hL
      unfold errL at this
      rwa [if_neg hs] at this
    · obtain ⟨b, rfl⟩ := ha h64
      exact rdec_size b len cap l hl h64 hc (by omega) hB hs (by omega) w hL
  by_cases hy : 64 ≤ wdB l 0
  case neg =>
    refine .inl ⟨160, .inr rfl, fun a cap hc ha w hL => ?_, fun a cap hc ha w hL => ?_⟩
    · obtain ⟨b, rfl⟩ := ha h64
      have := decode_size b len cap l hl h64 hc (by omega) hB (by omega) w hL
      unfold errL at this
      rwa [if_neg hs] at this
    · obtain ⟨b, rfl⟩ := ha h64
      exact rdec_size b len cap l hl h64 hc (by omega) hB hs (by omega) w hL
  obtain ⟨ws, hws⟩ : ∃ ws, wordsB (wdB l 0) l = ws := ⟨_, rfl⟩
  have hwl : ws.length = wdB l 0 := by rw [← hws, wordsB_len]
  have hwg : ∀ i, i < ws.length → wdB l i = ws.getD i 0 := fun i hi => by rw [← hws]; rw [hwl] at hi; exact (wordsB_get l hi).symm
  have hsz : Sz ws := ⟨by omega, by omega, by rw [← hws]; exact wordsB_sm hB, by rw [← hwg 0 (by omega), hwl]⟩
  have hbt : Byt l ws len := ⟨hB, hl, by omega, hwg⟩
  have hlw : l = wbytes ws := byt_wbytes hbt
  have h15 : wdB l 15 = ws.getD 15 0 := hwg 15 (by omega)
  by_cases hd : ∃ B L, Dec ws B L
  · obtain ⟨B, L, hd⟩ := hd
    refine .inr ⟨ws, begK B ws.length B.length, h64, fun b cap hc w hL => ?_, fun b cap hc w hL => ?_⟩
    · rw [hlw] at hL
      exact decode_new hd b len cap hbt.four hc w hL
    · refine (rdec_main hbt hsz hc hd.e16 hd.edge hd.chain w hL).mono fun e w' h => ?_
      obtain ⟨⟨_, hn⟩ | ⟨B', L', M, lo, bv, ls, vs, he, hd', hR, h1, h2, hP⟩, hb⟩ := h
      · exact absurd ⟨B, L, hd⟩ hn
      · obtain rfl := chain_det hd.chain hd'.chain
        exact ⟨M, lo, bv, ls, vs, he, hR, h1, h2, hP, hb⟩
  · refine .inl ⟨160, .inr rfl, fun a cap hc ha w hL => ?_, fun a cap hc ha w hL => ?_⟩
    · obtain ⟨b, rfl⟩ := ha h64
      rcases decode_or hsz with h9 | h9
      · exact absurd h9 hd
      · rw [hlw] at hL
        exact h9 b len cap hbt.four hc w hL
    · obtain ⟨b, rfl⟩ := ha h64
      by_cases hed : 16 ≤ ws.getD 15 0 ∧ ws.getD 15 0 ≤ ws.length
      case neg => exact rdec_size b len cap l hl h64 hc (by omega) hB hs (by rw [h15, ← hwl]; rintro ⟨_, _, h1, h2⟩; exact hed ⟨h1, h2⟩) w hL
      rcases chain_or (ws := ws) (ws.getD 15 0 - 16) 16 (Nat.le_refl _) hed.1 with ⟨B, hC⟩ | ⟨B, E, hT, hS⟩
      · exact (rdec_main hbt hsz hc hed.1 hed.2 hC w hL).mono fun e w' h => nor_of h hd
      · exact rdec_stuck hbt hsz hc hed.1 hed.2 hT hS w hL
end Go.Proofs.Ytgnpoehcmlmajaa
