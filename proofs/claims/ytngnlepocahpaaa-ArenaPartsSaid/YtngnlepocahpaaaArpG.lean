/-
  Decode, of what Encode gave. Nothing here is a statement of the document.
-/
import Derived.Test.YtngnlepocahpaaaArpF
namespace Go.Proofs.Ytngnlepocahpaaa
open Go.RowKit Go.Shelf
set_option linter.unusedVariables false

theorem lies_pre {w : World} {a : Option Addr} {l : List Nat} (h : Lies w a l) (m : Nat) : Lies w a (l.take m) := by
  rcases h with rfl | ⟨b, o, rfl, hb, hc⟩
  · exact .inl (by simp)
  · refine .inr ⟨b, o, rfl, hb, fun i hi => ?_⟩
    have h1 : i < m ∧ i < l.length := by rw [List.length_take] at hi; omega
    rw [hc i h1.2]
    simp [h1.1]
theorem wbytes_first {ws : List Nat} (h : 0 < ws.length) : (wbytes ws).take 4 = wbytes [ws.getD 0 0] := by
  have := wbytes_drop ws 0 h
  rw [Nat.mul_zero, List.drop_zero] at this
  rw [this]
  simp [wbytes]

theorem wrap_u64 {n len : Nat} (h : len = 4 * n) (hn : n ≤ 16384) : IntKind.u64.wrap (4 * (n : Int)) = (len : Int) := by
  have e : (4 * (n : Int)) % 18446744073709551616 = 4 * (n : Int) := Int.emod_eq_of_lt (by omega) (by omega)
  subst h
  simp only [IntKind.wrap, show IntKind.u64.bits = 64 from rfl, show IntKind.u64.signed = false from rfl, Bool.false_and, Bool.false_eq_true, if_false]
  rw [show (2 ^ 64 : Int) = 18446744073709551616 from rfl, e]
  omega
theorem wrap_u64s {n : Nat} (hn : n ≤ 70000) : IntKind.u64.wrap (n : Int) = (n : Int) := by
  have e : (n : Int) % 18446744073709551616 = (n : Int) := Int.emod_eq_of_lt (by omega) (by omega)
  simp only [IntKind.wrap, show IntKind.u64.bits = 64 from rfl, show IntKind.u64.signed = false from rfl, Bool.false_and, Bool.false_eq_true, if_false]
  rw [show (2 ^ 64 : Int) = 18446744073709551616 from rfl, e]
/-- What may be decoded. -/
structure Dec (ws : List Nat) (B : List Bl) (L : Nat → List Nat) : Prop where
  lo : 64 ≤ ws.length
  hi : ws.length ≤ 16384
  sml : ∀ x ∈ ws, x < 4294967296
  first : ws.getD 0 0 = ws.length
  chain : Chain ws 16 B
  edge : ws.getD 15 0 ≤ ws.length
  e16 : 16 ≤ ws.getD 15 0
  behind : ∀ i, ws.getD 15 0 ≤ i → i < ws.length → ws.getD i 0 = 0
  fl : Fl ws (begK B ws.length B.length) L
  free : ∀ b ∈ B, b.t = false → b.x ∈ L b.c
  nought : ∀ b ∈ B, b.t = false → ∀ i, b.x < i → i < b.x + 2 ^ b.c → ws.getD i 0 = 0
  four : Lead ws (begK B ws.length B.length) (ws.getD 5 0 : Nat)
  six : Lead ws (begK B ws.length B.length) (ws.getD 6 0 : Nat)

set_option maxRecDepth 100000 in
set_option maxHeartbeats 4000000 in
theorem decode_any {ws : List Nat} {B : List Bl} {L : Nat → List Nat} (h : Dec ws B L) (b len cap : Nat) (hl : len = 4 * ws.length) (hcap : len ≤ cap) (w : World) (hL : Lies w (some ⟨b, 0, none⟩) (wbytes ws)) :
    Calls Try.prog 10 #[.slice (some ⟨b, 0, none⟩) len cap] w fun e w' => ∃ ga pp qq, e = .returned (.tuple #[.pointer (some ⟨ga, 0, none⟩), .int .i64 0]) ∧ Ar w' ga pp qq ws (begK B ws.length B.length) ∧ Below w.heap.size w w' := by
  have hlo := h.lo
  have hhi := h.hi
  have hrd := read_any (some ⟨b, 0, none⟩) 4 cap (wbytes [ws.getD 0 0]) w (by rw [wbytes_len]; rfl) (by omega) (by rw [← wbytes_first (by omega)]; exact lies_pre hL 4)
  have d1 : decide (((len : Nat) : Int) < 64) = false := decide_eq_false (by omega)
  have d2 : decide (len < 64) = false := decide_eq_false (by omega)
  have h4c : 4 ≤ cap := by omega
  have h4i : (4 : Int) ≤ (cap : Int) := by omega
  have H := Lib.hid (And.intro h (And.intro hl (And.intro hcap hL)))
  clear h hl hcap hL
  have HB := Lib.hid (And.intro hlo hhi)
  clear hlo hhi
  go_enter Try.func10, Try.ntmps10
  go_wp2_with fail
  refine hrd.mono ?_
  rintro e w1 ⟨r, rfl, hr, hR, hb1⟩
  clear hrd
  have hu := u32_any hR (wbytes_bys _) (by rw [wbytes_len]; simp)
  rw [show (0 : Nat) = 4 * 0 from rfl, came_word (ws := [ws.getD 0 0]) (k := 0) (by simp), show ([ws.getD 0 0] : List Nat).getD 0 0 = ws.length from H.out.1.first, pile_word (by have := HB.out.2; omega)] at hu
  have HR := Lib.hid (And.intro hr (And.intro hR hb1))
  have hmh := fun w' => mayhave_any ((ws.length : Nat) : Int) w'
  have hmv : (decide ((64 : Int) ≤ (ws.length : Int)) && decide ((ws.length : Int) ≤ 16384)) = true := by have := HB.out; simp; omega
  rw [hmv] at hmh
  have hw1 : IntKind.u64.wrap (4 * ((ws.length : Nat) : Int)) = ((len : Nat) : Int) := wrap_u64 H.out.2.1 HB.out.2
  have hw2 : IntKind.u64.wrap ((ws.length : Nat) : Int) = ((ws.length : Nat) : Int) := wrap_u64s (by have := HB.out.2; omega)
  have hw3 : IntKind.u64.wrap ((len : Nat) : Int) = ((len : Nat) : Int) := wrap_u64s (by have := HB.out.2; have := H.out.2.1; omega)
  have d3 : decide (((len : Nat) : Int) < ((len : Nat) : Int)) = false := by simp
  have hw5 : wrap64 ((ws.length : Nat) : Int) = ((ws.length : Nat) : Int) := w64s (by have := HB.out; omega)
  clear hr hR hb1 hmv
  go_wp2_with fail
  refine hu.mono ?_
  rintro e w2 ⟨rfl, hA⟩
  clear hu
  have hb2 : Below w.heap.size w w2 := hA.below HR.out.2.2 HR.out.2.2.size (Nat.le_of_lt HR.out.1)
  clear hA
  go_wp2_with fail
  refine (hmh w2).mono ?_
  rintro e w3 ⟨rfl, rfl⟩
  have hwo := wordsof_any (some ⟨b, 0, none⟩) len cap ws.length ws rfl (by rw [H.out.2.1]) HB.out.2 H.out.1.sml w2 (H.out.2.2.2.kept hb2)
  have H2 := Lib.hid hb2
  clear hb2 hmh
  go_wp2_with fail
  refine hwo.mono ?_
  rintro e w4 ⟨pp, rfl, hp4, hW4, hb4⟩
  clear hwo
  have hov := over_any pp ws.length HB.out.2 w4
  have H4 := Lib.hid (And.intro hp4 (And.intro hW4 hb4))
  clear hp4 hW4 hb4
  go_wp2_with fail
  refine hov.mono ?_
  rintro e w5 ⟨rfl, h5⟩
  clear hov
  have hl4 : w2.heap.size ≤ w4.heap.size := H4.out.2.2.size
  have hl2 := H2.out.size
  have hpl := H4.out.2.1.lt
  obtain ⟨g, hg⟩ : ∃ g, w4.heap.size + 1 = g := ⟨_, rfl⟩
  have k5 : Below w4.heap.size w4 w5 := by rw [h5]; exact ((Below.refl _ _).alloc (Nat.le_refl _) _).alloc (by simp) _
  have A5 : Ar w5 g pp w4.heap.size ws (List.replicate ws.length false) := by
    refine ⟨?_, ?_, ?_, by simp, HB.out.1, HB.out.2, H.out.1.sml⟩
    · have := Blk.new (w4.alloc (.cells (bcs (List.replicate ws.length false)) 4)) 70 #[.slice (some ⟨pp, 0, none⟩) ws.length ws.length, .slice (some ⟨w4.heap.size, 0, none⟩) ws.length ws.length]
      rw [World.size_alloc, hg] at this
      rw [h5]; exact this
    · rw [h5]; exact (H4.out.2.1.alloc _).alloc _
    · rw [h5]; exact (Blk.new w4 _ _).alloc _
  have b5 : Below w.heap.size w w5 := H2.out.trans ((H4.out.2.2.trans (k5.mono hl4)).mono hl2)
  have hib := inblocks_any A5 rfl H.out.1.chain H.out.1.edge H.out.1.e16 H.out.1.behind
  have H5 := Lib.hid (And.intro b5 (And.intro hl4 hl2))
  rw [hg]
  clear h5 hpl hl4 hl2 k5 A5 b5 hw1 hw2 hw3 d1 d2 d3 h4c h4i
  go_wp2_with fail
  refine hib.mono ?_
  rintro e w6 ⟨rfl, A6, k6⟩
  clear hib
  have hil := inlists_any A6 H.out.1.fl H.out.1.chain H.out.1.edge H.out.1.free H.out.1.nought
  have b6 : Below w.heap.size w w6 := H5.out.1.trans ⟨k6.os, k6.tape, k6.output, k6.size, fun k hk => k6.block k (by have := H5.out.1.size; omega) (by simp; have := H5.out.2; omega)⟩
  have H6 := Lib.hid b6
  clear A6 k6 b6
  go_wp2_with fail
  refine hil.mono ?_
  rintro e w7 ⟨rfl, A7, k7⟩
  clear hil
  have b7 : Below w.heap.size w w7 := H6.out.trans ⟨k7.os, k7.tape, k7.output, k7.size, fun k hk => k7.block k (by have := H6.out.size; omega) (by simp)⟩
  have l5 := lead_ok A7 H.out.1.four
  have hs5 := H.out.1.four.small HB.out.2
  have hs6 := H.out.1.six.small HB.out.2
  have c0 := A7.c0
  have c5 := A7.word (i := 5) (by have := HB.out.1; omega)
  have H7 := Lib.hid (And.intro A7 (And.intro b7 (fun n => lead_ok (A7.drewN n) H.out.1.six)))
  have c6 := A7.word (i := 6) (by have := HB.out.1; omega)
  clear A7 b7 k7
  generalize ws.getD 5 0 = x5 at *
  generalize ws.getD 6 0 = x6 at *
  have hw5 : wrap64 (x5 : Int) = (x5 : Int) := w64s (by omega)
  have hw6 : wrap64 (x6 : Int) = (x6 : Int) := w64s (by omega)
  have hlen := HB.out.1
  have e5 : (5 : Nat) < ws.length := by omega
  have e6 : (6 : Nat) < ws.length := by omega
  have e5i : (5 : Int) < (ws.length : Int) := by omega
  have e6i : (6 : Int) < (ws.length : Int) := by omega
  have HS := Lib.hid (And.intro hs5 (And.intro hs6 hlen))
  clear hs5 hs6 hlen
  go_wp2_with fail
  refine l5.mono ?_
  rintro e w8 ⟨rfl, n8, rfl⟩
  clear l5
  have l6 := H7.out.2.2 n8
  go_wp2_with fail
  refine l6.mono ?_
  rintro e w9 ⟨rfl, n9, rfl⟩
  clear l6
  go_wp2
  go_ret2
  exact ⟨_, _, _, rfl, H7.out.1.drewN (n8 + n9), H7.out.2.1.trans ⟨rfl, rfl, rfl, Nat.le_refl _, fun _ _ => rfl⟩⟩
end Go.Proofs.Ytngnlepocahpaaa
