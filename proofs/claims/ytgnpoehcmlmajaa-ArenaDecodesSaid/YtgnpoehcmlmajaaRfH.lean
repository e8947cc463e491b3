/-
  The document's arena: its root published. Nothing here is a statement of the document.
-/
import Derived.Test.YtgnpoehcmlmajaaDcJ
import Derived.Test.YtgnpoehcmlmajaaDcH
import Derived.Test.YtgnpoehcmlmajaaArpG
import Derived.Test.YtgnpoehcmlmajaaDskB
import Derived.Test.YtgnpoehcmlmajaaRfE
namespace Go.Proofs.Ytgnpoehcmlmajaa
open Go.RowKit Go.Shelf
set_option linter.unusedVariables false
/-- What is asked of the lengths. -/
structure Sz (ws : List Nat) : Prop where
  lo : 64 ≤ ws.length
  hi : ws.length ≤ 16384
  sml : ∀ x ∈ ws, x < 4294967296
  first : ws.getD 0 0 = ws.length
theorem wrap_u32s {n : Nat} (h : n < 4294967296) : wrap64 (n : Int) = (n : Int) := by unfold wrap64; omega

set_option maxRecDepth 100000 in
set_option maxHeartbeats 4000000 in
theorem decode_no1 {ws : List Nat} (h : Sz ws) (hno : ∀ {w : World} {g p q : Nat}, Ar w g p q ws (List.replicate ws.length false) → Calls Try.prog 43 #[.pointer (some ⟨g, 0, none⟩)] w fun e w' => e = .returned (.bool false) ∧ Kept [q] w w') (b len cap : Nat) (hl : len = 4 * ws.length) (hcap : len ≤ cap) (w : World) (hL : Lies w (some ⟨b, 0, none⟩) (wbytes ws)) :
    Calls Try.prog 9 #[.slice (some ⟨b, 0, none⟩) len cap] w fun e w' => e = .returned (.tuple #[.pointer none, .int .i64 160]) ∧ Below w.heap.size w w' := by
  have hlo := h.lo
  have hhi := h.hi
  have hrd := read_any (some ⟨b, 0, none⟩) 4 cap (wbytes [ws.getD 0 0]) w (by rw [wbytes_len]; rfl) (by omega) (by rw [← wbytes_first (by omega)]; exact lies_pre hL 4)
  have d1 : decide (((len : Nat) : Int) < 64) = false := decide_eq_false (by omega)
  have d2 : decide (len < 64) = false := decide_eq_false (by omega)
  have h4c : 4 ≤ cap := by omega
  have h4i : (4 : Int) ≤ (cap : Int) := by omega
  have H := Lib.hid (And.intro h (And.intro hl (And.intro hcap hL)))
  clear h hl hcap hL
  have HB := Lib.hid (And.intro hlo hhi)
  clear hlo hhi
  go_enter Try.func9, Try.ntmps9
  go_wp2_with fail
  refine hrd.mono ?_
  rintro e w1 ⟨r, rfl, hr, hR, hb1⟩
  clear hrd
  have hu := u32_any hR (wbytes_bys _) (by rw [wbytes_len]; simp)
  rw [show (0 : Nat) = 4 * 0 from rfl, came_word (ws := [ws.getD 0 0]) (k := 0) (by simp), show ([ws.getD 0 0] : List Nat).getD 0 0 = ws.length from H.out.1.first, pile_word (by have := HB.out.2; omega)] at hu
  have HR := Lib.hid (And.intro hr (And.intro hR hb1))
  have hmh := fun w' => mayhave_any ((ws.length : Nat) : Int) w'
  have hmv : (decide ((64 : Int) ≤ (ws.length : Int)) && decide ((ws.length : Int) ≤ 16384)) = true := by have := HB.out; simp; omega
  rw [hmv] at hmh
  have hw1 : IntKind.u64.wrap (4 * ((ws.length : Nat) : Int)) = ((len : Nat) : Int) := wrap_u64 H.out.2.1 HB.out.2
  have hw2 : IntKind.u64.wrap ((ws.length : Nat) : Int) = ((ws.length : Nat) : Int) := wrap_u64s (by have := HB.out.2; omega)
  have hw3 : IntKind.u64.wrap ((len : Nat) : Int) = ((len : Nat) : Int) := wrap_u64s (by have := HB.out.2; have := H.out.2.1; omega)
  have d3 : decide (((len : Nat) : Int) < ((len : Nat) : Int)) = false := by simp
  have hw5 : wrap64 ((ws.length : Nat) : Int) = ((ws.length : Nat) : Int) := w64s (by have := HB.out; omega)
  clear hr hR hb1 hmv
  go_wp2_with fail
  refine hu.mono ?_
  rintro e w2 ⟨rfl, hA⟩
  clear hu
  have hb2 : Below w.heap.size w w2 := hA.below HR.out.2.2 HR.out.2.2.size (Nat.le_of_lt HR.out.1)
  clear hA
  go_wp2_with fail
  refine (hmh w2).mono ?_
  rintro e w3 ⟨rfl, rfl⟩
  have hwo := wordsof_any (some ⟨b, 0, none⟩) len cap ws.length ws rfl (by rw [H.out.2.1]) HB.out.2 H.out.1.sml w2 (H.out.2.2.2.kept hb2)
  have H2 := Lib.hid hb2
  clear hb2 hmh
  go_wp2_with fail
  refine hwo.mono ?_
  rintro e w4 ⟨pp, rfl, hp4, hW4, hb4⟩
  clear hwo
  have hov := over_any pp ws.length HB.out.2 w4
  have H4 := Lib.hid (And.intro hp4 (And.intro hW4 hb4))
  clear hp4 hW4 hb4
  go_wp2_with fail
  refine hov.mono ?_
  rintro e w5 ⟨rfl, h5⟩
  clear hov
  have hl4 : w2.heap.size ≤ w4.heap.size := H4.out.2.2.size
  have hl2 := H2.out.size
  have hpl := H4.out.2.1.lt
  obtain ⟨g, hg⟩ : ∃ g, w4.heap.size + 1 = g := ⟨_, rfl⟩
  have k5 : Below w4.heap.size w4 w5 := by rw [h5]; exact ((Below.refl _ _).alloc (Nat.le_refl _) _).alloc (by simp) _
  have A5 : Ar w5 g pp w4.heap.size ws (List.replicate ws.length false) := by
    refine ⟨?_, ?_, ?_, by simp, HB.out.1, HB.out.2, H.out.1.sml⟩
    · have := Blk.new (w4.alloc (.cells (bcs (List.replicate ws.length false)) 4)) 65 #[.slice (some ⟨pp, 0, none⟩) ws.length ws.length, .slice (some ⟨w4.heap.size, 0, none⟩) ws.length ws.length]
      rw [World.size_alloc, hg] at this
      rw [h5]; exact this
    · rw [h5]; exact (H4.out.2.1.alloc _).alloc _
    · rw [h5]; exact (Blk.new w4 _ _).alloc _
  have b5 : Below w.heap.size w w5 := H2.out.trans ((H4.out.2.2.trans (k5.mono hl4)).mono hl2)
  have hib := hno A5
  have H5 := Lib.hid (And.intro b5 (And.intro hl4 hl2))
  rw [hg]
  clear h5 hpl hl4 hl2 k5 A5 b5 hw1 hw2 hw3 d1 d2 d3 h4c h4i
  go_wp2_with fail
  refine hib.mono ?_
  rintro e w6 ⟨rfl, k6⟩
  clear hib
  have b6 : Below w.heap.size w w6 := H5.out.1.trans ⟨k6.os, k6.tape, k6.output, k6.size, fun k hk => k6.block k (by have := H5.out.1.size; omega) (by simp; have := H5.out.2; omega)⟩
  go_wp2_with fail
  go_ret2
  exact ⟨rfl, b6⟩
set_option maxRecDepth 100000 in
set_option maxHeartbeats 4000000 in
theorem decode_no2 {ws : List Nat} {B : List Bl} (h : Sz ws) (hC : Chain ws 16 B) (he : ws.getD 15 0 ≤ ws.length) (h16 : 16 ≤ ws.getD 15 0) (hz : ∀ i, ws.getD 15 0 ≤ i → i < ws.length → ws.getD i 0 = 0) (hno : ∀ {w : World} {g p q : Nat}, Ar w g p q ws (begK B ws.length B.length) → Calls Try.prog 44 #[.pointer (some ⟨g, 0, none⟩)] w fun e w' => e = .returned (.bool false) ∧ Kept [] w w') (b len cap : Nat) (hl : len = 4 * ws.length) (hcap : len ≤ cap) (w : World) (hL : Lies w (some ⟨b, 0, none⟩) (wbytes ws)) :
    Calls Try.prog 9 #[.slice (some ⟨b, 0, none⟩) len cap] w fun e w' => e = .returned (.tuple #[.pointer none, .int .i64 160]) ∧ Below w.heap.size w w' := by
  have hlo := h.lo
  have hhi := h.hi
  have hrd := read_any (some ⟨b, 0, none⟩) 4 cap (wbytes [ws.getD 0 0]) w (by rw [wbytes_len]; rfl) (by omega) (by rw [← wbytes_first (by omega)]; exact lies_pre hL 4)
  have d1 : decide (((len : Nat) : Int) < 64) = false := decide_eq_false (by omega)
  have d2 : decide (len < 64) = false := decide_eq_false (by omega)
  have h4c : 4 ≤ cap := by omega
  have h4i : (4 : Int) ≤ (cap : Int) := by omega
  have H := Lib.hid (And.intro h (And.intro hl (And.intro hcap hL)))
  clear h hl hcap hL
  have HB := Lib.hid (And.intro hlo hhi)
  clear hlo hhi
  go_enter Try.func9, Try.ntmps9
  go_wp2_with fail
  refine hrd.mono ?_
  rintro e w1 ⟨r, rfl, hr, hR, hb1⟩
  clear hrd
  have hu := u32_any hR (wbytes_bys _) (by rw [wbytes_len]; simp)
  rw [show (0 : Nat) = 4 * 0 from rfl, came_word (ws := [ws.getD 0 0]) (k := 0) (by simp), show ([ws.getD 0 0] : List Nat).getD 0 0 = ws.length from H.out.1.first, pile_word (by have := HB.out.2; omega)] at hu
  have HR := Lib.hid (And.intro hr (And.intro hR hb1))
  have hmh := fun w' => mayhave_any ((ws.length : Nat) : Int) w'
  have hmv : (decide ((64 : Int) ≤ (ws.length : Int)) && decide ((ws.length : Int) ≤ 16384)) = true := by have := HB.out; simp; omega
  rw [hmv] at hmh
  have hw1 : IntKind.u64.wrap (4 * ((ws.length : Nat) : Int)) = ((len : Nat) : Int) := wrap_u64 H.out.2.1 HB.out.2
  have hw2 : IntKind.u64.wrap ((ws.length : Nat) : Int) = ((ws.length : Nat) : Int) := wrap_u64s (by have := HB.out.2; omega)
  have hw3 : IntKind.u64.wrap ((len : Nat) : Int) = ((len : Nat) : Int) := wrap_u64s (by have := HB.out.2; have := H.out.2.1; omega)
  have d3 : decide (((len : Nat) : Int) < ((len : Nat) : Int)) = false := by simp
  have hw5 : wrap64 ((ws.length : Nat) : Int) = ((ws.length : Nat) : Int) := w64s (by have := HB.out; omega)
  clear hr hR hb1 hmv
  go_wp2_with fail
  refine hu.mono ?_
  rintro e w2 ⟨rfl, hA⟩
  clear hu
  have hb2 : Below w.heap.size w w2 := hA.below HR.out.2.2 HR.out.2.2.size (Nat.le_of_lt HR.out.1)
  clear hA
  go_wp2_with fail
  refine (hmh w2).mono ?_
  rintro e w3 ⟨rfl, rfl⟩
  have hwo := wordsof_any (some ⟨b, 0, none⟩) len cap ws.length ws rfl (by rw [H.out.2.1]) HB.out.2 H.out.1.sml w2 (H.out.2.2.2.kept hb2)
  have H2 := Lib.hid hb2
  clear hb2 hmh
  go_wp2_with fail
  refine hwo.mono ?_
  rintro e w4 ⟨pp, rfl, hp4, hW4, hb4⟩
  clear hwo
  have hov := over_any pp ws.length HB.out.2 w4
  have H4 := Lib.hid (And.intro hp4 (And.intro hW4 hb4))
  clear hp4 hW4 hb4
  go_wp2_with fail
  refine hov.mono ?_
  rintro e w5 ⟨rfl, h5⟩
  clear hov
  have hl4 : w2.heap.size ≤ w4.heap.size := H4.out.2.2.size
  have hl2 := H2.out.size
  have hpl := H4.out.2.1.lt
  obtain ⟨g, hg⟩ : ∃ g, w4.heap.size + 1 = g := ⟨_, rfl⟩
  have k5 : Below w4.heap.size w4 w5 := by rw [h5]; exact ((Below.refl _ _).alloc (Nat.le_refl _) _).alloc (by simp) _
  have A5 : Ar w5 g pp w4.heap.size ws (List.replicate ws.length false) := by
    refine ⟨?_, ?_, ?_, by simp, HB.out.1, HB.out.2, H.out.1.sml⟩
    · have := Blk.new (w4.alloc (.cells (bcs (List.replicate ws.length false)) 4)) 65 #[.slice (some ⟨pp, 0, none⟩) ws.length ws.length, .slice (some ⟨w4.heap.size, 0, none⟩) ws.length ws.length]
      rw [World.size_alloc, hg] at this
      rw [h5]; exact this
    · rw [h5]; exact (H4.out.2.1.alloc _).alloc _
    · rw [h5]; exact (Blk.new w4 _ _).alloc _
  have b5 : Below w.heap.size w w5 := H2.out.trans ((H4.out.2.2.trans (k5.mono hl4)).mono hl2)
  have hib := inblocks_any A5 rfl hC he h16 hz
  have H5 := Lib.hid (And.intro b5 (And.intro hl4 hl2))
  rw [hg]
  clear h5 hpl hl4 hl2 k5 A5 b5 hw1 hw2 hw3 d1 d2 d3 h4c h4i
  go_wp2_with fail
  refine hib.mono ?_
  rintro e w6 ⟨rfl, A6, k6⟩
  clear hib
  have hil := hno A6
  have b6 : Below w.heap.size w w6 := H5.out.1.trans ⟨k6.os, k6.tape, k6.output, k6.size, fun k hk => k6.block k (by have := H5.out.1.size; omega) (by simp; have := H5.out.2; omega)⟩
  have H6 := Lib.hid b6
  clear A6 k6 b6
  go_wp2_with fail
  refine hil.mono ?_
  rintro e w7 ⟨rfl, k7⟩
  clear hil
  have b7 : Below w.heap.size w w7 := H6.out.trans ⟨k7.os, k7.tape, k7.output, k7.size, fun k hk => k7.block k (by have := H6.out.size; omega) (by simp)⟩
  go_wp2_with fail
  go_ret2
  exact ⟨rfl, b7⟩
set_option maxRecDepth 100000 in
set_option maxHeartbeats 4000000 in
theorem decode_no3 {ws : List Nat} {B : List Bl} {L : Nat → List Nat} (h : Sz ws) (hC : Chain ws 16 B) (he : ws.getD 15 0 ≤ ws.length) (h16 : 16 ≤ ws.getD 15 0) (hz : ∀ i, ws.getD 15 0 ≤ i → i < ws.length → ws.getD i 0 = 0)
    (hF : Fl ws (begK B ws.length B.length) L) (hfree : ∀ b ∈ B, b.t = false → b.x ∈ L b.c) (hnt : ∀ b ∈ B, b.t = false → ∀ i, b.x < i → i < b.x + 2 ^ b.c → ws.getD i 0 = 0) (h0 : ((ws.getD 5 0 : Nat) : Int) ≠ 0) (h4 : No ws (begK B ws.length B.length) ((ws.getD 5 0 : Nat) : Int)) (b len cap : Nat) (hl : len = 4 * ws.length) (hcap : len ≤ cap) (w : World) (hL : Lies w (some ⟨b, 0, none⟩) (wbytes ws)) :
    Calls Try.prog 9 #[.slice (some ⟨b, 0, none⟩) len cap] w fun e w' => e = .returned (.tuple #[.pointer none, .int .i64 160]) ∧ Below w.heap.size w w' := by
  have hlo := h.lo
  have hhi := h.hi
  have hrd := read_any (some ⟨b, 0, none⟩) 4 cap (wbytes [ws.getD 0 0]) w (by rw [wbytes_len]; rfl) (by omega) (by rw [← wbytes_first (by omega)]; exact lies_pre hL 4)
  have d1 : decide (((len : Nat) : Int) < 64) = false := decide_eq_false (by omega)
  have d2 : decide (len < 64) = false := decide_eq_false (by omega)
  have h4c : 4 ≤ cap := by omega
  have h4i : (4 : Int) ≤ (cap : Int) := by omega
  have H := Lib.hid (And.intro h (And.intro hl (And.intro hcap hL)))
  clear h hl hcap hL
  have HB := Lib.hid (And.intro hlo hhi)
  clear hlo hhi
  go_enter Try.func9, Try.ntmps9
  go_wp2_with fail
  refine hrd.mono ?_
  rintro e w1 ⟨r, rfl, hr, hR, hb1⟩
  clear hrd
  have hu := u32_any hR (wbytes_bys _) (by rw [wbytes_len]; simp)
  rw [show (0 : Nat) = 4 * 0 from rfl, came_word (ws := [ws.getD 0 0]) (k := 0) (by simp), show ([ws.getD 0 0] : List Nat).getD 0 0 = ws.length from H.out.1.first, pile_word (by have := HB.out.2; omega)] at hu
  have HR := Lib.hid (And.intro hr (And.intro hR hb1))
  have hmh := fun w' => mayhave_any ((ws.length : Nat) : Int) w'
  have hmv : (decide ((64 : Int) ≤ (ws.length : Int)) && decide ((ws.length : Int) ≤ 16384)) = true := by have := HB.out; simp; omega
  rw [hmv] at hmh
  have hw1 : IntKind.u64.wrap (4 * ((ws.length : Nat) : Int)) = ((len : Nat) : Int) := wrap_u64 H.out.2.1 HB.out.2
  have hw2 : IntKind.u64.wrap ((ws.length : Nat) : Int) = ((ws.length : Nat) : Int) := wrap_u64s (by have := HB.out.2; omega)
  have hw3 : IntKind.u64.wrap ((len : Nat) : Int) = ((len : Nat) : Int) := wrap_u64s (by have := HB.out.2; have := H.out.2.1; omega)
  have d3 : decide (((len : Nat) : Int) < ((len : Nat) : Int)) = false := by simp
  have hw5 : wrap64 ((ws.length : Nat) : Int) = ((ws.length : Nat) : Int) := w64s (by have := HB.out; omega)
  clear hr hR hb1 hmv
  go_wp2_with fail
  refine hu.mono ?_
  rintro e w2 ⟨rfl, hA⟩
  clear hu
  have hb2 : Below w.heap.size w w2 := hA.below HR.out.2.2 HR.out.2.2.size (Nat.le_of_lt HR.out.1)
  clear hA
  go_wp2_with fail
  refine (hmh w2).mono ?_
  rintro e w3 ⟨rfl, rfl⟩
  have hwo := wordsof_any (some ⟨b, 0, none⟩) len cap ws.length ws rfl (by rw [H.out.2.1]) HB.out.2 H.out.1.sml w2 (H.out.2.2.2.kept hb2)
  have H2 := Lib.hid hb2
  clear hb2 hmh
  go_wp2_with fail
  refine hwo.mono ?_
  rintro e w4 ⟨pp, rfl, hp4, hW4, hb4⟩
  clear hwo
  have hov := over_any pp ws.length HB.out.2 w4
  have H4 := Lib.hid (And.intro hp4 (And.intro hW4 hb4))
  clear hp4 hW4 hb4
  go_wp2_with fail
  refine hov.mono ?_
  rintro e w5 ⟨rfl, h5⟩
  clear hov
  have hl4 : w2.heap.size ≤ w4.heap.size := H4.out.2.2.size
  have hl2 := H2.out.size
  have hpl := H4.out.2.1.lt
  obtain ⟨g, hg⟩ : ∃ g, w4.heap.size + 1 = g := ⟨_, rfl⟩
  have k5 : Below w4.heap.size w4 w5 := by rw [h5]; exact ((Below.refl _ _).alloc (Nat.le_refl _) _).alloc (by simp) _
  have A5 : Ar w5 g pp w4.heap.size ws (List.replicate ws.length false) := by
    refine ⟨?_, ?_, ?_, by simp, HB.out.1, HB.out.2, H.out.1.sml⟩
    · have := Blk.new (w4.alloc (.cells (bcs (List.replicate ws.length false)) 4)) 65 #[.slice (some ⟨pp, 0, none⟩) ws.length ws.length, .slice (some ⟨w4.heap.size, 0, none⟩) ws.length ws.length]
      rw [World.size_alloc, hg] at this
      rw [h5]; exact this
    · rw [h5]; exact (H4.out.2.1.alloc _).alloc _
    · rw [h5]; exact (Blk.new w4 _ _).alloc _
  have b5 : Below w.heap.size w w5 := H2.out.trans ((H4.out.2.2.trans (k5.mono hl4)).mono hl2)
  have hib := inblocks_any A5 rfl hC he h16 hz
  have H5 := Lib.hid (And.intro b5 (And.intro hl4 hl2))
  rw [hg]
  clear h5 hpl hl4 hl2 k5 A5 b5 hw1 hw2 hw3 d1 d2 d3 h4c h4i
  go_wp2_with fail
  refine hib.mono ?_
  rintro e w6 ⟨rfl, A6, k6⟩
  clear hib
  have hil := inlists_any A6 hF hC he hfree hnt
  have b6 : Below w.heap.size w w6 := H5.out.1.trans ⟨k6.os, k6.tape, k6.output, k6.size, fun k hk => k6.block k (by have := H5.out.1.size; omega) (by simp; have := H5.out.2; omega)⟩
  have H6 := Lib.hid b6
  clear A6 k6 b6
  go_wp2_with fail
  refine hil.mono ?_
  rintro e w7 ⟨rfl, A7, k7⟩
  clear hil
  have b7 : Below w.heap.size w w7 := H6.out.trans ⟨k7.os, k7.tape, k7.output, k7.size, fun k hk => k7.block k (by have := H6.out.size; omega) (by simp)⟩
  have l5 := lead_no A7 _ h0 h4
  have hs5 := word_sm H.out.1.sml 5
  have hs6 := word_sm H.out.1.sml 6
  have c0 := A7.c0
  have c5 := A7.word (i := 5) (by have := HB.out.1; omega)
  have H7 := Lib.hid (And.intro A7 (And.intro b7 True.intro))
  have c6 := A7.word (i := 6) (by have := HB.out.1; omega)
  clear A7 b7 k7 h0 h4
  generalize ws.getD 5 0 = x5 at *
  generalize ws.getD 6 0 = x6 at *
  have hw5 : wrap64 (x5 : Int) = (x5 : Int) := wrap_u32s hs5
  have hw6 : wrap64 (x6 : Int) = (x6 : Int) := wrap_u32s hs6
  have hlen := HB.out.1
  have e5 : (5 : Nat) < ws.length := by omega
  have e6 : (6 : Nat) < ws.length := by omega
  have e5i : (5 : Int) < (ws.length : Int) := by omega
  have e6i : (6 : Int) < (ws.length : Int) := by omega
  have HS := Lib.hid (And.intro hs5 (And.intro hs6 hlen))
  clear hs5 hs6 hlen
  go_wp2_with fail
  refine l5.mono ?_
  rintro e _ ⟨rfl, rfl⟩
  clear l5
  go_wp2_with fail
  go_ret2
  exact ⟨rfl, H7.out.2.1.trans (Below.refl _ _)⟩
set_option maxRecDepth 100000 in
set_option maxHeartbeats 4000000 in
theorem decode_no4 {ws : List Nat} {B : List Bl} {L : Nat → List Nat} (h : Sz ws) (hC : Chain ws 16 B) (he : ws.getD 15 0 ≤ ws.length) (h16 : 16 ≤ ws.getD 15 0) (hz : ∀ i, ws.getD 15 0 ≤ i → i < ws.length → ws.getD i 0 = 0)
    (hF : Fl ws (begK B ws.length B.length) L) (hfree : ∀ b ∈ B, b.t = false → b.x ∈ L b.c) (hnt : ∀ b ∈ B, b.t = false → ∀ i, b.x < i → i < b.x + 2 ^ b.c → ws.getD i 0 = 0) (h4 : Lead ws (begK B ws.length B.length) ((ws.getD 5 0 : Nat) : Int)) (h0 : ((ws.getD 6 0 : Nat) : Int) ≠ 0) (h6 : No ws (begK B ws.length B.length) ((ws.getD 6 0 : Nat) : Int)) (b len cap : Nat) (hl : len = 4 * ws.length) (hcap : len ≤ cap) (w : World) (hL : Lies w (some ⟨b, 0, none⟩) (wbytes ws)) :
    Calls Try.prog 9 #[.slice (some ⟨b, 0, none⟩) len cap] w fun e w' => e = .returned (.tuple #[.pointer none, .int .i64 160]) ∧ Below w.heap.size w w' := by
  have hlo := h.lo
  have hhi := h.hi
  have hrd := read_any (some ⟨b, 0, none⟩) 4 cap (wbytes [ws.getD 0 0]) w (by rw [wbytes_len]; rfl) (by omega) (by rw [← wbytes_first (by omega)]; exact lies_pre hL 4)
  have d1 : decide (((len : Nat) : Int) < 64) = false := decide_eq_false (by omega)
  have d2 : decide (len < 64) = false := decide_eq_false (by omega)
  have h4c : 4 ≤ cap := by omega
  have h4i : (4 : Int) ≤ (cap : Int) := by omega
  have H := Lib.hid (And.intro h (And.intro hl (And.intro hcap hL)))
  clear h hl hcap hL
  have HB := Lib.hid (And.intro hlo hhi)
  clear hlo hhi
  go_enter Try.func9, Try.ntmps9
  go_wp2_with fail
  refine hrd.mono ?_
  rintro e w1 ⟨r, rfl, hr, hR, hb1⟩
  clear hrd
  have hu := u32_any hR (wbytes_bys _) (by rw [wbytes_len]; simp)
  rw [show (0 : Nat) = 4 * 0 from rfl, came_word (ws := [ws.getD 0 0]) (k := 0) (by simp), show ([ws.getD 0 0] : List Nat).getD 0 0 = ws.length from H.out.1.first, pile_word (by have := HB.out.2; omega)] at hu
  have HR := Lib.hid (And.intro hr (And.intro hR hb1))
  have hmh := fun w' => mayhave_any ((ws.length : Nat) : Int) w'
  have hmv : (decide ((64 : Int) ≤ (ws.length : Int)) && decide ((ws.length : Int) ≤ 16384)) = true := by have := HB.out; simp; omega
  rw [hmv] at hmh
  have hw1 : IntKind.u64.wrap (4 * ((ws.length : Nat) : Int)) = ((len : Nat) : Int) := wrap_u64 H.out.2.1 HB.out.2
  have hw2 : IntKind.u64.wrap ((ws.length : Nat) : Int) = ((ws.length : Nat) : Int) := wrap_u64s (by have := HB.out.2; omega)
  have hw3 : IntKind.u64.wrap ((len : Nat) : Int) = ((len : Nat) : Int) := wrap_u64s (by have := HB.out.2; have := H.out.2.1; omega)
  have d3 : decide (((len : Nat) : Int) < ((len : Nat) : Int)) = false := by simp
  have hw5 : wrap64 ((ws.length : Nat) : Int) = ((ws.length : Nat) : Int) := w64s (by have := HB.out; omega)
  clear hr hR hb1 hmv
  go_wp2_with fail
  refine hu.mono ?_
  rintro e w2 ⟨rfl, hA⟩
  clear hu
  have hb2 : Below w.heap.size w w2 := hA.below HR.out.2.2 HR.out.2.2.size (Nat.le_of_lt HR.out.1)
  clear hA
  go_wp2_with fail
  refine (hmh w2).mono ?_
  rintro e w3 ⟨rfl, rfl⟩
  have hwo := wordsof_any (some ⟨b, 0, none⟩) len cap ws.length ws rfl (by rw [H.out.2.1]) HB.out.2 H.out.1.sml w2 (H.out.2.2.2.kept hb2)
  have H2 := Lib.hid hb2
  clear hb2 hmh
  go_wp2_with fail
  refine hwo.mono ?_
  rintro e w4 ⟨pp, rfl, hp4, hW4, hb4⟩
  clear hwo
  have hov := over_any pp ws.length HB.out.2 w4
  have H4 := Lib.hid (And.intro hp4 (And.intro hW4 hb4))
  clear hp4 hW4 hb4
  go_wp2_with fail
  refine hov.mono ?_
  rintro e w5 ⟨rfl, h5⟩
  clear hov
  have hl4 : w2.heap.size ≤ w4.heap.size := H4.out.2.2.size
  have hl2 := H2.out.size
  have hpl := H4.out.2.1.lt
  obtain ⟨g, hg⟩ : ∃ g, w4.heap.size + 1 = g := ⟨_, rfl⟩
  have k5 : Below w4.heap.size w4 w5 := by rw [h5]; exact ((Below.refl _ _).alloc (Nat.le_refl _) _).alloc (by simp) _
  have A5 : Ar w5 g pp w4.heap.size ws (List.replicate ws.length false) := by
    refine ⟨?_, ?_, ?_, by simp, HB.out.1, HB.out.2, H.out.1.sml⟩
    · have := Blk.new (w4.alloc (.cells (bcs (List.replicate ws.length false)) 4)) 65 #[.slice (some ⟨pp, 0, none⟩) ws.length ws.length, .slice (some ⟨w4.heap.size, 0, none⟩) ws.length ws.length]
      rw [World.size_alloc, hg] at this
      rw [h5]; exact this
    · rw [h5]; exact (H4.out.2.1.alloc _).alloc _
    · rw [h5]; exact (Blk.new w4 _ _).alloc _
  have b5 : Below w.heap.size w w5 := H2.out.trans ((H4.out.2.2.trans (k5.mono hl4)).mono hl2)
  have hib := inblocks_any A5 rfl hC he h16 hz
  have H5 := Lib.hid (And.intro b5 (And.intro hl4 hl2))
  rw [hg]
  clear h5 hpl hl4 hl2 k5 A5 b5 hw1 hw2 hw3 d1 d2 d3 h4c h4i
  go_wp2_with fail
  refine hib.mono ?_
  rintro e w6 ⟨rfl, A6, k6⟩
  clear hib
  have hil := inlists_any A6 hF hC he hfree hnt
  have b6 : Below w.heap.size w w6 := H5.out.1.trans ⟨k6.os, k6.tape, k6.output, k6.size, fun k hk => k6.block k (by have := H5.out.1.size; omega) (by simp; have := H5.out.2; omega)⟩
  have H6 := Lib.hid b6
  clear A6 k6 b6
  go_wp2_with fail
  refine hil.mono ?_
  rintro e w7 ⟨rfl, A7, k7⟩
  clear hil
  have b7 : Below w.heap.size w w7 := H6.out.trans ⟨k7.os, k7.tape, k7.output, k7.size, fun k hk => k7.block k (by have := H6.out.size; omega) (by simp)⟩
  have l5 := lead_ok A7 h4
  have hs5 := word_sm H.out.1.sml 5
  have hs6 := word_sm H.out.1.sml 6
  have c0 := A7.c0
  have c5 := A7.word (i := 5) (by have := HB.out.1; omega)
  have H7 := Lib.hid (And.intro A7 (And.intro b7 (fun n => lead_no (A7.drewN n) _ h0 h6)))
  have c6 := A7.word (i := 6) (by have := HB.out.1; omega)
  clear A7 b7 k7 h0 h4 h6
  generalize ws.getD 5 0 = x5 at *
  generalize ws.getD 6 0 = x6 at *
  have hw5 : wrap64 (x5 : Int) = (x5 : Int) := wrap_u32s hs5
  have hw6 : wrap64 (x6 : Int) = (x6 : Int) := wrap_u32s hs6
  have hlen := HB.out.1
  have e5 : (5 : Nat) < ws.length := by omega
  have e6 : (6 : Nat) < ws.length := by omega
  have e5i : (5 : Int) < (ws.length : Int) := by omega
  have e6i : (6 : Int) < (ws.length : Int) := by omega
  have HS := Lib.hid (And.intro hs5 (And.intro hs6 hlen))
  clear hs5 hs6 hlen
  go_wp2_with fail
  refine l5.mono ?_
  rintro e w8 ⟨rfl, n8, rfl⟩
  clear l5
  have l6 := H7.out.2.2 n8
  go_wp2_with fail
  refine l6.mono ?_
  rintro e _ ⟨rfl, rfl⟩
  clear l6
  go_wp2_with fail
  go_ret2
  exact ⟨rfl, H7.out.2.1.trans ⟨rfl, rfl, rfl, Nat.le_refl _, fun _ _ => rfl⟩⟩
end Go.Proofs.Ytgnpoehcmlmajaa
namespace Go.Proofs.Ytgnpoehcmlmajaa
open Go.RowKit Go.Shelf
set_option linter.unusedVariables false
attribute [local go_sem ↓] load_ra_rule store_ra_rule load_rb_rule store_rb_rule

/-- A frame: the arena in a box, the result's box behind it. -/
structure Fr (w W : World) (z lo : Nat) (bv : Value) (ls : Nat → Value) (vs : List Value) (M : Mo) : Prop where
  bx : Bx w W w.heap.size lo bv ls vs M
  zb : Blk W z 36 zeroRa
  sz : w.heap.size ≤ z
theorem fr_new {w : World} {lo : Nat} {bv : Value} {ls : Nat → Value} {vs : List Value} {M : Mo} (h : Rfa w lo bv ls vs M) : ∃ W, (w.alloc (.cells (M.vals bv ls) 36)).alloc (.cells #[.int .i64 0, .slice none 0 0, .slice none 0 0, .slice none 0 0, .slice none 0 0, .slice none 0 0, .slice none 0 0, .slice none 0 0, .int .u64 0, .int .u64 0, .int .i64 0, .int .i64 0, .int .u64 0] 36) = W ∧ Fr w W (w.heap.size + 1) lo bv ls vs M := by
  refine ⟨_, rfl, (bx_new h).later ((Below.refl _ _).alloc (Nat.le_refl _) _), ?_, by omega⟩
  have := Blk.new (w.alloc (.cells (M.vals bv ls) 36)) 36 zeroRa
  rw [show (w.alloc (.cells (M.vals bv ls) 36)).heap.size = w.heap.size + 1 by simp] at this
  exact this

section
variable {w W W' : World} {g z lo : Nat} {bv : Value} {ls : Nat → Value} {vs : List Value} {M : Mo}
/-- What is answered of an arena that is changed: it lies behind all. -/
def Ans (w w' : World) (v : Value) (M' : Mo) : Prop := ∃ bv' ls' vs', v = .agg (M'.vals bv' ls') ∧ Rfa w' w.heap.size bv' ls' vs' M' ∧ Below w.heap.size w w'
/-- The frame's end where nothing changed: the arena that came in is handed back. -/
theorem Fr.st (F : Fr w W z lo bv ls vs M) : (storeSem 36 (.pointer (some ⟨z, 0, none⟩)) (.agg (M.vals bv ls))).run Try.prog W = .ok () (W.setRow z (M.vals bv ls)) ∧ Blk (W.setRow z (M.vals bv ls)) z 36 (M.vals bv ls) ∧ Below w.heap.size w (W.setRow z (M.vals bv ls)) :=
  ⟨sra F.zb rfl rfl F.bx.rf.vals_one, F.zb.row _, below_setRow F.bx.hb F.sz _⟩
theorem Fr.later (F : Fr w W z lo bv ls vs M) (k : Below W.heap.size W W') : Bx w W' w.heap.size lo bv ls vs M ∧ Blk W' z 36 zeroRa :=
  ⟨F.bx.later k, F.zb.kept (Kept.of_below [] k) (by simp)⟩
theorem Fr.ans (F : Fr w W z lo bv ls vs M) {W4 : World} {bv' : Value} {ls' : Nat → Value} {vs' : List Value} {M' : Mo} (hR : Rfa W4 W.heap.size bv' ls' vs' M') (hb : Below W.heap.size W W4) :
    (storeSem 36 (.pointer (some ⟨z, 0, none⟩)) (.agg (M'.vals bv' ls'))).run Try.prog W4 = .ok () (W4.setRow z (M'.vals bv' ls')) ∧ Blk (W4.setRow z (M'.vals bv' ls')) z 36 (M'.vals bv' ls') ∧ Ans w (W4.setRow z (M'.vals bv' ls')) (.agg (M'.vals bv' ls')) M' := by
  have z4 := (F.later hb).2
  have hsz := F.sz
  have hzl := F.zb.lt
  have hws := F.bx.hb.size
  refine ⟨sra z4 rfl (Mo.vals_size _ _ _) hR.vals_one, z4.row _, bv', ls', vs', rfl, ?_, below_setRow (F.bx.later hb).hb (by omega) _⟩
  exact (hR.kept (S := [z]) ((Kept.refl _ _).setRow (.inl (by simp)) _) (by simp; omega)).mono (by omega)
theorem Mo.vals_gd (M : Mo) (bv : Value) (ls : Nat → Value) (y : Nat) : (M.vals bv ls).setIfInBounds 12 (.int .u64 (y : Int)) = ({ M with gd := y } : Mo).vals bv ls := by simp [Mo.vals]

set_option maxRecDepth 100000 in
set_option maxHeartbeats 1000000 in
theorem rraise_low (h : Rfa w lo bv ls vs M) (y : Nat) (hy : y < M.gd) : Calls Try.prog 28 #[.agg (M.vals bv ls), .int .u64 (y : Int)] w fun e w' => e = .returned (.tuple #[.agg (M.vals bv ls), .int .i64 161]) ∧ Below w.heap.size w w' := by
  obtain ⟨W, hW, F⟩ := fr_new h
  have c12 : W.cell? ⟨w.heap.size, 12, none⟩ = some (.int .u64 (M.gd : Int)) := F.bx.bx.cell 12
  have hl := F.bx.ld
  obtain ⟨hs, hbk, hbe⟩ := F.st
  have HF := Lib.hid (And.intro hbk (And.intro hbe (M.vals_size bv ls)))
  clear F hbk hbe h
  have hlt : (y : Int) < (M.gd : Int) := by omega
  generalize M.vals bv ls = V at *
  go_enter Try.func28, Try.ntmps28
  go_wp2_with fail
  refine bodyPost_ret (results_ra2 rfl _ _ (w.heap.size + 1) V rfl HF.out.1 HF.out.2.2) rfl ?_
  exact ⟨rfl, HF.out.2.1⟩
set_option maxRecDepth 100000 in
set_option maxHeartbeats 1000000 in
theorem rraise_yes (h : Rfa w lo bv ls vs M) (y : Nat) (hy : M.gd ≤ y) : Calls Try.prog 28 #[.agg (M.vals bv ls), .int .u64 (y : Int)] w fun e w' => ∃ v, e = .returned (.tuple #[v, .int .i64 0]) ∧ Ans w w' v { M with gd := y } := by
  obtain ⟨W, hW, F⟩ := fr_new h
  have c12 : W.cell? ⟨w.heap.size, 12, none⟩ = some (.int .u64 (M.gd : Int)) := F.bx.bx.cell 12
  have hl := F.bx.ld
  have hcp := rcopy_any F.bx.rf
  have HF := Lib.hid F
  clear F h
  have hlt : (M.gd : Int) ≤ (y : Int) := by omega
  obtain ⟨V, hV⟩ : ∃ V, M.vals bv ls = V := ⟨_, rfl⟩
  rw [hV] at hW hl hcp ⊢
  go_enter Try.func28, Try.ntmps28
  go_wp2_with fail
  refine hcp.mono ?_
  rintro e W' ⟨bv', ls', vs', rfl, hR, hb⟩
  clear hcp hl c12
  have hst := sra_new W' (M.vals_size bv' ls') hR.vals_one
  have b3 := Blk.new W' 36 (M.vals bv' ls')
  have c3 := b3.cell 12
  have f3 := b3.free 12
  have b4 := b3.set 12 (.int .u64 (y : Int))
  rw [M.vals_gd] at b4
  have hk4 : Below W'.heap.size W' ((W'.alloc (.cells (M.vals bv' ls') 36)).setCell ⟨W'.heap.size, 12, none⟩ (.int .u64 (y : Int))) := ((Below.refl _ _).alloc (Nat.le_refl _) _).setCell (Nat.le_refl _) _
  obtain ⟨W4, hW4⟩ : ∃ W4, (W'.alloc (.cells (M.vals bv' ls') 36)).setCell ⟨W'.heap.size, 12, none⟩ (.int .u64 (y : Int)) = W4 := ⟨_, rfl⟩
  rw [hW4] at b4 hk4
  have hR4 : Rfa W4 W.heap.size bv' ls' vs' { M with gd := y } := by
    have := hR.later hk4
    exact ⟨this.row, this.len, this.wds, this.apart, this.ok, this.uq, this.lst, this.few, this.fewl, this.small⟩
  have hl4 := lra b4 rfl
  have hbb := bel_later hb hk4
  obtain ⟨hs4, hbk, hans⟩ := HF.out.ans hR4 hbb
  have HX := Lib.hid (And.intro hbk hans)
  obtain ⟨V4, hV4⟩ : ∃ V4, ({ M with gd := y } : Mo).vals bv' ls' = V4 := ⟨_, rfl⟩
  rw [hV4] at hl4 hs4 b4 HX
  have c3' : (W'.alloc (.cells (M.vals bv' ls') 36)).cell? ⟨W'.heap.size, 12, none⟩ = some (.int .u64 (M.gd : Int)) := c3
  clear c3 b3 hR hk4 hbb b4 hb hR4 hbk hans
  generalize M.vals bv' ls' = V3 at *
  have h13 : V4.size = 13 := by rw [← hV4]; rfl
  have HV := Lib.hid h13
  clear h13
  go_wp2_with fail
  refine bodyPost_ret (results_ra2 rfl _ _ (w.heap.size + 1) V4 rfl HX.out.1 HV.out) rfl ?_
  exact ⟨_, rfl, HX.out.2⟩
end
end Go.Proofs.Ytgnpoehcmlmajaa
namespace Go.Proofs.Ytgnpoehcmlmajaa
open Go.RowKit Go.Shelf
set_option linter.unusedVariables false
attribute [local go_sem ↓] load_ra_rule store_ra_rule load_rb_rule store_rb_rule load_root_rule store_root_rule
section
variable {w W W' : World} {g z lo : Nat} {bv : Value} {ls : Nat → Value} {vs : List Value} {M : Mo}
theorem fr_pub (h : Rfa w lo bv ls vs M) (R : Array Value) : ∃ W, ((w.alloc (.cells (M.vals bv ls) 36)).alloc (.cells R 34)).alloc (.cells #[.int .i64 0, .slice none 0 0, .slice none 0 0, .slice none 0 0, .slice none 0 0, .slice none 0 0, .slice none 0 0, .slice none 0 0, .int .u64 0, .int .u64 0, .int .i64 0, .int .i64 0, .int .u64 0] 36) = W ∧ Fr w W (w.heap.size + 2) lo bv ls vs M ∧ Blk W (w.heap.size + 1) 34 R := by
  refine ⟨_, rfl, ⟨(bx_new h).later (((Below.refl _ _).alloc (Nat.le_refl _) _).alloc (by simp) _), ?_, by omega⟩, ?_⟩
  · have := Blk.new ((w.alloc (.cells (M.vals bv ls) 36)).alloc (.cells R 34)) 36 zeroRa
    rw [show ((w.alloc (.cells (M.vals bv ls) 36)).alloc (.cells R 34)).heap.size = w.heap.size + 2 by simp] at this
    exact this
  · have := Blk.new (w.alloc (.cells (M.vals bv ls) 36)) 34 R
    rw [show (w.alloc (.cells (M.vals bv ls) 36)).heap.size = w.heap.size + 1 by simp] at this
    exact this.alloc _
theorem Mo.vals_root (M : Mo) (bv : Value) (ls : Nat → Value) (v e : Nat) (a b : Int) : over (M.vals bv ls) 8 (rtcs v e a b) = ({ M with v := v, e := e, four := a, six := b } : Mo).vals bv ls := by
  simp [Mo.vals, rtcs, over, splice]
set_option maxRecDepth 100000 in
set_option maxHeartbeats 1000000 in
theorem rpub_fence (h : Rfa w lo bv ls vs M) (v e : Nat) (four six : Int) (he : e < M.gd) : Calls Try.prog 27 #[.agg (M.vals bv ls), .agg (rtcs v e four six)] w fun x w' => x = .returned (.tuple #[.agg (M.vals bv ls), .int .i64 161]) ∧ Below w.heap.size w w' := by
  obtain ⟨W, hW, F, hr⟩ := fr_pub h (rtcs v e four six)
  have c12 : W.cell? ⟨w.heap.size, 12, none⟩ = some (.int .u64 (M.gd : Int)) := F.bx.bx.cell 12
  have r1 : W.cell? ⟨w.heap.size + 1, 1, none⟩ = some (.int .u64 (e : Int)) := hr.cell 1
  have hl := F.bx.ld
  obtain ⟨hs, hbk, hbe⟩ := F.st
  have HF := Lib.hid (And.intro hbk (And.intro hbe (M.vals_size bv ls)))
  clear F hbk hbe h hr
  have hlt : (e : Int) < (M.gd : Int) := by omega
  generalize M.vals bv ls = V at *
  generalize rtcs v e four six = R at *
  go_enter Try.func27, Try.ntmps27
  go_wp2_with fail
  refine bodyPost_ret (results_ra2 rfl _ _ (w.heap.size + 2) V rfl HF.out.1 HF.out.2.2) rfl ?_
  exact ⟨rfl, HF.out.2.1⟩
set_option maxRecDepth 100000 in
set_option maxHeartbeats 1000000 in
theorem rpub_version (h : Rfa w lo bv ls vs M) (v e : Nat) (four six : Int) (he : M.gd ≤ e) (hvv : M.v < 18446744073709551616) (hv : v < 18446744073709551616) (hn : v = 0 ∨ v - 1 ≠ M.v) : Calls Try.prog 27 #[.agg (M.vals bv ls), .agg (rtcs v e four six)] w fun x w' => x = .returned (.tuple #[.agg (M.vals bv ls), .int .i64 162]) ∧ Below w.heap.size w w' := by
  obtain ⟨W, hW, F, hr⟩ := fr_pub h (rtcs v e four six)
  have c12 : W.cell? ⟨w.heap.size, 12, none⟩ = some (.int .u64 (M.gd : Int)) := F.bx.bx.cell 12
  have c8 : W.cell? ⟨w.heap.size, 8, none⟩ = some (.int .u64 (M.v : Int)) := F.bx.bx.cell 8
  have r1 : W.cell? ⟨w.heap.size + 1, 1, none⟩ = some (.int .u64 (e : Int)) := hr.cell 1
  have r0 : W.cell? ⟨w.heap.size + 1, 0, none⟩ = some (.int .u64 (v : Int)) := hr.cell 0
  have hl := F.bx.ld
  obtain ⟨hs, hbk, hbe⟩ := F.st
  have HF := Lib.hid (And.intro hbk (And.intro hbe (M.vals_size bv ls)))
  clear F hbk hbe h hr
  have hlt : (M.gd : Int) ≤ (e : Int) := by omega
  generalize M.vals bv ls = V at *
  generalize rtcs v e four six = R at *
  generalize M.gd = mg at *
  generalize M.v = mv at *
  rcases Nat.eq_zero_or_pos v with h0 | h0
  · subst h0
    clear hn
    go_enter Try.func27, Try.ntmps27
    go_wp2_with fail
    refine bodyPost_ret (results_ra2 rfl _ _ (w.heap.size + 2) V rfl HF.out.1 HF.out.2.2) rfl ?_
    exact ⟨rfl, HF.out.2.1⟩
  · have hz0 : ((v : Int) == 0) = false := by simp; omega
    have hw1 : IntKind.u64.wrap ((v : Int) - 1) = ((v - 1 : Nat) : Int) := by rw [IntKind.wrap_u64]; omega
    have hne : (((v - 1 : Nat) : Int) == (mv : Int)) = false := by simp; omega
    generalize v - 1 = v1 at *
    clear hn
    go_enter Try.func27, Try.ntmps27
    go_wp2_with fail
    refine bodyPost_ret (results_ra2 rfl _ _ (w.heap.size + 2) V rfl HF.out.1 HF.out.2.2) rfl ?_
    exact ⟨rfl, HF.out.2.1⟩
end
end Go.Proofs.Ytgnpoehcmlmajaa
