/-
  The contracts of sum.Seal32, split and Open32 and of the reference's Seal and Opens. Nothing here is a statement of the document.
-/
import Derived.Test.YtefmjmenejimhaaSumB
import Derived.Test.YtefmjmenejimhaaOctN
import Derived.Deep.RegionHeld3
namespace Go.Proofs.Ytefmjmenejimhaa
open Go.RowKit
set_option linter.unusedVariables false

set_option maxHeartbeats 400000 in
theorem seal_any (a : Option Addr) (len cap : Nat) (l : List Nat) (w : World) (hl : l.length = len) (hlm : len ≤ 140737488300000) (hB : Bys l) (hL : Lies w a l) :
    Calls Try.prog 15 #[.slice a len cap] w fun e w' => ∃ g, e = .returned (.slice (some ⟨g, 0, none⟩) (len + 4) (len + 4)) ∧ w.heap.size ≤ g ∧ Own w' g (l ++ highB (goS 1 l) 4) ∧ Below w.heap.size w w' := by
  have HN := Lib.hid hl
  have hv := goS_lt 1 l
  clear hl
  go_enter Try.func15, Try.ntmps15
  go_wp2_with fail
  refine (sum_any _ _ _ l _ HN.out (by omega) hB hL).mono ?_
  rintro e w1 ⟨rfl, hb⟩
  go_wp2_with fail
  refine (put32_any _ _ _ l (goS 1 l) _ HN.out (by omega) (hL.kept hb) (by omega)).mono ?_
  rintro e w2 ⟨rfl, hO, hb2⟩
  go_wp2_with fail
  go_ret
  exact ⟨_, rfl, hb.size, hO, hb.trans (hb2.mono hb.size)⟩

set_option maxHeartbeats 400000 in
theorem refseal_any (a : Option Addr) (len cap : Nat) (l : List Nat) (w : World) (hl : l.length = len) (hlm : len ≤ 140737488300000) (hB : Bys l) (hL : Lies w a l) :
    Calls Try.prog 17 #[.slice a len cap] w fun e w' => ∃ g, e = .returned (.slice (some ⟨g, 0, none⟩) (len + 4) (len + 4)) ∧ w.heap.size ≤ g ∧ Own w' g (l ++ highB (goS 1 l) 4) ∧ Below w.heap.size w w' := by
  have HN := Lib.hid hl
  have hv := goS_lt 1 l
  clear hl
  go_enter Try.func17, Try.ntmps17
  go_wp2_with fail
  refine (refsum_any _ _ _ l _ HN.out (by omega) hB hL).mono ?_
  rintro e w1 ⟨rfl, rfl⟩
  go_wp2_with fail
  refine (high_any (goS 1 l) 4 _ (by omega) (by omega) (by omega)).mono ?_
  rintro e w2 ⟨rfl, hO, hb⟩
  go_wp2_with fail
  refine (both_any _ _ _ _ _ _ l (highB (goS 1 l) 4) _ HN.out (length_highB _ _) (by omega) (by simp) (hL.kept hb) hO.lies).mono ?_
  rintro e w3 ⟨rfl, hO3, hb3⟩
  go_wp2_with fail
  go_ret
  exact ⟨_, rfl, hb.size, hO3, hb.trans (hb3.mono hb.size)⟩

/-- What the last four bytes say. -/
def saidS (l : List Nat) : Nat := pile 0 (l.drop (l.length - 4))
/-- What is ahead of the last four bytes. -/
def aheadS (l : List Nat) : List Nat := l.take (l.length - 4)

theorem pile4 (x : Nat) (hx : x < 4294967296) : pile 0 (highB x 4) = x := by
  simp [highB, List.range, List.range.loop, pile]
  omega
theorem pile4_lt (l : List Nat) (hB : Bys l) (h : l.length = 4) : pile 0 l < 4294967296 := by
  have h1 := valB_lt l hB
  rw [pile_zero l hB]
  rw [h] at h1
  exact Nat.lt_of_le_of_lt (Nat.mod_le _ _) h1
theorem high4 (l : List Nat) (hB : Bys l) (h : l.length = 4) : highB (pile 0 l) 4 = l := by
  have h1 := highB_valB l hB
  have h2 := valB_lt l hB
  rw [h] at h1 h2
  rw [pile_zero l hB, Nat.mod_eq_of_lt (by omega)]
  exact h1
theorem Bys.drop {l : List Nat} (h : Bys l) (k : Nat) : Bys (l.drop k) := fun n hn => h n (List.mem_of_mem_drop hn)
theorem Bys.take {l : List Nat} (h : Bys l) (k : Nat) : Bys (l.take k) := fun n hn => h n (List.mem_of_mem_take hn)
theorem Bys.append {l m : List Nat} (h : Bys l) (h2 : Bys m) : Bys (l ++ m) := fun n hn => by
  rcases List.mem_append.1 hn with h9 | h9
  · exact h n h9
  · exact h2 n h9
theorem Bys.set {l : List Nat} (h : Bys l) (k x : Nat) (hx : x < 256) : Bys (l.set k x) := fun n hn => by
  rcases List.mem_or_eq_of_mem_set hn with h9 | h9
  · exact h n h9
  · omega
theorem Lies.part {w : World} {b off : Nat} {l : List Nat} (h : Lies w (some ⟨b, off, none⟩) l) (o : Nat) : Lies w (some ⟨b, off + o, none⟩) (l.drop o) := by
  rcases h with rfl | ⟨b, off, h, hlt, hc⟩
  · exact .inl (by simp)
  · cases h
    refine .inr ⟨_, _, rfl, hlt, fun i hi => ?_⟩
    rw [List.length_drop] at hi
    have := hc (o + i) (by omega)
    rw [Nat.add_assoc, this]
    simp [List.getElem?_drop]
theorem Lies.ahead {w : World} {a : Option Addr} {l : List Nat} (h : Lies w a l) (o : Nat) : Lies w a (l.take o) := by
  rcases h with rfl | ⟨b, off, rfl, hlt, hc⟩
  · exact .inl (by simp)
  · refine .inr ⟨_, _, rfl, hlt, fun i hi => ?_⟩
    rw [List.length_take] at hi
    rw [hc i (by omega)]
    simp [List.getElem?_take, show i < o by omega]

set_option maxHeartbeats 800000 in
theorem split_any (g off len cap : Nat) (l : List Nat) (w : World) (hl : l.length = len) (h4 : 4 ≤ len) (hlm : len ≤ 140737488300000) (hc : len ≤ cap) (hcm : cap ≤ 9223372036854775807) (hB : Bys l) (hL : Lies w (some ⟨g, off, none⟩) l) :
    Calls Try.prog 24 #[.slice (some ⟨g, off, none⟩) len cap] w fun e w' => e = .returned (.tuple #[.slice (some ⟨g, off, none⟩) (len - 4) (len - 4), .int .u32 ((saidS l : Nat) : Int)]) ∧ Below w.heap.size w w' := by
  obtain ⟨n, rfl⟩ : ∃ n, len = n + 4 := ⟨len - 4, by omega⟩
  have hd : (l.drop n).length = 4 := by rw [List.length_drop]; omega
  have hLd : Lies w (some ⟨g, off + n, none⟩) (l.drop n) := hL.part n
  have hBd := hB.drop n
  have hs : saidS l = pile 0 (l.drop n) := by unfold saidS; rw [hl]; rfl
  have hp := pile4_lt _ hBd hd
  have hcame : came (l.drop n) 0 0 4 = l.drop n := by unfold came; rw [hd]; simp; rw [← hd, List.take_length]
  have q1 : ((n + 4 : Nat) : Int) - 4 = (n : Int) := by omega
  have q2 : (0 : Int) ≤ (n : Int) := by omega
  have q3 : (n : Int) ≤ (cap : Int) := by omega
  have q4 : (n : Int) ≤ (n : Int) := by omega
  have q5 : (n : Int) ≤ ((n + 4 : Nat) : Int) := by omega
  have q6 : (n : Int) ≤ (n : Int) + 4 := by omega
  have q9 : ¬ (cap = n) := by omega
  have q7 : ((n + 4 : Nat) : Int) ≤ (cap : Int) := by omega
  have q8 : (n : Int) + 4 ≤ (cap : Int) := by omega
  generalize l.drop n = L at *
  have HS := Lib.hid hs
  have HD := Lib.hid hd
  have HC := Lib.hid hcame
  clear hs hL hl hd hcame
  go_enter Try.func24, Try.ntmps24
  go_wp2
  go_region_held3 (fun w' => True) (trivial) (first | (go_at_call 27; (with_reducible refine (read_any _ 4 _ L _ HD.out (by omega) ?_).mono ?_); (exact hLd); rintro e w1 ⟨p, rfl, hp1, hR, hb1⟩) | (go_at_call 28; (with_reducible refine (u32_any (j := 0) (err := 0) (L := L) (g := w.heap.size) ?_ hBd (by have := HD.out; omega)).mono ?_); (first | exact hR | exact hR.below (Drawn.below ⟨_, rfl⟩ _)); rintro e w2 ⟨rfl, hA⟩; rw [HC.out] at *))
  have hb0 : Below w.heap.size w w1 := ((Below.refl w.heap.size w).drew).trans hb1
  have hbe : Below w.heap.size w w2 := hA.below hb0 hb0.size (Nat.le_of_lt hp1)
  have ep : ((pile 0 L : Nat) : Int) % 4294967296 = ((pile 0 L : Nat) : Int) := by omega
  clear hA hR
  rw [ep]
  go_wp2
  go_ret2
  exact ⟨by rw [HS.out]; rfl, hbe⟩

/-- What is opened: the bytes, or the error. -/
def openE (l : List Nat) : Int := if l.length < 4 then 7 else if goS 1 (aheadS l) = saidS l then 0 else 130

set_option maxHeartbeats 1600000 in
theorem open_fails (a : Option Addr) (len cap : Nat) (l : List Nat) (w : World) (hl : l.length = len) (hlm : len ≤ 140737488300000) (hc : len ≤ cap) (hcm : cap ≤ 9223372036854775807) (hB : Bys l) (hL : Lies w a l) (he : openE l ≠ 0) :
    Calls Try.prog 16 #[.slice a len cap] w fun e w' => e = .returned (.tuple #[.slice none 0 0, .int .i64 (openE l)]) ∧ Below w.heap.size w w' := by
  unfold openE at he ⊢
  by_cases h4 : l.length < 4
  · rw [if_pos h4]
    have q1 : (len : Int) < 4 := by omega
    have HN := Lib.hid hl
    clear hl he
    go_enter Try.func16, Try.ntmps16
    go_wp2
    go_ret2
    exact ⟨rfl, Below.refl _ _⟩
  · rw [if_neg h4] at he ⊢
    by_cases hs : goS 1 (aheadS l) = saidS l
    · rw [if_pos hs] at he; exact absurd rfl he
    · rw [if_neg hs]
      obtain ⟨g, off, rfl⟩ : ∃ g off, a = some ⟨g, off, none⟩ := by
        rcases hL with h0 | ⟨g, off, rfl, _⟩
        · rw [h0] at h4; simp at h4
        · exact ⟨g, off, rfl⟩
      have q1 : ¬ ((len : Int) < 4) := by omega
      have hsp := fun w h => split_any g off len cap l w hl (by omega) hlm hc hcm hB h
      have hLa := hL.ahead (len - 4)
      have hla : (aheadS l).length = len - 4 := by unfold aheadS; rw [List.length_take]; omega
      have ea : l.take (len - 4) = aheadS l := by unfold aheadS; rw [hl]
      rw [ea] at hLa
      have hBa : Bys (aheadS l) := by unfold aheadS; exact hB.take _
      have hne : (((goS 1 (aheadS l) : Nat) : Int) != ((saidS l : Nat) : Int)) = true := by rw [bne_iff_ne]; omega
      have HL := Lib.hid (And.intro hla hLa)
      generalize aheadS l = A at *
      generalize saidS l = sd at *
      clear hla hLa ea hs he h4
      go_enter Try.func16, Try.ntmps16
      go_wp2_with fail
      refine (hsp _ hL).mono ?_
      rintro e w1 ⟨rfl, hb1⟩
      go_wp2_with fail
      refine (sum_any _ _ _ A _ HL.out.1 (by omega) hBa (HL.out.2.kept hb1)).mono ?_
      rintro e w2 ⟨rfl, hb2⟩
      go_wp2_with fail
      go_ret2
      exact ⟨rfl, hb1.trans (hb2.mono hb1.size)⟩

set_option maxHeartbeats 1600000 in
theorem open_done (a : Option Addr) (len cap : Nat) (l : List Nat) (w : World) (hl : l.length = len) (hlm : len ≤ 140737488300000) (hc : len ≤ cap) (hcm : cap ≤ 9223372036854775807) (hB : Bys l) (hL : Lies w a l) (he : openE l = 0) :
    Calls Try.prog 16 #[.slice a len cap] w fun e w' => ∃ g, e = .returned (.tuple #[.slice (some ⟨g, 0, none⟩) (len - 4) (len - 4), .int .i64 0]) ∧ w.heap.size ≤ g ∧ Own w' g (aheadS l) ∧ Below w.heap.size w w' := by
  unfold openE at he
  by_cases h4 : l.length < 4
  · rw [if_pos h4] at he; exact absurd he (by decide)
  · rw [if_neg h4] at he
    by_cases hs : goS 1 (aheadS l) = saidS l
    · obtain ⟨g, off, rfl⟩ : ∃ g off, a = some ⟨g, off, none⟩ := by
        rcases hL with h0 | ⟨g, off, rfl, _⟩
        · rw [h0] at h4; simp at h4
        · exact ⟨g, off, rfl⟩
      have q1 : ¬ ((len : Int) < 4) := by omega
      have hsp := fun w h => split_any g off len cap l w hl (by omega) hlm hc hcm hB h
      have hLa := hL.ahead (len - 4)
      have hla : (aheadS l).length = len - 4 := by unfold aheadS; rw [List.length_take]; omega
      have ea : l.take (len - 4) = aheadS l := by unfold aheadS; rw [hl]
      rw [ea] at hLa
      have hBa : Bys (aheadS l) := by unfold aheadS; exact hB.take _
      generalize aheadS l = A at *
      generalize saidS l = sd at *
      subst hs
      have hne : (((goS 1 A : Nat) : Int) != ((goS 1 A : Nat) : Int)) = false := by simp
      generalize hn : len - 4 = n at *
      have hnm : n ≤ 140737488300000 := by omega
      have HL := Lib.hid (And.intro hla hLa)
      clear hla hLa ea he h4 hn hl
      obtain ⟨i0, hi, hz0, hz1, hz2⟩ := info_parts Try.info5
      have hmk := fun w => run_make (P := Try.prog) w 23 5 i0 (.int .u8 0) Try.underlying23 hi hz0 .i64 .i64 (n : Int) (n : Int) (by omega) (by omega) (by rw [hz2]; omega) (by omega)
      simp only [hz1, show (n : Int).toNat = n from by omega, Nat.mul_one, made_bytes] at hmk
      generalize hZ : (List.replicate n 0).map byc = Z at *
      have HZ := Lib.hid hZ
      clear hZ hi hz0 hz1 hz2
      obtain ⟨cs, hcs⟩ : ∃ cs, cs = A.map byc := ⟨_, rfl⟩
      have HC := Lib.hid hcs
      clear hcs
      go_enter Try.func16, Try.ntmps16
      go_wp2_with fail
      refine (hsp _ hL).mono ?_
      rintro e w1 ⟨rfl, hb1⟩
      have hL1 := HL.out.2.kept hb1
      go_wp2_with fail
      refine (sum_any _ _ _ A _ HL.out.1 (by omega) hBa hL1).mono ?_
      rintro e w2 ⟨rfl, hb2⟩
      have hL2 := hL1.kept hb2
      have hbb := hb1.trans (hb2.mono hb1.size)
      have hb3 : Below w2.heap.size w2 (w2.alloc (.cells Z.toArray 5)) := (Below.refl _ _).alloc (Nat.le_refl _) _
      clear hb1 hb2 hL1 hsp hL
      go_wp2_with (with_reducible refine wpList_copy_splice rfl (.tmp 22) (.tmp 23) 23 23 rfl 5 Try.underlying23 Try.size5 (some ⟨w2.heap.size, 0, none⟩) (some ⟨g, off, none⟩) n n n n rfl rfl w2.heap.size 0 Z 5 ?h1 cs ?h2 ?h3 ?h4 ?h5 w2.heap.size w2 hb3 (Nat.le_refl _) ?_)
      case h1 => exact heap_alloc_new w2 _
      case h2 =>
        rw [HC.out, List.length_map, HL.out.1]
        exact (Nat.min_self _).symm
      case h3 =>
        intro h0
        rw [HC.out] at h0 ⊢
        have hq := (hL2.alloc (.cells Z.toArray 5)).cells (by simpa using h0)
        obtain ⟨ad, e9, hq⟩ := hq
        cases e9
        intro j v hj
        have := hq j v hj
        rwa [Addr.add_lit] at this
      case h4 =>
        rw [HC.out, ← HZ.out]; simp [HL.out.1]
      case h5 => rw [HC.out]; exact byc_one A
      intro w3 HG3 hB3
      have hOwn : Own w3 w2.heap.size A := by
        have e := HG3.out
        have eN := HL.out.1
        subst eN
        rw [HC.out, ← HZ.out] at e
        have e3 := splice_bytes A 0
        simp only [Nat.add_zero, List.replicate_zero, List.append_nil] at e3
        rw [e3] at e
        exact e
      clear HG3
      go_wp2
      go_ret2
      exact ⟨_, rfl, hbb.size, hOwn, hbb.trans (hB3.mono hbb.size)⟩
    · rw [if_neg hs] at he; exact absurd he (by decide)

/-- Are these bytes sealed, by the document? -/
def opensB (l : List Nat) : Bool := decide (4 ≤ l.length) && (aheadS l ++ highB (goS 1 (aheadS l)) 4 == l)

theorem ahead_said (l : List Nat) (hB : Bys l) (h : 4 ≤ l.length) : l = aheadS l ++ highB (saidS l) 4 := by
  have := high4 (l.drop (l.length - 4)) (hB.drop _) (by rw [List.length_drop]; omega)
  unfold aheadS saidS
  rw [this, List.take_append_drop]
theorem opensB_iff (l : List Nat) (hB : Bys l) : opensB l = (openE l == 0) := by
  unfold opensB openE
  by_cases h : l.length < 4
  · rw [if_pos h]
    have : decide (4 ≤ l.length) = false := by simpa using h
    rw [this]; rfl
  · rw [if_neg h]
    have : decide (4 ≤ l.length) = true := by simpa using h
    rw [this, Bool.true_and]
    by_cases hs : goS 1 (aheadS l) = saidS l
    · rw [if_pos hs, hs, ← ahead_said l hB (by omega)]
      simp
    · rw [if_neg hs]
      have hne : aheadS l ++ highB (goS 1 (aheadS l)) 4 ≠ l := by
        intro e
        have e2 := ahead_said l hB (by omega)
        have e3 := e.trans e2
        have e4 := (List.append_inj' e3 (by rw [length_highB, length_highB])).2
        have h1 := goS_lt 1 (aheadS l)
        have h2 : saidS l < 4294967296 := pile4_lt _ (hB.drop _) (by rw [List.length_drop]; omega)
        have e5 := congrArg (pile 0) e4
        rw [pile4 _ (by omega), pile4 _ h2] at e5
        exact hs e5
      rw [beq_eq_false_iff_ne.2 hne]
      rfl

set_option maxHeartbeats 800000 in
theorem refopens_any (a : Option Addr) (len cap : Nat) (l : List Nat) (w : World) (hl : l.length = len) (h4 : 4 ≤ len) (hlm : len ≤ 140737488300000) (hc : len ≤ cap) (hcm : cap ≤ 9223372036854775807) (hB : Bys l) (hL : Lies w a l) :
    Calls Try.prog 18 #[.slice a len cap] w fun e w' => e = .returned (.bool (openE l == 0)) ∧ Below w.heap.size w w' := by
  obtain ⟨n, rfl⟩ : ∃ n, len = n + 4 := ⟨len - 4, by omega⟩
  have hLa := hL.ahead n
  have ea : l.take n = aheadS l := by unfold aheadS; rw [hl]; rfl
  have hla : (aheadS l).length = n := by unfold aheadS; rw [List.length_take]; omega
  have hBa : Bys (aheadS l) := by unfold aheadS; exact hB.take _
  rw [ea] at hLa
  have ho : (openE l == 0) = (aheadS l ++ highB (goS 1 (aheadS l)) 4 == l) := by
    rw [← opensB_iff l hB]
    unfold opensB
    have : decide (4 ≤ l.length) = true := by simp; omega
    rw [this, Bool.true_and]
  rw [ho]
  have HN := Lib.hid hl
  have q0 : (4 : Int) ≤ ((n + 4 : Nat) : Int) := by omega
  have q0' : (4 : Int) ≤ (n : Int) + 4 := by omega
  have q1 : ((n + 4 : Nat) : Int) - 4 = (n : Int) := by omega
  have q2 : (0 : Int) ≤ (n : Int) := by omega
  have q3 : (n : Int) ≤ (cap : Int) := by omega
  generalize aheadS l = A at *
  have HL := Lib.hid (And.intro hla hLa)
  clear ea ho hla hLa hl
  go_enter Try.func18, Try.ntmps18
  go_wp2_with fail
  refine (refseal_any _ _ _ A _ HL.out.1 (by omega) hBa HL.out.2).mono ?_
  rintro e w1 ⟨g, rfl, hg, hO, hb⟩
  go_wp2_with fail
  refine (same_any _ _ _ _ _ _ (A ++ highB (goS 1 A) 4) l _ (by rw [List.length_append, length_highB, HL.out.1]) HN.out (by omega) (by omega) hO.lies (hL.kept hb)).mono ?_
  rintro e w2 ⟨rfl, hD⟩
  go_wp2_with fail
  go_ret
  exact ⟨rfl, hb.trans (hD.below _)⟩
end Go.Proofs.Ytefmjmenejimhaa
