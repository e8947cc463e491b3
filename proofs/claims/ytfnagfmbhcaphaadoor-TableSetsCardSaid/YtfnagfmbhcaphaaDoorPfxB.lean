/-
  The contracts of prefix.Width, within, filled, kept and of the reference's Width and at. Nothing here is a statement of the document.
-/
import Derived.Test.YtfnagfmbhcaphaaDoorPfxA
import Derived.Laws.Rows
namespace Go.Proofs.YtfnagfmbhcaphaaDoor
open Go.RowKit
set_option linter.unusedVariables false
set_option maxRecDepth 100000

theorem bel_trans {w a b : World} (h : Below w.heap.size w a) (k : Below a.heap.size a b) : Below w.heap.size w b := h.trans (k.mono h.size)
theorem bel_drew {w a : World} {B : Nat} (h : Below B w a) : Below B w a.drew := ⟨h.os, h.tape, h.output, h.size, h.block⟩

theorem cell_lt {w : World} {p : Addr} {v : Value} (h : w.cell? p = some v) : p.block < w.heap.size := by
  obtain ⟨b, o, s⟩ := p
  rcases Nat.lt_or_ge b w.heap.size with h1 | h1
  · exact h1
  · unfold World.cell? at h
    rw [Array.getElem?_eq_none h1] at h
    cases s <;> simp at h
theorem td (n k : Nat) : ((n : Int)).tdiv (k : Int) = ((n / k : Nat) : Int) := by rw [Int.tdiv_eq_ediv_of_nonneg (by omega)]; simp
theorem tm (n k : Nat) : ((n : Int)).tmod (k : Int) = ((n % k : Nat) : Int) := by rw [Int.tmod_eq_emod_of_nonneg (by omega)]; simp
/-- What the package's own row of widths holds. -/
def Wid (w : World) : Prop := ∀ j : Nat, j < 7 → w.cell? ⟨0, j, none⟩ = some (.int .i64 ((wid (j : Int) : Nat) : Int))
theorem Wid.later {w w' : World} (h : Wid w) (k : Below w.heap.size w w') : Wid w' := fun j hj => (k.cell (p := ⟨0, j, none⟩) (cell_lt (h j hj))).trans (h j hj)
theorem Wid.drew {w : World} (h : Wid w) : Wid w.drew := h

set_option maxHeartbeats 400000 in
theorem width_any (v : Int) (w : World) (hW : Wid w) : Calls Tryd.prog 63 #[.int .i64 v] w fun e w' => e = .returned (.int .i64 ((wid v : Nat) : Int)) ∧ w = w' := by
  by_cases h1 : v < 0
  · have hv : wid v = 0 := by unfold wid; rw [if_neg (by omega), if_neg (by omega)]
    have HV := Lib.hid hv
    have d1 : decide (v < 0) = true := by simpa using h1
    clear hv
    go_enter Tryd.func63, Tryd.ntmps63
    go_wp2
    go_ret
    exact ⟨by rw [HV.out]; rfl, rfl⟩
  · have d1 : decide (v < 0) = false := by simpa using h1
    by_cases h2 : 7 ≤ v
    · have hv : wid v = 0 := by unfold wid; rw [if_neg (by omega), if_neg (by omega)]
      have HV := Lib.hid hv
      have d2 : decide (7 ≤ v) = true := by simpa using h2
      clear hv
      go_enter Tryd.func63, Tryd.ntmps63
      go_wp2
      go_ret
      exact ⟨by rw [HV.out]; rfl, rfl⟩
    · have d2 : decide (7 ≤ v) = false := by simpa using h2
      obtain ⟨n, rfl⟩ := Int.eq_ofNat_of_zero_le (by omega : 0 ≤ v)
      have hc := hW n (by omega)
      generalize wid (n : Int) = x at *
      go_enter Tryd.func63, Tryd.ntmps63
      go_wp2
      go_ret
      exact ⟨rfl, rfl⟩

set_option maxHeartbeats 400000 in
theorem refwidth_any (v : Int) (w : World) : Calls Tryd.prog 49 #[.int .i64 v] w fun e w' => e = .returned (.int .i64 ((wid v : Nat) : Int)) ∧ w = w' := by
  by_cases h1 : v = 4
  · subst h1
    go_enter Tryd.func49, Tryd.ntmps49
    go_wp2
    go_ret
    exact ⟨rfl, rfl⟩
  · by_cases h2 : v = 6
    · subst h2
      go_enter Tryd.func49, Tryd.ntmps49
      go_wp2
      go_ret
      exact ⟨rfl, rfl⟩
    · have hv : wid v = 0 := by unfold wid; rw [if_neg h1, if_neg h2]
      have HV := Lib.hid hv
      have d1 : (v == 4) = false := by simpa using h1
      have d2 : (v == 6) = false := by simpa using h2
      clear hv
      go_enter Tryd.func49, Tryd.ntmps49
      go_wp2
      go_ret
      exact ⟨by rw [HV.out]; rfl, rfl⟩

theorem within_any (b n : Int) (w : World) : Calls Tryd.prog 62 #[.int .i64 b, .int .i64 n] w fun e w' => e = .returned (.bool (decide (0 ≤ b ∧ b ≤ n))) ∧ w = w' := by
  by_cases h1 : 0 ≤ b
  · have d1 : decide (0 ≤ b) = true := by simpa using h1
    go_enter Tryd.func62, Tryd.ntmps62
    go_wp2
    go_ret
    exact ⟨by simp [h1], rfl⟩
  · have d1 : decide (0 ≤ b) = false := by simpa using h1
    go_enter Tryd.func62, Tryd.ntmps62
    go_wp2
    go_ret
    exact ⟨by simp [h1], rfl⟩

/-- How many bytes so many bits fill. -/
def fill8 (n : Nat) : Nat := (n + 7) / 8
theorem filled_any (n : Nat) (hn : n ≤ 255) (w : World) : Calls Tryd.prog 85 #[.int .i64 (n : Int)] w fun e w' => e = .returned (.int .i64 ((fill8 n : Nat) : Int)) ∧ w = w' := by
  have hf : (((n : Int) + 7) / 8) = ((fill8 n : Nat) : Int) := by unfold fill8; omega
  have HF := Lib.hid hf
  clear hf
  go_enter Tryd.func85, Tryd.ntmps85
  go_wp2
  go_ret
  exact ⟨by rw [← HF.out]; rfl, rfl⟩

/-- A bit as a number. -/
def btI (b : B16) (i : Nat) : Int := ((bt b i).toNat : Int)
theorem bit_num (x k : Nat) : x / 2 ^ k % 2 = (x.testBit k).toNat := by
  rw [Nat.testBit_eq_decide_div_mod_eq]
  by_cases h : x / 2 ^ k % 2 = 1
  · simp [h]
  · have : x / 2 ^ k % 2 = 0 := by omega
    simp [this]
theorem btI_num (b : B16) (i : Nat) : ((b.at (i / 8) : Int) / 2 ^ (7 - i % 8)).tmod 2 = btI b i := by
  unfold btI bt
  rw [← bit_num]
  have : ((b.at (i / 8) : Int) / 2 ^ (7 - i % 8)) = ((b.at (i / 8) / 2 ^ (7 - i % 8) : Nat) : Int) := by simp
  rw [this]
  exact tm _ 2
set_option maxHeartbeats 400000 in
theorem at_any (b : B16) (i : Nat) (hi : i < 128) (w : World) : Calls Tryd.prog 50 #[.agg b.cs, .int .i64 (i : Int)] w fun e w' => e = .returned (.int .i64 (btI b i)) ∧ Below w.heap.size w w' := by
  obtain ⟨W1, hW1⟩ : ∃ W1, w.alloc (.cells b.cs 25) = W1 := ⟨_, rfl⟩
  have hb1 : Below w.heap.size w W1 := by rw [← hW1]; exact (Below.refl _ _).alloc (Nat.le_refl _) _
  have b1 : Blk W1 w.heap.size 25 b.cs := by rw [← hW1]; exact Blk.new w _ _
  have hc : W1.cell? ⟨w.heap.size, i / 8, none⟩ = some (.int .u8 (b.at (i / 8) : Int)) := (b1.cell _).trans (b.get _ (by omega))
  have hx := b.lt (i / 8)
  have HX := Lib.hid (btI_num b i)
  have q1 : ((i : Int)).tdiv 8 = ((i / 8 : Nat) : Int) := td i 8
  have q2 : ((i : Int)).tmod 8 = ((i % 8 : Nat) : Int) := tm i 8
  generalize hq : i / 8 = q at *
  generalize hr : i % 8 = r at *
  have q3 : (q : Int) < 16 := by omega
  have q4 : r < 8 := by omega
  generalize b.at q = x at *
  have H1 := Lib.hid (And.intro hb1 b1)
  clear hb1 b1 hq hr
  go_enter Tryd.func50, Tryd.ntmps50
  go_wp2
  go_ret
  exact ⟨by rw [← HX.out]; rfl, H1.out.1⟩

/-! ### kept -/
/-- The first k bytes are kept to their first bits, the others stand as they were. -/
def keptK (b : B16) (n k : Nat) : B16 :=
  ⟨(List.range 16).map fun i => if i < k then keepN (b.at i) (stayN n i) else b.at i, by simp, fun m hm => by
    obtain ⟨i, _, rfl⟩ := List.mem_map.1 hm
    split
    · exact Nat.lt_of_le_of_lt (keepN_le _ _) (b.lt i)
    · exact b.lt i⟩
theorem keptK_at (b : B16) (n k i : Nat) (h : i < 16) : (keptK b n k).at i = if i < k then keepN (b.at i) (stayN n i) else b.at i := by
  simp [keptK, B16.at, h]
theorem keptK_zero (b : B16) (n : Nat) : keptK b n 0 = b := B16.ext_at fun i hi => by rw [keptK_at _ _ _ _ hi]; simp
theorem keptK_all (b : B16) (n : Nat) : keptK b n 16 = keptB b n := B16.ext_at fun i hi => by rw [keptK_at _ _ _ _ hi, keptB_at _ _ _ hi, if_pos hi]
theorem B16.set_cs (a b : B16) (k x : Nat) (h : ∀ i, i < 16 → b.at i = if i = k then x else a.at i) : a.cs.setIfInBounds k (.int .u8 (x : Int)) = b.cs := by
  apply Array.ext_getElem?
  intro i
  by_cases hi : i < 16
  · rw [b.get i hi, h i hi, Array.getElem?_setIfInBounds]
    by_cases hk : k = i
    · subst hk
      rw [if_pos rfl, if_pos (by rw [B16.size]; exact hi), if_pos rfl]
    · rw [if_neg hk, a.get i hi, if_neg (fun e => hk e.symm)]
  · rw [Array.getElem?_eq_none (by simp [B16.size]; omega), Array.getElem?_eq_none (by rw [B16.size]; omega)]
theorem keep_and : ∀ x, x < 256 → ∀ t, t ≤ 8 → x &&& (255 * 2 ^ t % 256) = x / 2 ^ t * 2 ^ t := by decide +kernel
theorem keep_num (x s : Nat) (hx : x < 256) (hs : s ≤ 8) : bits .and .u8 (x : Int) (255 * 2 ^ (8 - s) % 256) = ((keepN x s : Nat) : Int) := by
  have h := u8_and_nat x (255 * 2 ^ (8 - s) % 256) hx (Nat.mod_lt _ (by omega))
  rw [keep_and x hx (8 - s) (by omega)] at h
  unfold keepN
  rw [← h]
  congr 1

attribute [local go_sem ↓] load_b16_rule store_b16_rule
set_option maxHeartbeats 1600000 in
theorem kept_any (b : B16) (n : Nat) (hn : n ≤ 255) (w : World) : Calls Tryd.prog 60 #[.agg b.cs, .int .i64 (n : Int)] w fun e w' => e = .returned (.agg (keptB b n).cs) ∧ Below w.heap.size w w' := by
  obtain ⟨W1, hW1⟩ : ∃ W1, (w.alloc (.cells b.cs 25)).alloc (.cells B16.zero.cs 25) = W1 := ⟨_, rfl⟩
  have hb1 : Below w.heap.size w W1 := by rw [← hW1]; exact ((Below.refl _ _).alloc (Nat.le_refl _) _).alloc (by simp) _
  have b1 : Blk W1 w.heap.size 25 (keptK b n 0).cs := by rw [← hW1, keptK_zero]; exact (Blk.new w _ _).alloc _
  have b2 : Blk W1 (w.heap.size + 1) 25 B16.zero.cs := by
    have := Blk.new (w.alloc (.cells b.cs 25)) 25 B16.zero.cs
    rw [World.size_alloc] at this
    rw [← hW1]; exact this
  have H1 := Lib.hid (And.intro hb1 (And.intro b1 b2))
  clear hb1 b1 b2
  go_enter Tryd.func60, Tryd.ntmps60
  go_wp2_with (with_reducible refine wpList_alloc_z rfl 25 rfl B16.zero.cs 16 z_b16 ?_)
  clear hW1
  go_loopw [5, 6, 7] (fun i s k wr => ∃ m : Nat, m ≤ 16 ∧ k = .int .i64 m ∧ Blk wr w.heap.size 25 (keptK b n m).cs ∧ Blk wr (w.heap.size + 1) 25 B16.zero.cs ∧ Below w.heap.size w wr) (fun i s k _ => 16 - (intOf k).toNat)
  case atStart => exact ⟨0, Nat.zero_le _, rfl, H1.out.2.1, H1.out.2.2, H1.out.1⟩
  case round =>
    obtain ⟨m, hm, rfl, hA, hZ, hB⟩ := hrel
    by_cases hlt : m < 16
    · have hc : wr.cell? ⟨w.heap.size, m, none⟩ = some (.int .u8 (b.at m : Int)) := by
        rw [hA.cell, (keptK b n m).get m hlt, keptK_at _ _ _ _ hlt, if_neg (by omega)]
      have hf := hA.free m
      have hx := b.lt m
      have hs : stayN n m ≤ 8 := by unfold stayN; omega
      obtain ⟨t, ht⟩ : ∃ t : Int, (if (n : Int) - 8 * (m : Int) < 0 then 0 else (n : Int) - 8 * (m : Int)) = t := ⟨_, rfl⟩
      have es : (if 8 < t then 8 else t) = ((stayN n m : Nat) : Int) := by rw [← ht]; unfold stayN; split <;> split <;> omega
      have hk := keep_num (b.at m) (stayN n m) hx hs
      have hr : ∀ i, i < 16 → (keptK b n (m + 1)).at i = if i = m then keepN (b.at m) (stayN n m) else (keptK b n m).at i := fun i hi => by
        rw [keptK_at _ _ _ _ hi, keptK_at _ _ _ _ hi]
        by_cases h1 : i = m
        · subst h1; rw [if_pos (by omega), if_pos rfl]
        · rw [if_neg h1]
          by_cases h2 : i < m
          · rw [if_pos (by omega), if_pos h2]
          · rw [if_neg (by omega), if_neg h2]
      have hA2 := hA.set m (.int .u8 ((keepN (b.at m) (stayN n m) : Nat) : Int))
      rw [B16.set_cs _ _ _ _ hr] at hA2
      have hZ2 := hZ.far (p := ⟨w.heap.size, m, none⟩) (by simp) (.int .u8 ((keepN (b.at m) (stayN n m) : Nat) : Int))
      have hB2 := hB.setCell (p := ⟨w.heap.size, m, none⟩) (Nat.le_refl _) (.int .u8 ((keepN (b.at m) (stayN n m) : Nat) : Int))
      generalize keepN (b.at m) (stayN n m) = y at *
      generalize stayN n m = s at *
      generalize b.at m = x at *
      have HE := Lib.hid (And.intro hA2 (And.intro hZ2 hB2))
      have hm2 : (m : Int) < 16 := by omega
      clear hA hZ hB hA2 hZ2 hB2 hr
      go_wp2
      clear ht es
      have hs2 : (s : Int) ≤ 8 := by omega
      have hz : decide ((8 : Int) - (s : Int) < 0) = false := by simp; omega
      go_region
      go_wp2
      go_roundw
      case rel => exact ⟨m + 1, by omega, by go_num, HE.out.1.drew, HE.out.2.1.drew, bel_drew HE.out.2.2⟩
      case measure => simp [intOf]; omega
    · obtain rfl : m = 16 := by omega
      rw [keptK_all] at hA
      have hL : (loadSem 25 (.pointer (some ⟨w.heap.size, 0, none⟩))).run Tryd.prog wr = .ok (.agg (keptB b n).cs) wr := loadRes_of (o := 0) hA (fun q _ => by rw [Nat.zero_add]) _ Tryd.underlying25 rfl (s_b16 _)
      have hS := storeRes_of (P := Tryd.prog) (ty := 25) (o := 0) (vs := (keptB b n).cs) hZ (by rw [B16.size, B16.size]; omega) (s_b16 _) (B16.one _)
      rw [over_all (by rw [B16.size, B16.size])] at hS
      have hZ2 := hZ.row (keptB b n).cs
      have hB2 := below_setRow hB (show w.heap.size ≤ w.heap.size + 1 by omega) (keptB b n).cs
      have HE := Lib.hid (And.intro hZ2 hB2)
      clear hA hZ hB hZ2 hB2
      go_wp2
      refine bodyPost_ret (results_cell_row rfl _ _ (w.heap.size + 1) 25 _ (0, 0) _ rfl HE.out.1 Tryd.underlying25 rfl (s_b16 _)) rfl ?_
      exact ⟨rfl, HE.out.2⟩
theorem keptp_any (b : B16) (n : Int) (h0 : 0 ≤ n) (h1 : n ≤ 255) (w : World) : Calls Tryd.prog 60 #[.agg b.cs, .int .i64 n] w fun e w' => e = .returned (.agg (keptB b n.toNat).cs) ∧ Below w.heap.size w w' := by
  obtain ⟨k, rfl⟩ := Int.eq_ofNat_of_zero_le h0
  exact kept_any b k (by omega) w
theorem same_bel {w w' : World} (h : w = w') : Below w.heap.size w w' := h ▸ Below.refl _ _
theorem width_b (v : Int) (w : World) (hW : Wid w) : Calls Tryd.prog 63 #[.int .i64 v] w fun e w' => e = .returned (.int .i64 ((wid v : Nat) : Int)) ∧ Below w.heap.size w w' := (width_any v w hW).mono fun e w' h => ⟨h.1, same_bel h.2⟩
theorem refwidth_b (v : Int) (w : World) : Calls Tryd.prog 49 #[.int .i64 v] w fun e w' => e = .returned (.int .i64 ((wid v : Nat) : Int)) ∧ Below w.heap.size w w' := (refwidth_any v w).mono fun e w' h => ⟨h.1, same_bel h.2⟩
theorem within_b (b n : Int) (w : World) : Calls Tryd.prog 62 #[.int .i64 b, .int .i64 n] w fun e w' => e = .returned (.bool (decide (0 ≤ b ∧ b ≤ n))) ∧ Below w.heap.size w w' := (within_any b n w).mono fun e w' h => ⟨h.1, same_bel h.2⟩
theorem filled_b (n : Nat) (hn : n ≤ 255) (w : World) : Calls Tryd.prog 85 #[.int .i64 (n : Int)] w fun e w' => e = .returned (.int .i64 ((fill8 n : Nat) : Int)) ∧ Below w.heap.size w w' := (filled_any n hn w).mono fun e w' h => ⟨h.1, same_bel h.2⟩
end Go.Proofs.YtfnagfmbhcaphaaDoor
