/-
  The contracts of disk's Arm, Fail and New. Nothing here is a statement of the document.
-/
import Derived.Test.YtkfpkolgikpcpaaDskK
import Derived.Laws.MakeOwn
namespace Go.Proofs.Ytkfpkolgikpcpaa
open Go.RowKit Go.Shelf
set_option linter.unusedVariables false

/-! ### Arm, Fail -/
def armM (D : Dk) (n : Int) : Dk × Int := if D.dead then (D, 9) else ({ D with fuse := cdOf n }, 0)
def flawedM (D : Dk) (n : Int) : Dk × Int := if D.dead then (D, 9) else ({ D with flaw := cdOf n }, 0)
theorem cdOf_le {n : Int} (h : n ≤ 9223372036854775807) : ∀ m, cdOf n = some m → m ≤ 9223372036854775807 := by
  intro m hm
  unfold cdOf at hm
  split at hm
  · cases hm
  · injection hm with hm; omega

set_option maxHeartbeats 1000000 in
theorem arm_nil (n : Int) (w : World) : Calls Try.prog 25 #[.pointer none, .int .i64 n] w fun e w' => e = .returned (.int .i64 1) ∧ w = w' := by
  go_enter Try.func25, Try.ntmps25
  go_wp2_with (go_at_call 49; refine (power_nil _).mono ?_; rintro e w' ⟨rfl, rfl⟩)
  go_ret
  exact ⟨rfl, rfl⟩
set_option maxHeartbeats 1000000 in
theorem fail_nil (n : Int) (w : World) : Calls Try.prog 26 #[.pointer none, .int .i64 n] w fun e w' => e = .returned (.int .i64 1) ∧ w = w' := by
  go_enter Try.func26, Try.ntmps26
  go_wp2_with (go_at_call 49; refine (power_nil _).mono ?_; rintro e w' ⟨rfl, rfl⟩)
  go_ret
  exact ⟨rfl, rfl⟩
set_option maxHeartbeats 1000000 in
theorem arm_any {w : World} {B p pb : Nat} {bv : Value} {D : Dk} (h : Dsk w B p pb bv D) (n : Int) (hn : n ≤ 9223372036854775807) :
    Calls Try.prog 25 #[.pointer (some ⟨p, 0, none⟩), .int .i64 n] w fun e w' => e = .returned (.int .i64 (armM D n).2) ∧ Dsk w' B p pb bv (armM D n).1 ∧ Goes w w' p pb bv bv := by
  have hp := power_any h
  unfold armM
  by_cases hd : D.dead = true
  rotate_left
  · rw [if_neg hd] at hp
    rw [if_neg hd]
    have hc := countFrom_any n w
    have ok : ({ D with fuse := cdOf n } : Dk).Ok := ok_turn h.ok rfl rfl (cdOf_le hn) h.ok.flaw
    generalize hcd : cdOf n = cd at *
    have HC := Lib.hid hcd
    clear hcd hd
    go_enter Try.func25, Try.ntmps25
    go_wp2_with fail
    refine hp.mono ?_
    rintro e w' ⟨rfl, rfl⟩
    go_wp2_with fail
    refine hc.mono ?_
    rintro e w1 ⟨rfl, hb⟩
    have h1 := h.later hb
    have c2 := h1.c2
    have c3 := h1.c3
    have f2 := h1.cells.free 2
    have f3 := h1.cells.free 3
    have hfin : Dsk ((w1.setCell ⟨p, 2, none⟩ (.bool (cdB cd))).setCell ⟨p, 3, none⟩ (.int .i64 (cdI cd))) B p pb bv { D with fuse := cd } := by
      have hg : Goes w1 ((w1.setCell ⟨p, 2, none⟩ (.bool (cdB cd))).setCell ⟨p, 3, none⟩ (.int .i64 (cdI cd))) p pb bv bv := ((Goes.refl _ _ _ _).setCell _ _).setCell _ _
      have hk : Kept [p] w1 ((w1.setCell ⟨p, 2, none⟩ (.bool (cdB cd))).setCell ⟨p, 3, none⟩ (.int .i64 (cdI cd))) := ((Kept.refl _ _).setCell (.inl (by simp)) _).setCell (.inl (by simp)) _
      refine ⟨?_, h1.plate.kept hk (by simpa using h1.ne.symm), ?_, h1.hp, h1.hpb, ok⟩
      · have := (h1.cells.set 2 (.bool (cdB cd))).set 3 (.int .i64 (cdI cd))
        simpa [dcs] using this
      · refine h1.buf.kept (row := some p) ⟨hk.os, hk.tape, hk.output, hk.size, fun k hk1 hk2 => hk.block k hk1 (by simpa using fun e => hk2 (by rw [e]))⟩ ?_
        cases e : bv.ownBlock with
        | none => exact .inl rfl
        | some k => exact .inr (fun e2 => (h1.far k e).1 (by injection e2))
    have hgo : Goes w ((w1.setCell ⟨p, 2, none⟩ (.bool (cdB cd))).setCell ⟨p, 3, none⟩ (.int .i64 (cdI cd))) p pb bv bv := (((Goes.refl w p pb bv).later hb).setCell _ _).setCell _ _
    have HFin := Lib.hid hfin
    clear hfin h h1 hp hc ok hb
    go_wp2
    go_ret
    exact ⟨rfl, HFin.out, hgo⟩
  · rw [if_pos hd] at hp
    rw [if_pos hd]
    clear hd
    go_enter Try.func25, Try.ntmps25
    go_wp2_with (go_at_call 49; refine hp.mono ?_; rintro e w' ⟨rfl, rfl⟩)
    go_ret
    exact ⟨rfl, h, Goes.refl _ _ _ _⟩
set_option maxHeartbeats 1000000 in
theorem fail_any {w : World} {B p pb : Nat} {bv : Value} {D : Dk} (h : Dsk w B p pb bv D) (n : Int) (hn : n ≤ 9223372036854775807) :
    Calls Try.prog 26 #[.pointer (some ⟨p, 0, none⟩), .int .i64 n] w fun e w' => e = .returned (.int .i64 (flawedM D n).2) ∧ Dsk w' B p pb bv (flawedM D n).1 ∧ Goes w w' p pb bv bv := by
  have hp := power_any h
  unfold flawedM
  by_cases hd : D.dead = true
  rotate_left
  · rw [if_neg hd] at hp
    rw [if_neg hd]
    have hc := countFrom_any n w
    have ok : ({ D with flaw := cdOf n } : Dk).Ok := ok_turn h.ok rfl rfl h.ok.fuse (cdOf_le hn)
    generalize hcd : cdOf n = cd at *
    have HC := Lib.hid hcd
    clear hcd hd
    go_enter Try.func26, Try.ntmps26
    go_wp2_with fail
    refine hp.mono ?_
    rintro e w' ⟨rfl, rfl⟩
    go_wp2_with fail
    refine hc.mono ?_
    rintro e w1 ⟨rfl, hb⟩
    have h1 := h.later hb
    have c2 := h1.c4
    have c3 := h1.c5
    have f2 := h1.cells.free 4
    have f3 := h1.cells.free 5
    have hfin : Dsk ((w1.setCell ⟨p, 4, none⟩ (.bool (cdB cd))).setCell ⟨p, 5, none⟩ (.int .i64 (cdI cd))) B p pb bv { D with flaw := cd } := by
      have hk : Kept [p] w1 ((w1.setCell ⟨p, 4, none⟩ (.bool (cdB cd))).setCell ⟨p, 5, none⟩ (.int .i64 (cdI cd))) := ((Kept.refl _ _).setCell (.inl (by simp)) _).setCell (.inl (by simp)) _
      refine ⟨?_, h1.plate.kept hk (by simpa using h1.ne.symm), ?_, h1.hp, h1.hpb, ok⟩
      · have := (h1.cells.set 4 (.bool (cdB cd))).set 5 (.int .i64 (cdI cd))
        simpa [dcs] using this
      · refine h1.buf.kept (row := some p) ⟨hk.os, hk.tape, hk.output, hk.size, fun k hk1 hk2 => hk.block k hk1 (by simpa using fun e => hk2 (by rw [e]))⟩ ?_
        cases e : bv.ownBlock with
        | none => exact .inl rfl
        | some k => exact .inr (fun e2 => (h1.far k e).1 (by injection e2))
    have hgo : Goes w ((w1.setCell ⟨p, 4, none⟩ (.bool (cdB cd))).setCell ⟨p, 5, none⟩ (.int .i64 (cdI cd))) p pb bv bv := (((Goes.refl w p pb bv).later hb).setCell _ _).setCell _ _
    have HFin := Lib.hid hfin
    clear hfin h h1 hp hc ok hb
    go_wp2
    go_ret
    exact ⟨rfl, HFin.out, hgo⟩
  · rw [if_pos hd] at hp
    rw [if_pos hd]
    clear hd
    go_enter Try.func26, Try.ntmps26
    go_wp2_with (go_at_call 49; refine hp.mono ?_; rintro e w' ⟨rfl, rfl⟩)
    go_ret
    exact ⟨rfl, h, Goes.refl _ _ _ _⟩

/-! ### New -/
def newM (n : Nat) : Dk := ⟨List.replicate n Bk.zero, [], none, none, false, 0⟩
theorem zero_cells : Bk.zero.cs = Array.replicate 64 (.int .u8 0) := by kernel_rfl
theorem pcs_zero (n : Nat) : pcs (List.replicate n Bk.zero) = List.replicate (n * 64) (.int .u8 0) := by
  induction n with
  | zero => simp [pcs]
  | succ n ih =>
    rw [List.replicate_succ]
    show Bk.zero.cs.toList ++ pcs (List.replicate n Bk.zero) = _
    rw [ih, zero_cells, Array.toList_replicate, List.replicate_append_replicate]
    congr 1
    omega
theorem made_blocks (n : Nat) : madeCells (Value.agg Bk.zero.cs).cells (n * 64) = (pcs (List.replicate n Bk.zero)).toArray := by
  rw [pcs_zero]
  apply Array.ext_getElem?
  intro i
  have hz : (Value.agg Bk.zero.cs).cells = Array.replicate 64 (.int .u8 0) := zero_cells
  rw [hz]
  by_cases hi : i < n * 64
  · simp only [madeCells, Array.getElem?_map, Array.getElem?_range, hi, if_true, Option.map_some, Array.size_replicate]
    have : i % 64 < 64 := Nat.mod_lt _ (by omega)
    rw [getElem!_pos _ _ (by simpa using this)]
    simp [hi]
  · rw [Array.getElem?_eq_none (by simp [madeCells]; omega), Array.getElem?_eq_none (by simp; omega)]
theorem i_blk : (Try.prog.info? 77).map (fun i => (i.zero, i.size, i.bytes)) = some (some (.agg Bk.zero.cs), 64, 64) := by kernel_rfl

set_option maxHeartbeats 1000000 in
theorem new_none (n : Int) (h : n < 1 ∨ 2048 < n) (w : World) : Calls Try.prog 32 #[.int .i64 n] w fun e w' => e = .returned (.tuple #[.pointer none, .int .i64 2]) ∧ w = w' := by
  by_cases h1 : n < 1
  · have hb : decide (n < 1) = true := by simpa using h1
    go_enter Try.func32, Try.ntmps32
    go_wp2
    go_ret2
    exact ⟨rfl, rfl⟩
  · have h2 : 2048 < n := by omega
    have hb : decide (n < 1) = false := by simpa using h1
    have hb2 : decide (2048 < n) = true := by simpa using h2
    go_enter Try.func32, Try.ntmps32
    go_wp2
    go_ret2
    exact ⟨rfl, rfl⟩

set_option maxHeartbeats 1000000 in
theorem new_any (n : Nat) (h1 : 1 ≤ n) (h2 : n ≤ 2048) (w : World) : Calls Try.prog 32 #[.int .i64 (n : Int)] w fun e w' =>
    e = .returned (.tuple #[.pointer (some ⟨w.heap.size + 1, 0, none⟩), .int .i64 0]) ∧ Dsk w' w.heap.size (w.heap.size + 1) w.heap.size (.slice none 0 0) (newM n) ∧ Below w.heap.size w w' := by
  obtain ⟨i0, hi, hz0, hz1, hz2⟩ := info_parts i_blk
  have hmk := run_make (P := Try.prog) w 82 77 i0 (.agg Bk.zero.cs) Try.underlying82 hi hz0 .i64 .i64 (n : Int) (n : Int) (by omega) (by omega) (by rw [hz2]; omega) (by omega)
  rw [hz1, show (n : Int).toNat = n from by omega, made_blocks] at hmk
  obtain ⟨PC, hPC⟩ : ∃ PC, (pcs (List.replicate n Bk.zero)).toArray = PC := ⟨_, rfl⟩
  rw [hPC] at hmk
  obtain ⟨W1, hW1⟩ : ∃ W1, w.alloc (.cells PC 77) = W1 := ⟨_, rfl⟩
  rw [hW1] at hmk
  have hsz1 : W1.heap.size = w.heap.size + 1 := by rw [← hW1]; simp
  have hb1 : decide ((n : Int) < 1) = false := by simp; omega
  have hb2 : decide ((2048 : Int) < (n : Int)) = false := by simp; omega
  obtain ⟨DC, hDC⟩ : ∃ DC, dcs w.heap.size (.slice none 0 0) (newM n) = DC := ⟨_, rfl⟩
  have hDC2 : DC = #[.slice (some ⟨w.heap.size, 0, none⟩) n n, .slice none 0 0, .bool false, .int .i64 0, .bool false, .int .i64 0, .bool false, .int .i64 0] := by rw [← hDC]; simp [dcs, newM, cdB, cdI]
  have hfin : Dsk (W1.alloc (.cells DC 102)) w.heap.size (w.heap.size + 1) w.heap.size (.slice none 0 0) (newM n) := by
    refine ⟨?_, ?_, ?_, by omega, Nat.le_refl _, ?_⟩
    · rw [hDC, ← hsz1]; exact Blk.new W1 _ _
    · have : Blk W1 w.heap.size 77 PC := by rw [← hW1]; exact Blk.new w _ _
      show Blk _ _ _ (pcs (List.replicate n Bk.zero)).toArray
      rw [hPC]
      exact this.alloc _
    · exact World.ownsRow_nil _ _ _ _
    · exact ⟨by simpa [newM] using h1, by simpa [newM] using h2, by simp [newM], by simp [newM], by simp [newM], by simp [newM], by simp [newM]⟩
  have hbl : Below w.heap.size w (W1.alloc (.cells DC 102)) := by rw [← hW1]; exact ((Below.refl _ _).alloc (Nat.le_refl _) _).alloc (by simp) _
  have HF := Lib.hid hfin
  have HS := Lib.hid hsz1
  rw [hDC2] at HF hbl
  clear hfin hDC hDC2 hPC hsz1 hi hz0 hz1 hz2 hW1
  go_enter Try.func32, Try.ntmps32
  go_wp2
  go_ret2
  exact ⟨by rw [← HS.out]; rfl, HF.out, hbl⟩
end Go.Proofs.Ytkfpkolgikpcpaa
