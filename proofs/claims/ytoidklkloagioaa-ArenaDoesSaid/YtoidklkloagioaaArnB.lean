/-
  Two words as one number; a new arena. Nothing here is a statement of the document.
-/
import Derived.Test.YtoidklkloagioaaArnA
namespace Go.Proofs.Ytoidklkloagioaa
open Go.RowKit Go.Shelf
set_option linter.unusedVariables false

theorem shl_or (x y : Nat) (hx : x < 4294967296) (hy : y < 4294967296) : bits .or .u64 ((x : Int) * 4294967296) (y : Int) = ((x * 4294967296 + y : Nat) : Int) := by
  have h := u64_or_nat (x * 4294967296) y (by omega) (by omega)
  have e : ((x * 4294967296 : Nat) : Int) = (x : Int) * 4294967296 := by simp
  rw [e] at h
  rw [h]
  have h2 := Nat.two_pow_add_eq_or_of_lt (i := 32) (b := y) (by simpa using hy) x
  rw [show (2 : Nat) ^ 32 = 4294967296 from rfl, Nat.mul_comm] at h2
  rw [← h2]

set_option maxRecDepth 100000 in
set_option maxHeartbeats 1000000 in
theorem joined_any {w : World} {p k x y : Nat} (cx : ∀ n, (w.drewN n).cell? ⟨p, k, none⟩ = some (.int .u32 (x : Int))) (cy : ∀ n, (w.drewN n).cell? ⟨p, k + 1, none⟩ = some (.int .u32 (y : Int))) (hx : x < 4294967296) (hy : y < 4294967296) :
    Calls Try.prog 59 #[.pointer (some ⟨p, k, none⟩)] w fun e w' => e = .returned (.int .u64 ((x * 4294967296 + y : Nat) : Int)) ∧ ∃ n, w' = w.drewN n := by
  have hs := Lib.hid (shl_or x y hx hy)
  go_enter Try.func59, Try.ntmps59
  go_wp2_with fail
  go_quiet (fail)
  go_wp2
  go_ret
  exact ⟨ret_int hs.out, _, rfl⟩

set_option maxRecDepth 100000 in
set_option maxHeartbeats 1000000 in
theorem lay_any {w : World} {g p q k x : Nat} {ws : List Nat} {bs : List Bool} (h : Ar w g p q ws bs) (hk : k + 1 < ws.length) (hx : x < 18446744073709551616) :
    Calls Try.prog 54 #[.pointer (some ⟨p, k, none⟩), .int .u64 (x : Int)] w fun e w' => e = .returned (.tuple #[]) ∧ Ar w' g p q ((ws.set k (x / 4294967296)).set (k + 1) (x % 4294967296)) bs ∧ Kept [p] w w' := by
  have c1 := h.word (i := k) (by omega)
  have c2 := h.word (i := k + 1) (by omega)
  have f1 := h.wds.free k
  have f2 := h.wds.free (k + 1)
  have a1 := (h.set k (x / 4294967296) (by omega)).set (k + 1) (x % 4294967296) (by omega)
  rw [show ((x / 4294967296 : Nat) : Int) = (x : Int) / 4294967296 from by omega, show ((x % 4294967296 : Nat) : Int) = (x : Int) % 4294967296 from by omega] at a1
  have HH := Lib.hid (And.intro a1 (((Kept.refl [p] w).setCell (p := ⟨p, k, none⟩) (.inl (by simp)) (.int .u32 ((x : Int) / 4294967296))).setCell (p := ⟨p, k + 1, none⟩) (.inl (by simp)) (.int .u32 ((x : Int) % 4294967296))))
  generalize ws.getD k 0 = y1 at *
  generalize ws.getD (k + 1) 0 = y2 at *
  clear h a1
  go_enter Try.func54, Try.ntmps54
  go_wp2_with fail
  go_region
  go_end0
  exact ⟨rfl, HH.out.1.drew, HH.out.2.drew⟩

/-! ### a new arena -/
theorem made_words (n : Nat) : madeCells (Value.int .u32 0).cells (n * 1) = wcs (List.replicate n 0) := by
  apply Array.ext_getElem?
  intro i
  by_cases hi : i < n <;> simp [madeCells, wcs, Value.cells, hi, Nat.mod_one]
theorem made_begins (n : Nat) : madeCells (Value.bool false).cells (n * 1) = bcs (List.replicate n false) := by
  apply Array.ext_getElem?
  intro i
  by_cases hi : i < n <;> simp [madeCells, bcs, Value.cells, hi, Nat.mod_one]
theorem i_u32 : (Try.prog.info? 53).map (fun i => (i.zero, i.size, i.bytes)) = some (some (.int .u32 0), 1, 4) := by kernel_rfl
theorem i_boo : (Try.prog.info? 4).map (fun i => (i.zero, i.size, i.bytes)) = some (some (.bool false), 1, 1) := by kernel_rfl

set_option maxRecDepth 100000 in
set_option maxHeartbeats 1000000 in
theorem over_any (p n : Nat) (hn : n ≤ 16384) (w : World) : Calls Try.prog 20 #[.slice (some ⟨p, 0, none⟩) n n] w fun e w' => e = .returned (.pointer (some ⟨w.heap.size + 1, 0, none⟩)) ∧
    w' = (w.alloc (.cells (bcs (List.replicate n false)) 4)).alloc (.cells #[.slice (some ⟨p, 0, none⟩) n n, .slice (some ⟨w.heap.size, 0, none⟩) n n] 65) := by
  obtain ⟨i0, hi, hz0, hz1, hz2⟩ := info_parts i_boo
  have hmk := run_make (P := Try.prog) w 63 4 i0 (.bool false) Try.underlying63 hi hz0 .i64 .i64 (n : Int) (n : Int) (by omega) (by omega) (by rw [hz2]; omega) (by omega)
  rw [hz1, show (n : Int).toNat = n from by omega, made_begins] at hmk
  have hbd := fun w' => (show (Instr.build 65 #[(0, .slice (some ⟨p, 0, none⟩) n n), (1, .slice (some ⟨w.heap.size, 0, none⟩) n n)]).run Try.prog w' = .ok (.agg #[.slice (some ⟨p, 0, none⟩) n n, .slice (some ⟨w.heap.size, 0, none⟩) n n]) w' by kernel_rfl)
  generalize bcs (List.replicate n false) = B at *
  clear hi hz0 hz1 hz2
  go_enter Try.func20, Try.ntmps20
  go_wp2
  go_ret
  exact ⟨rfl, rfl⟩

/-- The words of a new arena. -/
def newWs (n : Nat) : List Nat := ((List.replicate n 0).set 0 n).set 15 16
theorem newWs_len (n : Nat) : (newWs n).length = n := by simp [newWs]

set_option maxRecDepth 100000 in
set_option maxHeartbeats 1000000 in
theorem new_no (n : Int) (h : ¬ (64 ≤ n ∧ n ≤ 16384)) (w : World) : Calls Try.prog 6 #[.int .i64 n] w fun e w' => e = .returned (.tuple #[.pointer none, .int .i64 2]) ∧ w = w' := by
  have hm := mayhave_any n w
  rw [show (decide (64 ≤ n) && decide (n ≤ 16384)) = false from by rw [← Bool.decide_and]; exact decide_eq_false h] at hm
  clear h
  go_enter Try.func6, Try.ntmps6
  go_wp2_with fail
  refine hm.mono ?_
  rintro e w' ⟨rfl, rfl⟩
  clear hm
  go_wp2
  go_ret2
  exact ⟨rfl, rfl⟩
set_option maxRecDepth 100000 in
set_option maxHeartbeats 1000000 in
theorem new_yes (n : Nat) (h1 : 64 ≤ n) (h2 : n ≤ 16384) (w : World) : Calls Try.prog 6 #[.int .i64 (n : Int)] w fun e w' => e = .returned (.tuple #[.pointer (some ⟨w.heap.size + 2, 0, none⟩), .int .i64 0]) ∧
    Ar w' (w.heap.size + 2) w.heap.size (w.heap.size + 1) (newWs n) (List.replicate n false) ∧ Below w.heap.size w w' := by
  have hm := mayhave_any (n : Int) w
  rw [show (decide (64 ≤ (n : Int)) && decide ((n : Int) ≤ 16384)) = true from by rw [← Bool.decide_and]; exact decide_eq_true (by omega)] at hm
  obtain ⟨i0, hi, hz0, hz1, hz2⟩ := info_parts i_u32
  have hmk := run_make (P := Try.prog) w 62 53 i0 (.int .u32 0) Try.underlying62 hi hz0 .i64 .i64 (n : Int) (n : Int) (by omega) (by omega) (by rw [hz2]; omega) (by omega)
  rw [hz1, show (n : Int).toNat = n from by omega, made_words] at hmk
  clear hi hz0 hz1 hz2
  obtain ⟨W0, hW0⟩ : ∃ W0, w.alloc (.cells (wcs (List.replicate n 0)) 53) = W0 := ⟨_, rfl⟩
  have hov := over_any w.heap.size n h2 W0
  obtain ⟨W1, hW1⟩ : ∃ W1, (W0.alloc (.cells (bcs (List.replicate n false)) 4)).alloc (.cells #[.slice (some ⟨w.heap.size, 0, none⟩) n n, .slice (some ⟨W0.heap.size, 0, none⟩) n n] 65) = W1 := ⟨_, rfl⟩
  rw [hW1] at hov
  have hs0 : W0.heap.size = w.heap.size + 1 := by rw [← hW0]; simp
  have A0 : Ar W1 (w.heap.size + 2) w.heap.size (w.heap.size + 1) (List.replicate n 0) (List.replicate n false) := by
    refine ⟨?_, ?_, ?_, by simp, by simpa using h1, by simpa using h2, fun x hx => by rw [List.eq_of_mem_replicate hx]; omega⟩
    · rw [List.length_replicate, ← hW1, ← hs0]
      have := Blk.new (W0.alloc (.cells (bcs (List.replicate n false)) 4)) 65 #[.slice (some ⟨w.heap.size, 0, none⟩) n n, .slice (some ⟨W0.heap.size, 0, none⟩) n n]
      rw [World.size_alloc, hs0] at this
      rw [hs0]
      exact this
    · rw [← hW1]
      have b := Blk.new w 53 (wcs (List.replicate n 0))
      rw [hW0] at b
      exact (b.alloc _).alloc _
    · rw [← hW1, ← hs0]; exact (Blk.new W0 _ _).alloc _
  have hb : Below w.heap.size w W1 := by
    rw [← hW1, ← hW0]
    exact (((Below.refl _ _).alloc (Nat.le_refl _) _).alloc (by simp) _).alloc (by simp; omega) _
  have hl : (List.replicate n 0).length = n := by simp
  have c0 := A0.c0
  rw [hl] at c0
  have e0 := A0.word (i := 0) (by simp; omega)
  have e15 := A0.word (i := 15) (by simp; omega)
  have f0 := A0.wds.free 0
  have f15 := A0.wds.free 15
  have A2 := (A0.set 0 n (by omega)).set 15 16 (by omega)
  have hb2 : Below w.heap.size w ((W1.setCell ⟨w.heap.size, 0, none⟩ (.int .u32 (n : Int))).setCell ⟨w.heap.size, 15, none⟩ (.int .u32 ((16 : Nat) : Int))) := (hb.setCell (p := ⟨w.heap.size, 0, none⟩) (by simp) _).setCell (p := ⟨w.heap.size, 15, none⟩) (by simp) _
  have HA := Lib.hid (And.intro A2 hb2)
  generalize (List.replicate n 0).getD 0 0 = y1 at *
  generalize (List.replicate n 0).getD 15 0 = y2 at *
  clear A0 A2 hb2 hb hl hW1
  go_enter Try.func6, Try.ntmps6
  go_wp2_with fail
  refine hm.mono ?_
  rintro e w' ⟨rfl, rfl⟩
  clear hm
  go_wp2_with fail
  refine hov.mono ?_
  rintro e w' ⟨rfl, rfl⟩
  rw [hs0]
  clear hov hmk hW0 hs0
  go_wp2_with fail
  go_region
  go_wp2
  go_ret2
  exact ⟨rfl, HA.out.1.drew, HA.out.2.drew⟩

end Go.Proofs.Ytoidklkloagioaa
