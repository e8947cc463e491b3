/-
  The contracts of the law's own wakes, kind, keep, block. Nothing here is a statement of the document.
-/
import Derived.Test.YtaikgngigaohmaaDoorDskM
import Derived.Test.YtaikgngigaohmaaDoorDskN
import Derived.Test.YtaikgngigaohmaaDoorDskP
import Derived.Test.YtaikgngigaohmaaDoorDskQ
namespace Go.Proofs.YtaikgngigaohmaaDoor
open Go.RowKit Go.Shelf
set_option linter.unusedVariables false

/-! ### wakes -/
def b7 : Bk := ⟨7 :: List.replicate 63 0, rfl⟩
def wkM : Nat → Dk
  | 0 => newM 20
  | k + 1 => (writeM (wkM k) (k : Int) b7).1
theorem wk_ok : ∀ k, k < 9 → (writeM (wkM k) (k : Int) b7).2 = 0
  | 0, _ => by kernel_rfl
  | 1, _ => by kernel_rfl
  | 2, _ => by kernel_rfl
  | 3, _ => by kernel_rfl
  | 4, _ => by kernel_rfl
  | 5, _ => by kernel_rfl
  | 6, _ => by kernel_rfl
  | 7, _ => by kernel_rfl
  | 8, _ => by kernel_rfl
  | k + 9, h => absurd h (by omega)
theorem wk_rows : (wkM 9).rows.length = 8 := by kernel_rfl
def wkC : Dk := crashM (wkM 9) []
theorem wk_r0 : readM wkC 0 = ((readM wkC 0).1, b7, 0) := by kernel_rfl
theorem wk_r1 : readM (readM wkC 0).1 1 = ((readM (readM wkC 0).1 1).1, Bk.zero, 0) := by kernel_rfl

theorem build_b7 (w : World) : (Instr.build 31 #[(0, .int .u8 7)]).run Tryd.prog w = .ok (.agg b7.cs) w := by kernel_rfl
theorem wpList_build_b7 {ops : Array Oper} {rest : List Oper} {op : Oper} {a : Act} {w : World} {Q : Exit → Act → World → Prop} (hgd : op.guard = none) (ho : op.op = .build 31 #[(0, .const (.int .u8 7))])
    (hK : wpList Tryd.prog ops Q rest (a.put op.dst (.agg b7.cs)) w) : wpList Tryd.prog ops Q (op :: rest) a w := by
  refine wpList_plain hgd fun K hK' => ?_
  have hrun := build_b7 w
  unfold Oper.wp
  simp only [execOp, ho, List.map_toArray, List.map_cons, List.map_nil, Act.eval, Sem.run_bind, hrun, Result.andThen_ok]
  exact hK' _ _ hK

set_option maxHeartbeats 2000000 in
theorem wakes_any (w : World) : Calls Tryd.prog 6 #[] w fun e w' => e = .returned (.bool true) ∧ Below w.heap.size w w' := by
  go_enter Tryd.func6, Tryd.ntmps6
  go_wp2_with fail
  refine (new_any 20 (by omega) (by omega) _).mono ?_
  rintro e W0 ⟨rfl, hD, hb⟩
  go_wp2_with fail
  go_loopw [17] (fun i wr => ∃ k : Nat, k ≤ 9 ∧ i = .int .i64 k ∧ (∃ bv, Dsk wr w.heap.size (w.heap.size + 1) w.heap.size bv (wkM k)) ∧ Below w.heap.size w wr) (fun i _ => 9 - (intOf i).toNat)
  case atStart => exact ⟨0, by omega, rfl, ⟨_, hD⟩, hb⟩
  case round =>
    obtain ⟨k, hk, rfl, ⟨bv, hDk⟩, hbw⟩ := hrel
    clear hD hb
    by_cases hlt : k < 9
    · have hw := write_any hDk hbw.size (k : Int) b7
      rw [wk_ok k hlt] at hw
      have hwk : (writeM (wkM k) (k : Int) b7).1 = wkM (k + 1) := rfl
      rw [hwk] at hw
      have hki : (k : Int) < 9 := by omega
      have HDk := Lib.hid hDk
      clear hDk hwk
      go_wp2_with (with_reducible refine wpList_build_b7 rfl rfl ?_)
      refine hw.mono ?_
      rintro e W1 ⟨rfl, bv', hD1, hG1⟩
      have hb1 : Below w.heap.size w W1 := hbw.trans (hG1.below HDk.out hbw.size)
      clear hw hG1 hbw
      go_wp2
      go_roundw
      case rel => exact ⟨k + 1, by omega, by go_num, ⟨bv', hD1⟩, hb1⟩
      case measure => simp [intOf]; omega
    · obtain rfl : k = 9 := by omega
      have hp := pending_any hDk
      rw [wk_rows] at hp
      have HDk := Lib.hid hDk
      clear hDk hlt hk
      go_wp2_with fail
      refine hp.mono ?_
      rintro e W1 ⟨v, rfl, hown, hb1⟩
      obtain ⟨g, cap, rfl⟩ := ownsRow_succ hown
      have hD1 := HDk.out.later hb1
      have hcr := crash_any hD1 none 0 [] (.inl rfl) (by intro b off h9; cases h9) (by simp)
      have hb2 : Below w.heap.size w W1 := hbw.trans (hb1.mono hbw.size)
      have HD1 := Lib.hid hD1
      have HB2 := Lib.hid hb2
      clear hp hown hb1 hD1 hbw hb2
      go_wp2_with fail
      refine hcr.mono ?_
      rintro e W2 ⟨rfl, hD2, hG2⟩
      have hb3 : Below w.heap.size w W2 := HB2.out.trans (hG2.below HD1.out HB2.out.size)
      have hr0 := read_any hD2 0
      have hwc : crashM (wkM 9) [] = wkC := rfl
      rw [hwc, wk_r0] at hr0
      have HD2 := Lib.hid hD2
      have HB3 := Lib.hid hb3
      clear hcr hG2 hwc hD2 hb3
      go_wp2_with fail
      refine hr0.mono ?_
      rintro e W3 ⟨rfl, hD3, hG3⟩
      have hb4 : Below w.heap.size w W3 := HB3.out.trans (hG3.below HD2.out HB3.out.size)
      obtain ⟨W4, hW4⟩ : ∃ W4, W3.alloc (.cells b7.cs 31) = W4 := ⟨_, rfl⟩
      have c7 : Blk W4 W3.heap.size 31 b7.cs := by rw [← hW4]; exact Blk.new _ _ _
      have hD4 : Dsk W4 w.heap.size (w.heap.size + 1) w.heap.size (.slice none 0 0) (readM wkC 0).1 := by rw [← hW4]; exact hD3.alloc _
      have hb5 : Below w.heap.size w W4 := by rw [← hW4]; exact hb4.alloc hb4.size _
      have hr1 := read_any hD4 1
      rw [wk_r1] at hr1
      have hn3 : W3.heap.size ∉ fp (w.heap.size + 1) w.heap.size (.slice none 0 0) := hD3.beside (Nat.le_refl _)
      have HD4 := Lib.hid hD4
      have HB5 := Lib.hid hb5
      have hz : Bk.zero.cs.size = b7.cs.size := by rw [Bk.size, Bk.size]
      have HZ := Lib.hid hz
      clear hr0 hG3 hD3 hD4 hb4 hb5 hz
      go_wp2_with (first | (with_reducible refine wpList_alloc_z rfl 31 rfl Bk.zero.cs 64 z_blk ?_) | (with_reducible refine wpList_store_new rfl 31 (.tmp 4) (.tmp 38) rfl b7.cs Bk.zero.cs _ rfl rfl HZ.out (s_blk b7) b7.one ?_))
      clear hW4
      refine hr1.mono ?_
      rintro e W5 ⟨rfl, hD5, hG5⟩
      have c70 : W5.cell? ⟨W3.heap.size, 0, none⟩ = some (.int .u8 7) := (c7.kept hG5.kept hn3).cell 0
      have hb6 : Below w.heap.size w W5 := HB5.out.trans (hG5.below HD4.out HB5.out.size)
      have hl5 : W3.heap.size < W5.heap.size := (c7.kept hG5.kept hn3).lt
      obtain ⟨W6, hW6⟩ : ∃ W6, W5.alloc (.cells Bk.zero.cs 31) = W6 := ⟨_, rfl⟩
      have c8 : Blk W6 W5.heap.size 31 Bk.zero.cs := by rw [← hW6]; exact Blk.new _ _ _
      obtain ⟨W7, hW7⟩ : ∃ W7, W6.setRow W5.heap.size (over Bk.zero.cs 0 Bk.zero.cs) = W7 := ⟨_, rfl⟩
      have c9 : Blk W7 W5.heap.size 31 Bk.zero.cs := by rw [← hW7, zero_store]; exact c8.row _
      have c7' : Blk W7 W3.heap.size 31 b7.cs := by
        rw [← hW7]
        exact ((by rw [← hW6]; exact (c7.kept hG5.kept hn3).alloc _ : Blk W6 W3.heap.size 31 b7.cs)).kept (S := [W5.heap.size]) ((Kept.refl _ _).setRow (.inl (by simp)) _) (by simp; omega)
      have c71 : W7.cell? ⟨W3.heap.size, 0, none⟩ = some (.int .u8 7) := c7'.cell 0
      have c80 : W7.cell? ⟨W5.heap.size, 0, none⟩ = some (.int .u8 0) := c9.cell 0
      have hb7 : Below w.heap.size w W7 := by rw [← hW7, ← hW6]; exact below_setRow (hb6.alloc hb6.size _) hb6.size _
      have hfit : 0 + Bk.zero.cs.size ≤ Bk.zero.cs.size := by omega
      clear hr1 hD5 hG5 c7 hb6 hl5 c70 c9 c7'
      go_wp2_with (first | (with_reducible refine wpList_alloc_z rfl 31 rfl Bk.zero.cs 64 z_blk ?_; rw [hW6]) | (with_reducible refine wpList_store_blk rfl 31 (.tmp 5) (.tmp 43) rfl W5.heap.size 0 Bk.zero.cs Bk.zero.cs _ rfl rfl c8 hfit (s_blk Bk.zero) Bk.zero.one ?_; rw [hW7]))
      go_ret
      exact ⟨rfl, hb7⟩
end Go.Proofs.YtaikgngigaohmaaDoor
