/-
  Which disks are made, and what nothing answers: the walk of the whole law. Nothing here is a statement of the document.
-/
import Derived.Test.YtaikgngigaohmaaDskT
namespace Go.Proofs.Ytaikgngigaohmaa
open Go.RowKit Go.Shelf
set_option linter.unusedVariables false

def eqSem (a b : Value) : Sem Bool := Op.equalIn 10000 38 a b
theorem eq_rule (a b : Value) : Op.equalIn 10000 38 a b = eqSem a b := rfl
theorem eqSem_run (w : World) : (eqSem (.agg Bk.zero.cs) (.agg #[Value.int .u8 0, Value.int .u8 0, Value.int .u8 0, Value.int .u8 0, Value.int .u8 0, Value.int .u8 0, Value.int .u8 0, Value.int .u8 0, Value.int .u8 0, Value.int .u8 0, Value.int .u8 0, Value.int .u8 0, Value.int .u8 0, Value.int .u8 0, Value.int .u8 0, Value.int .u8 0, Value.int .u8 0, Value.int .u8 0, Value.int .u8 0, Value.int .u8 0, Value.int .u8 0, Value.int .u8 0, Value.int .u8 0, Value.int .u8 0, Value.int .u8 0, Value.int .u8 0, Value.int .u8 0, Value.int .u8 0, Value.int .u8 0, Value.int .u8 0, Value.int .u8 0, Value.int .u8 0, Value.int .u8 0, Value.int .u8 0, Value.int .u8 0, Value.int .u8 0, Value.int .u8 0, Value.int .u8 0, Value.int .u8 0, Value.int .u8 0, Value.int .u8 0, Value.int .u8 0, Value.int .u8 0, Value.int .u8 0, Value.int .u8 0, Value.int .u8 0, Value.int .u8 0, Value.int .u8 0, Value.int .u8 0, Value.int .u8 0, Value.int .u8 0, Value.int .u8 0, Value.int .u8 0, Value.int .u8 0, Value.int .u8 0, Value.int .u8 0, Value.int .u8 0, Value.int .u8 0, Value.int .u8 0, Value.int .u8 0, Value.int .u8 0, Value.int .u8 0, Value.int .u8 0, Value.int .u8 0])).run Try.prog w = .ok true w := by kernel_rfl
attribute [local go_sem ↓] load_blk_rule eq_rule

set_option maxRecDepth 100000 in
set_option maxHeartbeats 4000000 in
theorem sizes_bad (n : Int) (hn : n < 1 ∨ 2048 < n) (x : Deed) (ks : List Bool) (w : World) (h : Truths w x.ad ks) (hl : ks.length = x.len) (hc : x.len ≤ x.cap) (hm : x.cap ≤ maxLen) :
    Calls Try.prog 5 #[.int .i64 n, .agg x.cs] w fun e w' => e = .returned (.bool true) ∧ Below w.heap.size w w' := by
  have hdoes := fun W hW => does_nil x ks W (h.below hW) hl hc hm
  obtain ⟨k, s, m, f, a, len, cap⟩ := x
  simp only [Deed.cs] at *
  obtain ⟨W1, hW1⟩ : ∃ W1, w.alloc (.cells #[.int .i64 k, .int .i64 s, .int .i64 m, .int .u8 (f : Int), .slice a len cap] 36) = W1 := ⟨_, rfl⟩
  have hb1 : Below w.heap.size w W1 := by rw [← hW1]; exact (Below.refl _ _).alloc (Nat.le_refl _) _
  have b1 : Blk W1 w.heap.size 36 #[.int .i64 k, .int .i64 s, .int .i64 m, .int .u8 (f : Int), .slice a len cap] := by rw [← hW1]; exact Blk.new w _ _
  have H1 := Lib.hid (And.intro hb1 b1)
  have HDo := Lib.hid hdoes
  have hnone := new_none n hn
  have h00 : ∀ j, j < Bk.zero.cs.size → Bk.zero.cs[0 + j]? = Bk.zero.cs[j]? := fun j _ => by rw [Nat.zero_add]
  have H0 := Lib.hid h00
  have hfit : 0 + Bk.zero.cs.size ≤ Bk.zero.cs.size := by omega
  have HF := Lib.hid hfit
  have HZ := Lib.hid zero_store
  clear h00 hfit
  clear hdoes hb1 b1 h hl hc hm
  go_enter Try.func5, Try.ntmps5
  go_wp2_with fail
  clear hW1
  refine (wakes_any W1).mono ?_
  rintro e W2 ⟨rfl, hb2⟩
  have b2 := H1.out.2.kept (Kept.of_below [] hb2) (by simp)
  have c0 := b2.cell 0
  have c1 := b2.cell 1
  have c2 := b2.cell 2
  have c3 := b2.cell 3
  have c4 := b2.cell 4
  simp only [List.getElem?_toArray, List.getElem?_cons_zero, List.getElem?_cons_succ] at c0 c1 c2 c3 c4
  have hb3 := H1.out.1.trans (hb2.mono H1.out.1.size)
  have H3 := Lib.hid hb3
  clear hb2 b2 hb3 H1
  go_wp2_with fail
  refine (hnone W2).mono ?_
  rintro e w' ⟨rfl, rfl⟩
  clear hnone
  by_cases h1 : n < 1
  · have g1 : decide (n < 1) = true := by simpa using h1
    clear h1 hn
    go_wp2_with fail
    refine (HDo.out W2 H3.out).mono ?_
    rintro e W3 ⟨rfl, hb4⟩
    obtain ⟨W4, hW4⟩ : ∃ W4, W3.alloc (.cells Bk.zero.cs 38) = W4 := ⟨_, rfl⟩
    have b7 : Blk W4 W3.heap.size 38 Bk.zero.cs := by rw [← hW4]; exact Blk.new _ _ _
    obtain ⟨W5, hW5⟩ : ∃ W5, W4.setRow W3.heap.size Bk.zero.cs = W5 := ⟨_, rfl⟩
    have b8 : Blk W5 W3.heap.size 38 Bk.zero.cs := by rw [← hW5]; exact b7.row _
    have hb5 : Below w.heap.size w W5 := by rw [← hW5, ← hW4]; exact below_setRow ((H3.out.trans (hb4.mono H3.out.size)).alloc (Nat.le_trans H3.out.size hb4.size) _) (Nat.le_trans H3.out.size hb4.size) _
    have HB := Lib.hid hb5
    have L : (loadSem 38 (.pointer (some ⟨W3.heap.size, 0, none⟩))).run Try.prog W5 = .ok (.agg Bk.zero.cs) W5 := loadRes_of b8 (fun j _ => by rw [Nat.zero_add]) _ Try.underlying38 rfl (s_blk Bk.zero)
    have hee := eqSem_run W5
    clear b8
    clear hb4 hb5 c0 c1 c2 c3 c4
    go_wp2_with (first | (with_reducible refine wpList_alloc_z rfl 38 rfl Bk.zero.cs 64 z_blk ?_; rw [hW4]) | (with_reducible refine wpList_store_blk rfl 38 (.tmp 8) (.tmp 43) rfl W3.heap.size 0 Bk.zero.cs Bk.zero.cs _ rfl rfl b7 HF.out (s_blk Bk.zero) Bk.zero.one ?_; rw [HZ.out, hW5]) | (go_at_call 18; refine (len_nil _).mono ?_; rintro e w' ⟨rfl, rfl⟩) | (go_at_call 19; refine (pending_nil _).mono ?_; rintro e w' ⟨rfl, rfl⟩) | (go_at_call 20; refine (dead_nil _).mono ?_; rintro e w' ⟨rfl, rfl⟩) | (go_at_call 21; refine (ops_nil _).mono ?_; rintro e w' ⟨rfl, rfl⟩) | (go_at_call 17; refine (copy_nil _).mono ?_; rintro e w' ⟨rfl, rfl⟩))
    go_ret
    exact ⟨rfl, HB.out⟩
  · have g1 : decide (n < 1) = false := by simpa using h1
    have g2 : decide (2048 < n) = true := by simp; omega
    clear h1 hn
    go_wp2_with fail
    refine (HDo.out W2 H3.out).mono ?_
    rintro e W3 ⟨rfl, hb4⟩
    obtain ⟨W4, hW4⟩ : ∃ W4, W3.alloc (.cells Bk.zero.cs 38) = W4 := ⟨_, rfl⟩
    have b7 : Blk W4 W3.heap.size 38 Bk.zero.cs := by rw [← hW4]; exact Blk.new _ _ _
    obtain ⟨W5, hW5⟩ : ∃ W5, W4.setRow W3.heap.size Bk.zero.cs = W5 := ⟨_, rfl⟩
    have b8 : Blk W5 W3.heap.size 38 Bk.zero.cs := by rw [← hW5]; exact b7.row _
    have hb5 : Below w.heap.size w W5 := by rw [← hW5, ← hW4]; exact below_setRow ((H3.out.trans (hb4.mono H3.out.size)).alloc (Nat.le_trans H3.out.size hb4.size) _) (Nat.le_trans H3.out.size hb4.size) _
    have HB := Lib.hid hb5
    have L : (loadSem 38 (.pointer (some ⟨W3.heap.size, 0, none⟩))).run Try.prog W5 = .ok (.agg Bk.zero.cs) W5 := loadRes_of b8 (fun j _ => by rw [Nat.zero_add]) _ Try.underlying38 rfl (s_blk Bk.zero)
    have hee := eqSem_run W5
    clear b8
    clear hb4 hb5 c0 c1 c2 c3 c4
    go_wp2_with (first | (with_reducible refine wpList_alloc_z rfl 38 rfl Bk.zero.cs 64 z_blk ?_; rw [hW4]) | (with_reducible refine wpList_store_blk rfl 38 (.tmp 8) (.tmp 43) rfl W3.heap.size 0 Bk.zero.cs Bk.zero.cs _ rfl rfl b7 HF.out (s_blk Bk.zero) Bk.zero.one ?_; rw [HZ.out, hW5]) | (go_at_call 18; refine (len_nil _).mono ?_; rintro e w' ⟨rfl, rfl⟩) | (go_at_call 19; refine (pending_nil _).mono ?_; rintro e w' ⟨rfl, rfl⟩) | (go_at_call 20; refine (dead_nil _).mono ?_; rintro e w' ⟨rfl, rfl⟩) | (go_at_call 21; refine (ops_nil _).mono ?_; rintro e w' ⟨rfl, rfl⟩) | (go_at_call 17; refine (copy_nil _).mono ?_; rintro e w' ⟨rfl, rfl⟩))
    go_ret
    exact ⟨rfl, HB.out⟩
set_option maxRecDepth 100000 in
set_option maxHeartbeats 4000000 in
theorem sizes_good (n : Nat) (hn1 : 1 ≤ n) (hn2 : n ≤ 2048) (x : Deed) (ks : List Bool) (w : World) (h : Truths w x.ad ks) (hl : ks.length = x.len) (hc : x.len ≤ x.cap) (hm : x.cap ≤ maxLen) :
    Calls Try.prog 5 #[.int .i64 (n : Int), .agg x.cs] w fun e w' => e = .returned (.bool true) ∧ Below w.heap.size w w' := by
  have hdoes := fun W hW => does_nil x ks W (h.below hW) hl hc hm
  obtain ⟨k, s, m, f, a, len, cap⟩ := x
  simp only [Deed.cs] at *
  obtain ⟨W1, hW1⟩ : ∃ W1, w.alloc (.cells #[.int .i64 k, .int .i64 s, .int .i64 m, .int .u8 (f : Int), .slice a len cap] 36) = W1 := ⟨_, rfl⟩
  have hb1 : Below w.heap.size w W1 := by rw [← hW1]; exact (Below.refl _ _).alloc (Nat.le_refl _) _
  have b1 : Blk W1 w.heap.size 36 #[.int .i64 k, .int .i64 s, .int .i64 m, .int .u8 (f : Int), .slice a len cap] := by rw [← hW1]; exact Blk.new w _ _
  have H1 := Lib.hid (And.intro hb1 b1)
  have HDo := Lib.hid hdoes
  have h00 : ∀ j, j < Bk.zero.cs.size → Bk.zero.cs[0 + j]? = Bk.zero.cs[j]? := fun j _ => by rw [Nat.zero_add]
  have H0 := Lib.hid h00
  have hfit : 0 + Bk.zero.cs.size ≤ Bk.zero.cs.size := by omega
  have HF := Lib.hid hfit
  have HZ := Lib.hid zero_store
  clear h00 hfit
  clear hdoes hb1 b1 h hl hc hm
  go_enter Try.func5, Try.ntmps5
  go_wp2_with fail
  clear hW1
  refine (wakes_any W1).mono ?_
  rintro e W2 ⟨rfl, hb2⟩
  have b2 := H1.out.2.kept (Kept.of_below [] hb2) (by simp)
  have HS := Lib.hid b2.lt
  have c0 := b2.cell 0
  have c1 := b2.cell 1
  have c2 := b2.cell 2
  have c3 := b2.cell 3
  have c4 := b2.cell 4
  simp only [List.getElem?_toArray, List.getElem?_cons_zero, List.getElem?_cons_succ] at c0 c1 c2 c3 c4
  have hb3 := H1.out.1.trans (hb2.mono H1.out.1.size)
  have H3 := Lib.hid hb3
  clear hb2 b2 hb3 H1
  go_wp2_with fail
  refine (new_any n hn1 hn2 W2).mono ?_
  rintro e W3 ⟨rfl, hD, hb⟩
  have hs : w.heap.size < W2.heap.size := HS.out
  replace c0 := (hb.cell (p := ⟨w.heap.size, 0, none⟩) hs).trans c0
  replace c1 := (hb.cell (p := ⟨w.heap.size, 1, none⟩) hs).trans c1
  replace c2 := (hb.cell (p := ⟨w.heap.size, 2, none⟩) hs).trans c2
  replace c3 := (hb.cell (p := ⟨w.heap.size, 3, none⟩) hs).trans c3
  replace c4 := (hb.cell (p := ⟨w.heap.size, 4, none⟩) hs).trans c4
  have hb4 := H3.out.trans (hb.mono H3.out.size)
  obtain ⟨i0, hi, hz0, hz1, hz2⟩ := info_parts i_blk
  have hmk := run_make (P := Try.prog) W3 29 38 i0 (.agg Bk.zero.cs) Try.underlying29 hi hz0 .i64 .i64 (n : Int) (n : Int) (by omega) (by omega) (by rw [hz2]; omega) (by omega)
  rw [hz1, show (n : Int).toNat = n from by omega, made_blocks] at hmk
  obtain ⟨PC, hPC⟩ : ∃ PC, (pcs (List.replicate n Bk.zero)).toArray = PC := ⟨_, rfl⟩
  rw [hPC] at hmk
  obtain ⟨W4, hW4⟩ : ∃ W4, W3.alloc (.cells PC 38) = W4 := ⟨_, rfl⟩
  rw [hW4] at hmk
  have hb5 : Below W3.heap.size W3 W4 := by rw [← hW4]; exact (Below.refl _ _).alloc (Nat.le_refl _) _
  have his := is_new n (hD.later hb5) (some ⟨W3.heap.size, 0, none⟩) n
  have h3s : w.heap.size < W3.heap.size := Nat.lt_of_lt_of_le hs hb.size
  have g1 : decide ((n : Int) < 1) = false := by simp; omega
  have g2 : decide ((2048 : Int) < (n : Int)) = false := by simp; omega
  have H5 := Lib.hid (And.intro hb4 (And.intro hb5 h3s))
  replace c0 := (hb5.cell (p := ⟨w.heap.size, 0, none⟩) h3s).trans c0
  replace c1 := (hb5.cell (p := ⟨w.heap.size, 1, none⟩) h3s).trans c1
  replace c2 := (hb5.cell (p := ⟨w.heap.size, 2, none⟩) h3s).trans c2
  replace c3 := (hb5.cell (p := ⟨w.heap.size, 3, none⟩) h3s).trans c3
  replace c4 := (hb5.cell (p := ⟨w.heap.size, 4, none⟩) h3s).trans c4
  clear hb hb4 hb5 h3s hs hD hi hz0 hz1 hz2 hW4 hPC hn1 hn2 HS
  go_wp2_with fail
  refine his.mono ?_
  rintro e W6 ⟨rfl, hb6⟩
  have h4s : w.heap.size < W4.heap.size := Nat.lt_of_lt_of_le H5.out.2.2 H5.out.2.1.size
  replace c0 := (hb6.cell (p := ⟨w.heap.size, 0, none⟩) h4s).trans c0
  replace c1 := (hb6.cell (p := ⟨w.heap.size, 1, none⟩) h4s).trans c1
  replace c2 := (hb6.cell (p := ⟨w.heap.size, 2, none⟩) h4s).trans c2
  replace c3 := (hb6.cell (p := ⟨w.heap.size, 3, none⟩) h4s).trans c3
  replace c4 := (hb6.cell (p := ⟨w.heap.size, 4, none⟩) h4s).trans c4
  have hb7 : Below w.heap.size w W6 := (H5.out.1.trans (H5.out.2.1.mono H5.out.1.size)).trans (hb6.mono (Nat.le_of_lt h4s))
  have H6 := Lib.hid hb7
  clear his hb6 h4s hb7 hmk H5
  go_wp2_with fail
  refine (HDo.out W6 H6.out).mono ?_
  rintro e X3 ⟨rfl, hb4⟩
  obtain ⟨X4, hX4⟩ : ∃ X4, X3.alloc (.cells Bk.zero.cs 38) = X4 := ⟨_, rfl⟩
  have b7 : Blk X4 X3.heap.size 38 Bk.zero.cs := by rw [← hX4]; exact Blk.new _ _ _
  obtain ⟨X5, hX5⟩ : ∃ X5, X4.setRow X3.heap.size Bk.zero.cs = X5 := ⟨_, rfl⟩
  have b8 : Blk X5 X3.heap.size 38 Bk.zero.cs := by rw [← hX5]; exact b7.row _
  have hb5 : Below w.heap.size w X5 := by rw [← hX5, ← hX4]; exact below_setRow ((H6.out.trans (hb4.mono H6.out.size)).alloc (Nat.le_trans H6.out.size hb4.size) _) (Nat.le_trans H6.out.size hb4.size) _
  have HB := Lib.hid hb5
  have L : (loadSem 38 (.pointer (some ⟨X3.heap.size, 0, none⟩))).run Try.prog X5 = .ok (.agg Bk.zero.cs) X5 := loadRes_of b8 (fun j _ => by rw [Nat.zero_add]) _ Try.underlying38 rfl (s_blk Bk.zero)
  have hee := eqSem_run X5
  clear b8
  clear hb4 hb5 c0 c1 c2 c3 c4
  go_wp2_with (first | (with_reducible refine wpList_alloc_z rfl 38 rfl Bk.zero.cs 64 z_blk ?_; rw [hX4]) | (with_reducible refine wpList_store_blk rfl 38 (.tmp 8) (.tmp 43) rfl X3.heap.size 0 Bk.zero.cs Bk.zero.cs _ rfl rfl b7 HF.out (s_blk Bk.zero) Bk.zero.one ?_; rw [HZ.out, hX5]) | (go_at_call 18; refine (len_nil _).mono ?_; rintro e w' ⟨rfl, rfl⟩) | (go_at_call 19; refine (pending_nil _).mono ?_; rintro e w' ⟨rfl, rfl⟩) | (go_at_call 20; refine (dead_nil _).mono ?_; rintro e w' ⟨rfl, rfl⟩) | (go_at_call 21; refine (ops_nil _).mono ?_; rintro e w' ⟨rfl, rfl⟩) | (go_at_call 17; refine (copy_nil _).mono ?_; rintro e w' ⟨rfl, rfl⟩))
  go_ret
  exact ⟨rfl, HB.out⟩
end Go.Proofs.Ytaikgngigaohmaa
