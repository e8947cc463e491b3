/-
  Disks that do what they are asked to; a log of such a disk step by step; the layer wakes. Nothing here is a statement of the document.
-/
import Derived.Test.YtelpihlifdfgoaaWalR
import Derived.Test.YtelpihlifdfgoaaDskL
import Derived.Laws.MakeOwn
namespace Go.Proofs.Ytelpihlifdfgoaa
open Go.RowKit Go.Shelf
set_option linter.unusedVariables false
theorem Told.more {C C' : List Nat} {x : RowW} {w : World} (h : Told C x w) (hs : ∀ c ∈ C, c ∈ C') (hl : ∀ c ∈ C', c < w.heap.size) : Told C' x w :=
  ⟨h.eg, hl, fun S W k hC hS => h.tells S W k (fun c hc => hC c (hs c hc)) hS⟩
theorem Told.later {C : List Nat} {x : RowW} {w w' : World} (h : Told C x w) (k : Below w.heap.size w w') : Told C x w' :=
  ⟨h.eg, fun c hc => Nat.lt_of_lt_of_le (h.lt c hc) k.size, fun S W kb hC hS => h.tells S W ((KB.below k).trans kb) hC hS⟩
theorem bel_lat {w a b : World} (h : Below w.heap.size w a) (k : Below a.heap.size a b) : Below w.heap.size w b := h.trans (k.mono h.size)
theorem fp_lt {w : World} {B p pb : Nat} {bv : Value} {D : Dk} (h : Dsk w B p pb bv D) : ∀ i ∈ fp p pb bv, i < w.heap.size := by
  intro i hm
  simp only [fp, List.mem_cons, Option.mem_toList] at hm
  rcases hm with rfl | rfl | h9
  · exact h.cells.lt
  · exact h.plate.lt
  · exact (h.buf.lt i h9).2
/-- What is written for a region. -/
def filL (first size : Nat) (b : Bk) : List (Nat × Bk) := (List.range size).map fun k => (first + k, b)
def buildZ (parts : Array (Nat × Value)) : Sem Value := Instr.build 81 parts
theorem buildZ_rule (parts : Array (Nat × Value)) : Instr.build 81 parts = buildZ parts := rfl
theorem buildZ_run (w : World) : (buildZ #[]).run Try.prog w = .ok (.agg Bk.zero.cs) w := build_blk_zero w
/-- What Format writes. -/
def fmtL (n : Nat) : List (List (Nat × Bk)) := [filL 0 (2 + 2 * n) Bk.zero, frmL 2 1 0 [], filL 0 2 (labL n)]
attribute [local go_sem ↓] buildZ_rule
set_option maxRecDepth 100000 in
set_option maxHeartbeats 4000000 in
theorem wformat_done {w : World} {B p pb n : Nat} {bv : Value} {D : Dk} (hD : Dsk w B p pb bv D) (hB : B ≤ w.heap.size) (hn4 : 4 ≤ n) (hn : n ≤ 1000) (hroom : 2 + 2 * n ≤ D.plate.length) :
    Calls Try.prog 28 #[.pointer (some ⟨p, 0, none⟩), .int .i64 (n : Int)] w fun e w' => ∃ bv', Dsk w' B p pb bv' (laysM D (fmtL n)).1 ∧
      ((laysM D (fmtL n)).2 = 0 → ∃ g v, e = .returned (.tuple #[.pointer (some ⟨g, 0, none⟩), .int .i64 0]) ∧ w.heap.size ≤ g ∧ w'.ownsRow w.heap.size 5 1 v 0 [] ∧ Blk w' g 67 (lgcs 1 v (.slice none 0 0) 1 p n 0 false)) ∧
      ((laysM D (fmtL n)).2 ≠ 0 → e = .returned (.tuple #[.pointer none, .int .i64 (laysM D (fmtL n)).2])) ∧ Kept (fp p pb bv) w w' ∧ (∀ k, bv'.ownBlock = some k → bv.ownBlock = some k ∨ w.heap.size ≤ k) := by
  have hmb := mayBe_any hD (n : Int)
  rw [show mayB (n : Int) D.plate.length = true by unfold mayB; simp; omega] at hmb
  have har := fun w' => areas_any n hn w'
  have hbe := fun w' => begun_any 1 (by omega) none 0 0 [] w' (.inl rfl) rfl (by omega) (fun _ => rfl)
  have hs1 : secN 0 = 1 := rfl
  rw [hs1] at hbe
  have hbe' : ∀ w', Calls Try.prog 46 #[.int .u32 1, .slice none 0 0] w' fun e w'' => ∃ v, e = .returned (.agg #[.int .u32 1, v, .slice none 0 0, .int .i64 1]) ∧ w''.ownsRow w'.heap.size 5 1 v 0 [] ∧ Below w'.heap.size w' w'' := hbe
  have har' : ∀ w', Calls Try.prog 39 #[.int .i64 (n : Int)] w' fun e w'' => e = .returned (.agg #[.int .i64 2, .int .i64 (n : Int), .int .i64 ((2 : Int) + (n : Int)), .int .i64 (n : Int)]) ∧ Below w'.heap.size w' w'' := har
  have HD := Lib.hid (And.intro hD hB)
  clear hD har hbe
  have hnI : (n : Int) ≤ 1000 := by omega
  obtain ⟨LR, hLR⟩ : ∃ LR, laysM D (fmtL n) = LR := ⟨_, rfl⟩
  rw [hLR]
  go_enter Try.func28, Try.ntmps28
  go_wp2_with fail
  refine hmb.mono ?_
  rintro e w1 ⟨rfl, rfl⟩
  clear hmb
  go_wp2_with fail
  refine (har' _).mono ?_
  rintro e W1 ⟨rfl, hb1⟩
  clear har'
  go_wp2_with fail
  refine (hbe' _).mono ?_
  rintro e W2 ⟨v, rfl, hown, hb2⟩
  obtain ⟨va, vc, rfl⟩ := wown_slice hown
  clear hbe'
  have HB2 := Lib.hid (And.intro (show Below w.heap.size w W2 from hb1.trans (hb2.mono hb1.size)) (And.intro hown hb1))
  clear hb1 hb2 hown
  go_wp2_with fail
  obtain ⟨g, hg⟩ : ∃ g, W2.heap.size = g := ⟨_, rfl⟩
  generalize hW3 : World.alloc (World.alloc W2 _) _ = W3
  have e7 : rgs 0 (2 + 2 * n) = #[.int .i64 0, .int .i64 (2 + 2 * (n : Int))] := by simp [rgs]
  have bg3 : Blk W3 W2.heap.size 67 (lgcs 1 (.slice va 0 vc) (.slice none 0 0) 1 p n 0 false) := by rw [← hW3]; exact (Blk.new W2 _ _).alloc _
  have br3 : Blk W3 (W2.heap.size + 1) 64 #[.int .i64 0, .int .i64 (2 + 2 * (n : Int))] := by rw [← hW3]; exact Blk.wnew2 W2 _ _ _
  have hb23 : Below W2.heap.size W2 W3 := by rw [← hW3]; exact ((Below.refl _ _).alloc (Nat.le_refl _) _).alloc (by simp) _
  have hs3 : W3.heap.size = W2.heap.size + 2 := by rw [← hW3]; simp
  obtain ⟨r7, hr7⟩ : ∃ r7, W2.heap.size + 1 = r7 := ⟨_, rfl⟩
  rw [hr7] at br3 ⊢
  have HG := Lib.hid (And.intro hg (And.intro hr7 hs3))
  rw [hg] at bg3 ⊢
  clear hW3 hg hr7 hs3
  have hb3 : Below w.heap.size w W3 := HB2.out.1.trans (hb23.mono HB2.out.1.size)
  obtain ⟨S, hS⟩ : ∃ S : World → Prop, S = fun w' => (∃ b', Blk w' g 67 (lgcs 1 (.slice va 0 vc) (.slice none 0 0) 1 p n 0 b')) ∧ Blk w' r7 64 #[.int .i64 0, .int .i64 (2 + 2 * (n : Int))] := ⟨_, rfl⟩
  have hSi : ∀ (w' : World) (b' : Bool), Blk w' g 67 (lgcs 1 (.slice va 0 vc) (.slice none 0 0) 1 p n 0 b') → Blk w' r7 64 #[.int .i64 0, .int .i64 (2 + 2 * (n : Int))] → S w' := fun w' b' h9 h8 => by rw [hS]; exact ⟨⟨b', h9⟩, h8⟩
  have L5 : ∀ w', S w' → w'.cell? ⟨g, 5, none⟩ = some (.int .i64 2) := fun w' h9 => by rw [hS] at h9; obtain ⟨⟨b', h9⟩, _⟩ := h9; exact h9.cell 5
  have L70 : ∀ w', S w' → w'.cell? ⟨r7, 0, none⟩ = some (.int .i64 0) := fun w' h9 => by rw [hS] at h9; exact h9.2.cell 0
  have L71 : ∀ w', S w' → w'.cell? ⟨r7, 1, none⟩ = some (.int .i64 (2 + 2 * (n : Int))) := fun w' h9 => by rw [hS] at h9; exact h9.2.cell 1
  obtain ⟨ZC, hZC⟩ : ∃ ZC, Bk.zero.cs = ZC := ⟨_, rfl⟩
  obtain ⟨LC, hLC⟩ : ∃ LC, (labL n).cs = LC := ⟨_, rfl⟩
  have hbz : ∀ w', S w' → (buildZ #[]).run Try.prog w' = .ok (.agg ZC) w' := fun w' _ => by rw [← hZC]; exact buildZ_run w'
  have hf1 : ∀ W, Calls Try.prog 47 #[.agg #[.int .i64 0, .int .i64 (2 + 2 * (n : Int))], .agg ZC] W fun e w' =>
      e = .returned (.func (.func 63) #[] #[.pointer (some ⟨W.heap.size, 0, none⟩), .pointer (some ⟨W.heap.size + 1, 0, none⟩)]) ∧ Blk w' W.heap.size 64 (rgs 0 (2 + 2 * n)) ∧ Blk w' (W.heap.size + 1) 81 Bk.zero.cs ∧ Below W.heap.size W w' := fun W => by
    have := filled_any 0 (2 + 2 * n) Bk.zero W
    rw [e7, hZC] at this
    rw [e7, hZC]
    exact this
  have hf2 : ∀ W, Calls Try.prog 47 #[.agg #[.int .i64 0, .int .i64 2], .agg LC] W fun e w' =>
      e = .returned (.func (.func 63) #[] #[.pointer (some ⟨W.heap.size, 0, none⟩), .pointer (some ⟨W.heap.size + 1, 0, none⟩)]) ∧ Blk w' W.heap.size 64 (rgs 0 2) ∧ Blk w' (W.heap.size + 1) 81 (labL n).cs ∧ Below W.heap.size W w' := fun W => by
    have := filled_any 0 2 (labL n) W
    rw [hLC] at this
    rw [hLC]
    exact this
  have hla : ∀ W, Calls Try.prog 49 #[.int .i64 (n : Int)] W fun e w' => e = .returned (.agg LC) ∧ Below W.heap.size W w' := fun W => by
    have := label_any n hn W
    rwa [hLC] at this
  have hro : ∀ W, Calls Try.prog 48 #[.agg #[.int .u32 1, .int .u32 0, .slice none 0 0], .int .i64 2] W fun e w' =>
      e = .returned (.func (.func 64) #[] #[.pointer (some ⟨W.heap.size, 0, none⟩), .pointer (some ⟨W.heap.size + 1, 0, none⟩)]) ∧ Blk w' W.heap.size 105 (fcs 1 0 none 0 0) ∧ Blk w' (W.heap.size + 1) 3 #[.int .i64 ((2 : Nat) : Int)] ∧ Below W.heap.size W w' := fun W => rows_of 2 1 0 none 0 0 [] W
  have hSW : S W3.drew := hSi _ false bg3.drew br3.drew
  have HK := Lib.hid (And.intro hb3 (And.intro bg3 (And.intro br3 (And.intro hSi (And.intro hZC hLC)))))
  have HB23 := Lib.hid hb23
  clear hb3 bg3 br3 hSi hZC hLC hb23
  refine wp_region_linY S [3, 11, 14, 15, 16, 17] [0, 1, 2, 4, 5, 6, 7, 8, 9, 10, 12, 13, 3, 11, 14, 15, 16, 17, 18] (by kernel_rfl) (by kernel_rfl) hSW ?_
  (repeat (first | (refine linX_off rfl rfl (by rfl) ?_; (try simp only [Act.put, List.getElem_toArray, List.getElem_cons_zero, List.getElem_cons_succ, List.setIfInBounds_toArray, List.set_cons_zero, List.set_cons_succ])) | (refine linX_op (v := ?_) rfl rfl (by rfl) (fun w9 hS9 => ?_) ?_; rotate_left; (focus (((have k0 := L5 w9 hS9; have k1 := L70 w9 hS9; have k2 := L71 w9 hS9; have k3 := hbz w9 hS9; go_simp; (try go_bits)) <;> with_reducible rfl))); (try simp only [Act.put, List.getElem_toArray, List.getElem_cons_zero, List.getElem_cons_succ, List.setIfInBounds_toArray, List.set_cons_zero, List.set_cons_succ]))))
  have hbd : Below w.heap.size w W3.drew := HK.out.1.drew
  have hd3 : W3.drew.heap.size = W3.heap.size := rfl
  obtain ⟨W3d, hW3d⟩ : ∃ W3d, W3.drew = W3d := ⟨_, rfl⟩
  have bg3 : Blk W3d g 67 (lgcs 1 (.slice va 0 vc) (.slice none 0 0) 1 p n 0 false) := by rw [← hW3d]; exact HK.out.2.1.drew
  have br3 : Blk W3d r7 64 #[.int .i64 0, .int .i64 (2 + 2 * (n : Int))] := by rw [← hW3d]; exact HK.out.2.2.1.drew
  have h2d : Below W2.heap.size W2 W3d := by rw [← hW3d]; exact HB23.out.drew
  rw [hW3d] at hbd hd3 ⊢
  have HD3 := Lib.hid hd3
  clear hW3d hd3
  refine linX_call (f := 47) (args := #[.agg #[.int .i64 0, .int .i64 (2 + 2 * (n : Int))], .agg ZC]) rfl rfl (by rfl) rfl rfl (enters_of Try.func47 (by kernel_rfl) rfl) ?_ ?_
  · simp [Act.eval]
  refine (hf1 _).mono ?_
  rintro e W4 ⟨rfl, b41, b42, hb4⟩
  have S4 := HK.out.2.2.2.1 _ _ (bg3.kept (Kept.of_below [] hb4) (by simp)) (br3.kept (Kept.of_below [] hb4) (by simp))
  refine ⟨_, rfl, S4, ?_⟩
  (try simp only [Act.put, List.getElem_toArray, List.getElem_cons_zero, List.getElem_cons_succ, List.setIfInBounds_toArray, List.set_cons_zero, List.set_cons_succ])
  (repeat (first | (refine linX_off rfl rfl (by rfl) ?_; (try simp only [Act.put, List.getElem_toArray, List.getElem_cons_zero, List.getElem_cons_succ, List.setIfInBounds_toArray, List.set_cons_zero, List.set_cons_succ])) | (refine linX_op (v := ?_) rfl rfl (by rfl) (fun w9 hS9 => ?_) ?_; rotate_left; (focus (((have k0 := L5 w9 hS9; have k1 := L70 w9 hS9; have k2 := L71 w9 hS9; have k3 := hbz w9 hS9; go_simp; (try go_bits)) <;> with_reducible rfl))); (try simp only [Act.put, List.getElem_toArray, List.getElem_cons_zero, List.getElem_cons_succ, List.setIfInBounds_toArray, List.set_cons_zero, List.set_cons_succ]))))
  refine linX_call (f := 48) (args := #[.agg #[.int .u32 1, .int .u32 0, .slice none 0 0], .int .i64 2]) rfl rfl (by rfl) rfl rfl (enters_of Try.func48 (by kernel_rfl) rfl) ?_ ?_
  · simp [Act.eval]
  refine (hro _).mono ?_
  rintro e W5 ⟨rfl, b51, b52, hb5⟩
  have k35 := bel_lat hb4 hb5
  have S5 := HK.out.2.2.2.1 _ _ (bg3.kept (Kept.of_below [] k35) (by simp)) (br3.kept (Kept.of_below [] k35) (by simp))
  refine ⟨_, rfl, S5, ?_⟩
  (try simp only [Act.put, List.getElem_toArray, List.getElem_cons_zero, List.getElem_cons_succ, List.setIfInBounds_toArray, List.set_cons_zero, List.set_cons_succ])
  (repeat (first | (refine linX_off rfl rfl (by rfl) ?_; (try simp only [Act.put, List.getElem_toArray, List.getElem_cons_zero, List.getElem_cons_succ, List.setIfInBounds_toArray, List.set_cons_zero, List.set_cons_succ])) | (refine linX_op (v := ?_) rfl rfl (by rfl) (fun w9 hS9 => ?_) ?_; rotate_left; (focus (((have k0 := L5 w9 hS9; have k1 := L70 w9 hS9; have k2 := L71 w9 hS9; have k3 := hbz w9 hS9; go_simp; (try go_bits)) <;> with_reducible rfl))); (try simp only [Act.put, List.getElem_toArray, List.getElem_cons_zero, List.getElem_cons_succ, List.setIfInBounds_toArray, List.set_cons_zero, List.set_cons_succ]))))
  refine linX_call (f := 49) (args := #[.int .i64 (n : Int)]) rfl rfl (by rfl) rfl rfl (enters_of Try.func49 (by kernel_rfl) rfl) ?_ ?_
  · simp [Act.eval]
  refine (hla _).mono ?_
  rintro e W6 ⟨rfl, hb6⟩
  have k36 := bel_lat k35 hb6
  have S6 := HK.out.2.2.2.1 _ _ (bg3.kept (Kept.of_below [] k36) (by simp)) (br3.kept (Kept.of_below [] k36) (by simp))
  refine ⟨_, rfl, S6, ?_⟩
  (try simp only [Act.put, List.getElem_toArray, List.getElem_cons_zero, List.getElem_cons_succ, List.setIfInBounds_toArray, List.set_cons_zero, List.set_cons_succ])
  (repeat (first | (refine linX_off rfl rfl (by rfl) ?_; (try simp only [Act.put, List.getElem_toArray, List.getElem_cons_zero, List.getElem_cons_succ, List.setIfInBounds_toArray, List.set_cons_zero, List.set_cons_succ])) | (refine linX_op (v := ?_) rfl rfl (by rfl) (fun w9 hS9 => ?_) ?_; rotate_left; (focus (((have k0 := L5 w9 hS9; have k1 := L70 w9 hS9; have k2 := L71 w9 hS9; have k3 := hbz w9 hS9; go_simp; (try go_bits)) <;> with_reducible rfl))); (try simp only [Act.put, List.getElem_toArray, List.getElem_cons_zero, List.getElem_cons_succ, List.setIfInBounds_toArray, List.set_cons_zero, List.set_cons_succ]))))
  refine linX_call (f := 47) (args := #[.agg #[.int .i64 0, .int .i64 2], .agg LC]) rfl rfl (by rfl) rfl rfl (enters_of Try.func47 (by kernel_rfl) rfl) ?_ ?_
  · simp [Act.eval]
  refine (hf2 _).mono ?_
  rintro e W7 ⟨rfl, b71, b72, hb7⟩
  have k37 := bel_lat k36 hb7
  have S7 := HK.out.2.2.2.1 _ _ (bg3.kept (Kept.of_below [] k37) (by simp)) (br3.kept (Kept.of_below [] k37) (by simp))
  refine ⟨_, rfl, S7, ?_⟩
  (try simp only [Act.put, List.getElem_toArray, List.getElem_cons_zero, List.getElem_cons_succ, List.setIfInBounds_toArray, List.set_cons_zero, List.set_cons_succ])
  obtain ⟨ROWS, hROWS⟩ : ∃ ROWS, [fillR 0 (2 + 2 * n) Bk.zero W3d.heap.size (W3d.heap.size + 1), frameR 2 1 0 [] W4.heap.size (W4.heap.size + 1), fillR 0 2 (labL n) W6.heap.size (W6.heap.size + 1)] = ROWS := ⟨_, rfl⟩
  obtain ⟨W8, hW8⟩ : ∃ W8, W7.alloc (.cells (rowVals ROWS) 95) = W8 := ⟨_, rfl⟩
  have hW8' : W7.alloc (.cells #[.func (.func 63) #[] #[.pointer (some ⟨W3d.heap.size, 0, none⟩), .pointer (some ⟨W3d.heap.size + 1, 0, none⟩)], .func (.func 64) #[] #[.pointer (some ⟨W4.heap.size, 0, none⟩), .pointer (some ⟨W4.heap.size + 1, 0, none⟩)], .func (.func 63) #[] #[.pointer (some ⟨W6.heap.size, 0, none⟩), .pointer (some ⟨W6.heap.size + 1, 0, none⟩)]] 95) = W8 := by rw [← hROWS] at hW8; exact hW8
  have hb8 : Below W7.heap.size W7 W8 := by rw [← hW8]; exact (Below.refl _ _).alloc (Nat.le_refl _) _
  have br8 : Blk W8 W7.heap.size 95 (rowVals ROWS) := by rw [← hW8]; exact Blk.new _ _ _
  have k38 := bel_lat k37 hb8
  have bg8 := bg3.kept (Kept.of_below [] k38) (by simp)
  have brg8 := br3.kept (Kept.of_below [] k38) (by simp)
  refine linX_do (v := .slice (some ⟨W7.heap.size, 0, none⟩) 3 3) (w' := W8) rfl rfl (by rfl) ?_ (HK.out.2.2.2.1 _ _ bg8 brg8) ?_
  · (focus ((go_simp; (try go_bits)) <;> with_reducible rfl))
  (try simp only [Act.put, List.getElem_toArray, List.getElem_cons_zero, List.getElem_cons_succ, List.setIfInBounds_toArray, List.set_cons_zero, List.set_cons_succ])
  have hb08 : Below w.heap.size w W8 := bel_lat hbd k38
  have hD8 := HD.out.1.later hb08
  have h48 : Below W4.heap.size W4 W8 := bel_lat hb5 (bel_lat hb6 (bel_lat hb7 hb8))
  have h58 : Below W5.heap.size W5 W8 := bel_lat hb6 (bel_lat hb7 hb8)
  have s0 := hbd.size
  have s4 := hb4.size
  have s5 := hb5.size
  have s6 := hb6.size
  have s7 := hb7.size
  have l41 := b41.lt
  have l42 := b42.lt
  have l51 := b51.lt
  have l52 := b52.lt
  have l71 := b71.lt
  have l72 := b72.lt
  have s8 := hb8.size
  have hC8 : ∀ c ∈ [W3d.heap.size, W3d.heap.size + 1, W4.heap.size, W4.heap.size + 1, W6.heap.size, W6.heap.size + 1], c < W8.heap.size := by
    intro c hc
    simp only [List.mem_cons, List.not_mem_nil, or_false] at hc
    omega
  have T1 := ((told_filled b41 b42 (by omega)).later h48).more (C' := [W3d.heap.size, W3d.heap.size + 1, W4.heap.size, W4.heap.size + 1, W6.heap.size, W6.heap.size + 1]) (by simp) hC8
  have T2 := ((told_rows (w := W5) (first := 2) (t := 1) (n := 0) (a := none) (l := []) (len := 0) (cap := 0) rfl (by omega) (Nat.le_refl _) (fun n hn => by simp at hn) (by omega) (by omega) b51 b52 (.inl rfl) (fun x hx => by cases hx) (by omega)).later h58).more (C' := [W3d.heap.size, W3d.heap.size + 1, W4.heap.size, W4.heap.size + 1, W6.heap.size, W6.heap.size + 1]) (by simp) hC8
  have T3 := ((told_filled b71 b72 (by omega)).later hb8).more (C' := [W3d.heap.size, W3d.heap.size + 1, W4.heap.size, W4.heap.size + 1, W6.heap.size, W6.heap.size + 1]) (by simp) hC8
  have hlt := fp_lt HD.out.1
  have hpw : p < w.heap.size := hlt p (by simp [fp])
  have hpbw : pb < w.heap.size := hlt pb (by simp [fp])
  have hwr := wwrite_any hD8 (Nat.le_trans HD.out.2 hb08.size) bg8 rfl rfl ROWS [W3d.heap.size, W3d.heap.size + 1, W4.heap.size, W4.heap.size + 1, W6.heap.size, W6.heap.size + 1] (by simp; omega) (by simp; omega) (fun x hx => by
    rw [← hROWS] at hx
    simp only [List.mem_cons, List.not_mem_nil, or_false] at hx
    rcases hx with rfl | rfl | rfl
    · exact T1
    · exact T2
    · exact T3) br8 (by rw [← hROWS]; simp)
  rw [show ROWS.length = 3 by rw [← hROWS]; rfl, show errsOf D ROWS = laysM D (fmtL n) by rw [← hROWS]; rfl] at hwr
  rw [hLR] at hwr
  have HW := Lib.hid (And.intro hb08 (And.intro bg8 (And.intro brg8 (And.intro hlt (And.intro s0 (And.intro (bel_lat h2d k38) trivial))))))
  clear T1 T2 T3 hC8 b41 b42 b51 b52 b71 b72 hb4 hb5 hb6 hb7 hb8 k35 k36 k37 k38 S4 S5 S6 S7 hf1 hf2 hro hla br8 bg8 brg8 hb08 hD8 h48 h58 l41 l42 l51 l52 l71 l72 s0 s4 s5 s6 s7 s8 hpw hpbw hlt bg3 br3 hbd hW8 hW8' hROWS
  refine linX_call (f := 41) (args := #[.pointer (some ⟨g, 0, none⟩), .slice (some ⟨W7.heap.size, 0, none⟩) 3 3]) rfl rfl (by rfl) rfl rfl (enters_of Try.func41 (by kernel_rfl) rfl) ?_ ?_
  · simp [Act.eval]
  refine hwr.mono ?_
  rintro e w9 ⟨rfl, bv', hD9, hg9, hk9, ho9⟩
  clear hwr
  have hgw : w.heap.size ≤ g := by rw [← HG.out.1]; exact HB2.out.1.size
  have hr7w : r7 = g + 1 := by rw [← HG.out.1]; exact HG.out.2.1.symm
  have hr9 := HW.out.2.2.1.kept hk9 (by
    intro hm
    rcases List.mem_cons.1 hm with h9 | h9
    · omega
    · have := HW.out.2.2.2.1 _ h9; omega)
  refine ⟨_, rfl, HK.out.2.2.2.1 _ _ hg9 hr9, ?_⟩
  (try simp only [Act.put, List.getElem_toArray, List.getElem_cons_zero, List.getElem_cons_succ, List.setIfInBounds_toArray, List.set_cons_zero, List.set_cons_succ])
  (repeat (first | (refine linX_off rfl rfl (by rfl) ?_; (try simp only [Act.put, List.getElem_toArray, List.getElem_cons_zero, List.getElem_cons_succ, List.setIfInBounds_toArray, List.set_cons_zero, List.set_cons_succ])) | (refine linX_op (v := ?_) rfl rfl (by rfl) (fun w9 hS9 => ?_) ?_; rotate_left; (focus (((have k0 := L5 w9 hS9; have k1 := L70 w9 hS9; have k2 := L71 w9 hS9; have k3 := hbz w9 hS9; go_simp; (try go_bits)) <;> with_reducible rfl))); (try simp only [Act.put, List.getElem_toArray, List.getElem_cons_zero, List.getElem_cons_succ, List.setIfInBounds_toArray, List.set_cons_zero, List.set_cons_succ]))))
  refine linX_nil ?_
  have hkk : Kept (fp p pb bv) w w9 := (Kept.of_below (fp p pb bv) HW.out.1).trans2 hk9 (fun i hi => by
    rcases List.mem_cons.1 hi with h9 | h9
    · exact .inr (by omega)
    · exact .inl h9)
  have ho09 : ∀ k, bv'.ownBlock = some k → bv.ownBlock = some k ∨ w.heap.size ≤ k := fun k hk => (ho9 k hk).imp id (fun h9 => Nat.le_trans HW.out.1.size h9)
  have hv9 : w9.ownsRow w.heap.size 5 1 (.slice va 0 vc) 0 [] := by
    rcases HB2.out.2.1.2 with h9 | ⟨q, cap, cur, h1, h2, h3, h4⟩
    · exact ⟨HB2.out.2.1.1, .inl h9⟩
    · have hq2 : q < W2.heap.size := (Array.getElem?_eq_some_iff.1 h3).1
      have hqw : w.heap.size ≤ q := Nat.le_trans HB2.out.2.2.size h2
      have h23 : W8.heap[q]? = W2.heap[q]? := by
        exact HW.out.2.2.2.2.2.1.block q hq2
      refine ⟨HB2.out.2.1.1, .inr ⟨q, cap, cur, h1, hqw, ((hk9.block q (by have := HW.out.2.2.2.2.2.1.size; have := HG.out.2.2; omega) ?_).trans h23).trans h3, h4⟩⟩
      intro hm
      rcases List.mem_cons.1 hm with h9 | h9
      · have := HG.out.1; omega
      · have := HW.out.2.2.2.1 _ h9; omega
  obtain ⟨D2, er⟩ := LR
  by_cases he : er = 0
  · subst he
    rw [show decide (((D2, (0 : Int)) : Dk × Int).2 ≠ 0) = false from rfl] at hg9
    have hg9' : Blk w9 g 67 (lgcs 1 (.slice va 0 vc) (.slice none 0 0) 1 p n 0 false) := hg9
    clear L5 L70 L71 hbz
    go_wp2_with fail
    go_ret2
    exact ⟨bv', hD9, ⟨g, rfl, hgw, .slice va 0 vc, hv9, hg9'⟩, hkk, ho09⟩
  · have heb : (er != 0) = true := by simpa using he
    clear L5 L70 L71 hbz
    go_wp2_with fail
    go_ret2
    exact ⟨bv', hD9, rfl, hkk, ho09⟩
end Go.Proofs.Ytelpihlifdfgoaa
namespace Go.Proofs.Ytelpihlifdfgoaa
open Go.RowKit Go.Shelf
set_option linter.unusedVariables false

/-! ### Arm, Fail -/
def armM (D : Dk) (n : Int) : Dk × Int := if D.dead then (D, 9) else ({ D with fuse := cdOf n }, 0)
def flawedM (D : Dk) (n : Int) : Dk × Int := if D.dead then (D, 9) else ({ D with flaw := cdOf n }, 0)
theorem cdOf_le {n : Int} (h : n ≤ 9223372036854775807) : ∀ m, cdOf n = some m → m ≤ 9223372036854775807 := by
  intro m hm
  unfold cdOf at hm
  split at hm
  · cases hm
  · injection hm with hm; omega

set_option maxHeartbeats 1000000 in
theorem arm_nil (n : Int) (w : World) : Calls Try.prog 12 #[.pointer none, .int .i64 n] w fun e w' => e = .returned (.int .i64 1) ∧ w = w' := by
  go_enter Try.func12, Try.ntmps12
  go_wp2_with (go_at_call 31; refine (power_nil _).mono ?_; rintro e w' ⟨rfl, rfl⟩)
  go_ret
  exact ⟨rfl, rfl⟩
set_option maxHeartbeats 1000000 in
theorem fail_nil (n : Int) (w : World) : Calls Try.prog 13 #[.pointer none, .int .i64 n] w fun e w' => e = .returned (.int .i64 1) ∧ w = w' := by
  go_enter Try.func13, Try.ntmps13
  go_wp2_with (go_at_call 31; refine (power_nil _).mono ?_; rintro e w' ⟨rfl, rfl⟩)
  go_ret
  exact ⟨rfl, rfl⟩
set_option maxHeartbeats 1000000 in
theorem arm_any {w : World} {B p pb : Nat} {bv : Value} {D : Dk} (h : Dsk w B p pb bv D) (n : Int) (hn : n ≤ 9223372036854775807) :
    Calls Try.prog 12 #[.pointer (some ⟨p, 0, none⟩), .int .i64 n] w fun e w' => e = .returned (.int .i64 (armM D n).2) ∧ Dsk w' B p pb bv (armM D n).1 ∧ Goes w w' p pb bv bv := by
  have hp := power_any h
  unfold armM
  by_cases hd : D.dead = true
  rotate_left
  · rw [if_neg hd] at hp
    rw [if_neg hd]
    have hc := countFrom_any n w
    have ok : ({ D with fuse := cdOf n } : Dk).Ok := ok_turn h.ok rfl rfl (cdOf_le hn) h.ok.flaw
    generalize hcd : cdOf n = cd at *
    have HC := Lib.hid hcd
    clear hcd hd
    go_enter Try.func12, Try.ntmps12
    go_wp2_with fail
    refine hp.mono ?_
    rintro e w' ⟨rfl, rfl⟩
    go_wp2_with fail
    refine hc.mono ?_
    rintro e w1 ⟨rfl, hb⟩
    have h1 := h.later hb
    have c2 := h1.c2
    have c3 := h1.c3
    have f2 := h1.cells.free 2
    have f3 := h1.cells.free 3
    have hfin : Dsk ((w1.setCell ⟨p, 2, none⟩ (.bool (cdB cd))).setCell ⟨p, 3, none⟩ (.int .i64 (cdI cd))) B p pb bv { D with fuse := cd } := by
      have hg : Goes w1 ((w1.setCell ⟨p, 2, none⟩ (.bool (cdB cd))).setCell ⟨p, 3, none⟩ (.int .i64 (cdI cd))) p pb bv bv := ((Goes.refl _ _ _ _).setCell _ _).setCell _ _
      have hk : Kept [p] w1 ((w1.setCell ⟨p, 2, none⟩ (.bool (cdB cd))).setCell ⟨p, 3, none⟩ (.int .i64 (cdI cd))) := ((Kept.refl _ _).setCell (.inl (by simp)) _).setCell (.inl (by simp)) _
      refine ⟨?_, h1.plate.kept hk (by simpa using h1.ne.symm), ?_, h1.hp, h1.hpb, ok⟩
      · have := (h1.cells.set 2 (.bool (cdB cd))).set 3 (.int .i64 (cdI cd))
        simpa [dcs] using this
      · refine h1.buf.kept (row := some p) ⟨hk.os, hk.tape, hk.output, hk.size, fun k hk1 hk2 => hk.block k hk1 (by simpa using fun e => hk2 (by rw [e]))⟩ ?_
        cases e : bv.ownBlock with
        | none => exact .inl rfl
        | some k => exact .inr (fun e2 => (h1.far k e).1 (by injection e2))
    have hgo : Goes w ((w1.setCell ⟨p, 2, none⟩ (.bool (cdB cd))).setCell ⟨p, 3, none⟩ (.int .i64 (cdI cd))) p pb bv bv := (((Goes.refl w p pb bv).later hb).setCell _ _).setCell _ _
    have HFin := Lib.hid hfin
    clear hfin h h1 hp hc ok hb
    go_wp2
    go_ret
    exact ⟨rfl, HFin.out, hgo⟩
  · rw [if_pos hd] at hp
    rw [if_pos hd]
    clear hd
    go_enter Try.func12, Try.ntmps12
    go_wp2_with (go_at_call 31; refine hp.mono ?_; rintro e w' ⟨rfl, rfl⟩)
    go_ret
    exact ⟨rfl, h, Goes.refl _ _ _ _⟩
set_option maxHeartbeats 1000000 in
theorem fail_any {w : World} {B p pb : Nat} {bv : Value} {D : Dk} (h : Dsk w B p pb bv D) (n : Int) (hn : n ≤ 9223372036854775807) :
    Calls Try.prog 13 #[.pointer (some ⟨p, 0, none⟩), .int .i64 n] w fun e w' => e = .returned (.int .i64 (flawedM D n).2) ∧ Dsk w' B p pb bv (flawedM D n).1 ∧ Goes w w' p pb bv bv := by
  have hp := power_any h
  unfold flawedM
  by_cases hd : D.dead = true
  rotate_left
  · rw [if_neg hd] at hp
    rw [if_neg hd]
    have hc := countFrom_any n w
    have ok : ({ D with flaw := cdOf n } : Dk).Ok := ok_turn h.ok rfl rfl h.ok.fuse (cdOf_le hn)
    generalize hcd : cdOf n = cd at *
    have HC := Lib.hid hcd
    clear hcd hd
    go_enter Try.func13, Try.ntmps13
    go_wp2_with fail
    refine hp.mono ?_
    rintro e w' ⟨rfl, rfl⟩
    go_wp2_with fail
    refine hc.mono ?_
    rintro e w1 ⟨rfl, hb⟩
    have h1 := h.later hb
    have c2 := h1.c4
    have c3 := h1.c5
    have f2 := h1.cells.free 4
    have f3 := h1.cells.free 5
    have hfin : Dsk ((w1.setCell ⟨p, 4, none⟩ (.bool (cdB cd))).setCell ⟨p, 5, none⟩ (.int .i64 (cdI cd))) B p pb bv { D with flaw := cd } := by
      have hk : Kept [p] w1 ((w1.setCell ⟨p, 4, none⟩ (.bool (cdB cd))).setCell ⟨p, 5, none⟩ (.int .i64 (cdI cd))) := ((Kept.refl _ _).setCell (.inl (by simp)) _).setCell (.inl (by simp)) _
      refine ⟨?_, h1.plate.kept hk (by simpa using h1.ne.symm), ?_, h1.hp, h1.hpb, ok⟩
      · have := (h1.cells.set 4 (.bool (cdB cd))).set 5 (.int .i64 (cdI cd))
        simpa [dcs] using this
      · refine h1.buf.kept (row := some p) ⟨hk.os, hk.tape, hk.output, hk.size, fun k hk1 hk2 => hk.block k hk1 (by simpa using fun e => hk2 (by rw [e]))⟩ ?_
        cases e : bv.ownBlock with
        | none => exact .inl rfl
        | some k => exact .inr (fun e2 => (h1.far k e).1 (by injection e2))
    have hgo : Goes w ((w1.setCell ⟨p, 4, none⟩ (.bool (cdB cd))).setCell ⟨p, 5, none⟩ (.int .i64 (cdI cd))) p pb bv bv := (((Goes.refl w p pb bv).later hb).setCell _ _).setCell _ _
    have HFin := Lib.hid hfin
    clear hfin h h1 hp hc ok hb
    go_wp2
    go_ret
    exact ⟨rfl, HFin.out, hgo⟩
  · rw [if_pos hd] at hp
    rw [if_pos hd]
    clear hd
    go_enter Try.func13, Try.ntmps13
    go_wp2_with (go_at_call 31; refine hp.mono ?_; rintro e w' ⟨rfl, rfl⟩)
    go_ret
    exact ⟨rfl, h, Goes.refl _ _ _ _⟩

/-! ### New -/
def newM (n : Nat) : Dk := ⟨List.replicate n Bk.zero, [], none, none, false, 0⟩
theorem zero_cells : Bk.zero.cs = Array.replicate 64 (.int .u8 0) := by kernel_rfl
theorem pcs_zero (n : Nat) : pcs (List.replicate n Bk.zero) = List.replicate (n * 64) (.int .u8 0) := by
  induction n with
  | zero => simp [pcs]
  | succ n ih =>
    rw [List.replicate_succ]
    show Bk.zero.cs.toList ++ pcs (List.replicate n Bk.zero) = _
    rw [ih, zero_cells, Array.toList_replicate, List.replicate_append_replicate]
    congr 1
    omega
theorem made_blocks (n : Nat) : madeCells (Value.agg Bk.zero.cs).cells (n * 64) = (pcs (List.replicate n Bk.zero)).toArray := by
  rw [pcs_zero]
  apply Array.ext_getElem?
  intro i
  have hz : (Value.agg Bk.zero.cs).cells = Array.replicate 64 (.int .u8 0) := zero_cells
  rw [hz]
  by_cases hi : i < n * 64
  · simp only [madeCells, Array.getElem?_map, Array.getElem?_range, hi, if_true, Option.map_some, Array.size_replicate]
    have : i % 64 < 64 := Nat.mod_lt _ (by omega)
    rw [getElem!_pos _ _ (by simpa using this)]
    simp [hi]
  · rw [Array.getElem?_eq_none (by simp [madeCells]; omega), Array.getElem?_eq_none (by simp; omega)]
theorem i_blk : (Try.prog.info? 81).map (fun i => (i.zero, i.size, i.bytes)) = some (some (.agg Bk.zero.cs), 64, 64) := by kernel_rfl

set_option maxHeartbeats 1000000 in
theorem new_none (n : Int) (h : n < 1 ∨ 2048 < n) (w : World) : Calls Try.prog 27 #[.int .i64 n] w fun e w' => e = .returned (.tuple #[.pointer none, .int .i64 2]) ∧ w = w' := by
  by_cases h1 : n < 1
  · have hb : decide (n < 1) = true := by simpa using h1
    go_enter Try.func27, Try.ntmps27
    go_wp2
    go_ret2
    exact ⟨rfl, rfl⟩
  · have h2 : 2048 < n := by omega
    have hb : decide (n < 1) = false := by simpa using h1
    have hb2 : decide (2048 < n) = true := by simpa using h2
    go_enter Try.func27, Try.ntmps27
    go_wp2
    go_ret2
    exact ⟨rfl, rfl⟩

set_option maxHeartbeats 1000000 in
theorem new_any (n : Nat) (h1 : 1 ≤ n) (h2 : n ≤ 2048) (w : World) : Calls Try.prog 27 #[.int .i64 (n : Int)] w fun e w' =>
    e = .returned (.tuple #[.pointer (some ⟨w.heap.size + 1, 0, none⟩), .int .i64 0]) ∧ Dsk w' w.heap.size (w.heap.size + 1) w.heap.size (.slice none 0 0) (newM n) ∧ Below w.heap.size w w' := by
  obtain ⟨i0, hi, hz0, hz1, hz2⟩ := info_parts i_blk
  have hmk := run_make (P := Try.prog) w 72 81 i0 (.agg Bk.zero.cs) Try.underlying72 hi hz0 .i64 .i64 (n : Int) (n : Int) (by omega) (by omega) (by rw [hz2]; omega) (by omega)
  rw [hz1, show (n : Int).toNat = n from by omega, made_blocks] at hmk
  obtain ⟨PC, hPC⟩ : ∃ PC, (pcs (List.replicate n Bk.zero)).toArray = PC := ⟨_, rfl⟩
  rw [hPC] at hmk
  obtain ⟨W1, hW1⟩ : ∃ W1, w.alloc (.cells PC 81) = W1 := ⟨_, rfl⟩
  rw [hW1] at hmk
  have hsz1 : W1.heap.size = w.heap.size + 1 := by rw [← hW1]; simp
  have hb1 : decide ((n : Int) < 1) = false := by simp; omega
  have hb2 : decide ((2048 : Int) < (n : Int)) = false := by simp; omega
  obtain ⟨DC, hDC⟩ : ∃ DC, dcs w.heap.size (.slice none 0 0) (newM n) = DC := ⟨_, rfl⟩
  have hDC2 : DC = #[.slice (some ⟨w.heap.size, 0, none⟩) n n, .slice none 0 0, .bool false, .int .i64 0, .bool false, .int .i64 0, .bool false, .int .i64 0] := by rw [← hDC]; simp [dcs, newM, cdB, cdI]
  have hfin : Dsk (W1.alloc (.cells DC 75)) w.heap.size (w.heap.size + 1) w.heap.size (.slice none 0 0) (newM n) := by
    refine ⟨?_, ?_, ?_, by omega, Nat.le_refl _, ?_⟩
    · rw [hDC, ← hsz1]; exact Blk.new W1 _ _
    · have : Blk W1 w.heap.size 81 PC := by rw [← hW1]; exact Blk.new w _ _
      show Blk _ _ _ (pcs (List.replicate n Bk.zero)).toArray
      rw [hPC]
      exact this.alloc _
    · exact World.ownsRow_nil _ _ _ _
    · exact ⟨by simpa [newM] using h1, by simpa [newM] using h2, by simp [newM], by simp [newM], by simp [newM], by simp [newM], by simp [newM]⟩
  have hbl : Below w.heap.size w (W1.alloc (.cells DC 75)) := by rw [← hW1]; exact ((Below.refl _ _).alloc (Nat.le_refl _) _).alloc (by simp) _
  have HF := Lib.hid hfin
  have HS := Lib.hid hsz1
  rw [hDC2] at HF hbl
  clear hfin hDC hDC2 hPC hsz1 hi hz0 hz1 hz2 hW1
  go_enter Try.func27, Try.ntmps27
  go_wp2
  go_ret2
  exact ⟨by rw [← HS.out]; rfl, HF.out, hbl⟩
end Go.Proofs.Ytelpihlifdfgoaa
namespace Go.Proofs.Ytelpihlifdfgoaa
open Go.RowKit Go.Shelf
set_option linter.unusedVariables false
/-- A disk that lives and does not fail. -/
structure Dk.Well (D : Dk) (N : Nat) : Prop where
  dead : D.dead = false
  fuse : D.fuse = none
  flaw : D.flaw = none
  len : D.plate.length = N
section
variable {D : Dk} {N : Nat}
theorem well_downs : ∀ (l : List Rw) {D : Dk}, D.Well N → (downsM D l).Well N
  | [], D, h => h
  | r :: l, D, h => well_downs l (D := downM D r) ⟨h.dead, h.fuse, h.flaw, by simp [downM, h.len]⟩
theorem well_drain (h : D.Well N) (n : Nat) : (drainM D n).Well N := by
  have := well_downs (D.rows.take n) h
  exact ⟨this.dead, this.fuse, this.flaw, this.len⟩
theorem well_hold (h : D.Well N) (r : Rw) : (holdM D r).Well N := by
  unfold holdM
  split
  · exact ⟨h.dead, h.fuse, h.flaw, h.len⟩
  · have h2 : (if D.rows.length = 8 then drainM D 1 else D).Well N := by
      split
      · exact well_drain h 1
      · exact h
    exact ⟨h2.dead, h2.fuse, h2.flaw, h2.len⟩
theorem well_flaw (h : D.Well N) : (fuseM (flawM D)).Well N := ⟨h.dead, by simp [fuseM, flawM, h.fuse, passO], by simp [fuseM, flawM, h.flaw, passO], h.len⟩
theorem write_well (h : D.Well N) {i : Nat} (hi : i < N) (b : Bk) : (writeM D (i : Int) b).2 = 0 ∧ (writeM D (i : Int) b).1.Well N := by
  have hr : reachE D (i : Int) = 0 := by
    unfold reachE
    rw [h.dead, h.len]
    simp
    omega
  unfold writeM
  rw [if_neg (by rw [hr]; simp), if_neg (by rw [h.fuse]; simp), if_neg (by rw [h.flaw]; simp)]
  have := well_hold (well_flaw h) ⟨(i : Int).toNat, b⟩
  exact ⟨rfl, this.dead, this.fuse, this.flaw, this.len⟩
theorem sync_well (h : D.Well N) : (syncM D).2 = 0 ∧ (syncM D).1.Well N := by
  unfold syncM
  rw [if_neg (by rw [h.dead]; simp), if_neg (by rw [h.fuse]; simp), if_neg (by rw [h.flaw]; simp)]
  have := well_drain (well_flaw h) D.rows.length
  exact ⟨rfl, this.dead, this.fuse, this.flaw, this.len⟩
theorem puts_well : ∀ (l : List (Nat × Bk)) {D : Dk}, D.Well N → (∀ x ∈ l, x.1 < N) → (putsM D l).2 = 0 ∧ (putsM D l).1.Well N
  | [], D, h, _ => ⟨rfl, h⟩
  | x :: l, D, h, hx => by
    obtain ⟨h1, h2⟩ := write_well h (hx x (by simp)) x.2
    unfold putsM
    rw [if_pos h1]
    exact puts_well l h2 (fun y hy => hx y (by simp [hy]))
theorem lay_well (l : List (Nat × Bk)) (h : D.Well N) (hx : ∀ x ∈ l, x.1 < N) : (layM D l).2 = 0 ∧ (layM D l).1.Well N := by
  obtain ⟨h1, h2⟩ := puts_well l h hx
  unfold layM
  rw [if_pos h1]
  exact sync_well h2
theorem lays_well : ∀ (ls : List (List (Nat × Bk))) {D : Dk}, D.Well N → (∀ l ∈ ls, ∀ x ∈ l, x.1 < N) → (laysM D ls).2 = 0 ∧ (laysM D ls).1.Well N
  | [], D, h, _ => ⟨rfl, h⟩
  | l :: ls, D, h, hx => by
    obtain ⟨h1, h2⟩ := lay_well l h (hx l (by simp))
    unfold laysM
    rw [if_pos h1]
    exact lays_well ls h2 (fun y hy => hx y (by simp [hy]))
end
theorem frm_in {first t n N : Nat} {l : List Nat} (h : first + secN l.length ≤ N) : ∀ x ∈ frmL first t n l, x.1 < N := by
  intro x hx
  obtain ⟨k, hk, rfl⟩ := List.mem_map.1 hx
  have := List.mem_range.1 hk
  show first + k < N
  omega
theorem fil_in {first size N : Nat} {b : Bk} (h : first + size ≤ N) : ∀ x ∈ filL first size b, x.1 < N := by
  intro x hx
  obtain ⟨k, hk, rfl⟩ := List.mem_map.1 hx
  have := List.mem_range.1 hk
  show first + k < N
  omega
theorem fmt_in {n N : Nat} (hn : 1 ≤ n) (h : 2 + 2 * n ≤ N) : ∀ l ∈ fmtL n, ∀ x ∈ l, x.1 < N := by
  intro l hl
  simp only [fmtL, List.mem_cons, List.not_mem_nil, or_false] at hl
  rcases hl with rfl | rfl | rfl
  · exact fil_in (by omega)
  · exact frm_in (by show 2 + 1 ≤ N; omega)
  · exact fil_in (by omega)
/-- A log of four sectors an area on a disk of ten that does not fail: how much is used, how many transactions there are; all of it lies above what was. -/
def Lg (w0 W : World) (p pb g t c u m : Nat) : Prop := ∃ (bv : Value) (D : Dk) (sv : Value) (ta : Option Addr) (tc : Nat) (vs : List Value), Dsk W w0.heap.size p pb bv D ∧ D.Well 10 ∧ Blk W g 67 (lgcs t sv (.slice ta m tc) u p 4 c false) ∧ W.ownsRow w0.heap.size 29 1 (.slice ta m tc) m vs ∧ Below w0.heap.size w0 W ∧ (∀ k, bv.ownBlock = some k → w0.heap.size ≤ k) ∧ w0.heap.size ≤ g
section
variable {w0 W : World} {p pb g t c u m : Nat}
theorem Lg.later {W' : World} (h : Lg w0 W p pb g t c u m) (k : Below W.heap.size W W') : Lg w0 W' p pb g t c u m := by
  obtain ⟨bv, D, sv, ta, tc, vs, h1, h2, h3, h4, h5, h6, h7⟩ := h
  refine ⟨bv, D, sv, ta, tc, vs, h1.later k, h2, h3.kept (Kept.of_below [] k) (by simp), ?_, bel_lat h5 k, h6, h7⟩
  rcases h4.2 with h9 | ⟨q, cap, cur, e1, e2, e3, e4⟩
  · exact ⟨h4.1, .inl h9⟩
  · exact ⟨h4.1, .inr ⟨q, cap, cur, e1, e2, (k.block q (Array.getElem?_eq_some_iff.1 e3).1).trans e3, e4⟩⟩
theorem lg_len (h : Lg w0 W p pb g t c u m) : Calls Try.prog 26 #[.pointer (some ⟨g, 0, none⟩)] W fun e w' => e = .returned (.int .i64 (m : Int)) ∧ Lg w0 w' p pb g t c u m := by
  obtain ⟨bv, D, sv, ta, tc, vs, h1, h2, h3, h4, h5, h6, h7⟩ := h
  exact (wlen_any h3).mono fun e w' ⟨he, hw⟩ => ⟨he, by rw [← hw]; exact ⟨bv, D, sv, ta, tc, vs, h1, h2, h3, h4, h5, h6, h7⟩⟩
theorem lg_turn (h : Lg w0 W p pb g t c u m) : Calls Try.prog 22 #[.pointer (some ⟨g, 0, none⟩)] W fun e w' => e = .returned (.int .u32 (t : Int)) ∧ Lg w0 w' p pb g t c u m := by
  obtain ⟨bv, D, sv, ta, tc, vs, h1, h2, h3, h4, h5, h6, h7⟩ := h
  exact (wturn_any h3).mono fun e w' ⟨he, hw⟩ => ⟨he, by rw [← hw]; exact ⟨bv, D, sv, ta, tc, vs, h1, h2, h3, h4, h5, h6, h7⟩⟩
theorem lg_left (h : Lg w0 W p pb g t c u m) (hc : c < 2) (hu : u ≤ 4) : Calls Try.prog 25 #[.pointer (some ⟨g, 0, none⟩)] W fun e w' => e = .returned (.int .i64 ((4 - u : Nat) : Int)) ∧ Lg w0 w' p pb g t c u m := by
  have hh := h
  obtain ⟨bv, D, sv, ta, tc, vs, h1, h2, h3, h4, h5, h6, h7⟩ := h
  exact (wleft_any h3 hc hu (by omega)).mono fun e w' ⟨he, hw⟩ => ⟨by rw [he, show ((4 - u : Nat) : Int) = ((4 : Nat) : Int) - (u : Int) by omega], hh.later hw⟩
/-- Noughts that were made. -/
def zsB (k : Nat) : Array Value := ((List.replicate k 0).map byc).toArray
theorem lies_zs (w : World) (k : Nat) : Lies (w.alloc (.cells (zsB k) 5)) (some ⟨w.heap.size, 0, none⟩) (List.replicate k 0) := by
  refine .inr ⟨_, 0, rfl, by simp, fun i hi => ?_⟩
  have hb := Blk.new w 5 (zsB k)
  rw [Nat.zero_add, hb.cell]
  simp [zsB, byc] at hi ⊢
  simp [hi]
theorem safe_zs (w : World) (cs : Array Value) : Safe (w.alloc (.cells cs 5)) (some ⟨w.heap.size, 0, none⟩) := by
  intro x hx
  cases hx
  have hb := Blk.new w 5 cs
  exact ⟨_, hb, rfl⟩
theorem lg_full (h : Lg w0 W p pb g t c u m) (hc : c < 2) (hu : u ≤ 4) (a : Option Addr) (len cp : Nat) (hl : len ≤ 40000) (hN : 4 - u < secN len) : Calls Try.prog 29 #[.pointer (some ⟨g, 0, none⟩), .slice a len cp] W fun e w' => e = .returned (.int .i64 6) ∧ Lg w0 w' p pb g t c u m := by
  have hh := h
  obtain ⟨bv, D, sv, ta, tc, vs, h1, h2, h3, h4, h5, h6, h7⟩ := h
  exact (wappend_full h3 hc (by omega) hu a len cp hl hN).mono fun e w' ⟨he, hw⟩ => ⟨he, hh.later hw⟩
theorem lg_append (h : Lg w0 W p pb g t c u m) (hc : c < 2) (hu : u ≤ 4) (hm : m ≤ 1000) (ht : t ≤ 4294967295) (hp : w0.heap.size ≤ p ∧ w0.heap.size ≤ pb) (k : Nat) (hk : k ≤ 40000) (hN : secN k ≤ 4 - u) : Calls Try.prog 29 #[.pointer (some ⟨g, 0, none⟩), .slice (some ⟨W.heap.size, 0, none⟩) k k] (W.alloc (.cells (zsB k) 5)) fun e w' => e = .returned (.int .i64 0) ∧ Lg w0 w' p pb g t c (u + secN k) (m + 1) := by
  obtain ⟨W1, hW1⟩ : ∃ W1, W.alloc (.cells (zsB k) 5) = W1 := ⟨_, rfl⟩
  have hb1 : Below W.heap.size W W1 := by rw [← hW1]; exact (Below.refl _ _).alloc (Nat.le_refl _) _
  have hL1 := lies_zs W k
  have hS1 := safe_zs W (zsB k)
  have l1 : p < W.heap.size ∧ pb < W.heap.size ∧ g < W.heap.size := by
    obtain ⟨bv, D, sv, ta, tc, vs, h1, h2, h3, h4, h5, h6, h7⟩ := h
    exact ⟨h1.cells.lt, h1.plate.lt, h3.lt⟩
  have h := h.later hb1
  rw [hW1] at hL1 hS1 ⊢
  obtain ⟨bv, D, sv, ta, tc, vs, h1, h2, h3, h4, h5, h6, h7⟩ := h
  have hap := wappend_done h1 h5.size h3 hc (by omega) hu hm ht h4 h5.size (some ⟨W.heap.size, 0, none⟩) k k (List.replicate k 0) hL1 (by simp) hk (Nat.le_refl _) (fun x hx => by have := List.eq_of_mem_replicate hx; omega) hS1 (fun x hx => by cases hx; exact ⟨by show W.heap.size ≠ p; omega, by show W.heap.size ≠ pb; omega, by show W.heap.size ≠ g; omega⟩) (fun hx => by cases hx) hN
  obtain ⟨e0, w2⟩ := lay_well (frmL (areaN 4 c + u) t (m + 1) (List.replicate k 0)) h2 (frm_in (by rw [List.length_replicate]; unfold areaN; split <;> omega))
  refine hap.mono ?_
  rintro e w' ⟨rfl, bv', hD', hok, _, hk', ho'⟩
  obtain ⟨v, tv', hv, htv', hg'⟩ := hok e0
  obtain ⟨ta', tc', rfl⟩ := wown_slice htv'
  refine ⟨by rw [e0], bv', _, sv, ta', tc', _, hD', w2, hg', htv', h5.trans (hk'.below ?_ h5.size), fun j hj => ?_, h7⟩
  · intro i hi
    simp only [List.mem_cons, List.mem_append, fp, Option.mem_toList] at hi
    rcases hi with rfl | h9 | rfl | rfl | h9
    · exact h7
    · rcases h4.2 with h8 | ⟨q, cap, cur, e1, e2, e3, e4⟩
      · rw [h8.1] at h9; simp [Value.ownBlock] at h9
      · rw [e1] at h9
        obtain rfl : q = i := by simpa [Value.ownBlock] using h9
        exact e2
    · exact hp.1
    · exact hp.2
    · exact h6 i h9
  · rcases ho' j hj with h9 | h9
    · exact h6 j h9
    · exact Nat.le_trans h5.size h9
/-- A checkpoint of a few bytes that were made, out of the area 0. -/
theorem lg_check (h : Lg w0 W p pb g t 0 u m) (ht : t < 4294967295) (hp : w0.heap.size ≤ p ∧ w0.heap.size ≤ pb) (l : List Nat) (hl : l.length ≤ 40000) (hB : Bys l) (hN : secN l.length ≤ 4) : Calls Try.prog 30 #[.pointer (some ⟨g, 0, none⟩), .slice (some ⟨W.heap.size, 0, none⟩) l.length l.length] (W.alloc (.cells (l.map byc).toArray 5)) fun e w' => e = .returned (.int .i64 0) ∧ Lg w0 w' p pb g (t + 1) 1 (secN l.length) 0 := by
  obtain ⟨W1, hW1⟩ : ∃ W1, W.alloc (.cells (l.map byc).toArray 5) = W1 := ⟨_, rfl⟩
  have hb1 : Below W.heap.size W W1 := by rw [← hW1]; exact (Below.refl _ _).alloc (Nat.le_refl _) _
  have hL1 : Lies W1 (some ⟨W.heap.size, 0, none⟩) l := by
    have hb := Blk.new W 5 (l.map byc).toArray
    refine .inr ⟨_, 0, rfl, by rw [← hW1]; simp, fun i hi => ?_⟩
    rw [Nat.zero_add, ← hW1, hb.cell]
    simp [byc, hi]
  have hS1 := safe_zs W (l.map byc).toArray
  have l1 : p < W.heap.size ∧ pb < W.heap.size ∧ g < W.heap.size := by
    obtain ⟨bv, D, sv, ta, tc, vs, h1, h2, h3, h4, h5, h6, h7⟩ := h
    exact ⟨h1.cells.lt, h1.plate.lt, h3.lt⟩
  have h := h.later hb1
  rw [hW1] at hS1 ⊢
  obtain ⟨bv, D, sv, ta, tc, vs, h1, h2, h3, h4, h5, h6, h7⟩ := h
  have hch := wcheck_done0 h1 h5.size h3 (by omega) (some ⟨W.heap.size, 0, none⟩) l.length l.length l hL1 rfl hl (Nat.le_refl _) hB hS1 (fun x hx => by cases hx; exact ⟨by show W.heap.size ≠ p; omega, by show W.heap.size ≠ pb; omega, by show W.heap.size ≠ g; omega⟩) (fun hx => by cases hx) hN ht
  obtain ⟨e0, w2⟩ := lay_well (frmL (2 + 4) (t + 1) 0 l) h2 (frm_in (by omega))
  refine hch.mono ?_
  rintro e w' ⟨rfl, bv', hD', hok, _, hk', ho'⟩
  obtain ⟨v, hv, hg'⟩ := hok e0
  refine ⟨by rw [e0], bv', _, v, none, 0, [], hD', w2, hg', World.ownsRow_nil _ _ _ _, h5.trans (hk'.below ?_ h5.size), fun j hj => ?_, h7⟩
  · intro i hi
    simp only [List.mem_cons, fp, Option.mem_toList] at hi
    rcases hi with rfl | rfl | rfl | h9
    · exact h7
    · exact hp.1
    · exact hp.2
    · exact h6 i h9
  · rcases ho' j hj with h9 | h9
    · exact h6 j h9
    · exact Nat.le_trans h5.size h9
end
theorem i_uint8 : (Try.prog.info? 5).map (fun i => (i.zero, i.size, i.bytes)) = some (some (.int .u8 0), 1, 1) := by kernel_rfl
theorem make_bytes (k : Nat) (hk : k ≤ 40000) (w : World) : (Instr.makeSlice 29 (.int .i64 (k : Int)) (.int .i64 (k : Int))).run Try.prog w = .ok (.slice (some ⟨w.heap.size, 0, none⟩) k k) (w.alloc (.cells (zsB k) 5)) := by
  obtain ⟨i0, hi, hz0, hz1, hz2⟩ := info_parts i_uint8
  have h := run_make (P := Try.prog) w 29 5 i0 (.int .u8 0) Try.underlying29 hi hz0 .i64 .i64 (k : Int) (k : Int) (by omega) (by omega) (by rw [hz2]; omega) (by omega)
  rw [hz1, show (k : Int).toNat = k from by omega, Nat.mul_one, made_bytes] at h
  exact h
set_option maxRecDepth 100000 in
set_option maxHeartbeats 2000000 in
theorem wakes4_any (w : World) : Calls Try.prog 6 #[] w fun e w' => e = .returned (.bool true) ∧ Below w.heap.size w w' := by
  have hnew := new_any 10 (by omega) (by omega) w
  rw [show ((10 : Nat) : Int) = 10 from rfl] at hnew
  have m48 := fun w' => make_bytes 48 (by omega) w'
  have m49 := fun w' => make_bytes 49 (by omega) w'
  have m97 := fun w' => make_bytes 97 (by omega) w'
  rw [show ((48 : Nat) : Int) = 48 from rfl] at m48
  rw [show ((49 : Nat) : Int) = 49 from rfl] at m49
  rw [show ((97 : Nat) : Int) = 97 from rfl] at m97
  obtain ⟨z48, hz48⟩ : ∃ z, zsB 48 = z := ⟨_, rfl⟩
  obtain ⟨z49, hz49⟩ : ∃ z, zsB 49 = z := ⟨_, rfl⟩
  obtain ⟨z97, hz97⟩ : ∃ z, zsB 97 = z := ⟨_, rfl⟩
  simp only [hz48] at m48
  simp only [hz49] at m49
  simp only [hz97] at m97
  have HZ := Lib.hid (And.intro hz48 (And.intro hz49 hz97))
  clear hz48 hz49 hz97
  go_enter Try.func6, Try.ntmps6
  go_wp2_with fail
  refine hnew.mono ?_
  rintro e W1 ⟨rfl, hD1, hb1⟩
  clear hnew
  have hfo := wformat_done hD1 hb1.size (n := 4) (by omega) (by omega) (by simp [newM])
  obtain ⟨e0, w2⟩ := lays_well (fmtL 4) (D := newM 10) (N := 10) ⟨rfl, rfl, rfl, by simp [newM]⟩ (fmt_in (by omega) (by omega))
  have hfo' : Calls Try.prog 28 #[.pointer (some ⟨w.heap.size + 1, 0, none⟩), .int .i64 4] W1 fun e W2 => ∃ g, e = .returned (.tuple #[.pointer (some ⟨g, 0, none⟩), .int .i64 0]) ∧ Lg w W2 (w.heap.size + 1) w.heap.size g 1 0 1 0 := by
    refine hfo.mono ?_
    rintro e W2 ⟨bv', hD2, hok, _, hk2, ho2⟩
    obtain ⟨g, v, he, hgw, hv, hg⟩ := hok e0
    refine ⟨g, he, bv', _, v, none, 0, [], hD2, w2, hg, World.ownsRow_nil _ _ _ _, hb1.trans (hk2.below ?_ hb1.size), fun j hj => ?_, Nat.le_trans hb1.size hgw⟩
    · intro i hi
      simp only [fp, List.mem_cons, Option.mem_toList] at hi
      rcases hi with rfl | rfl | h9
      · omega
      · omega
      · simp [Value.ownBlock] at h9
    · rcases ho2 j hj with h9 | h9
      · simp [Value.ownBlock] at h9
      · exact Nat.le_trans hb1.size h9
  have hpp : w.heap.size ≤ w.heap.size + 1 ∧ w.heap.size ≤ w.heap.size := ⟨by omega, by omega⟩
  obtain ⟨p, hp⟩ : ∃ p, w.heap.size + 1 = p := ⟨_, rfl⟩
  rw [hp] at hfo' hpp ⊢
  have HP := Lib.hid (show w.heap.size ≤ p ∧ w.heap.size ≤ w.heap.size from ⟨by omega, by omega⟩)
  clear hfo hD1 hb1 e0 w2 hpp hp
  go_wp2_with fail
  refine hfo'.mono ?_
  rintro e W2 ⟨g, rfl, hG2⟩
  clear hfo'
  have c2 : Calls Try.prog 25 #[.pointer (some ⟨g, 0, none⟩)] W2 fun e w' => e = .returned (.int .i64 3) ∧ Lg w w' p w.heap.size g 1 0 1 0 := lg_left hG2 (by omega) (by omega)
  go_wp2_with fail
  refine c2.mono ?_
  rintro e W3 ⟨rfl, hG3⟩
  clear c2 hG2
  have c3 : Calls Try.prog 29 #[.pointer (some ⟨g, 0, none⟩), .slice (some ⟨W3.heap.size, 0, none⟩) 48 48] (W3.alloc (.cells z48 5)) fun e w' => e = .returned (.int .i64 0) ∧ Lg w w' p w.heap.size g 1 0 2 1 := by rw [← HZ.out.1]; exact lg_append hG3 (by omega) (by omega) (by omega) (by omega) HP.out 48 (by omega) (by decide)
  go_wp2_with fail
  refine c3.mono ?_
  rintro e W4 ⟨rfl, hG4⟩
  clear c3 hG3
  have c4 : Calls Try.prog 29 #[.pointer (some ⟨g, 0, none⟩), .slice (some ⟨W4.heap.size, 0, none⟩) 97 97] (W4.alloc (.cells z97 5)) fun e w' => e = .returned (.int .i64 6) ∧ Lg w w' p w.heap.size g 1 0 2 1 := lg_full (hG4.later ((Below.refl _ _).alloc (Nat.le_refl _) _)) (by omega) (by omega) _ 97 97 (by omega) (by decide)
  go_wp2_with fail
  refine c4.mono ?_
  rintro e W5 ⟨rfl, hG5⟩
  clear c4 hG4
  have c5 : Calls Try.prog 29 #[.pointer (some ⟨g, 0, none⟩), .slice (some ⟨W5.heap.size, 0, none⟩) 49 49] (W5.alloc (.cells z49 5)) fun e w' => e = .returned (.int .i64 0) ∧ Lg w w' p w.heap.size g 1 0 4 2 := by rw [← HZ.out.2.1]; exact lg_append hG5 (by omega) (by omega) (by omega) (by omega) HP.out 49 (by omega) (by decide)
  go_wp2_with fail
  refine c5.mono ?_
  rintro e W6 ⟨rfl, hG6⟩
  clear c5 hG5
  have c6 : Calls Try.prog 26 #[.pointer (some ⟨g, 0, none⟩)] W6 fun e w' => e = .returned (.int .i64 2) ∧ Lg w w' p w.heap.size g 1 0 4 2 := lg_len hG6
  go_wp2_with fail
  refine c6.mono ?_
  rintro e W7 ⟨rfl, hG7⟩
  clear c6 hG6
  have c7 : Calls Try.prog 25 #[.pointer (some ⟨g, 0, none⟩)] W7 fun e w' => e = .returned (.int .i64 0) ∧ Lg w w' p w.heap.size g 1 0 4 2 := lg_left hG7 (by omega) (by omega)
  go_wp2_with fail
  refine c7.mono ?_
  rintro e W8 ⟨rfl, hG8⟩
  clear c7 hG7
  have c8 : Calls Try.prog 30 #[.pointer (some ⟨g, 0, none⟩), .slice (some ⟨W8.heap.size, 0, none⟩) 1 1] (W8.alloc (.cells #[.int .u8 5] 5)) fun e w' => e = .returned (.int .i64 0) ∧ Lg w w' p w.heap.size g 2 1 1 0 := lg_check hG8 (by omega) HP.out [5] (by decide) (by intro n hn; simp at hn; omega) (by decide)
  go_wp2_with fail
  refine c8.mono ?_
  rintro e W9 ⟨rfl, hG9⟩
  clear c8 hG8
  have c9 : Calls Try.prog 22 #[.pointer (some ⟨g, 0, none⟩)] W9 fun e w' => e = .returned (.int .u32 2) ∧ Lg w w' p w.heap.size g 2 1 1 0 := lg_turn hG9
  go_wp2_with fail
  refine c9.mono ?_
  rintro e W10 ⟨rfl, hG10⟩
  clear c9 hG9
  have c10 : Calls Try.prog 26 #[.pointer (some ⟨g, 0, none⟩)] W10 fun e w' => e = .returned (.int .i64 0) ∧ Lg w w' p w.heap.size g 2 1 1 0 := lg_len hG10
  go_wp2_with fail
  refine c10.mono ?_
  rintro e W11 ⟨rfl, hG11⟩
  clear c10 hG10
  go_wp2_with fail
  go_ret
  obtain ⟨_, _, _, _, _, _, _, _, _, _, h5, _⟩ := hG11
  exact ⟨rfl, h5⟩
end Go.Proofs.Ytelpihlifdfgoaa
