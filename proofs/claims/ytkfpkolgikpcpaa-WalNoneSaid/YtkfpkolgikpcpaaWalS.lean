/-
  Format of a disk that has room. Nothing here is a statement of the document.
-/
import Derived.Test.YtkfpkolgikpcpaaWalR
namespace Go.Proofs.Ytkfpkolgikpcpaa
open Go.RowKit Go.Shelf
set_option linter.unusedVariables false
theorem Told.more {C C' : List Nat} {x : RowW} {w : World} (h : Told C x w) (hs : ∀ c ∈ C, c ∈ C') (hl : ∀ c ∈ C', c < w.heap.size) : Told C' x w :=
  ⟨h.eg, hl, fun S W k hC hS => h.tells S W k (fun c hc => hC c (hs c hc)) hS⟩
theorem Told.later {C : List Nat} {x : RowW} {w w' : World} (h : Told C x w) (k : Below w.heap.size w w') : Told C x w' :=
  ⟨h.eg, fun c hc => Nat.lt_of_lt_of_le (h.lt c hc) k.size, fun S W kb hC hS => h.tells S W ((KB.below k).trans kb) hC hS⟩
theorem bel_lat {w a b : World} (h : Below w.heap.size w a) (k : Below a.heap.size a b) : Below w.heap.size w b := h.trans (k.mono h.size)
theorem fp_lt {w : World} {B p pb : Nat} {bv : Value} {D : Dk} (h : Dsk w B p pb bv D) : ∀ i ∈ fp p pb bv, i < w.heap.size := by
  intro i hm
  simp only [fp, List.mem_cons, Option.mem_toList] at hm
  rcases hm with rfl | rfl | h9
  · exact h.cells.lt
  · exact h.plate.lt
  · exact (h.buf.lt i h9).2
/-- What is written for a region. -/
def filL (first size : Nat) (b : Bk) : List (Nat × Bk) := (List.range size).map fun k => (first + k, b)
def buildZ (parts : Array (Nat × Value)) : Sem Value := Instr.build 77 parts
theorem buildZ_rule (parts : Array (Nat × Value)) : Instr.build 77 parts = buildZ parts := rfl
theorem buildZ_run (w : World) : (buildZ #[]).run Try.prog w = .ok (.agg Bk.zero.cs) w := build_blk_zero w
/-- What Format writes. -/
def fmtL (n : Nat) : List (List (Nat × Bk)) := [filL 0 (2 + 2 * n) Bk.zero, frmL 2 1 0 [], filL 0 2 (labL n)]
attribute [local go_sem ↓] buildZ_rule
set_option maxRecDepth 100000 in
set_option maxHeartbeats 4000000 in
theorem wformat_done {w : World} {B p pb n : Nat} {bv : Value} {D : Dk} (hD : Dsk w B p pb bv D) (hB : B ≤ w.heap.size) (hn4 : 4 ≤ n) (hn : n ≤ 1000) (hroom : 2 + 2 * n ≤ D.plate.length) :
    Calls Try.prog 8 #[.pointer (some ⟨p, 0, none⟩), .int .i64 (n : Int)] w fun e w' => ∃ bv', Dsk w' B p pb bv' (laysM D (fmtL n)).1 ∧
      ((laysM D (fmtL n)).2 = 0 → ∃ g v, e = .returned (.tuple #[.pointer (some ⟨g, 0, none⟩), .int .i64 0]) ∧ w.heap.size ≤ g ∧ w'.ownsRow w.heap.size 5 1 v 0 [] ∧ Blk w' g 71 (lgcs 1 v (.slice none 0 0) 1 p n 0 false)) ∧
      ((laysM D (fmtL n)).2 ≠ 0 → e = .returned (.tuple #[.pointer none, .int .i64 (laysM D (fmtL n)).2])) ∧ Kept (fp p pb bv) w w' ∧ (∀ k, bv'.ownBlock = some k → bv.ownBlock = some k ∨ w.heap.size ≤ k) := by
  have hmb := mayBe_any hD (n : Int)
  rw [show mayB (n : Int) D.plate.length = true by unfold mayB; simp; omega] at hmb
  have har := fun w' => areas_any n hn w'
  have hbe := fun w' => begun_any 1 (by omega) none 0 0 [] w' (.inl rfl) rfl (by omega) (fun _ => rfl)
  have hs1 : secN 0 = 1 := rfl
  rw [hs1] at hbe
  have hbe' : ∀ w', Calls Try.prog 35 #[.int .u32 1, .slice none 0 0] w' fun e w'' => ∃ v, e = .returned (.agg #[.int .u32 1, v, .slice none 0 0, .int .i64 1]) ∧ w''.ownsRow w'.heap.size 5 1 v 0 [] ∧ Below w'.heap.size w' w'' := hbe
  have har' : ∀ w', Calls Try.prog 34 #[.int .i64 (n : Int)] w' fun e w'' => e = .returned (.agg #[.int .i64 2, .int .i64 (n : Int), .int .i64 ((2 : Int) + (n : Int)), .int .i64 (n : Int)]) ∧ Below w'.heap.size w' w'' := har
  have HD := Lib.hid (And.intro hD hB)
  clear hD har hbe
  have hnI : (n : Int) ≤ 1000 := by omega
  obtain ⟨LR, hLR⟩ : ∃ LR, laysM D (fmtL n) = LR := ⟨_, rfl⟩
  rw [hLR]
  go_enter Try.func8, Try.ntmps8
  go_wp2_with fail
  refine hmb.mono ?_
  rintro e w1 ⟨rfl, rfl⟩
  clear hmb
  go_wp2_with fail
  refine (har' _).mono ?_
  rintro e W1 ⟨rfl, hb1⟩
  clear har'
  go_wp2_with fail
  refine (hbe' _).mono ?_
  rintro e W2 ⟨v, rfl, hown, hb2⟩
  obtain ⟨va, vc, rfl⟩ := wown_slice hown
  clear hbe'
  have HB2 := Lib.hid (And.intro (show Below w.heap.size w W2 from hb1.trans (hb2.mono hb1.size)) (And.intro hown hb1))
  clear hb1 hb2 hown
  go_wp2_with fail
  obtain ⟨g, hg⟩ : ∃ g, W2.heap.size = g := ⟨_, rfl⟩
  generalize hW3 : World.alloc (World.alloc W2 _) _ = W3
  have e7 : rgs 0 (2 + 2 * n) = #[.int .i64 0, .int .i64 (2 + 2 * (n : Int))] := by simp [rgs]
  have bg3 : Blk W3 W2.heap.size 71 (lgcs 1 (.slice va 0 vc) (.slice none 0 0) 1 p n 0 false) := by rw [← hW3]; exact (Blk.new W2 _ _).alloc _
  have br3 : Blk W3 (W2.heap.size + 1) 64 #[.int .i64 0, .int .i64 (2 + 2 * (n : Int))] := by rw [← hW3]; exact Blk.wnew2 W2 _ _ _
  have hb23 : Below W2.heap.size W2 W3 := by rw [← hW3]; exact ((Below.refl _ _).alloc (Nat.le_refl _) _).alloc (by simp) _
  have hs3 : W3.heap.size = W2.heap.size + 2 := by rw [← hW3]; simp
  obtain ⟨r7, hr7⟩ : ∃ r7, W2.heap.size + 1 = r7 := ⟨_, rfl⟩
  rw [hr7] at br3 ⊢
  have HG := Lib.hid (And.intro hg (And.intro hr7 hs3))
  rw [hg] at bg3 ⊢
  clear hW3 hg hr7 hs3
  have hb3 : Below w.heap.size w W3 := HB2.out.1.trans (hb23.mono HB2.out.1.size)
  obtain ⟨S, hS⟩ : ∃ S : World → Prop, S = fun w' => (∃ b', Blk w' g 71 (lgcs 1 (.slice va 0 vc) (.slice none 0 0) 1 p n 0 b')) ∧ Blk w' r7 64 #[.int .i64 0, .int .i64 (2 + 2 * (n : Int))] := ⟨_, rfl⟩
  have hSi : ∀ (w' : World) (b' : Bool), Blk w' g 71 (lgcs 1 (.slice va 0 vc) (.slice none 0 0) 1 p n 0 b') → Blk w' r7 64 #[.int .i64 0, .int .i64 (2 + 2 * (n : Int))] → S w' := fun w' b' h9 h8 => by rw [hS]; exact ⟨⟨b', h9⟩, h8⟩
  have L5 : ∀ w', S w' → w'.cell? ⟨g, 5, none⟩ = some (.int .i64 2) := fun w' h9 => by rw [hS] at h9; obtain ⟨⟨b', h9⟩, _⟩ := h9; exact h9.cell 5
  have L70 : ∀ w', S w' → w'.cell? ⟨r7, 0, none⟩ = some (.int .i64 0) := fun w' h9 => by rw [hS] at h9; exact h9.2.cell 0
  have L71 : ∀ w', S w' → w'.cell? ⟨r7, 1, none⟩ = some (.int .i64 (2 + 2 * (n : Int))) := fun w' h9 => by rw [hS] at h9; exact h9.2.cell 1
  obtain ⟨ZC, hZC⟩ : ∃ ZC, Bk.zero.cs = ZC := ⟨_, rfl⟩
  obtain ⟨LC, hLC⟩ : ∃ LC, (labL n).cs = LC := ⟨_, rfl⟩
  have hbz : ∀ w', S w' → (buildZ #[]).run Try.prog w' = .ok (.agg ZC) w' := fun w' _ => by rw [← hZC]; exact buildZ_run w'
  have hf1 : ∀ W, Calls Try.prog 37 #[.agg #[.int .i64 0, .int .i64 (2 + 2 * (n : Int))], .agg ZC] W fun e w' =>
      e = .returned (.func (.func 58) #[] #[.pointer (some ⟨W.heap.size, 0, none⟩), .pointer (some ⟨W.heap.size + 1, 0, none⟩)]) ∧ Blk w' W.heap.size 64 (rgs 0 (2 + 2 * n)) ∧ Blk w' (W.heap.size + 1) 77 Bk.zero.cs ∧ Below W.heap.size W w' := fun W => by
    have := filled_any 0 (2 + 2 * n) Bk.zero W
    rw [e7, hZC] at this
    rw [e7, hZC]
    exact this
  have hf2 : ∀ W, Calls Try.prog 37 #[.agg #[.int .i64 0, .int .i64 2], .agg LC] W fun e w' =>
      e = .returned (.func (.func 58) #[] #[.pointer (some ⟨W.heap.size, 0, none⟩), .pointer (some ⟨W.heap.size + 1, 0, none⟩)]) ∧ Blk w' W.heap.size 64 (rgs 0 2) ∧ Blk w' (W.heap.size + 1) 77 (labL n).cs ∧ Below W.heap.size W w' := fun W => by
    have := filled_any 0 2 (labL n) W
    rw [hLC] at this
    rw [hLC]
    exact this
  have hla : ∀ W, Calls Try.prog 39 #[.int .i64 (n : Int)] W fun e w' => e = .returned (.agg LC) ∧ Below W.heap.size W w' := fun W => by
    have := label_any n hn W
    rwa [hLC] at this
  have hro : ∀ W, Calls Try.prog 38 #[.agg #[.int .u32 1, .int .u32 0, .slice none 0 0], .int .i64 2] W fun e w' =>
      e = .returned (.func (.func 59) #[] #[.pointer (some ⟨W.heap.size, 0, none⟩), .pointer (some ⟨W.heap.size + 1, 0, none⟩)]) ∧ Blk w' W.heap.size 79 (fcs 1 0 none 0 0) ∧ Blk w' (W.heap.size + 1) 3 #[.int .i64 ((2 : Nat) : Int)] ∧ Below W.heap.size W w' := fun W => rows_of 2 1 0 none 0 0 [] W
  have hSW : S W3.drew := hSi _ false bg3.drew br3.drew
  have HK := Lib.hid (And.intro hb3 (And.intro bg3 (And.intro br3 (And.intro hSi (And.intro hZC hLC)))))
  have HB23 := Lib.hid hb23
  clear hb3 bg3 br3 hSi hZC hLC hb23
  refine wp_region_linY S [3, 11, 14, 15, 16, 17] [0, 1, 2, 4, 5, 6, 7, 8, 9, 10, 12, 13, 3, 11, 14, 15, 16, 17, 18] (by kernel_rfl) (by kernel_rfl) hSW ?_
  (repeat (first | (refine linX_off rfl rfl (by rfl) ?_; (try simp only [Act.put, List.getElem_toArray, List.getElem_cons_zero, List.getElem_cons_succ, List.setIfInBounds_toArray, List.set_cons_zero, List.set_cons_succ])) | (refine linX_op (v := ?_) rfl rfl (by rfl) (fun w9 hS9 => ?_) ?_; rotate_left; (focus (((have k0 := L5 w9 hS9; have k1 := L70 w9 hS9; have k2 := L71 w9 hS9; have k3 := hbz w9 hS9; go_simp; (try go_bits)) <;> with_reducible rfl))); (try simp only [Act.put, List.getElem_toArray, List.getElem_cons_zero, List.getElem_cons_succ, List.setIfInBounds_toArray, List.set_cons_zero, List.set_cons_succ]))))
  have hbd : Below w.heap.size w W3.drew := HK.out.1.drew
  have hd3 : W3.drew.heap.size = W3.heap.size := rfl
  obtain ⟨W3d, hW3d⟩ : ∃ W3d, W3.drew = W3d := ⟨_, rfl⟩
  have bg3 : Blk W3d g 71 (lgcs 1 (.slice va 0 vc) (.slice none 0 0) 1 p n 0 false) := by rw [← hW3d]; exact HK.out.2.1.drew
  have br3 : Blk W3d r7 64 #[.int .i64 0, .int .i64 (2 + 2 * (n : Int))] := by rw [← hW3d]; exact HK.out.2.2.1.drew
  have h2d : Below W2.heap.size W2 W3d := by rw [← hW3d]; exact HB23.out.drew
  rw [hW3d] at hbd hd3 ⊢
  have HD3 := Lib.hid hd3
  clear hW3d hd3
  refine linX_call (f := 37) (args := #[.agg #[.int .i64 0, .int .i64 (2 + 2 * (n : Int))], .agg ZC]) rfl rfl (by rfl) rfl rfl (enters_of Try.func37 (by kernel_rfl) rfl) ?_ ?_
  · simp [Act.eval]
  refine (hf1 _).mono ?_
  rintro e W4 ⟨rfl, b41, b42, hb4⟩
  have S4 := HK.out.2.2.2.1 _ _ (bg3.kept (Kept.of_below [] hb4) (by simp)) (br3.kept (Kept.of_below [] hb4) (by simp))
  refine ⟨_, rfl, S4, ?_⟩
  (try simp only [Act.put, List.getElem_toArray, List.getElem_cons_zero, List.getElem_cons_succ, List.setIfInBounds_toArray, List.set_cons_zero, List.set_cons_succ])
  (repeat (first | (refine linX_off rfl rfl (by rfl) ?_; (try simp only [Act.put, List.getElem_toArray, List.getElem_cons_zero, List.getElem_cons_succ, List.setIfInBounds_toArray, List.set_cons_zero, List.set_cons_succ])) | (refine linX_op (v := ?_) rfl rfl (by rfl) (fun w9 hS9 => ?_) ?_; rotate_left; (focus (((have k0 := L5 w9 hS9; have k1 := L70 w9 hS9; have k2 := L71 w9 hS9; have k3 := hbz w9 hS9; go_simp; (try go_bits)) <;> with_reducible rfl))); (try simp only [Act.put, List.getElem_toArray, List.getElem_cons_zero, List.getElem_cons_succ, List.setIfInBounds_toArray, List.set_cons_zero, List.set_cons_succ]))))
  refine linX_call (f := 38) (args := #[.agg #[.int .u32 1, .int .u32 0, .slice none 0 0], .int .i64 2]) rfl rfl (by rfl) rfl rfl (enters_of Try.func38 (by kernel_rfl) rfl) ?_ ?_
  · simp [Act.eval]
  refine (hro _).mono ?_
  rintro e W5 ⟨rfl, b51, b52, hb5⟩
  have k35 := bel_lat hb4 hb5
  have S5 := HK.out.2.2.2.1 _ _ (bg3.kept (Kept.of_below [] k35) (by simp)) (br3.kept (Kept.of_below [] k35) (by simp))
  refine ⟨_, rfl, S5, ?_⟩
  (try simp only [Act.put, List.getElem_toArray, List.getElem_cons_zero, List.getElem_cons_succ, List.setIfInBounds_toArray, List.set_cons_zero, List.set_cons_succ])
  (repeat (first | (refine linX_off rfl rfl (by rfl) ?_; (try simp only [Act.put, List.getElem_toArray, List.getElem_cons_zero, List.getElem_cons_succ, List.setIfInBounds_toArray, List.set_cons_zero, List.set_cons_succ])) | (refine linX_op (v := ?_) rfl rfl (by rfl) (fun w9 hS9 => ?_) ?_; rotate_left; (focus (((have k0 := L5 w9 hS9; have k1 := L70 w9 hS9; have k2 := L71 w9 hS9; have k3 := hbz w9 hS9; go_simp; (try go_bits)) <;> with_reducible rfl))); (try simp only [Act.put, List.getElem_toArray, List.getElem_cons_zero, List.getElem_cons_succ, List.setIfInBounds_toArray, List.set_cons_zero, List.set_cons_succ]))))
  refine linX_call (f := 39) (args := #[.int .i64 (n : Int)]) rfl rfl (by rfl) rfl rfl (enters_of Try.func39 (by kernel_rfl) rfl) ?_ ?_
  · simp [Act.eval]
  refine (hla _).mono ?_
  rintro e W6 ⟨rfl, hb6⟩
  have k36 := bel_lat k35 hb6
  have S6 := HK.out.2.2.2.1 _ _ (bg3.kept (Kept.of_below [] k36) (by simp)) (br3.kept (Kept.of_below [] k36) (by simp))
  refine ⟨_, rfl, S6, ?_⟩
  (try simp only [Act.put, List.getElem_toArray, List.getElem_cons_zero, List.getElem_cons_succ, List.setIfInBounds_toArray, List.set_cons_zero, List.set_cons_succ])
  (repeat (first | (refine linX_off rfl rfl (by rfl) ?_; (try simp only [Act.put, List.getElem_toArray, List.getElem_cons_zero, List.getElem_cons_succ, List.setIfInBounds_toArray, List.set_cons_zero, List.set_cons_succ])) | (refine linX_op (v := ?_) rfl rfl (by rfl) (fun w9 hS9 => ?_) ?_; rotate_left; (focus (((have k0 := L5 w9 hS9; have k1 := L70 w9 hS9; have k2 := L71 w9 hS9; have k3 := hbz w9 hS9; go_simp; (try go_bits)) <;> with_reducible rfl))); (try simp only [Act.put, List.getElem_toArray, List.getElem_cons_zero, List.getElem_cons_succ, List.setIfInBounds_toArray, List.set_cons_zero, List.set_cons_succ]))))
  refine linX_call (f := 37) (args := #[.agg #[.int .i64 0, .int .i64 2], .agg LC]) rfl rfl (by rfl) rfl rfl (enters_of Try.func37 (by kernel_rfl) rfl) ?_ ?_
  · simp [Act.eval]
  refine (hf2 _).mono ?_
  rintro e W7 ⟨rfl, b71, b72, hb7⟩
  have k37 := bel_lat k36 hb7
  have S7 := HK.out.2.2.2.1 _ _ (bg3.kept (Kept.of_below [] k37) (by simp)) (br3.kept (Kept.of_below [] k37) (by simp))
  refine ⟨_, rfl, S7, ?_⟩
  (try simp only [Act.put, List.getElem_toArray, List.getElem_cons_zero, List.getElem_cons_succ, List.setIfInBounds_toArray, List.set_cons_zero, List.set_cons_succ])
  obtain ⟨ROWS, hROWS⟩ : ∃ ROWS, [fillR 0 (2 + 2 * n) Bk.zero W3d.heap.size (W3d.heap.size + 1), frameR 2 1 0 [] W4.heap.size (W4.heap.size + 1), fillR 0 2 (labL n) W6.heap.size (W6.heap.size + 1)] = ROWS := ⟨_, rfl⟩
  obtain ⟨W8, hW8⟩ : ∃ W8, W7.alloc (.cells (rowVals ROWS) 74) = W8 := ⟨_, rfl⟩
  have hW8' : W7.alloc (.cells #[.func (.func 58) #[] #[.pointer (some ⟨W3d.heap.size, 0, none⟩), .pointer (some ⟨W3d.heap.size + 1, 0, none⟩)], .func (.func 59) #[] #[.pointer (some ⟨W4.heap.size, 0, none⟩), .pointer (some ⟨W4.heap.size + 1, 0, none⟩)], .func (.func 58) #[] #[.pointer (some ⟨W6.heap.size, 0, none⟩), .pointer (some ⟨W6.heap.size + 1, 0, none⟩)]] 74) = W8 := by rw [← hROWS] at hW8; exact hW8
  have hb8 : Below W7.heap.size W7 W8 := by rw [← hW8]; exact (Below.refl _ _).alloc (Nat.le_refl _) _
  have br8 : Blk W8 W7.heap.size 74 (rowVals ROWS) := by rw [← hW8]; exact Blk.new _ _ _
  have k38 := bel_lat k37 hb8
  have bg8 := bg3.kept (Kept.of_below [] k38) (by simp)
  have brg8 := br3.kept (Kept.of_below [] k38) (by simp)
  refine linX_do (v := .slice (some ⟨W7.heap.size, 0, none⟩) 3 3) (w' := W8) rfl rfl (by rfl) ?_ (HK.out.2.2.2.1 _ _ bg8 brg8) ?_
  · (focus ((go_simp; (try go_bits)) <;> with_reducible rfl))
  (try simp only [Act.put, List.getElem_toArray, List.getElem_cons_zero, List.getElem_cons_succ, List.setIfInBounds_toArray, List.set_cons_zero, List.set_cons_succ])
  have hb08 : Below w.heap.size w W8 := bel_lat hbd k38
  have hD8 := HD.out.1.later hb08
  have h48 : Below W4.heap.size W4 W8 := bel_lat hb5 (bel_lat hb6 (bel_lat hb7 hb8))
  have h58 : Below W5.heap.size W5 W8 := bel_lat hb6 (bel_lat hb7 hb8)
  have s0 := hbd.size
  have s4 := hb4.size
  have s5 := hb5.size
  have s6 := hb6.size
  have s7 := hb7.size
  have l41 := b41.lt
  have l42 := b42.lt
  have l51 := b51.lt
  have l52 := b52.lt
  have l71 := b71.lt
  have l72 := b72.lt
  have s8 := hb8.size
  have hC8 : ∀ c ∈ [W3d.heap.size, W3d.heap.size + 1, W4.heap.size, W4.heap.size + 1, W6.heap.size, W6.heap.size + 1], c < W8.heap.size := by
    intro c hc
    simp only [List.mem_cons, List.not_mem_nil, or_false] at hc
    omega
  have T1 := ((told_filled b41 b42 (by omega)).later h48).more (C' := [W3d.heap.size, W3d.heap.size + 1, W4.heap.size, W4.heap.size + 1, W6.heap.size, W6.heap.size + 1]) (by simp) hC8
  have T2 := ((told_rows (w := W5) (first := 2) (t := 1) (n := 0) (a := none) (l := []) (len := 0) (cap := 0) rfl (by omega) (Nat.le_refl _) (fun n hn => by simp at hn) (by omega) (by omega) b51 b52 (.inl rfl) (fun x hx => by cases hx) (by omega)).later h58).more (C' := [W3d.heap.size, W3d.heap.size + 1, W4.heap.size, W4.heap.size + 1, W6.heap.size, W6.heap.size + 1]) (by simp) hC8
  have T3 := ((told_filled b71 b72 (by omega)).later hb8).more (C' := [W3d.heap.size, W3d.heap.size + 1, W4.heap.size, W4.heap.size + 1, W6.heap.size, W6.heap.size + 1]) (by simp) hC8
  have hlt := fp_lt HD.out.1
  have hpw : p < w.heap.size := hlt p (by simp [fp])
  have hpbw : pb < w.heap.size := hlt pb (by simp [fp])
  have hwr := wwrite_any hD8 (Nat.le_trans HD.out.2 hb08.size) bg8 rfl rfl ROWS [W3d.heap.size, W3d.heap.size + 1, W4.heap.size, W4.heap.size + 1, W6.heap.size, W6.heap.size + 1] (by simp; omega) (by simp; omega) (fun x hx => by
    rw [← hROWS] at hx
    simp only [List.mem_cons, List.not_mem_nil, or_false] at hx
    rcases hx with rfl | rfl | rfl
    · exact T1
    · exact T2
    · exact T3) br8 (by rw [← hROWS]; simp)
  rw [show ROWS.length = 3 by rw [← hROWS]; rfl, show errsOf D ROWS = laysM D (fmtL n) by rw [← hROWS]; rfl] at hwr
  rw [hLR] at hwr
  have HW := Lib.hid (And.intro hb08 (And.intro bg8 (And.intro brg8 (And.intro hlt (And.intro s0 (And.intro (bel_lat h2d k38) trivial))))))
  clear T1 T2 T3 hC8 b41 b42 b51 b52 b71 b72 hb4 hb5 hb6 hb7 hb8 k35 k36 k37 k38 S4 S5 S6 S7 hf1 hf2 hro hla br8 bg8 brg8 hb08 hD8 h48 h58 l41 l42 l51 l52 l71 l72 s0 s4 s5 s6 s7 s8 hpw hpbw hlt bg3 br3 hbd hW8 hW8' hROWS
  refine linX_call (f := 36) (args := #[.pointer (some ⟨g, 0, none⟩), .slice (some ⟨W7.heap.size, 0, none⟩) 3 3]) rfl rfl (by rfl) rfl rfl (enters_of Try.func36 (by kernel_rfl) rfl) ?_ ?_
  · simp [Act.eval]
  refine hwr.mono ?_
  rintro e w9 ⟨rfl, bv', hD9, hg9, hk9, ho9⟩
  clear hwr
  have hgw : w.heap.size ≤ g := by rw [← HG.out.1]; exact HB2.out.1.size
  have hr7w : r7 = g + 1 := by rw [← HG.out.1]; exact HG.out.2.1.symm
  have hr9 := HW.out.2.2.1.kept hk9 (by
    intro hm
    rcases List.mem_cons.1 hm with h9 | h9
    · omega
    · have := HW.out.2.2.2.1 _ h9; omega)
  refine ⟨_, rfl, HK.out.2.2.2.1 _ _ hg9 hr9, ?_⟩
  (try simp only [Act.put, List.getElem_toArray, List.getElem_cons_zero, List.getElem_cons_succ, List.setIfInBounds_toArray, List.set_cons_zero, List.set_cons_succ])
  (repeat (first | (refine linX_off rfl rfl (by rfl) ?_; (try simp only [Act.put, List.getElem_toArray, List.getElem_cons_zero, List.getElem_cons_succ, List.setIfInBounds_toArray, List.set_cons_zero, List.set_cons_succ])) | (refine linX_op (v := ?_) rfl rfl (by rfl) (fun w9 hS9 => ?_) ?_; rotate_left; (focus (((have k0 := L5 w9 hS9; have k1 := L70 w9 hS9; have k2 := L71 w9 hS9; have k3 := hbz w9 hS9; go_simp; (try go_bits)) <;> with_reducible rfl))); (try simp only [Act.put, List.getElem_toArray, List.getElem_cons_zero, List.getElem_cons_succ, List.setIfInBounds_toArray, List.set_cons_zero, List.set_cons_succ]))))
  refine linX_nil ?_
  have hkk : Kept (fp p pb bv) w w9 := (Kept.of_below (fp p pb bv) HW.out.1).trans2 hk9 (fun i hi => by
    rcases List.mem_cons.1 hi with h9 | h9
    · exact .inr (by omega)
    · exact .inl h9)
  have ho09 : ∀ k, bv'.ownBlock = some k → bv.ownBlock = some k ∨ w.heap.size ≤ k := fun k hk => (ho9 k hk).imp id (fun h9 => Nat.le_trans HW.out.1.size h9)
  have hv9 : w9.ownsRow w.heap.size 5 1 (.slice va 0 vc) 0 [] := by
    rcases HB2.out.2.1.2 with h9 | ⟨q, cap, cur, h1, h2, h3, h4⟩
    · exact ⟨HB2.out.2.1.1, .inl h9⟩
    · have hq2 : q < W2.heap.size := (Array.getElem?_eq_some_iff.1 h3).1
      have hqw : w.heap.size ≤ q := Nat.le_trans HB2.out.2.2.size h2
      have h23 : W8.heap[q]? = W2.heap[q]? := by
        exact HW.out.2.2.2.2.2.1.block q hq2
      refine ⟨HB2.out.2.1.1, .inr ⟨q, cap, cur, h1, hqw, ((hk9.block q (by have := HW.out.2.2.2.2.2.1.size; have := HG.out.2.2; omega) ?_).trans h23).trans h3, h4⟩⟩
      intro hm
      rcases List.mem_cons.1 hm with h9 | h9
      · have := HG.out.1; omega
      · have := HW.out.2.2.2.1 _ h9; omega
  obtain ⟨D2, er⟩ := LR
  by_cases he : er = 0
  · subst he
    rw [show decide (((D2, (0 : Int)) : Dk × Int).2 ≠ 0) = false from rfl] at hg9
    have hg9' : Blk w9 g 71 (lgcs 1 (.slice va 0 vc) (.slice none 0 0) 1 p n 0 false) := hg9
    clear L5 L70 L71 hbz
    go_wp2_with fail
    go_ret2
    exact ⟨bv', hD9, ⟨g, rfl, hgw, .slice va 0 vc, hv9, hg9'⟩, hkk, ho09⟩
  · have heb : (er != 0) = true := by simpa using he
    clear L5 L70 L71 hbz
    go_wp2_with fail
    go_ret2
    exact ⟨bv', hD9, rfl, hkk, ho09⟩
end Go.Proofs.Ytkfpkolgikpcpaa
