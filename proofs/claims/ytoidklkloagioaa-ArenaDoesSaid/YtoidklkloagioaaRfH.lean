/-
  The document's arena: its root published. Nothing here is a statement of the document.
-/
import Derived.Test.YtoidklkloagioaaRfE
namespace Go.Proofs.Ytoidklkloagioaa
open Go.RowKit Go.Shelf
set_option linter.unusedVariables false
attribute [local go_sem ↓] load_ra_rule store_ra_rule load_rb_rule store_rb_rule

/-- A frame: the arena in a box, the result's box behind it. -/
structure Fr (w W : World) (z lo : Nat) (bv : Value) (ls : Nat → Value) (vs : List Value) (M : Mo) : Prop where
  bx : Bx w W w.heap.size lo bv ls vs M
  zb : Blk W z 36 zeroRa
  sz : w.heap.size ≤ z
theorem fr_new {w : World} {lo : Nat} {bv : Value} {ls : Nat → Value} {vs : List Value} {M : Mo} (h : Rfa w lo bv ls vs M) : ∃ W, (w.alloc (.cells (M.vals bv ls) 36)).alloc (.cells #[.int .i64 0, .slice none 0 0, .slice none 0 0, .slice none 0 0, .slice none 0 0, .slice none 0 0, .slice none 0 0, .slice none 0 0, .int .u64 0, .int .u64 0, .int .i64 0, .int .i64 0, .int .u64 0] 36) = W ∧ Fr w W (w.heap.size + 1) lo bv ls vs M := by
  refine ⟨_, rfl, (bx_new h).later ((Below.refl _ _).alloc (Nat.le_refl _) _), ?_, by omega⟩
  have := Blk.new (w.alloc (.cells (M.vals bv ls) 36)) 36 zeroRa
  rw [show (w.alloc (.cells (M.vals bv ls) 36)).heap.size = w.heap.size + 1 by simp] at this
  exact this

section
variable {w W W' : World} {g z lo : Nat} {bv : Value} {ls : Nat → Value} {vs : List Value} {M : Mo}
/-- What is answered of an arena that is changed: it lies behind all. -/
def Ans (w w' : World) (v : Value) (M' : Mo) : Prop := ∃ bv' ls' vs', v = .agg (M'.vals bv' ls') ∧ Rfa w' w.heap.size bv' ls' vs' M' ∧ Below w.heap.size w w'
/-- The frame's end where nothing changed: the arena that came in is handed back. -/
theorem Fr.st (F : Fr w W z lo bv ls vs M) : (storeSem 36 (.pointer (some ⟨z, 0, none⟩)) (.agg (M.vals bv ls))).run Try.prog W = .ok () (W.setRow z (M.vals bv ls)) ∧ Blk (W.setRow z (M.vals bv ls)) z 36 (M.vals bv ls) ∧ Below w.heap.size w (W.setRow z (M.vals bv ls)) :=
  ⟨sra F.zb rfl rfl F.bx.rf.vals_one, F.zb.row _, below_setRow F.bx.hb F.sz _⟩
theorem Fr.later (F : Fr w W z lo bv ls vs M) (k : Below W.heap.size W W') : Bx w W' w.heap.size lo bv ls vs M ∧ Blk W' z 36 zeroRa :=
  ⟨F.bx.later k, F.zb.kept (Kept.of_below [] k) (by simp)⟩
theorem Fr.ans (F : Fr w W z lo bv ls vs M) {W4 : World} {bv' : Value} {ls' : Nat → Value} {vs' : List Value} {M' : Mo} (hR : Rfa W4 W.heap.size bv' ls' vs' M') (hb : Below W.heap.size W W4) :
    (storeSem 36 (.pointer (some ⟨z, 0, none⟩)) (.agg (M'.vals bv' ls'))).run Try.prog W4 = .ok () (W4.setRow z (M'.vals bv' ls')) ∧ Blk (W4.setRow z (M'.vals bv' ls')) z 36 (M'.vals bv' ls') ∧ Ans w (W4.setRow z (M'.vals bv' ls')) (.agg (M'.vals bv' ls')) M' := by
  have z4 := (F.later hb).2
  have hsz := F.sz
  have hzl := F.zb.lt
  have hws := F.bx.hb.size
  refine ⟨sra z4 rfl (Mo.vals_size _ _ _) hR.vals_one, z4.row _, bv', ls', vs', rfl, ?_, below_setRow (F.bx.later hb).hb (by omega) _⟩
  exact (hR.kept (S := [z]) ((Kept.refl _ _).setRow (.inl (by simp)) _) (by simp; omega)).mono (by omega)
theorem Mo.vals_gd (M : Mo) (bv : Value) (ls : Nat → Value) (y : Nat) : (M.vals bv ls).setIfInBounds 12 (.int .u64 (y : Int)) = ({ M with gd := y } : Mo).vals bv ls := by simp [Mo.vals]

set_option maxRecDepth 100000 in
set_option maxHeartbeats 1000000 in
theorem rraise_low (h : Rfa w lo bv ls vs M) (y : Nat) (hy : y < M.gd) : Calls Try.prog 28 #[.agg (M.vals bv ls), .int .u64 (y : Int)] w fun e w' => e = .returned (.tuple #[.agg (M.vals bv ls), .int .i64 161]) ∧ Below w.heap.size w w' := by
  obtain ⟨W, hW, F⟩ := fr_new h
  have c12 : W.cell? ⟨w.heap.size, 12, none⟩ = some (.int .u64 (M.gd : Int)) := F.bx.bx.cell 12
  have hl := F.bx.ld
  obtain ⟨hs, hbk, hbe⟩ := F.st
  have HF := Lib.hid (And.intro hbk (And.intro hbe (M.vals_size bv ls)))
  clear F hbk hbe h
  have hlt : (y : Int) < (M.gd : Int) := by omega
  generalize M.vals bv ls = V at *
  go_enter Try.func28, Try.ntmps28
  go_wp2_with fail
  refine bodyPost_ret (results_ra2 rfl _ _ (w.heap.size + 1) V rfl HF.out.1 HF.out.2.2) rfl ?_
  exact ⟨rfl, HF.out.2.1⟩
set_option maxRecDepth 100000 in
set_option maxHeartbeats 1000000 in
theorem rraise_yes (h : Rfa w lo bv ls vs M) (y : Nat) (hy : M.gd ≤ y) : Calls Try.prog 28 #[.agg (M.vals bv ls), .int .u64 (y : Int)] w fun e w' => ∃ v, e = .returned (.tuple #[v, .int .i64 0]) ∧ Ans w w' v { M with gd := y } := by
  obtain ⟨W, hW, F⟩ := fr_new h
  have c12 : W.cell? ⟨w.heap.size, 12, none⟩ = some (.int .u64 (M.gd : Int)) := F.bx.bx.cell 12
  have hl := F.bx.ld
  have hcp := rcopy_any F.bx.rf
  have HF := Lib.hid F
  clear F h
  have hlt : (M.gd : Int) ≤ (y : Int) := by omega
  obtain ⟨V, hV⟩ : ∃ V, M.vals bv ls = V := ⟨_, rfl⟩
  rw [hV] at hW hl hcp ⊢
  go_enter Try.func28, Try.ntmps28
  go_wp2_with fail
  refine hcp.mono ?_
  rintro e W' ⟨bv', ls', vs', rfl, hR, hb⟩
  clear hcp hl c12
  have hst := sra_new W' (M.vals_size bv' ls') hR.vals_one
  have b3 := Blk.new W' 36 (M.vals bv' ls')
  have c3 := b3.cell 12
  have f3 := b3.free 12
  have b4 := b3.set 12 (.int .u64 (y : Int))
  rw [M.vals_gd] at b4
  have hk4 : Below W'.heap.size W' ((W'.alloc (.cells (M.vals bv' ls') 36)).setCell ⟨W'.heap.size, 12, none⟩ (.int .u64 (y : Int))) := ((Below.refl _ _).alloc (Nat.le_refl _) _).setCell (Nat.le_refl _) _
  obtain ⟨W4, hW4⟩ : ∃ W4, (W'.alloc (.cells (M.vals bv' ls') 36)).setCell ⟨W'.heap.size, 12, none⟩ (.int .u64 (y : Int)) = W4 := ⟨_, rfl⟩
  rw [hW4] at b4 hk4
  have hR4 : Rfa W4 W.heap.size bv' ls' vs' { M with gd := y } := by
    have := hR.later hk4
    exact ⟨this.row, this.len, this.wds, this.apart, this.ok, this.uq, this.lst, this.few, this.fewl, this.small⟩
  have hl4 := lra b4 rfl
  have hbb := bel_later hb hk4
  obtain ⟨hs4, hbk, hans⟩ := HF.out.ans hR4 hbb
  have HX := Lib.hid (And.intro hbk hans)
  obtain ⟨V4, hV4⟩ : ∃ V4, ({ M with gd := y } : Mo).vals bv' ls' = V4 := ⟨_, rfl⟩
  rw [hV4] at hl4 hs4 b4 HX
  have c3' : (W'.alloc (.cells (M.vals bv' ls') 36)).cell? ⟨W'.heap.size, 12, none⟩ = some (.int .u64 (M.gd : Int)) := c3
  clear c3 b3 hR hk4 hbb b4 hb hR4 hbk hans
  generalize M.vals bv' ls' = V3 at *
  have h13 : V4.size = 13 := by rw [← hV4]; rfl
  have HV := Lib.hid h13
  clear h13
  go_wp2_with fail
  refine bodyPost_ret (results_ra2 rfl _ _ (w.heap.size + 1) V4 rfl HX.out.1 HV.out) rfl ?_
  exact ⟨_, rfl, HX.out.2⟩
end
end Go.Proofs.Ytoidklkloagioaa
namespace Go.Proofs.Ytoidklkloagioaa
open Go.RowKit Go.Shelf
set_option linter.unusedVariables false
attribute [local go_sem ↓] load_ra_rule store_ra_rule load_rb_rule store_rb_rule load_root_rule store_root_rule
section
variable {w W W' : World} {g z lo : Nat} {bv : Value} {ls : Nat → Value} {vs : List Value} {M : Mo}
theorem fr_pub (h : Rfa w lo bv ls vs M) (R : Array Value) : ∃ W, ((w.alloc (.cells (M.vals bv ls) 36)).alloc (.cells R 34)).alloc (.cells #[.int .i64 0, .slice none 0 0, .slice none 0 0, .slice none 0 0, .slice none 0 0, .slice none 0 0, .slice none 0 0, .slice none 0 0, .int .u64 0, .int .u64 0, .int .i64 0, .int .i64 0, .int .u64 0] 36) = W ∧ Fr w W (w.heap.size + 2) lo bv ls vs M ∧ Blk W (w.heap.size + 1) 34 R := by
  refine ⟨_, rfl, ⟨(bx_new h).later (((Below.refl _ _).alloc (Nat.le_refl _) _).alloc (by simp) _), ?_, by omega⟩, ?_⟩
  · have := Blk.new ((w.alloc (.cells (M.vals bv ls) 36)).alloc (.cells R 34)) 36 zeroRa
    rw [show ((w.alloc (.cells (M.vals bv ls) 36)).alloc (.cells R 34)).heap.size = w.heap.size + 2 by simp] at this
    exact this
  · have := Blk.new (w.alloc (.cells (M.vals bv ls) 36)) 34 R
    rw [show (w.alloc (.cells (M.vals bv ls) 36)).heap.size = w.heap.size + 1 by simp] at this
    exact this.alloc _
theorem Mo.vals_root (M : Mo) (bv : Value) (ls : Nat → Value) (v e : Nat) (a b : Int) : over (M.vals bv ls) 8 (rtcs v e a b) = ({ M with v := v, e := e, four := a, six := b } : Mo).vals bv ls := by
  simp [Mo.vals, rtcs, over, splice]
set_option maxRecDepth 100000 in
set_option maxHeartbeats 1000000 in
theorem rpub_fence (h : Rfa w lo bv ls vs M) (v e : Nat) (four six : Int) (he : e < M.gd) : Calls Try.prog 27 #[.agg (M.vals bv ls), .agg (rtcs v e four six)] w fun x w' => x = .returned (.tuple #[.agg (M.vals bv ls), .int .i64 161]) ∧ Below w.heap.size w w' := by
  obtain ⟨W, hW, F, hr⟩ := fr_pub h (rtcs v e four six)
  have c12 : W.cell? ⟨w.heap.size, 12, none⟩ = some (.int .u64 (M.gd : Int)) := F.bx.bx.cell 12
  have r1 : W.cell? ⟨w.heap.size + 1, 1, none⟩ = some (.int .u64 (e : Int)) := hr.cell 1
  have hl := F.bx.ld
  obtain ⟨hs, hbk, hbe⟩ := F.st
  have HF := Lib.hid (And.intro hbk (And.intro hbe (M.vals_size bv ls)))
  clear F hbk hbe h hr
  have hlt : (e : Int) < (M.gd : Int) := by omega
  generalize M.vals bv ls = V at *
  generalize rtcs v e four six = R at *
  go_enter Try.func27, Try.ntmps27
  go_wp2_with fail
  refine bodyPost_ret (results_ra2 rfl _ _ (w.heap.size + 2) V rfl HF.out.1 HF.out.2.2) rfl ?_
  exact ⟨rfl, HF.out.2.1⟩
set_option maxRecDepth 100000 in
set_option maxHeartbeats 1000000 in
theorem rpub_version (h : Rfa w lo bv ls vs M) (v e : Nat) (four six : Int) (he : M.gd ≤ e) (hvv : M.v < 18446744073709551616) (hv : v < 18446744073709551616) (hn : v = 0 ∨ v - 1 ≠ M.v) : Calls Try.prog 27 #[.agg (M.vals bv ls), .agg (rtcs v e four six)] w fun x w' => x = .returned (.tuple #[.agg (M.vals bv ls), .int .i64 162]) ∧ Below w.heap.size w w' := by
  obtain ⟨W, hW, F, hr⟩ := fr_pub h (rtcs v e four six)
  have c12 : W.cell? ⟨w.heap.size, 12, none⟩ = some (.int .u64 (M.gd : Int)) := F.bx.bx.cell 12
  have c8 : W.cell? ⟨w.heap.size, 8, none⟩ = some (.int .u64 (M.v : Int)) := F.bx.bx.cell 8
  have r1 : W.cell? ⟨w.heap.size + 1, 1, none⟩ = some (.int .u64 (e : Int)) := hr.cell 1
  have r0 : W.cell? ⟨w.heap.size + 1, 0, none⟩ = some (.int .u64 (v : Int)) := hr.cell 0
  have hl := F.bx.ld
  obtain ⟨hs, hbk, hbe⟩ := F.st
  have HF := Lib.hid (And.intro hbk (And.intro hbe (M.vals_size bv ls)))
  clear F hbk hbe h hr
  have hlt : (M.gd : Int) ≤ (e : Int) := by omega
  generalize M.vals bv ls = V at *
  generalize rtcs v e four six = R at *
  generalize M.gd = mg at *
  generalize M.v = mv at *
  rcases Nat.eq_zero_or_pos v with h0 | h0
  · subst h0
    clear hn
    go_enter Try.func27, Try.ntmps27
    go_wp2_with fail
    refine bodyPost_ret (results_ra2 rfl _ _ (w.heap.size + 2) V rfl HF.out.1 HF.out.2.2) rfl ?_
    exact ⟨rfl, HF.out.2.1⟩
  · have hz0 : ((v : Int) == 0) = false := by simp; omega
    have hw1 : IntKind.u64.wrap ((v : Int) - 1) = ((v - 1 : Nat) : Int) := by rw [IntKind.wrap_u64]; omega
    have hne : (((v - 1 : Nat) : Int) == (mv : Int)) = false := by simp; omega
    generalize v - 1 = v1 at *
    clear hn
    go_enter Try.func27, Try.ntmps27
    go_wp2_with fail
    refine bodyPost_ret (results_ra2 rfl _ _ (w.heap.size + 2) V rfl HF.out.1 HF.out.2.2) rfl ?_
    exact ⟨rfl, HF.out.2.1⟩
end
end Go.Proofs.Ytoidklkloagioaa
