/-
  The root cell, told. Nothing here is a statement of the document.
-/
import Derived.Test.YtoidklkloagioaaArnD
import Derived.Test.YtoidklkloagioaaLinD
namespace Go.Proofs.Ytoidklkloagioaa
open Go.RowKit Go.Shelf
set_option linter.unusedVariables false

theorem below_drewN {B : Nat} {a b : World} (h : Below B a b) (n : Nat) : Below B a (b.drewN n) := ⟨h.os, h.tape, h.output, h.size, h.block⟩
/-- A root cell, as cells. -/
def rtcs (v e : Nat) (four six : Int) : Array Value := #[.int .u64 (v : Int), .int .u64 (e : Int), .int .i64 four, .int .i64 six]
/-- The root cell of these words. -/
def rootCs (ws : List Nat) : Array Value := rtcs (twoN ws 1) (twoN ws 3) ((ws.getD 5 0 : Nat) : Int) ((ws.getD 6 0 : Nat) : Int)
theorem s_root : (Try.prog.info? 34).map (·.size) = some 4 := by kernel_rfl
theorem load_root_rule (v : Value) : Instr.loadAt 34 v = loadSem 34 v := rfl
theorem store_root_rule (v x : Value) : Instr.storeAt 34 v x = storeSem 34 v x := rfl
theorem rt_one (v e : Nat) (a b : Int) : (rtcs v e a b).all (·.oneCell') = true := by simp [rtcs, Value.oneCell']
theorem rt_over (C : Array Value) (hC : C.size = 4) (v e : Nat) (a b : Int) : over C 0 (rtcs v e a b) = rtcs v e a b := by
  apply Array.ext_getElem?
  intro i
  rw [over_get (by rw [hC]; exact Nat.le_refl _)]
  by_cases h : i < 4
  · rw [if_neg (by omega), if_pos (by show i < 0 + 4; omega)]; rfl
  · rw [if_neg (by omega), if_neg (by show ¬ i < 0 + 4; omega), Array.getElem?_eq_none (by omega), Array.getElem?_eq_none (by show 4 ≤ i; omega)]
theorem st_root {w : World} {g : Nat} {C : Array Value} (h : Blk w g 34 C) (hC : C.size = 4) (v e : Nat) (a b : Int) : (storeSem 34 (.pointer (some ⟨g, 0, none⟩)) (.agg (rtcs v e a b))).run Try.prog w = .ok () (w.setRow g (rtcs v e a b)) := by
  have h1 := storeRes_of (w := w) h (o := 0) (vs := rtcs v e a b) (by rw [hC]; exact Nat.le_refl _) s_root (rt_one v e a b)
  rw [rt_over C hC] at h1
  exact h1
theorem ld_root {w : World} {g v e : Nat} {a b : Int} (h : Blk w g 34 (rtcs v e a b)) : (loadSem 34 (.pointer (some ⟨g, 0, none⟩))).run Try.prog w = .ok (.agg (rtcs v e a b)) w :=
  loadRes_of (w := w) h (fun j _ => by rw [Nat.zero_add]) _ Try.underlying34 rfl s_root
theorem build_root (v e : Nat) (a b : Int) (w : World) : (Instr.build 34 #[(0, .int .u64 (v : Int)), (1, .int .u64 (e : Int)), (2, .int .i64 a), (3, .int .i64 b)]).run Try.prog w = .ok (.agg (rtcs v e a b)) w := by kernel_rfl
theorem build_root0 (w : World) : (Instr.build 34 #[]).run Try.prog w = .ok (.agg (rtcs 0 0 0 0)) w := by kernel_rfl

set_option maxRecDepth 100000 in
set_option maxHeartbeats 1000000 in
theorem root_nil (w : World) : Calls Try.prog 30 #[.pointer none] w fun e w' => e = .returned (.agg (rtcs 0 0 0 0)) ∧ Below w.heap.size w w' := by
  have hbd := build_root0
  have HB := Lib.hid (And.intro (Blk.new w 34 (rtcs 0 0 0 0)) ((Below.refl w.heap.size w).alloc (Nat.le_refl _) (.cells (rtcs 0 0 0 0) 34)))
  go_enter Try.func30, Try.ntmps30
  go_wp2
  refine bodyPost_ret (results_cell_row rfl _ _ w.heap.size 34 (rtcs 0 0 0 0) (0, 0) _ rfl HB.out.1 Try.underlying34 rfl s_root) rfl ?_
  exact ⟨rfl, HB.out.2⟩

attribute [local go_sem ↓] load_root_rule store_root_rule
set_option maxRecDepth 100000 in
set_option maxHeartbeats 1000000 in
theorem root_any {w : World} {g p q : Nat} {ws : List Nat} {bs : List Bool} (h : Ar w g p q ws bs) : Calls Try.prog 30 #[.pointer (some ⟨g, 0, none⟩)] w fun e w' => e = .returned (.agg (rootCs ws)) ∧ Below w.heap.size w w' := by
  obtain ⟨S, hS⟩ : ∃ S : World → Prop, S = fun w' => Below w.heap.size w w' ∧ ∃ cs, Blk w' w.heap.size 34 cs ∧ cs.size = 4 := ⟨_, rfl⟩
  have hSd : ∀ w' n, S w' → S (w'.drewN n) := by rw [hS]; exact fun w' n h => ⟨below_drewN h.1 n, h.2⟩
  have hA : ∀ w', S w' → Ar w' g p q ws bs := by rw [hS]; exact fun w' h' => h.later h'.1
  have c0 : ∀ w', S w' → w'.cell? ⟨g, 0, none⟩ = some (.slice (some ⟨p, 0, none⟩) ws.length ws.length) := fun w' h' => (hA w' h').c0
  have c5 : ∀ w', S w' → w'.cell? ⟨p, 5, none⟩ = some (.int .u32 ((ws.getD 5 0 : Nat) : Int)) := fun w' h' => (hA w' h').word (by have := h.lo; omega)
  have c6 : ∀ w', S w' → w'.cell? ⟨p, 6, none⟩ = some (.int .u32 ((ws.getD 6 0 : Nat) : Int)) := fun w' h' => (hA w' h').word (by have := h.lo; omega)
  have hp1 := fun w' (h' : S w') => (pair_any (hA w' h') 1 (by omega)).mono (R' := fun e w2 => e = .returned (.pointer (some ⟨p, 1, none⟩)) ∧ ∃ n, w2 = w'.drewN n) fun e w2 h => ⟨h.1, 0, h.2.symm⟩
  have hp3 := fun w' (h' : S w') => (pair_any (hA w' h') 3 (by omega)).mono (R' := fun e w2 => e = .returned (.pointer (some ⟨p, 3, none⟩)) ∧ ∃ n, w2 = w'.drewN n) fun e w2 h => ⟨h.1, 0, h.2.symm⟩
  have hj1 := fun w' (h' : S w') => (hA w' h').two (k := 1) (by have := h.lo; omega)
  have hj3 := fun w' (h' : S w') => (hA w' h').two (k := 3) (by have := h.lo; omega)
  have hx5 := h.small 5
  have hx6 := h.small 6
  have hlo := h.lo
  have hhi := h.hi
  have hst : ∀ w', S w' → (storeSem 34 (.pointer (some ⟨w.heap.size, 0, none⟩)) (.agg (rootCs ws))).run Try.prog w' = .ok () (w'.setRow w.heap.size (rootCs ws)) ∧ S (w'.setRow w.heap.size (rootCs ws)) ∧ Blk (w'.setRow w.heap.size (rootCs ws)) w.heap.size 34 (rootCs ws) ∧ Below w.heap.size w (w'.setRow w.heap.size (rootCs ws)) := by
    rw [hS]
    rintro w' ⟨h1, cs, h2, h3⟩
    have hb := below_setRow h1 (Nat.le_refl _) (rootCs ws)
    exact ⟨st_root h2 h3 _ _ _ _, ⟨hb, _, h2.row _, rfl⟩, h2.row _, hb⟩
  have h0 : S (w.alloc (.cells (rtcs 0 0 0 0) 34)) := by rw [hS]; exact ⟨(Below.refl _ _).alloc (Nat.le_refl _) _, _, Blk.new _ _ _, rfl⟩
  have HS := Lib.hid hst
  have HR := Lib.hid (show rootCs ws = rtcs (twoN ws 1) (twoN ws 3) ((ws.getD 5 0 : Nat) : Int) ((ws.getD 6 0 : Nat) : Int) from rfl)
  clear h hA hst hS
  generalize ws.getD 5 0 = x5 at *
  generalize ws.getD 6 0 = x6 at *
  generalize twoN ws 1 = t1 at *
  generalize twoN ws 3 = t3 at *
  rw [show rootCs ws = rtcs t1 t3 x5 x6 from HR.out] at HS ⊢
  clear HR
  have HS : Hid (∀ w', S w' → (storeSem 34 (.pointer (some ⟨w.heap.size, 0, none⟩)) (.agg #[.int .u64 (t1 : Int), .int .u64 (t3 : Int), .int .i64 (x5 : Int), .int .i64 (x6 : Int)])).run Try.prog w' = .ok () (w'.setRow w.heap.size (rtcs t1 t3 x5 x6)) ∧ S (w'.setRow w.heap.size (rtcs t1 t3 x5 x6)) ∧ Blk (w'.setRow w.heap.size (rtcs t1 t3 x5 x6)) w.heap.size 34 (rtcs t1 t3 x5 x6) ∧ Below w.heap.size w (w'.setRow w.heap.size (rtcs t1 t3 x5 x6))) := Lib.hid HS.out
  generalize ws.length = m at *
  have i5 : (5 : Int) < (m : Int) := by omega
  have i6 : (6 : Int) < (m : Int) := by omega
  go_enter Try.func30, Try.ntmps30
  go_wp2_with fail
  refine wp_region_linD S [21] [0, 1, 2, 3, 4, 5, 6, 7, 8, 9, 10, 11, 12, 13, 14, 15, 16, 17, 18, 19, 20, 21] (by kernel_rfl) (by kernel_rfl) hSd (hSd _ 1 h0) ?_
  have h0d : S (w.alloc (.cells #[.int .u64 0, .int .u64 0, .int .i64 0, .int .i64 0] 34)).drew := hSd _ 1 h0
  clear h0
  generalize (w.alloc (.cells #[.int .u64 0, .int .u64 0, .int .i64 0, .int .i64 0] 34)).drew = W2 at *
  (repeat (first | (refine linD_off rfl rfl (by rfl) ?_; (try simp only [Act.put, List.getElem_toArray, List.getElem_cons_zero, List.getElem_cons_succ, List.setIfInBounds_toArray, List.set_cons_zero, List.set_cons_succ])) | (refine linD_op (v := ?_) rfl rfl (by rfl) (fun w9 hS9 => ?_) ?_; rotate_left; (focus ((have k0 := c0 w9 hS9; have k1 := c5 w9 hS9; have k2 := c6 w9 hS9; (try dsimp only at hS9); go_simp; (try go_bits)) <;> with_reducible rfl)); (try simp only [Act.put, List.getElem_toArray, List.getElem_cons_zero, List.getElem_cons_succ, List.setIfInBounds_toArray, List.set_cons_zero, List.set_cons_succ])) | (refine linD_fn (f := 55) rfl rfl (by rfl) rfl rfl (enters_of Try.func55 (by kernel_rfl) rfl) (fun w9 hS9 => hp1 w9 hS9) ?_ ?_; (focus (simp [Act.eval]; done)); (try simp only [Act.put, List.getElem_toArray, List.getElem_cons_zero, List.getElem_cons_succ, List.setIfInBounds_toArray, List.set_cons_zero, List.set_cons_succ])) | (refine linD_fn (f := 55) rfl rfl (by rfl) rfl rfl (enters_of Try.func55 (by kernel_rfl) rfl) (fun w9 hS9 => hp3 w9 hS9) ?_ ?_; (focus (simp [Act.eval]; done)); (try simp only [Act.put, List.getElem_toArray, List.getElem_cons_zero, List.getElem_cons_succ, List.setIfInBounds_toArray, List.set_cons_zero, List.set_cons_succ])) | (refine linD_fn (f := 59) rfl rfl (by rfl) rfl rfl (enters_of Try.func59 (by kernel_rfl) rfl) (fun w9 hS9 => hj1 w9 hS9) ?_ ?_; (focus (simp [Act.eval]; done)); (try simp only [Act.put, List.getElem_toArray, List.getElem_cons_zero, List.getElem_cons_succ, List.setIfInBounds_toArray, List.set_cons_zero, List.set_cons_succ])) | (refine linD_fn (f := 59) rfl rfl (by rfl) rfl rfl (enters_of Try.func59 (by kernel_rfl) rfl) (fun w9 hS9 => hj3 w9 hS9) ?_ ?_; (focus (simp [Act.eval]; done)); (try simp only [Act.put, List.getElem_toArray, List.getElem_cons_zero, List.getElem_cons_succ, List.setIfInBounds_toArray, List.set_cons_zero, List.set_cons_succ]))))
  refine linD_store rfl rfl (by rfl) (fun n => ?_)
  obtain ⟨h1, h2, h3, h4⟩ := HS.out _ (hSd _ n h0d)
  refine ⟨_, ?_, h2, ?_⟩
  · go_simp
  have HQ := Lib.hid (And.intro h3 h4)
  clear h1 h2 h3 h4 c0 c5 c6 hp1 hp3 hj1 hj3
  refine linD_nil (fun n2 => ?_)
  go_wp2
  refine bodyPost_ret (results_cell_row rfl _ _ w.heap.size 34 _ (0, 0) _ rfl HQ.out.1 Try.underlying34 rfl s_root) rfl ?_
  exact ⟨rfl, below_drewN HQ.out.2 _⟩
end Go.Proofs.Ytoidklkloagioaa
