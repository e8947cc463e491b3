/-
  A region that draws its order, walked once in the order of the text: where each operation gives its value in every world that meets S and leaves a world that meets S. Nothing here is a statement of the document.
-/
import Derived.Test.YtgmagnmbbhekjaaDskC
import Derived.Laws.ResultCell
import Derived.Laws.Bits64
import Derived.Laws.Small
import Derived.Test.YtgmagnmbbhekjaaRows
import Derived.WalkKit
import Derived.Shelf.Abstract
namespace Go.Proofs.Ytgmagnmbbhekjaa
open Go.RowKit
set_option linter.unusedVariables false

/-- A lease's three numbers. -/
structure Ls where
  n : Nat
  h : Nat
  p : Nat
def Ls.cs (l : Ls) : Array Value := #[.int .u64 l.n, .int .u64 l.h, .int .u64 l.p]
def Ls.zero : Ls := ⟨0, 0, 0⟩
def Ls.ok (l : Ls) : Bool := decide (l.n ≤ 4611686018427387904) && (decide (l.h ≤ 4611686018427387904) && decide (l.p ≤ 4611686018427387904))
def Ls.e (l : Ls) : Int := if l.ok then 0 else 230
/-- The error of a lease to which nothing can happen. -/
def Ls.late (l : Ls) : Int := if l.ok then (if decide (l.n ≤ 4611686018427387804) then 0 else 6) else 230
def Ls.holds (l : Ls) : Bool := l.ok && decide (l.n < l.h)
def Ls.free (l : Ls) : Bool := l.ok && decide (l.p ≤ l.n)
def tickL (l : Ls) : Ls := ⟨l.n + 1, l.h, l.p⟩
def grantL (l : Ls) : Ls := ⟨l.n, l.h, max l.p (l.n + 12)⟩
def grantedL (l : Ls) (s : Nat) : Ls := ⟨l.n, max l.h (s + 8), l.p⟩
/-- What comes back: the lease, and the error. -/
def tickR (l : Ls) : Ls × Int := if l.late = 0 then (tickL l, 0) else (Ls.zero, l.late)
def grantR (l : Ls) : Ls × Int := if l.late = 0 then (grantL l, 0) else (Ls.zero, l.late)
def grantedR (l : Ls) (s : Nat) : Ls × Int := if l.late = 0 then (if decide (s ≤ l.n) then (grantedL l s, 0) else (Ls.zero, 2)) else (Ls.zero, l.late)

/-! ### Numbers of 64 bits, by names of their own, so that no walk reckons with great numbers -/
def gtU (a b : Int) : Bool := decide (a > b)
def leU (a b : Int) : Bool := decide (a ≤ b)
def ltU (a b : Int) : Bool := decide (a < b)
def geU (a b : Int) : Bool := decide (a ≥ b)
def adU (a b : Int) : Int := IntKind.u64.wrap (a + b)
def sbU (a b : Int) : Int := IntKind.u64.wrap (a - b)
theorem gtU_rule (t : TypeId) (a b : Int) : binOp .gtr t (.int .u64 a) (.int .u64 b) = pure (.bool (gtU a b)) := by simp [gtU, binOp, Op.intCmp]
theorem leU_rule (t : TypeId) (a b : Int) : binOp .leq t (.int .u64 a) (.int .u64 b) = pure (.bool (leU a b)) := by simp [leU, binOp, Op.intCmp]
theorem ltU_rule (t : TypeId) (a b : Int) : binOp .lss t (.int .u64 a) (.int .u64 b) = pure (.bool (ltU a b)) := by simp [ltU, binOp, Op.intCmp]
theorem geU_rule (t : TypeId) (a b : Int) : binOp .geq t (.int .u64 a) (.int .u64 b) = pure (.bool (geU a b)) := by simp [geU, binOp, Op.intCmp]
theorem adU_rule (t : TypeId) (a b : Int) : binOp .add t (.int .u64 a) (.int .u64 b) = pure (.int .u64 (adU a b)) := by simp [adU, binOp, Op.intArith]
theorem sbU_rule (t : TypeId) (a b : Int) : binOp .sub t (.int .u64 a) (.int .u64 b) = pure (.int .u64 (sbU a b)) := by simp [sbU, binOp, Op.intArith]
/-- The greater one. -/
def mxU (x y : Int) : Int := if y > x then y else x
theorem mxU_rule {P : Program} (w : World) (ts : Array TypeId) (t : TypeId) (x y : Int) : (Builtin.max_ ts t #[.int .u64 x, .int .u64 y]).run P w = .ok (.int .u64 (mxU x y)) w := run_max_int2 w ts t .u64 .u64 x y
theorem mxU_nat (x y : Nat) : mxU (x : Int) (y : Int) = ((max x y : Nat) : Int) := by unfold mxU; split <;> omega
theorem gtU_nat (a b : Nat) : gtU (a : Int) (b : Int) = !decide (a ≤ b) := by unfold gtU; rw [Bool.eq_iff_iff]; simp
theorem leU_nat (a b : Nat) : leU (a : Int) (b : Int) = decide (a ≤ b) := by unfold leU; rw [Bool.eq_iff_iff]; simp
theorem ltU_nat (a b : Nat) : ltU (a : Int) (b : Int) = decide (a < b) := by unfold ltU; rw [Bool.eq_iff_iff]; simp
theorem geU_nat (a b : Nat) : geU (a : Int) (b : Int) = decide (b ≤ a) := by unfold geU; rw [Bool.eq_iff_iff]; simp
theorem adU_nat {a b : Nat} (h : a + b < 18446744073709551616) : adU (a : Int) (b : Int) = ((a + b : Nat) : Int) := by
  unfold adU; rw [IntKind.wrap_u64]; omega
theorem sbU_nat {a b : Nat} (h : b ≤ a) (ha : a < 18446744073709551616) : sbU (a : Int) (b : Int) = ((a - b : Nat) : Int) := by
  unfold sbU; rw [IntKind.wrap_u64]; omega
attribute [local go_sem 10000] gtU_rule leU_rule ltU_rule geU_rule adU_rule sbU_rule mxU_rule

/-! ### Leases in memory -/
theorem below_alloc (w : World) (o : Obj) : Below w.heap.size w (w.alloc o) := (Below.refl w.heap.size w).alloc (Nat.le_refl _) _
theorem bel_tr {w a b : World} (h : Below w.heap.size w a) (k : Below a.heap.size a b) : Below w.heap.size w b := h.trans (k.mono h.size)
theorem bel_al {w a : World} (h : Below w.heap.size w a) (o : Obj) : Below w.heap.size w (a.alloc o) := h.alloc h.size o
theorem below_setRow {B : Nat} {w w' : World} {g : Nat} (h : Below B w w') (hg : B ≤ g) (cs : Array Value) : Below B w (w'.setRow g cs) :=
  ⟨h.os, h.tape, h.output, by have := h.size; simpa using this, fun k hk => (setRow_other w' g k cs (by omega)).trans (h.block k hk)⟩
theorem z_ls : (Try.prog.info? 24).map (fun i => (i.zero, i.size)) = some (some (.agg Ls.zero.cs), 3) := by kernel_rfl
theorem s_ls (n : Ls) : (Try.prog.info? 24).map (·.size) = some n.cs.size := by
  show _ = some 3
  kernel_rfl
theorem ls_one (n : Ls) : n.cs.all (·.oneCell') = true := by simp [Ls.cs, Value.oneCell']
theorem load_ls_rule (v : Value) : Instr.loadAt 24 v = loadSem 24 v := rfl
theorem store_ls_rule (v x : Value) : Instr.storeAt 24 v x = storeSem 24 v x := rfl
theorem ld_ls {w : World} {g : Nat} {n : Ls} (h : Blk w g 24 n.cs) : (loadSem 24 (.pointer (some ⟨g, 0, none⟩))).run Try.prog w = .ok (.agg n.cs) w :=
  loadRes_of (w := w) h (fun j _ => by rw [Nat.zero_add]) _ Try.underlying24 rfl (s_ls n)
theorem st_ls {w : World} {g : Nat} {n m : Ls} (h : Blk w g 24 n.cs) : (storeSem 24 (.pointer (some ⟨g, 0, none⟩)) (.agg m.cs)).run Try.prog w = .ok () (w.setRow g m.cs) := by
  have := storeRes_of (P := Try.prog) (ty := 24) (o := 0) (vs := m.cs) h (by simp [Ls.cs]) (s_ls m) (ls_one m)
  rwa [over_all (by simp [Ls.cs])] at this
theorem results_ls {fn : Func} {p u : Tmp} (h : fn.results = #[.cell p 24, .tmp u]) (tmps : Array Value) (w : World) (g : Nat) (n : Ls)
    (hp : tmps.getD p undef = .pointer (some ⟨g, 0, none⟩)) (hb : Blk w g 24 n.cs) :
    (results fn tmps).run Try.prog w = .ok (.tuple #[.agg n.cs, tmps.getD u undef]) w := by
  have hl := run_loadVar_row (P := Try.prog) w g 24 24 n.cs (0, 0) _ hb Try.underlying24 (by simp) (s_ls n)
  rw [results_cell_tmp h, hp]
  simp [asAddr, hl, Result.andThen]
theorem ls_cell {w : World} {g : Nat} {n : Ls} (h : Blk w g 24 n.cs) : w.cell? ⟨g, 0, none⟩ = some (.int .u64 n.n) ∧ w.cell? ⟨g, 1, none⟩ = some (.int .u64 n.h) ∧ w.cell? ⟨g, 2, none⟩ = some (.int .u64 n.p) :=
  ⟨h.cell 0, h.cell 1, h.cell 2⟩
theorem ls_free {w : World} {g : Nat} {n : Ls} (h : Blk w g 24 n.cs) : w.frozen? ⟨g, 0, none⟩ = false ∧ w.frozen? ⟨g, 1, none⟩ = false ∧ w.frozen? ⟨g, 2, none⟩ = false :=
  ⟨h.free 0, h.free 1, h.free 2⟩
attribute [local go_sem ↓] load_ls_rule store_ls_rule

set_option maxRecDepth 100000 in
set_option maxHeartbeats 1600000 in
theorem lcheck_any (l : Ls) (w : World) : Calls Try.prog 8 #[.agg l.cs] w fun e w' => e = .returned (.int .i64 l.e) ∧ Below w.heap.size w w' := by
  obtain ⟨W1, hW1⟩ : ∃ W1, w.alloc (.cells l.cs 24) = W1 := ⟨_, rfl⟩
  have hb1 : Below w.heap.size w W1 := by rw [← hW1]; exact below_alloc w _
  have b1 : Blk W1 w.heap.size 24 l.cs := by rw [← hW1]; exact Blk.new w _ _
  have s1 : W1.heap.size = w.heap.size + 1 := by rw [← hW1]; simp
  have d0 : gtU (l.n : Int) 4611686018427387904 = !decide (l.n ≤ 4611686018427387904) := gtU_nat l.n 4611686018427387904
  have d1 : gtU (l.h : Int) 4611686018427387904 = !decide (l.h ≤ 4611686018427387904) := gtU_nat l.h 4611686018427387904
  have d2 : gtU (l.p : Int) 4611686018427387904 = !decide (l.p ≤ 4611686018427387904) := gtU_nat l.p 4611686018427387904
  have f0 : leU (l.n : Int) 4611686018427387904 = decide (l.n ≤ 4611686018427387904) := leU_nat l.n 4611686018427387904
  have f1 : leU (l.h : Int) 4611686018427387904 = decide (l.h ≤ 4611686018427387904) := leU_nat l.h 4611686018427387904
  have f2 : leU (l.p : Int) 4611686018427387904 = decide (l.p ≤ 4611686018427387904) := leU_nat l.p 4611686018427387904
  have hk : l.ok = (decide (l.n ≤ 4611686018427387904) && (decide (l.h ≤ 4611686018427387904) && decide (l.p ≤ 4611686018427387904))) := rfl
  unfold Ls.e
  rw [hk]
  clear hk
  obtain ⟨c0, c1, c2⟩ := ls_cell b1
  have HB := Lib.hid hb1
  clear hb1 b1 s1
  generalize decide (l.n ≤ 4611686018427387904) = x0 at *
  generalize decide (l.h ≤ 4611686018427387904) = x1 at *
  generalize decide (l.p ≤ 4611686018427387904) = x2 at *
  cases x0 <;> cases x1 <;> cases x2 <;>
  · simp only [Bool.not_false, Bool.not_true, Bool.and_false, Bool.and_true, Bool.false_and, Bool.true_and, Bool.false_eq_true, ↓reduceIte] at d0 d1 d2 ⊢
    go_enter Try.func8, Try.ntmps8
    go_wp2
    go_ret
    exact ⟨rfl, HB.out⟩

set_option maxRecDepth 100000 in
set_option maxHeartbeats 1600000 in
theorem lright_any (l : Ls) (w : World) : Calls Try.prog 9 #[.agg l.cs] w fun e w' => e = .returned (.bool l.ok) ∧ Below w.heap.size w w' := by
  obtain ⟨W1, hW1⟩ : ∃ W1, w.alloc (.cells l.cs 24) = W1 := ⟨_, rfl⟩
  have hb1 : Below w.heap.size w W1 := by rw [← hW1]; exact below_alloc w _
  have b1 : Blk W1 w.heap.size 24 l.cs := by rw [← hW1]; exact Blk.new w _ _
  have s1 : W1.heap.size = w.heap.size + 1 := by rw [← hW1]; simp
  have d0 : gtU (l.n : Int) 4611686018427387904 = !decide (l.n ≤ 4611686018427387904) := gtU_nat l.n 4611686018427387904
  have d1 : gtU (l.h : Int) 4611686018427387904 = !decide (l.h ≤ 4611686018427387904) := gtU_nat l.h 4611686018427387904
  have d2 : gtU (l.p : Int) 4611686018427387904 = !decide (l.p ≤ 4611686018427387904) := gtU_nat l.p 4611686018427387904
  have f0 : leU (l.n : Int) 4611686018427387904 = decide (l.n ≤ 4611686018427387904) := leU_nat l.n 4611686018427387904
  have f1 : leU (l.h : Int) 4611686018427387904 = decide (l.h ≤ 4611686018427387904) := leU_nat l.h 4611686018427387904
  have f2 : leU (l.p : Int) 4611686018427387904 = decide (l.p ≤ 4611686018427387904) := leU_nat l.p 4611686018427387904
  have hk : l.ok = (decide (l.n ≤ 4611686018427387904) && (decide (l.h ≤ 4611686018427387904) && decide (l.p ≤ 4611686018427387904))) := rfl
  rw [hk]
  clear hk
  obtain ⟨c0, c1, c2⟩ := ls_cell b1
  have HB := Lib.hid hb1
  clear hb1 b1 s1
  generalize decide (l.n ≤ 4611686018427387904) = x0 at *
  generalize decide (l.h ≤ 4611686018427387904) = x1 at *
  generalize decide (l.p ≤ 4611686018427387904) = x2 at *
  cases x0 <;> cases x1 <;> cases x2 <;>
  · simp only [Bool.not_false, Bool.not_true, Bool.and_false, Bool.and_true, Bool.false_and, Bool.true_and, Bool.false_eq_true, ↓reduceIte] at d0 d1 d2 ⊢
    go_enter Try.func9, Try.ntmps9
    go_wp2
    go_ret
    exact ⟨rfl, HB.out⟩

end Go.Proofs.Ytgmagnmbbhekjaa
namespace Go.Proofs.Ytgmagnmbbhekjaa
open Go.RowKit
set_option linter.unusedVariables false
attribute [local go_sem 10000] gtU_rule leU_rule ltU_rule geU_rule adU_rule sbU_rule mxU_rule
attribute [local go_sem ↓] load_ls_rule store_ls_rule

set_option maxRecDepth 100000 in
set_option maxHeartbeats 1600000 in
theorem lholds_any (l : Ls) (w : World) : Calls Try.prog 10 #[.agg l.cs] w fun e w' => e = .returned (.bool l.holds) ∧ Below w.heap.size w w' := by
  obtain ⟨W1, hW1⟩ : ∃ W1, w.alloc (.cells l.cs 24) = W1 := ⟨_, rfl⟩
  have hb1 : Below w.heap.size w W1 := by rw [← hW1]; exact below_alloc w _
  have b1 : Blk W1 w.heap.size 24 l.cs := by rw [← hW1]; exact Blk.new w _ _
  have s1 : W1.heap.size = w.heap.size + 1 := by rw [← hW1]; simp
  have C : ∀ W, Below W1.heap.size W1 W → Blk W w.heap.size 24 l.cs := fun W h => Kept.blk (Kept.of_below [] h) b1 (by simp)
  have d0 := ltU_nat l.n l.h
  have hk : l.holds = (l.ok && decide (l.n < l.h)) := rfl
  have hc := fun w => lcheck_any l w
  have he : l.e = if l.ok then 0 else 230 := rfl
  rw [hk]
  rw [he] at hc
  have lx := ld_ls b1
  have HB := Lib.hid hb1
  have HC := Lib.hid C
  clear hk he hb1 b1 s1 C
  generalize decide (l.n < l.h) = x at *
  generalize l.ok = k at *
  cases k <;>
  · simp only [Bool.false_and, Bool.true_and, Bool.false_eq_true, ↓reduceIte] at hc ⊢
    go_enter Try.func10, Try.ntmps10
    go_wp2_with fail
    refine (hc _).mono ?_
    rintro e w2 ⟨rfl, hb2⟩
    obtain ⟨c0, c1, c2⟩ := ls_cell (HC.out w2 hb2)
    go_wp2
    go_ret
    exact ⟨rfl, bel_tr HB.out hb2⟩

set_option maxRecDepth 100000 in
set_option maxHeartbeats 1600000 in
theorem lfree_any (l : Ls) (w : World) : Calls Try.prog 11 #[.agg l.cs] w fun e w' => e = .returned (.bool l.free) ∧ Below w.heap.size w w' := by
  obtain ⟨W1, hW1⟩ : ∃ W1, w.alloc (.cells l.cs 24) = W1 := ⟨_, rfl⟩
  have hb1 : Below w.heap.size w W1 := by rw [← hW1]; exact below_alloc w _
  have b1 : Blk W1 w.heap.size 24 l.cs := by rw [← hW1]; exact Blk.new w _ _
  have s1 : W1.heap.size = w.heap.size + 1 := by rw [← hW1]; simp
  have C : ∀ W, Below W1.heap.size W1 W → Blk W w.heap.size 24 l.cs := fun W h => Kept.blk (Kept.of_below [] h) b1 (by simp)
  have d0 := geU_nat l.n l.p
  have hk : l.free = (l.ok && decide (l.p ≤ l.n)) := rfl
  have hc := fun w => lcheck_any l w
  have he : l.e = if l.ok then 0 else 230 := rfl
  rw [hk]
  rw [he] at hc
  have lx := ld_ls b1
  have HB := Lib.hid hb1
  have HC := Lib.hid C
  clear hk he hb1 b1 s1 C
  generalize decide (l.p ≤ l.n) = x at *
  generalize l.ok = k at *
  cases k <;>
  · simp only [Bool.false_and, Bool.true_and, Bool.false_eq_true, ↓reduceIte] at hc ⊢
    go_enter Try.func11, Try.ntmps11
    go_wp2_with fail
    refine (hc _).mono ?_
    rintro e w2 ⟨rfl, hb2⟩
    obtain ⟨c0, c1, c2⟩ := ls_cell (HC.out w2 hb2)
    go_wp2
    go_ret
    exact ⟨rfl, bel_tr HB.out hb2⟩

set_option maxRecDepth 100000 in
set_option maxHeartbeats 1600000 in
theorem lready_any (l : Ls) (w : World) : Calls Try.prog 23 #[.agg l.cs] w fun e w' => e = .returned (.int .i64 l.late) ∧ Below w.heap.size w w' := by
  obtain ⟨W1, hW1⟩ : ∃ W1, w.alloc (.cells l.cs 24) = W1 := ⟨_, rfl⟩
  have hb1 : Below w.heap.size w W1 := by rw [← hW1]; exact below_alloc w _
  have b1 : Blk W1 w.heap.size 24 l.cs := by rw [← hW1]; exact Blk.new w _ _
  have s1 : W1.heap.size = w.heap.size + 1 := by rw [← hW1]; simp
  have C : ∀ W, Below W1.heap.size W1 W → Blk W w.heap.size 24 l.cs := fun W h => Kept.blk (Kept.of_below [] h) b1 (by simp)
  have d0 : gtU (l.n : Int) 4611686018427387804 = !decide (l.n ≤ 4611686018427387804) := gtU_nat l.n 4611686018427387804
  have hk : l.late = (if l.ok then (if decide (l.n ≤ 4611686018427387804) then 0 else 6) else 230) := rfl
  have hc := fun w => lcheck_any l w
  have he : l.e = if l.ok then 0 else 230 := rfl
  rw [he] at hc
  clear he
  rw [hk]
  have lx := ld_ls b1
  have HB := Lib.hid hb1
  have HC := Lib.hid C
  clear hk hb1 b1 s1 C
  generalize decide (l.n ≤ 4611686018427387804) = x at *
  generalize l.ok = k at *
  cases k <;> cases x <;>
  · simp only [Bool.not_false, Bool.not_true, Bool.false_eq_true, ↓reduceIte] at hc d0 ⊢
    go_enter Try.func23, Try.ntmps23
    go_wp2_with fail
    refine (hc _).mono ?_
    rintro e w2 ⟨rfl, hb2⟩
    obtain ⟨c0, c1, c2⟩ := ls_cell (HC.out w2 hb2)
    go_wp2
    go_ret
    exact ⟨rfl, bel_tr HB.out hb2⟩

set_option maxRecDepth 100000 in
set_option maxHeartbeats 1600000 in
theorem llate_any (l : Ls) (w : World) : Calls Try.prog 20 #[.agg l.cs] w fun e w' => e = .returned (.int .i64 l.late) ∧ Below w.heap.size w w' := by
  obtain ⟨W1, hW1⟩ : ∃ W1, w.alloc (.cells l.cs 24) = W1 := ⟨_, rfl⟩
  have hb1 : Below w.heap.size w W1 := by rw [← hW1]; exact below_alloc w _
  have b1 : Blk W1 w.heap.size 24 l.cs := by rw [← hW1]; exact Blk.new w _ _
  have s1 : W1.heap.size = w.heap.size + 1 := by rw [← hW1]; simp
  have C : ∀ W, Below W1.heap.size W1 W → Blk W w.heap.size 24 l.cs := fun W h => Kept.blk (Kept.of_below [] h) b1 (by simp)
  have d0 : gtU (l.n : Int) 4611686018427387804 = !decide (l.n ≤ 4611686018427387804) := gtU_nat l.n 4611686018427387804
  have hk : l.late = (if l.ok then (if decide (l.n ≤ 4611686018427387804) then 0 else 6) else 230) := rfl
  have hc := fun w => lright_any l w
  
  rw [hk]
  have lx := ld_ls b1
  have HB := Lib.hid hb1
  have HC := Lib.hid C
  clear hk hb1 b1 s1 C
  generalize decide (l.n ≤ 4611686018427387804) = x at *
  generalize l.ok = k at *
  cases k <;> cases x <;>
  · simp only [Bool.not_false, Bool.not_true, Bool.false_eq_true, ↓reduceIte] at hc d0 ⊢
    go_enter Try.func20, Try.ntmps20
    go_wp2_with fail
    refine (hc _).mono ?_
    rintro e w2 ⟨rfl, hb2⟩
    obtain ⟨c0, c1, c2⟩ := ls_cell (HC.out w2 hb2)
    go_wp2
    go_ret
    exact ⟨rfl, bel_tr HB.out hb2⟩

end Go.Proofs.Ytgmagnmbbhekjaa
namespace Go.Proofs.Ytgmagnmbbhekjaa
set_option linter.unusedVariables false

section
variable {P : Program} {ops : Array Oper} {Q : Exit → Act → World → Prop} {S : World → Prop}

/-- In every world that meets S the operation gives v, and leaves a world that meets S. -/
def GivesIf (P : Program) (ops : Array Oper) (S : World → Prop) (o : Oper) (v : Value) (a : Act) : Prop :=
  (Region.wanted o (yielded ops a.tmps) = true ∧ ∀ w, S w → ((∃ w', (execOp a.eval o).run P w = .ok (.value v) w' ∧ S w') ∨ ∃ f args, (execOp a.eval o).run P w = .ok (.enter f args) w ∧ Calls P f args w fun e w' => e = .returned v ∧ S w')) ∨
  (Region.wanted o (yielded ops a.tmps) = false ∧ v = undef)
theorem GivesIf.of_same {o : Oper} {v : Value} {a a' : Act} (hy : GivesIf P ops S o v a) (he : execOp a'.eval o = execOp a.eval o)
    (hw : Region.wanted o (yielded ops a'.tmps) = Region.wanted o (yielded ops a.tmps)) : GivesIf P ops S o v a' := by
  unfold GivesIf at *
  rw [he, hw]
  exact hy
theorem GivesIf.wpOp {i : Nat} {o : Oper} {v : Value} {a : Act} (hi : ops[i]? = some o) (hy : GivesIf P ops S o v a) {K : Act → World → Prop} {w : World} (hS : S w) (h : ∀ w', S w' → K (a.put o.dst v) w') : wpOp P ops Q i K a w := by
  unfold Go.wpOp
  simp only [hi]
  rcases hy with ⟨hw, hv⟩ | ⟨hw, rfl⟩
  · simp only [hw, if_true]
    refine .inl ?_
    unfold Oper.wp
    rcases hv w hS with ⟨w', h1, h2⟩ | ⟨f, args, h1, h2⟩
    · rw [h1]
      exact h w' h2
    · rw [h1]
      refine Calls.mono h2 ?_
      rintro e w' ⟨rfl, h3⟩
      exact h w' h3
  · simp only [hw, Bool.false_eq_true, if_false]; exact h w hS
/-- The operations, one behind the other in the order of the text. -/
def Lin (P : Program) (ops : Array Oper) (Q : Exit → Act → World → Prop) (S : World → Prop) : List Oper → Act → Prop
  | [], a => ∀ w, S w → Q .normal a w
  | o :: r, a => ∃ v, GivesIf P ops S o v a ∧ Lin P ops Q S r (a.put o.dst v)

theorem Lin.swap {x y : Oper} {r : List Oper} {a : Act} (hx : ∀ cs b, x.op ≠ .select cs b) (hy : ∀ cs b, y.op ≠ .select cs b) (hap : x.apart ops y = true) (h : Lin P ops Q S (x :: y :: r) a) : Lin P ops Q S (y :: x :: r) a := by
  obtain ⟨h1, h2, h3⟩ := Oper.apart_spec hap
  obtain ⟨vx, gx, vy, gy, h⟩ := h
  refine ⟨vy, gy.of_same ?_ ?_, vx, gx.of_same (execOp_put x hx a y.dst vy h3) (wanted_put x a y.dst vy h3), ?_⟩
  · exact (execOp_put y hy a x.dst vx h1).symm
  · exact (wanted_put y a x.dst vx h1).symm
  · rw [← Act.put_comm a vx vy h2]
    exact h
theorem Lin.front {o : Oper} {T2 : List Oper} (ho : ∀ cs b, o.op ≠ .select cs b) : ∀ (T1 : List Oper) (a : Act), (∀ x ∈ T1, (∀ cs b, x.op ≠ .select cs b) ∧ x.apart ops o = true) → Lin P ops Q S (T1 ++ o :: T2) a → Lin P ops Q S (o :: (T1 ++ T2)) a
  | [], _, _, h => h
  | x :: T1, a, hap, h => by
    obtain ⟨v, g, h⟩ := h
    have h2 := Lin.front ho T1 _ (fun y hy => hap y (by simp [hy])) h
    exact Lin.swap (hap x (by simp)).1 ho (hap x (by simp)).2 ⟨v, g, h2⟩

/-- What is not listed yet, in the order of the text. -/
def unl (ops : Array Oper) (listed : Array Bool) (is : List Nat) : List Oper := is.filterMap fun i => if listed.getD i true then none else ops[i]?
/-- Each operation waits for earlier ones alone, and each earlier one that it does not wait for is apart from it. -/
def linOk (ops : Array Oper) : Bool :=
  Region.noSelect ops && (List.range ops.size).all fun j => match ops[j]? with
    | none => true
    | some oj => oj.after.all (fun e => decide (e.on < j)) && (List.range j).all fun i => match ops[i]? with
      | none => true
      | some oi => oj.after.any (fun e => Region.binds .any e && e.on == i) || oi.apart ops oj
theorem linOk_spec (h : linOk ops = true) (j : Nat) (oj : Oper) (hj : ops[j]? = some oj) :
    (∀ e ∈ oj.after, e.on < j) ∧ ∀ i oi, i < j → ops[i]? = some oi → (∃ e ∈ oj.after, Region.binds .any e = true ∧ e.on = i) ∨ oi.apart ops oj = true := by
  simp only [linOk, Bool.and_eq_true, List.all_eq_true, List.mem_range] at h
  have h1 := h.2 j (Array.getElem?_eq_some_iff.1 hj).1
  simp only [hj, Bool.and_eq_true, List.all_eq_true, List.mem_range, Array.all_eq_true_iff_forall_mem, decide_eq_true_eq] at h1
  refine ⟨h1.1, fun i oi hi ho => ?_⟩
  have h2 := h1.2 i hi
  simp only [ho, Bool.or_eq_true] at h2
  rcases h2 with h2 | h2
  · obtain ⟨e, he, hb⟩ := Array.any_eq_true'.1 h2
    simp only [Bool.and_eq_true, beq_iff_eq] at hb
    exact .inl ⟨e, he, hb⟩
  · exact .inr h2
theorem unl_set (listed : Array Bool) (j : Nat) : ∀ (is : List Nat), j ∉ is → unl ops (listed.setIfInBounds j true) is = unl ops listed is
  | [], _ => rfl
  | i :: is, h => by
    have hne : j ≠ i := fun e => h (by simp [e])
    have ih := unl_set listed j is (fun e => h (by simp [e]))
    unfold unl at *
    simp only [List.filterMap_cons]
    rw [getD_set_ne true hne, ih]
theorem unl_app (listed : Array Bool) (is js : List Nat) : unl ops listed (is ++ js) = unl ops listed is ++ unl ops listed js := by simp [unl]
theorem unl_mem {listed : Array Bool} {is : List Nat} {x : Oper} (h : x ∈ unl ops listed is) : ∃ i ∈ is, listed.getD i true = false ∧ ops[i]? = some x := by
  obtain ⟨i, hi, h⟩ := List.mem_filterMap.1 h
  refine ⟨i, hi, ?_⟩
  cases hb : listed.getD i true with
  | true => rw [hb] at h; simp at h
  | false => rw [hb] at h; simpa using h
theorem range_split {j n : Nat} (h : j < n) : List.range n = List.range j ++ j :: List.range' (j + 1) (n - j - 1) := by
  apply List.ext_getElem?
  intro k
  rw [List.getElem?_append, List.length_range]
  by_cases h1 : k < j
  · rw [if_pos h1, List.getElem?_range h1, List.getElem?_range (by omega)]
  · rw [if_neg h1]
    by_cases h2 : k = j
    · subst h2
      rw [Nat.sub_self, List.getElem?_cons_zero, List.getElem?_range h]
    · obtain ⟨q, rfl⟩ : ∃ q, k = j + 1 + q := ⟨k - (j + 1), by omega⟩
      rw [show j + 1 + q - j = q + 1 from by omega, List.getElem?_cons_succ]
      by_cases h3 : j + 1 + q < n
      · rw [List.getElem?_range h3, List.getElem?_range' (by omega)]
        simp
      · rw [List.getElem?_eq_none (by simp; omega), List.getElem?_eq_none (by simp; omega)]

theorem lin_any (hok : linOk ops = true) : ∀ (fuel : Nat) (listed : Array Bool) (a : Act) (w : World), listed.size = ops.size → (unl ops listed (List.range ops.size)).length ≤ fuel → S w → Lin P ops Q S (unl ops listed (List.range ops.size)) a → wpAny P .any ops Q fuel listed a w := by
  have hsel : ∀ (j : Nat) (o : Oper), ops[j]? = some o → ∀ cs b, o.op ≠ .select cs b := fun j o ho cs b => Region.noSelect_spec (by simp only [linOk, Bool.and_eq_true] at hok; exact hok.1) j o cs b ho
  have hnil : ∀ listed : Array Bool, listed.size = ops.size → Region.ready .any ops listed = [] → unl ops listed (List.range ops.size) = [] := by
    intro listed hsz hr
    have key : ∀ j, j < ops.size → listed.getD j true = true := by
      intro j
      induction j using Nat.strongRecOn with
      | ind j ih =>
        intro hj
        cases hb : listed.getD j true with
        | true => rfl
        | false =>
          have hoj : ops[j]? = some ops[j] := Array.getElem?_eq_getElem hj
          have hm : j ∈ Region.ready .any ops listed := mem_ready.2 ⟨hb, _, hoj, fun e he _ => by
            have hlt := (linOk_spec hok j _ hoj).1 e he
            have h9 := ih e.on hlt (by omega)
            have h8 : e.on < listed.size := by omega
            simp [h8] at h9 ⊢
            exact h9⟩
          rw [hr] at hm
          cases hm
    unfold unl
    rw [List.filterMap_eq_nil_iff]
    intro i hi
    rw [key i (List.mem_range.1 hi)]
    simp
  have hpick : ∀ (listed : Array Bool) (j : Nat), listed.size = ops.size → j ∈ Region.ready .any ops listed → ∃ oj T1 T2, ops[j]? = some oj ∧ unl ops listed (List.range ops.size) = T1 ++ oj :: T2 ∧ unl ops (listed.setIfInBounds j true) (List.range ops.size) = T1 ++ T2 ∧ ∀ x ∈ T1, (∀ cs b, x.op ≠ .select cs b) ∧ x.apart ops oj = true := by
    intro listed j hsz hj
    obtain ⟨hun, oj, hoj, hall⟩ := mem_ready.1 hj
    have hlt : j < ops.size := (Array.getElem?_eq_some_iff.1 hoj).1
    have hn1 : j ∉ List.range j := by simp
    have hn2 : j ∉ List.range' (j + 1) (ops.size - j - 1) := fun hm => by have := List.mem_range'_1.1 hm; omega
    refine ⟨oj, unl ops listed (List.range j), unl ops listed (List.range' (j + 1) (ops.size - j - 1)), hoj, ?_, ?_, ?_⟩
    · rw [range_split hlt, unl_app]
      congr 1
      unfold unl
      rw [List.filterMap_cons, hun, hoj]
      simp
    · rw [range_split hlt, unl_app, unl_set _ _ _ hn1]
      congr 1
      have e : unl ops (listed.setIfInBounds j true) (j :: List.range' (j + 1) (ops.size - j - 1)) = unl ops (listed.setIfInBounds j true) (List.range' (j + 1) (ops.size - j - 1)) := by
        have hs : (listed.setIfInBounds j true).getD j true = true := by
          have : j < listed.size := by omega
          simp [this]
        unfold unl
        rw [List.filterMap_cons, hs]
        simp
      rw [e, unl_set _ _ _ hn2]
    · intro x hx
      obtain ⟨i, hi, hui, hxi⟩ := unl_mem hx
      have hij := List.mem_range.1 hi
      refine ⟨hsel i x hxi, ?_⟩
      rcases (linOk_spec hok j oj hoj).2 i x hij hxi with ⟨e, he, hb, rfl⟩ | h9
      · have h8 := hall e he hb
        have h7 : e.on < listed.size := by omega
        simp [h7] at h8 hui
        rw [hui] at h8
        cases h8
      · exact h9
  intro fuel
  induction fuel with
  | zero =>
    intro listed a w hsz hlen hS hL
    have h0 : unl ops listed (List.range ops.size) = [] := List.length_eq_zero_iff.1 (by omega)
    rw [h0] at hL
    refine ⟨?_, hL w hS⟩
    refine List.eq_nil_iff_forall_not_mem.2 (fun j hj => ?_)
    obtain ⟨oj, T1, T2, _, h1, _⟩ := hpick listed j hsz hj
    rw [h0] at h1
    simp at h1
  | succ fuel ih =>
    intro listed a w hsz hlen hS hL
    refine ⟨fun hr => ?_, fun j hj => ?_⟩
    · rw [hnil listed hsz hr] at hL
      exact hL w hS
    · obtain ⟨oj, T1, T2, hoj, h1, h2, h3⟩ := hpick listed j hsz hj
      rw [h1] at hL hlen
      obtain ⟨v, g, hL2⟩ := Lin.front (hsel j oj hoj) T1 a h3 hL
      refine g.wpOp hoj hS (fun w' hS' => ih (listed.setIfInBounds j true) _ w' (by simp [hsz]) ?_ hS' ?_)
      · rw [h2]
        simp at hlen ⊢
        omega
      · rw [h2]
        exact hL2

theorem fm_congr {α β : Type} {f g : α → Option β} : ∀ (l : List α), (∀ i ∈ l, f i = g i) → l.filterMap f = l.filterMap g
  | [], _ => rfl
  | x :: l, h => by rw [List.filterMap_cons, List.filterMap_cons, h x (by simp), fm_congr l (fun i hi => h i (by simp [hi]))]
theorem fm_range {α : Type} : ∀ l : List α, (List.range l.length).filterMap (fun i => l[i]?) = l
  | [] => rfl
  | x :: l => by
    rw [List.length_cons, List.range_succ_eq_map, List.filterMap_cons, List.filterMap_map]
    have := fm_range l
    simpa [Function.comp_def] using this
/-- THE BEGINNING: a region that draws its order, walked in the order of the text. -/
theorem wp_region_lin {id : Nat} {l : List Oper} {a : Act} {w : World} (S : World → Prop) (hm : P.follows .mixedOrders = true) (hok : linOk l.toArray = true) (hS : S w.drew) (h : Lin P l.toArray Q S l a) : (Code.region id l.toArray true).wp P Q a w := by
  refine wp_region_any hm ?_
  have hu : unl l.toArray (Array.replicate l.toArray.size false) (List.range l.toArray.size) = l := by
    have h1 : ∀ i ∈ List.range l.toArray.size, (if (Array.replicate l.toArray.size false).getD i true = true then none else l.toArray[i]?) = l[i]? := by
      intro i hi
      have hlt := List.mem_range.1 hi
      simp at hlt
      simp [hlt]
    unfold unl
    rw [fm_congr _ h1]
    exact fm_range l
  refine lin_any hok _ _ _ _ (by simp) ?_ hS ?_
  · rw [hu]; simp
  · rw [hu]; exact h

theorem lin_nil {a : Act} (h : ∀ w, S w → Q .normal a w) : Lin P ops Q S [] a := h
/-- An operation that gives its value in every world that meets S, and leaves the world as it is. -/
theorem lin_op {o : Oper} {r : List Oper} {a : Act} {v : Value} (hw : Region.wanted o (yielded ops a.tmps) = true) (hy : ∀ w, S w → (execOp a.eval o).run P w = .ok (.value v) w) (h : Lin P ops Q S r (a.put o.dst v)) : Lin P ops Q S (o :: r) a :=
  ⟨v, .inl ⟨hw, fun w hS => .inl ⟨w, hy w hS, hS⟩⟩, h⟩
/-- An operation whose guard is off. -/
theorem lin_off {o : Oper} {r : List Oper} {a : Act} (hw : Region.wanted o (yielded ops a.tmps) = false) (h : Lin P ops Q S r (a.put o.dst undef)) : Lin P ops Q S (o :: r) a :=
  ⟨undef, .inr ⟨hw, rfl⟩, h⟩
/-- A call that gives its value in every world that meets S, and leaves one that meets S. -/
theorem lin_call {o : Oper} {r : List Oper} {a : Act} {v : Value} {f : Nat} {args : Array Value} (hw : Region.wanted o (yielded ops a.tmps) = true) (hy : ∀ w, (execOp a.eval o).run P w = .ok (.enter f args) w) (hc : ∀ w, S w → Calls P f args w fun e w' => e = .returned v ∧ S w') (h : Lin P ops Q S r (a.put o.dst v)) : Lin P ops Q S (o :: r) a :=
  ⟨v, .inl ⟨hw, fun w hS => .inr ⟨f, args, hy w, hc w hS⟩⟩, h⟩
/-- A call of a Go function by its number. -/
theorem lin_fn {o : Oper} {r : List Oper} {a : Act} {v : Value} {f : Nat} {c : Call} {args : Array Value} (hw : Region.wanted o (yielded ops a.tmps) = true) (ho : o.op = .call c) (hc : c.callee = .value (.func f)) (he : ∀ args w, (callFunc f args).run P w = .ok (.enter f args) w)
    (hcl : ∀ w, S w → Calls P f args w fun e w' => e = .returned v ∧ S w') (ha : c.args.map a.eval = args) (h : Lin P ops Q S r (a.put o.dst v)) : Lin P ops Q S (o :: r) a := by
  refine lin_call (f := f) (args := args) hw (fun w => ?_) hcl h
  simp only [execOp, ho, resolve, hc, ha, Act.eval, Deferred.ofValue, invoke, Sem.run_bind, Sem.run_pure, Result.andThen_ok]
  have e1 := he (#[] ++ args ++ #[]) w
  simp only [Array.empty_append, Array.append_empty] at e1 ⊢
  exact e1
end
end Go.Proofs.Ytgmagnmbbhekjaa
