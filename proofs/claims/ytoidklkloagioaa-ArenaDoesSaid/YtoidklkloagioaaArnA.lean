/-
  Words for an arena in memory, and the contracts of its smallest functions. Nothing here is a statement of the document.
-/
import Derived.Test.YtoidklkloagioaaDskC
import Derived.Test.YtoidklkloagioaaLinD
import Derived.RegionTactic
import Derived.BigRegion
import Derived.Laws.Cover3
namespace Go.Proofs.Ytoidklkloagioaa
open Go.RowKit Go.Shelf
set_option linter.unusedVariables false

/-- Words, and yes and no, as cells. -/
def wcs (l : List Nat) : Array Value := (l.map fun n : Nat => Value.int .u32 (n : Int)).toArray
def bcs (l : List Bool) : Array Value := (l.map Value.bool).toArray
theorem wcs_get {l : List Nat} {i : Nat} (h : i < l.length) : (wcs l)[i]? = some (.int .u32 ((l.getD i 0 : Nat) : Int)) := by
  simp [wcs, h]
theorem wcs_set (l : List Nat) (i n : Nat) : (wcs l).setIfInBounds i (.int .u32 (n : Int)) = wcs (l.set i n) := by
  simp [wcs, List.map_set]
theorem bcs_get {l : List Bool} {i : Nat} (h : i < l.length) : (bcs l)[i]? = some (.bool (l.getD i false)) := by
  simp [bcs, h]
theorem bcs_set (l : List Bool) (i : Nat) (b : Bool) : (bcs l).setIfInBounds i (.bool b) = bcs (l.set i b) := by
  simp [bcs, List.map_set]

/-- An arena lies at g: its words at p, where blocks begin at q. -/
structure Ar (w : World) (g p q : Nat) (ws : List Nat) (bs : List Bool) : Prop where
  box : Blk w g 65 #[.slice (some ⟨p, 0, none⟩) ws.length ws.length, .slice (some ⟨q, 0, none⟩) ws.length ws.length]
  wds : Blk w p 53 (wcs ws)
  bgs : Blk w q 4 (bcs bs)
  len : bs.length = ws.length
  lo : 64 ≤ ws.length
  hi : ws.length ≤ 16384
  sml : ∀ n ∈ ws, n < 4294967296

section
variable {w : World} {g p q : Nat} {ws : List Nat} {bs : List Bool}
theorem Ar.gp (h : Ar w g p q ws bs) : g ≠ p := h.box.ne h.wds (by decide)
theorem Ar.gq (h : Ar w g p q ws bs) : g ≠ q := h.box.ne h.bgs (by decide)
theorem Ar.pq (h : Ar w g p q ws bs) : p ≠ q := h.wds.ne h.bgs (by decide)
theorem Ar.kept (h : Ar w g p q ws bs) {S : List Nat} {w' : World} (k : Kept S w w') (hg : g ∉ S) (hp : p ∉ S) (hq : q ∉ S) : Ar w' g p q ws bs :=
  ⟨h.box.kept k hg, h.wds.kept k hp, h.bgs.kept k hq, h.len, h.lo, h.hi, h.sml⟩
theorem Ar.later (h : Ar w g p q ws bs) {w' : World} (k : Below w.heap.size w w') : Ar w' g p q ws bs := h.kept (Kept.of_below [] k) (by simp) (by simp) (by simp)
theorem Ar.drew (h : Ar w g p q ws bs) : Ar w.drew g p q ws bs := ⟨h.box, h.wds, h.bgs, h.len, h.lo, h.hi, h.sml⟩
theorem Ar.drewN (h : Ar w g p q ws bs) (n : Nat) : Ar (w.drewN n) g p q ws bs := ⟨h.box, h.wds, h.bgs, h.len, h.lo, h.hi, h.sml⟩
theorem Ar.small (h : Ar w g p q ws bs) (i : Nat) : ws.getD i 0 < 4294967296 := by
  by_cases hi : i < ws.length
  · have : ws.getD i 0 = ws[i] := by simp [hi]
    rw [this]; exact h.sml _ (List.getElem_mem hi)
  · have : ws.getD i 0 = 0 := by simp [List.getElem?_eq_none (by omega : ws.length ≤ i)]
    omega
theorem Ar.c0 (h : Ar w g p q ws bs) : w.cell? ⟨g, 0, none⟩ = some (.slice (some ⟨p, 0, none⟩) ws.length ws.length) := h.box.cell 0
theorem Ar.c1 (h : Ar w g p q ws bs) : w.cell? ⟨g, 1, none⟩ = some (.slice (some ⟨q, 0, none⟩) ws.length ws.length) := h.box.cell 1
theorem Ar.word (h : Ar w g p q ws bs) {i : Nat} (hi : i < ws.length) : w.cell? ⟨p, i, none⟩ = some (.int .u32 ((ws.getD i 0 : Nat) : Int)) := (h.wds.cell i).trans (wcs_get hi)
theorem Ar.beg (h : Ar w g p q ws bs) {i : Nat} (hi : i < ws.length) : w.cell? ⟨q, i, none⟩ = some (.bool (bs.getD i false)) := (h.bgs.cell i).trans (bcs_get (by rw [h.len]; exact hi))
theorem Ar.set (h : Ar w g p q ws bs) (i n : Nat) (hn : n < 4294967296) : Ar (w.setCell ⟨p, i, none⟩ (.int .u32 (n : Int))) g p q (ws.set i n) bs :=
  ⟨by simpa using h.box.far (p := ⟨p, i, none⟩) h.gp _, by have := h.wds.set i (.int .u32 (n : Int)); rwa [wcs_set] at this, h.bgs.far (p := ⟨p, i, none⟩) h.pq.symm _, by simpa using h.len, by simpa using h.lo, by simpa using h.hi, fun x hx => by
    rcases List.mem_or_eq_of_mem_set hx with h1 | h1
    · exact h.sml x h1
    · omega⟩
theorem Ar.setB (h : Ar w g p q ws bs) (i : Nat) (b : Bool) : Ar (w.setCell ⟨q, i, none⟩ (.bool b)) g p q ws (bs.set i b) :=
  ⟨h.box.far (p := ⟨q, i, none⟩) h.gq _, h.wds.far (p := ⟨q, i, none⟩) h.pq _, by have := h.bgs.set i (.bool b); rwa [bcs_set] at this, by simpa using h.len, h.lo, h.hi, h.sml⟩
end

theorem ret_int {k : IntKind} {a b : Int} (h : a = b) : Ending.returned (.int k a) = .returned (.int k b) := by rw [h]
theorem ret_bool {a b : Bool} (h : a = b) : Ending.returned (.bool a) = .returned (.bool b) := by rw [h]
/-! ### heads -/
/-- The head of a block: its class, and whether it is taken. -/
def hdN (c : Nat) (t : Bool) : Nat := 16 + 2 * c + t.toNat

set_option maxHeartbeats 400000 in
theorem mayhave_any (n : Int) (w : World) : Calls Try.prog 19 #[.int .i64 n] w fun e w' => e = .returned (.bool (decide (64 ≤ n) && decide (n ≤ 16384))) ∧ w = w' := by
  by_cases h1 : 64 ≤ n
  · have d1 : decide (64 ≤ n) = true := by simpa using h1
    go_enter Try.func19, Try.ntmps19
    go_wp2
    go_ret
    exact ⟨ret_bool (by simp [d1]), rfl⟩
  · have d1 : decide (64 ≤ n) = false := by simpa using h1
    go_enter Try.func19, Try.ntmps19
    go_wp2
    go_ret
    exact ⟨ret_bool (by simp [d1]), rfl⟩

set_option maxHeartbeats 400000 in
theorem headof_any (c : Nat) (t : Bool) (hc : c ≤ 5) (w : World) : Calls Try.prog 50 #[.int .i64 (c : Int), .bool t] w fun e w' => e = .returned (.int .u32 ((hdN c t : Nat) : Int)) ∧ w = w' := by
  cases t <;> rcases (show c = 0 ∨ c = 1 ∨ c = 2 ∨ c = 3 ∨ c = 4 ∨ c = 5 by omega) with rfl | rfl | rfl | rfl | rfl | rfl <;>
  · go_enter Try.func50, Try.ntmps50
    go_wp2
    go_ret
    first | exact ⟨rfl, rfl⟩ | exact ⟨ret_int (by decide +kernel), rfl⟩ | exact ⟨ret_bool (by decide +kernel), rfl⟩

set_option maxHeartbeats 400000 in
theorem hclass_any (c : Nat) (t : Bool) (hc : c ≤ 5) (w : World) : Calls Try.prog 58 #[.int .u32 ((hdN c t : Nat) : Int)] w fun e w' => e = .returned (.int .i64 (c : Int)) ∧ w = w' := by
  cases t <;> rcases (show c = 0 ∨ c = 1 ∨ c = 2 ∨ c = 3 ∨ c = 4 ∨ c = 5 by omega) with rfl | rfl | rfl | rfl | rfl | rfl <;>
  · go_enter Try.func58, Try.ntmps58
    go_wp2
    go_ret
    first | exact ⟨rfl, rfl⟩ | exact ⟨ret_int (by decide +kernel), rfl⟩ | exact ⟨ret_bool (by decide +kernel), rfl⟩
set_option maxHeartbeats 400000 in
theorem htaken_any (c : Nat) (t : Bool) (hc : c ≤ 5) (w : World) : Calls Try.prog 75 #[.int .u32 ((hdN c t : Nat) : Int)] w fun e w' => e = .returned (.bool t) ∧ w = w' := by
  cases t <;> rcases (show c = 0 ∨ c = 1 ∨ c = 2 ∨ c = 3 ∨ c = 4 ∨ c = 5 by omega) with rfl | rfl | rfl | rfl | rfl | rfl <;>
  · go_enter Try.func75, Try.ntmps75
    go_wp2
    go_ret
    first | exact ⟨rfl, rfl⟩ | exact ⟨ret_int (by decide +kernel), rfl⟩ | exact ⟨ret_bool (by decide +kernel), rfl⟩
set_option maxHeartbeats 400000 in
theorem hsize_any (c : Nat) (t : Bool) (hc : c ≤ 5) (w : World) : Calls Try.prog 70 #[.int .u32 ((hdN c t : Nat) : Int)] w fun e w' => e = .returned (.int .i64 ((2 ^ c : Nat) : Int)) ∧ w = w' := by
  have H := hclass_any c t hc w
  generalize hdN c t = h at *
  rcases (show c = 0 ∨ c = 1 ∨ c = 2 ∨ c = 3 ∨ c = 4 ∨ c = 5 by omega) with rfl | rfl | rfl | rfl | rfl | rfl <;>
  · go_enter Try.func70, Try.ntmps70
    go_wp2_with fail
    refine H.mono ?_
    rintro e w' ⟨rfl, rfl⟩
    go_wp2
    go_ret
    first | exact ⟨rfl, rfl⟩ | exact ⟨ret_int (by decide +kernel), rfl⟩ | exact ⟨ret_bool (by decide +kernel), rfl⟩

/-! ### words -/
section
variable {w : World} {g p q : Nat} {ws : List Nat} {bs : List Bool}
set_option maxHeartbeats 400000 in
theorem edge_any (h : Ar w g p q ws bs) : Calls Try.prog 52 #[.pointer (some ⟨g, 0, none⟩)] w fun e w' => e = .returned (.int .i64 ((ws.getD 15 0 : Nat) : Int)) ∧ w = w' := by
  have c0 := h.c0
  have c15 := h.word (i := 15) (by have := h.lo; omega)
  have hx := h.small 15
  have h1 := h.lo
  have h2 := h.hi
  clear h
  generalize ws.getD 15 0 = x at *
  generalize ws.length = n at *
  go_enter Try.func52, Try.ntmps52
  go_wp2
  go_ret
  exact ⟨rfl, rfl⟩
set_option maxHeartbeats 400000 in
theorem head_any (h : Ar w g p q ws bs) (x : Nat) (h1 : 1 ≤ x) (h2 : x < ws.length) : Calls Try.prog 57 #[.pointer (some ⟨g, 0, none⟩), .int .i64 (x : Int)] w fun e w' => e = .returned (.int .u32 ((ws.getD (x - 1) 0 : Nat) : Int)) ∧ w = w' := by
  have c0 := h.c0
  have cx := h.word (i := x - 1) (by omega)
  have h3 := h.lo
  have h4 := h.hi
  clear h
  generalize ws.getD (x - 1) 0 = y at *
  generalize ws.length = n at *
  obtain ⟨z, rfl⟩ : ∃ z, x = z + 1 := ⟨x - 1, by omega⟩
  rw [Nat.add_sub_cancel] at cx
  go_enter Try.func57, Try.ntmps57
  go_wp2
  go_ret
  exact ⟨rfl, rfl⟩
set_option maxRecDepth 100000 in
set_option maxHeartbeats 400000 in
theorem pair_any (h : Ar w g p q ws bs) (k : Nat) (hk : k = 1 ∨ k = 3 ∨ k = 7) : Calls Try.prog 55 #[.pointer (some ⟨g, 0, none⟩), .int .i64 (k : Int)] w fun e w' => e = .returned (.pointer (some ⟨p, k, none⟩)) ∧ w = w' := by
  have c0 := h.c0
  have h3 := h.lo
  have h4 := h.hi
  clear h
  generalize ws.length = n at *
  have hn : ¬ n = k := by omega
  have ha := run_arrayAt (P := Try.prog) (w := w) 161 53 2 (some ⟨p, k, none⟩) (n - k) (n - k) Try.underlying161 (by omega)
  rcases hk with rfl | rfl | rfl <;>
  · go_enter Try.func55, Try.ntmps55
    go_wp2
    go_ret
    exact ⟨rfl, rfl⟩
end
end Go.Proofs.Ytoidklkloagioaa
