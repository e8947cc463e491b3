/-
  A node of a tree, and the contracts of bitmap.Check and of the reference's Right. Nothing here is a statement of the document.
-/
import Derived.Test.YtcehdjpjniemjaaDoorBmpB
import Derived.Test.YtcehdjpjniemjaaDoorLin
namespace Go.Proofs.YtcehdjpjniemjaaDoor
open Go.RowKit
set_option linter.unusedVariables false

/-- A node's four numbers. -/
structure Nd where
  i : Nat
  o : Nat
  r : Nat
  c : Nat
  hi : i < 4294967296
  ho : o < 4294967296
  hr : r < 4294967296
  hc : c < 4294967296
def Nd.cs (n : Nd) : Array Value := #[.int .u32 n.i, .int .u32 n.o, .int .u32 n.r, .int .u32 n.c]
def Nd.zero : Nd := ⟨0, 0, 0, 0, by omega, by omega, by omega, by omega⟩
/-- May it be? -/
def Nd.ok (n : Nd) : Prop := n.i < 32768 ∧ n.o < 65536 ∧ (n.r = 0 ↔ n.i = 0) ∧ (n.c = 0 ↔ n.o = 0)
instance (n : Nd) : Decidable n.ok := by unfold Nd.ok; infer_instance
def Nd.e (n : Nd) : Int := if n.ok then 0 else 170
theorem below_alloc (w : World) (o : Obj) : Below w.heap.size w (w.alloc o) := (Below.refl w.heap.size w).alloc (Nat.le_refl _) _

/-- At least: a name of its own, so that no walk reckons with great numbers one by one. -/
def geB (a b : Int) : Bool := decide (a ≥ b)
theorem geB_rule (t : TypeId) (k : IntKind) (a b : Int) : binOp .geq t (.int k a) (.int k b) = pure (.bool (geB a b)) := by simp [geB, binOp, Op.intCmp]
attribute [local go_sem 10000] geB_rule
theorem nd_bits (i o r c : Nat) : ∃ b1 b2 zi zo zr zc : Bool, (geB (i : Int) 32768 = b1 ∧ decide ((i : Int) < 32768) = !b1 ∧ decide (i < 32768) = !b1) ∧ (geB (o : Int) 65536 = b2 ∧ decide ((o : Int) < 65536) = !b2 ∧ decide (o < 65536) = !b2) ∧
    (((i : Int) == 0) = zi ∧ (i == 0) = zi ∧ decide (i = 0) = zi) ∧ (((o : Int) == 0) = zo ∧ (o == 0) = zo ∧ decide (o = 0) = zo) ∧ (((r : Int) == 0) = zr ∧ (r == 0) = zr ∧ decide (r = 0) = zr) ∧ (((c : Int) == 0) = zc ∧ (c == 0) = zc ∧ decide (c = 0) = zc) ∧
    decide (i < 32768 ∧ o < 65536 ∧ (r = 0 ↔ i = 0) ∧ (c = 0 ↔ o = 0)) = (!b1 && !b2 && (zr == zi) && (zc == zo)) := by
  have hz : ∀ x : Nat, ((x : Int) == 0) = (x == 0) := fun x => by rw [Bool.eq_iff_iff]; simp
  refine ⟨_, _, _, _, _, _, ⟨rfl, ?_, ?_⟩, ⟨rfl, ?_, ?_⟩, ⟨rfl, ?_, ?_⟩, ⟨rfl, ?_, ?_⟩, ⟨rfl, ?_, ?_⟩, ⟨rfl, ?_, ?_⟩, ?_⟩
  case refine_13 => 
    rw [hz, hz, hz, hz]
    have e : ∀ x y : Nat, ((x == 0) == (y == 0)) = decide (x = 0 ↔ y = 0) := fun x y => by by_cases h1 : x = 0 <;> by_cases h2 : y = 0 <;> first | (have g1 := beq_eq_false_iff_ne.2 h1; have g2 := beq_eq_false_iff_ne.2 h2; simp [g1, g2, h1, h2]; done) | simp [h1, h2]
    rw [e, e, Bool.eq_iff_iff]
    simp [geB]
    omega
  all_goals (rw [Bool.eq_iff_iff]; simp [geB]; try omega)
theorem nd_e (n : Nd) : n.e = if decide n.ok = true then 0 else 170 := by unfold Nd.e; simp

set_option maxRecDepth 100000 in
set_option maxHeartbeats 1600000 in
theorem ncheck_any (n : Nd) (w : World) : Calls Tryd.prog 22 #[.agg n.cs] w fun e w' => e = .returned (.int .i64 n.e) ∧ w' = w.alloc (.cells n.cs 36) := by
  rw [nd_e]
  obtain ⟨i, o, r, c, hi, ho, hr, hc⟩ := n
  have hok0 : decide (Nd.ok ⟨i, o, r, c, hi, ho, hr, hc⟩) = decide (i < 32768 ∧ o < 65536 ∧ (r = 0 ↔ i = 0) ∧ (c = 0 ↔ o = 0)) := rfl
  rw [hok0]
  simp only [Nd.cs]
  clear hok0 hi ho hr hc
  obtain ⟨b1, b2, zi, zo, zr, zc, ⟨d1, d3, d4⟩, ⟨d5, d7, d8⟩, ⟨d9, d10, d11⟩, ⟨d12, d13, d14⟩, ⟨d15, d16, d17⟩, ⟨d18, d19, d20⟩, hok⟩ := nd_bits i o r c
  rw [hok]
  clear hok
  have b1' : Blk (w.alloc (.cells #[.int .u32 i, .int .u32 o, .int .u32 r, .int .u32 c] 36)) w.heap.size 36 #[.int .u32 i, .int .u32 o, .int .u32 r, .int .u32 c] := Blk.new w _ _
  obtain ⟨W1, hW1⟩ : ∃ W1, w.alloc (.cells #[.int .u32 i, .int .u32 o, .int .u32 r, .int .u32 c] 36) = W1 := ⟨_, rfl⟩
  rw [hW1] at b1'
  have c0 : W1.cell? ⟨w.heap.size, 0, none⟩ = some (.int .u32 i) := b1'.cell 0
  have c1 : W1.cell? ⟨w.heap.size, 1, none⟩ = some (.int .u32 o) := b1'.cell 1
  have c2 : W1.cell? ⟨w.heap.size, 2, none⟩ = some (.int .u32 r) := b1'.cell 2
  have c3 : W1.cell? ⟨w.heap.size, 3, none⟩ = some (.int .u32 c) := b1'.cell 3
  clear b1'
  clear d3 d4 d7 d8
  cases b1
  · cases b2
    · cases zr <;> cases zi
      all_goals cases zc <;> cases zo
      all_goals
        try simp only [Bool.not_false, Bool.not_true] at *
        go_enter Tryd.func22, Tryd.ntmps22
        go_wp2
        go_ret
        exact ⟨rfl, by first | rfl | exact hW1.symm⟩
    · try simp only [Bool.not_false, Bool.not_true] at *
      go_enter Tryd.func22, Tryd.ntmps22
      go_wp2
      go_ret
      exact ⟨by simp, by first | rfl | exact hW1.symm⟩
  · try simp only [Bool.not_false, Bool.not_true] at *
    go_enter Tryd.func22, Tryd.ntmps22
    go_wp2
    go_ret
    exact ⟨by simp, by first | rfl | exact hW1.symm⟩

end Go.Proofs.YtcehdjpjniemjaaDoor
