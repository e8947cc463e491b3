/-
  The contracts of octet's reader that take bytes off: the closure, take, Raw. Nothing here is a statement of the document.
-/
import Derived.Test.YtefmjmenejimhaaOctE
namespace Go.Proofs.Ytefmjmenejimhaa
open Go.RowKit
set_option linter.unusedVariables false

/-- In the variable at block x there is a slice of the call's own that holds these bytes. -/
def Out (w : World) (x : Nat) (l : List Nat) : Prop :=
  ∃ v, w.heap[x]? = some (.cells #[v] 23 (0, 0)) ∧ w.ownsRow (x + 1) 5 1 v l.length (l.map byc)

theorem out_next {x b : Nat} {l : List Nat} {w w1 : World} {v v' : Value} {o : Obj} (hx : w.heap[x]? = some (.cells #[v] 23 (0, 0))) (hown : w.ownsRow (x + 1) 5 1 v l.length (l.map byc))
    (hown' : w1.ownsRow (x + 1) 5 1 v' (l.length + 1) (l.map byc ++ [.int .u8 (b : Int)])) (hg : (w.alloc o).grownBy w1 v.ownBlock) :
    Out (w1.setCell ⟨x, 0, none⟩ v') x (l ++ [b]) ∧ Below x w (w1.setCell ⟨x, 0, none⟩ v') ∧ w1.cell? ⟨x, 0, none⟩ = some v ∧ w1.frozen? ⟨x, 0, none⟩ = false := by
  have hxl := lt_of_block hx
  have hne : some x ≠ v.ownBlock := fun e => by have := (hown.lt x e.symm).1; omega
  have hx1 : w1.heap[x]? = some (.cells #[v] 23 (0, 0)) := (hg.block x (by simp; omega) hne).trans ((Below.heap_alloc w o x hxl).trans hx)
  refine ⟨⟨v', one_setCell hx1, ?_⟩, ?_, cell_of_one hx1, free_of_one hx1⟩
  · have h := ownsRow_setCell_below hown' (a := ⟨x, 0, none⟩) (by show x < x + 1; omega) v'
    have e : (l ++ [b]).map byc = l.map byc ++ [.int .u8 (b : Int)] := by simp [byc]
    rw [e, List.length_append]
    exact h
  · exact (((Below.refl x w).alloc (by omega) o).grown hg (by simp; omega) (fun k hk => by have := (hown.lt k hk).1; omega)).setCell (Nat.le_refl _) _

/-- Below block x two worlds differ at block p at most. -/
structure Thru (p x : Nat) (w w' : World) : Prop where
  os : w'.os = w.os
  tape : w'.tape = w.tape
  output : w'.output = w.output
  size : w.heap.size ≤ w'.heap.size
  block : ∀ k, k < x → k ≠ p → w'.heap[k]? = w.heap[k]?
theorem Thru.refl (p x : Nat) (w : World) : Thru p x w w := ⟨rfl, rfl, rfl, Nat.le_refl _, fun _ _ _ => rfl⟩
theorem Thru.trans {p x : Nat} {a b c : World} (h : Thru p x a b) (k : Thru p x b c) : Thru p x a c :=
  ⟨k.os.trans h.os, k.tape.trans h.tape, k.output.trans h.output, Nat.le_trans h.size k.size, fun i h1 h2 => (k.block i h1 h2).trans (h.block i h1 h2)⟩
theorem Thru.set (p x i : Nat) (w : World) (v : Value) : Thru p x w (w.setCell ⟨p, i, none⟩ v) :=
  ⟨rfl, rfl, rfl, by simp [World.setCell], fun k h1 h2 => Below.heap_setCell _ _ _ _ h2⟩
theorem Thru.of {p x : Nat} {w w' : World} (h : Below x w w') : Thru p x w w' := ⟨h.os, h.tape, h.output, h.size, fun k hk _ => h.block k hk⟩

theorem Out.set {w : World} {p x i : Nat} {l : List Nat} (h : Out w x l) (hp : p < x) (v : Value) : Out (w.setCell ⟨p, i, none⟩ v) x l := by
  obtain ⟨u, hx, hown⟩ := h
  exact ⟨u, (Below.heap_setCell _ _ _ _ (Nat.ne_of_gt hp)).trans hx, ownsRow_setCell_below hown (a := ⟨p, i, none⟩) (by show p < x + 1; omega) v⟩

/-- A slice of the call's own, as bytes that lie. -/
theorem owns_lies {w : World} {base : Nat} {v : Value} {l : List Nat} (h : w.ownsRow base 5 1 v l.length (l.map byc)) :
    ∃ a cap, v = .slice a l.length cap ∧ Lies w a l ∧ (∀ y, a = some y → base ≤ y.block) ∧ (a = none → cap = 0) := by
  rcases h.2 with ⟨rfl, h0⟩ | ⟨g, cap, cur, rfl, hb, hg, h1, h2, h3, h4⟩
  · exact ⟨none, 0, by rw [h0], .inl (List.eq_nil_of_length_eq_zero h0), by simp, fun _ => rfl⟩
  · refine ⟨some ⟨g, 0, none⟩, cap, rfl, .inr ⟨g, 0, rfl, lt_of_block hg, fun i hi => ?_⟩, fun y hy => by cases hy; exact hb, fun e => by cases e⟩
    rw [Nat.zero_add]
    have e : cur[i]? = (l.map byc)[i]? := by
      rw [← h4, Nat.mul_one, List.getElem?_take, if_pos hi]; simp
    simp only [World.cell?, hg, e]
    simp [byc, hi]

theorem Thru.grown {p x : Nat} {w w1 w' : World} (hA : w.grownBy w1 none) (h : Thru p x w1 w') (hx : w.heap.size ≤ x) : w.grownBy w' (some p) :=
  ⟨h.os.trans hA.os, h.tape.trans hA.tape, h.output.trans hA.output, Nat.le_trans hA.size h.size,
    fun k hk hp => (h.block k (by omega) (fun e => hp (by rw [e]))).trans (hA.block k hk (by simp))⟩

/-- What Raw hands back: bytes that lie in new memory, or nothing. -/
def Handed (w w' : World) (v : Value) (l : List Nat) : Prop := ∃ a cap, v = .slice a l.length cap ∧ Lies w' a l ∧ (∀ y, a = some y → w.heap.size ≤ y.block) ∧ (a = none → cap = 0)

theorem Out.handed {w w' : World} {l : List Nat} {v : Value} (hv : w'.heap[w.heap.size]? = some (.cells #[v] 23 (0, 0))) (hown : w'.ownsRow (w.heap.size + 1) 5 1 v l.length (l.map byc)) : Handed w w' v l := by
  obtain ⟨a, cap, h1, h2, h3, h4⟩ := owns_lies hown
  exact ⟨a, cap, h1, h2, fun y hy => by have := h3 y hy; omega, h4⟩

end Go.Proofs.Ytefmjmenejimhaa
