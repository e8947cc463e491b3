/-
  Appending what a reader handed back, and what stands while a row of parts is taken off. Nothing here is a statement of the document.
-/
import Derived.Test.YtfnagfmbhcaphaaDoorOctK
import Derived.Test.YtfnagfmbhcaphaaDoorOctJ
import Derived.Laws.AppendOwnNone
namespace Go.Proofs.YtfnagfmbhcaphaaDoor
open Go.RowKit
set_option linter.unusedVariables false

/-- Bytes that lie somewhere, appended to a row of the call's own. -/
theorem wpList_append_got {w : World} {ops : Array Oper} {rest : List Oper} {o : Oper} {a : Act} {Q : Exit → Act → World → Prop} (hgd : o.guard = none) (s x : Operand)
    (ho : o.op = .call { callee := .builtin .append, args := #[s, x], argTypes := #[55, 55] })
    (base : Nat) (v : Value) (n : Nat) (xs : List Value) (hs : a.eval s = v) (hown : w.ownsRow base 5 1 v n xs) (ao : Option Addr) (cap : Nat) (l : List Nat)
    (hx : a.eval x = .slice ao l.length cap) (hL : Lies w ao l) (hcap : ao = none → cap = 0) (hlen : n + l.length ≤ 140737488355328) (hbase : base ≤ w.heap.size)
    (h : ∀ v' w', w'.ownsRow base 5 1 v' (n + l.length) (xs ++ l.map byc) → w.grownBy w' v.ownBlock → wpList Tryd.prog ops Q rest (a.put o.dst v') w') : wpList Tryd.prog ops Q (o :: rest) a w := by
  obtain ⟨i0, hi, hz0, hz1, hz2⟩ := info_parts Tryd.info5
  cases ao with
  | none =>
    have hc := hcap rfl
    obtain rfl : l = [] := by
      rcases hL with h | ⟨_, _, h, _⟩
      · exact h
      · cases h
    subst hc
    refine wpList_append_own_none hgd s x 55 ho base 5 i0 1 Tryd.underlying55 hi v n xs hs hown hx (h v w (by simpa using hown) (World.grownBy.refl _ _))
  | some ad =>
    refine wpList_append_own w hgd s x 55 ho base 5 i0 (.int .u8 0) 1 1 Tryd.underlying55 hi hz0 hz1 hz2 rfl (by decide) v n xs hs hown ad l.length cap (l.map byc) hx (by simp) ?_ (byc_one l) (by unfold maxLen; omega) (by omega) hbase (fun v' w' h1 h2 _ => h v' w' h1 h2)
    intro j u hj
    by_cases h0 : l = []
    · subst h0; simp at hj
    · obtain ⟨ad', e, hc⟩ := hL.cells (by rcases l with _ | _; exact absurd rfl h0; simp)
      cases e
      exact hc j u hj

/-- Two readers of the same bytes; from the one j bytes are off, and they lie, one behind the other, in a row of the call's own. -/
structure St (w0 w : World) (B p g p2 g2 : Nat) (L : List Nat) (j : Nat) (err : Int) (v : Value) : Prop where
  r : Rd w p g L j err
  s : Rd w p2 g2 L 0 0
  own : w.ownsRow B 5 1 v j ((L.take j).map byc)
  hb : Below w0.heap.size w0 w
  hB : B ≤ w.heap.size

theorem St.taken {w0 w w' : World} {B p g p2 g2 j : Nat} {L : List Nat} {err : Int} {v : Value} (h : St w0 w B p g p2 g2 L j err v) (h0 : w0.heap.size ≤ p) (h2 : p < g2) (h3 : g2 < p2) (h4 : p2 < B)
    (hg : w.grownBy w' (some p)) : w'.ownsRow B 5 1 v j ((L.take j).map byc) ∧ Rd w' p2 g2 L 0 0 ∧ Below w0.heap.size w0 w' ∧ B ≤ w'.heap.size := by
  have hs := h.hb.size
  have hB := h.hB
  refine ⟨h.own.kept hg ?_, h.s.kept (hg.block p2 h.s.lt (by intro e; cases e; omega)) (hg.block g2 h.s.own.lt (by intro e; cases e; omega)), h.hb.grown hg hs (fun k hk => by cases hk; exact h0), Nat.le_trans hB hg.size⟩
  cases hv : v.ownBlock with
  | none => exact .inl rfl
  | some k =>
    right
    intro e
    cases e
    have := (h.own.lt p hv).1
    omega

theorem St.joined {w0 w' w1 : World} {B p g p2 g2 j j' : Nat} {L c : List Nat} {err' : Int} {v v' : Value} (h1 : g < p) (h2 : p < g2) (h3 : g2 < p2) (h4 : p2 < B) (h0 : w0.heap.size ≤ B)
    (hr : Rd w' p g L j' err') (hs : Rd w' p2 g2 L 0 0) (hown : w'.ownsRow B 5 1 v j ((L.take j).map byc)) (hb : Below w0.heap.size w0 w') (hB : B ≤ w'.heap.size)
    (hown' : w1.ownsRow B 5 1 v' (j + c.length) ((L.take j).map byc ++ c.map byc)) (hg : w'.grownBy w1 v.ownBlock) (hc : L.take j ++ c = L.take j') (hj : j + c.length = j') : St w0 w1 B p g p2 g2 L j' err' v' := by
  have hne : ∀ k, k < B → some k ≠ v.ownBlock := fun k hk e => by have := (hown.lt k e.symm).1; omega
  refine ⟨hr.kept (hg.block p hr.lt (hne p (by omega))) (hg.block g hr.own.lt (hne g (by omega))), hs.kept (hg.block p2 hs.lt (hne p2 (by omega))) (hg.block g2 hs.own.lt (hne g2 (by omega))), ?_, hb.grown hg hb.size (fun k hk => by have := (hown.lt k hk).1; omega), Nat.le_trans hB hg.size⟩
  rw [← List.map_append, hc, hj] at hown'
  exact hown'
end Go.Proofs.YtfnagfmbhcaphaaDoor
