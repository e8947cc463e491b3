/-
  A map from numbers to numbers that the call itself has made: where each stands; and what a crash leaves of each sector. Nothing here is a statement of the document.
-/
import Derived.Test.YtaikgngigaohmaaDoorDskSw
namespace Go.Proofs.YtaikgngigaohmaaDoor
open Go.RowKit Go.Shelf
set_option linter.unusedVariables false

/-- Block b is a map that tells where each number of xs stands. -/
def Idx (w : World) (b : Nat) (xs : List Int) : Prop :=
  ∃ D : DataW Unit, w.ownsMap Tryd.prog 3 (plainElem Tryd.prog 3) b xs.length D ∧ Maps.IsMap D ∧ (∀ (j : Nat) (k : Int), xs[j]? = some k → ∀ z, D.atKey (.int .i64 k) z = .lit (.int .i64 (j : Int))) ∧ ∀ k : Int, k ∉ xs → ∀ z, D.atKey (.int .i64 k) z = z

theorem Idx.new (w : World) : Idx (w.alloc (.map #[] 0)) w.heap.size [] :=
  ⟨.map [], World.ownsMap_made w _ _ _, Maps.isMap_empty, fun j k h => by simp at h, fun k _ z => rfl⟩
theorem Idx.lt {w : World} {b : Nat} {xs : List Int} (h : Idx w b xs) : b < w.heap.size := by
  obtain ⟨D, h1, _⟩ := h
  exact h1.lt
theorem Idx.grown {w w' : World} {row : Option Nat} {b : Nat} {xs : List Int} (h : Idx w b xs) (hg : w.grownBy w' row) (hn : some b ≠ row) : Idx w' b xs := by
  obtain ⟨D, h1, h2, h3⟩ := h
  exact ⟨D, h1.kept hg hn, h2, h3⟩
theorem Idx.below {w w' : World} {b : Nat} {xs : List Int} (h : Idx w b xs) (hb : Below w.heap.size w w') : Idx w' b xs :=
  h.grown (row := none) ⟨hb.os, hb.tape, hb.output, hb.size, fun k hk _ => hb.block k hk⟩ (by simp)
theorem zero_int (w : World) : (zeroValue 3).run Tryd.prog w = .ok (.int .i64 0) w := by kernel_rfl

/-- Where a number stands. -/
theorem Idx.look {w : World} {b : Nat} {xs : List Int} (h : Idx w b xs) (k : Int) (hk : (Lit.int .i64 k).wf = true) :
    (∀ j : Nat, xs[j]? = some k → (Instr.lookup 45 (.map (some b)) (.int .i64 k) true).run Tryd.prog w = .ok (.tuple #[.int .i64 (j : Int), .bool true]) w) ∧
    (k ∉ xs → (Instr.lookup 45 (.map (some b)) (.int .i64 k) true).run Tryd.prog w = .ok (.tuple #[.int .i64 0, .bool false]) w) := by
  obtain ⟨D, h1, h2, h3, h4⟩ := h
  obtain ⟨es, clock, hb, F, _, rfl⟩ := h1
  rcases Maps.fit_look true (Maps.int_keyed Tryd.underlying3) Tryd.underlying45 (zero_int w) hb F (Maps.keyOf_int_mk Tryd.underlying3 hk) with ⟨hrun, _, hat⟩ | ⟨e0, y, _, _, hrun, hRv, hat, _⟩
  · refine ⟨fun j hj => ?_, fun _ => hrun⟩
    have e1 := h3 j k hj (.lit (.bool true))
    rw [hat] at e1
    cases e1
  · obtain ⟨c, hc1, hc2, _⟩ := plainElem_int_inv Tryd.underlying3 hRv
    refine ⟨fun j hj => ?_, fun hn => ?_⟩
    · have e1 := h3 j k hj .nil
      rw [hat, hc2] at e1
      injection e1 with e1
      injection e1 with _ e1
      rw [hrun, hc1, e1, if_pos rfl]
    · have e1 := h4 k hn (.lit (.bool true))
      rw [hat, hc2] at e1
      cases e1

/-- A number is put behind the others. -/
theorem Idx.put {w : World} {b : Nat} {xs : List Int} (h : Idx w b xs) (k : Int) (hk : (Lit.int .i64 k).wf = true) (hn : xs.length < maxLen) (hx : k ∉ xs) :
    ∃ w', (Instr.mapUpdate 45 (.map (some b)) (.int .i64 k) (.int .i64 (xs.length : Int))).run Tryd.prog w = .ok () w' ∧ Idx w' b (xs ++ [k]) ∧ w.grownBy w' (some b) := by
  obtain ⟨D, h1, h2, h3, h4⟩ := h
  have hw : (Lit.int .i64 (xs.length : Int)).wf = true := by
    rw [Lit.wf_int_iff]
    have e1 : IntKind.i64.min = -9223372036854775808 := by decide
    have e2 : IntKind.i64.max = 9223372036854775807 := by decide
    unfold maxLen at hn
    rw [e1, e2]
    omega
  obtain ⟨w', hrun, r1, r2⟩ := h1.update (Maps.int_keyed Tryd.underlying3) Tryd.underlying45 hn (Maps.keyOf_int_mk Tryd.underlying3 hk) (plainElem_int Tryd.underlying3 hw)
  refine ⟨w', hrun, ⟨_, by rw [List.length_append]; exact r1, h2.put _ _, fun j k' hj z => ?_, fun k' hk' z => ?_⟩, r2⟩
  · by_cases hjl : j < xs.length
    · rw [List.getElem?_append_left hjl] at hj
      have hm : k' ∈ xs := List.mem_of_getElem? hj
      rw [Maps.atKey_put_other (by intro h9; injection h9 with _ h9; exact hx (h9 ▸ hm)), h3 j k' hj z]
    · have hjj : j = xs.length := by
        have := (List.getElem?_eq_some_iff.1 hj).1
        simp at this
        omega
      subst hjj
      rw [List.getElem?_append_right (Nat.le_refl _), Nat.sub_self] at hj
      obtain rfl : k = k' := by simpa using hj
      rw [Maps.atKey_put_same h2 (by trivial)]
  · have h9 : k' ∉ xs ∧ k' ≠ k := by simpa using hk'
    rw [Maps.atKey_put_other (by intro h8; injection h8 with _ h8; exact h9.2 h8), h4 k' h9.1 z]

/-! ### What a crash leaves of a sector -/
theorem crashF_one (i : Nat) (ks : List Bool) : ∀ (l : List (Nat × Rw)) (D : Dk), i < D.plate.length → (l.map (fun x => x.2.s)).Nodup → ∀ x ∈ l, x.2.s = i →
    (crashF D ks l).plate.getD i Bk.zero = if ks.getD x.1 false = true then x.2.b else D.plate.getD i Bk.zero
  | [], _, _, _, x, hx, _ => by simp at hx
  | y :: l, D, hi, hn, x, hx, hs => by
    have e : crashF D ks (y :: l) = crashF (if ks.getD y.1 false = true then downM D y.2 else D) ks l := rfl
    rw [List.map_cons, List.nodup_cons] at hn
    rw [e]
    rcases List.mem_cons.1 hx with rfl | hx'
    · rw [crashF_lone i ks l _ (fun z hz h9 => hn.1 (by rw [hs, ← h9]; exact List.mem_map.2 ⟨z, hz, rfl⟩))]
      by_cases hk : ks.getD x.1 false = true
      · rw [if_pos hk, if_pos hk]
        show (D.plate.set x.2.s x.2.b).getD i Bk.zero = _
        rw [hs]
        simp [hi]
      · rw [if_neg hk, if_neg hk]
    · have hne : y.2.s ≠ i := fun h9 => hn.1 (by rw [h9, ← hs]; exact List.mem_map.2 ⟨x, hx', rfl⟩)
      have hl : (if ks.getD y.1 false = true then downM D y.2 else D).plate.length = D.plate.length := by
        split
        · show (D.plate.set _ _).length = _
          rw [List.length_set]
        · rfl
      rw [crashF_one i ks l _ (by rw [hl]; exact hi) hn.2 x hx' hs]
      have hg : (if ks.getD y.1 false = true then downM D y.2 else D).plate.getD i Bk.zero = D.plate.getD i Bk.zero := by
        split
        · show (D.plate.set y.2.s y.2.b).getD i Bk.zero = _
          simp [List.getElem?_set, hne]
        · rfl
      rw [hg]
theorem upTo_all (R : List Rw) : (upTo R R.length).map (fun x => x.1.2) = R := by
  apply List.ext_getElem?
  intro j
  unfold upTo
  rw [List.take_of_length_le (by simp)]
  simp only [List.map_map, List.getElem?_map]
  by_cases hj : j < R.length
  · simp [hj, rowAt]
  · simp [hj]
theorem crash_row {D : Dk} (ok : D.Ok) (ks : List Bool) {k : Nat} {r : Rw} (hr : D.rows[k]? = some r) :
    (crashM D ks).plate.getD r.s Bk.zero = if ks.getD k false = true then r.b else D.plate.getD r.s Bk.zero := by
  show (crashF D ks _).plate.getD r.s Bk.zero = _
  refine crashF_one r.s ks _ D (ok.at_ r (List.mem_of_getElem? hr)) ?_ (k, r) ?_ rfl
  · have e : ((upTo D.rows D.rows.length).map (·.1)).map (fun x => x.2.s) = D.rows.map (·.s) := by
      conv => rhs; rw [← upTo_all D.rows]
      rw [List.map_map, List.map_map]
      rfl
    rw [e]
    exact ok.once
  · have hk : k < D.rows.length := (List.getElem?_eq_some_iff.1 hr).1
    refine List.mem_map.2 ⟨rowAt D.rows ⟨k, hk⟩, ?_, ?_⟩
    · unfold upTo
      rw [List.take_of_length_le (by simp)]
      exact List.mem_map.2 ⟨⟨k, hk⟩, List.mem_finRange _, rfl⟩
    · have h9 := (List.getElem?_eq_some_iff.1 hr).2
      show (k, D.rows[k]) = (k, r)
      rw [h9]
theorem crash_rest {D : Dk} (ks : List Bool) {i : Nat} (h : ∀ r ∈ D.rows, r.s ≠ i) : (crashM D ks).plate.getD i Bk.zero = D.plate.getD i Bk.zero :=
  (crash_lone ⟨rfl, h⟩ ks).1
end Go.Proofs.YtaikgngigaohmaaDoor
