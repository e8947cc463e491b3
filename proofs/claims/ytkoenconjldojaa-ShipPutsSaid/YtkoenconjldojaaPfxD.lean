/-
  The contracts of the reference's RightAddr, Right, of prefix.hasPlace, Bit, Nibble, Has, Holds and of the reference's. Nothing here is a statement of the document.
-/
import Derived.Test.YtkoenconjldojaaRows
import Derived.WalkKit
import Derived.Shelf.Abstract
import Derived.Test.YtkoenconjldojaaOctA
import Derived.Test.YtkoenconjldojaaPfxB
namespace Go.Proofs.Ytkoenconjldojaa
set_option linter.unusedVariables false

section
variable {P : Program} {ops : Array Oper} {Q : Exit → Act → World → Prop} {S : World → Prop}

/-- In every world that meets S the operation gives v, and leaves a world that meets S. -/
def GivesIf (P : Program) (ops : Array Oper) (S : World → Prop) (o : Oper) (v : Value) (a : Act) : Prop :=
  (Region.wanted o (yielded ops a.tmps) = true ∧ ∀ w, S w → ((∃ w', (execOp a.eval o).run P w = .ok (.value v) w' ∧ S w') ∨ ∃ f args, (execOp a.eval o).run P w = .ok (.enter f args) w ∧ Calls P f args w fun e w' => e = .returned v ∧ S w')) ∨
  (Region.wanted o (yielded ops a.tmps) = false ∧ v = undef)
theorem GivesIf.of_same {o : Oper} {v : Value} {a a' : Act} (hy : GivesIf P ops S o v a) (he : execOp a'.eval o = execOp a.eval o)
    (hw : Region.wanted o (yielded ops a'.tmps) = Region.wanted o (yielded ops a.tmps)) : GivesIf P ops S o v a' := by
  unfold GivesIf at *
  rw [he, hw]
  exact hy
theorem GivesIf.wpOp {i : Nat} {o : Oper} {v : Value} {a : Act} (hi : ops[i]? = some o) (hy : GivesIf P ops S o v a) {K : Act → World → Prop} {w : World} (hS : S w) (h : ∀ w', S w' → K (a.put o.dst v) w') : wpOp P ops Q i K a w := by
  unfold Go.wpOp
  simp only [hi]
  rcases hy with ⟨hw, hv⟩ | ⟨hw, rfl⟩
  · simp only [hw, if_true]
    refine .inl ?_
    unfold Oper.wp
    rcases hv w hS with ⟨w', h1, h2⟩ | ⟨f, args, h1, h2⟩
    · rw [h1]
      exact h w' h2
    · rw [h1]
      refine Calls.mono h2 ?_
      rintro e w' ⟨rfl, h3⟩
      exact h w' h3
  · simp only [hw, Bool.false_eq_true, if_false]; exact h w hS
/-- The operations, one behind the other in the order of the text. -/
def Lin (P : Program) (ops : Array Oper) (Q : Exit → Act → World → Prop) (S : World → Prop) : List Oper → Act → Prop
  | [], a => ∀ w, S w → Q .normal a w
  | o :: r, a => ∃ v, GivesIf P ops S o v a ∧ Lin P ops Q S r (a.put o.dst v)

theorem Lin.swap {x y : Oper} {r : List Oper} {a : Act} (hx : ∀ cs b, x.op ≠ .select cs b) (hy : ∀ cs b, y.op ≠ .select cs b) (hap : x.apart ops y = true) (h : Lin P ops Q S (x :: y :: r) a) : Lin P ops Q S (y :: x :: r) a := by
  obtain ⟨h1, h2, h3⟩ := Oper.apart_spec hap
  obtain ⟨vx, gx, vy, gy, h⟩ := h
  refine ⟨vy, gy.of_same ?_ ?_, vx, gx.of_same (execOp_put x hx a y.dst vy h3) (wanted_put x a y.dst vy h3), ?_⟩
  · exact (execOp_put y hy a x.dst vx h1).symm
  · exact (wanted_put y a x.dst vx h1).symm
  · rw [← Act.put_comm a vx vy h2]
    exact h
theorem Lin.front {o : Oper} {T2 : List Oper} (ho : ∀ cs b, o.op ≠ .select cs b) : ∀ (T1 : List Oper) (a : Act), (∀ x ∈ T1, (∀ cs b, x.op ≠ .select cs b) ∧ x.apart ops o = true) → Lin P ops Q S (T1 ++ o :: T2) a → Lin P ops Q S (o :: (T1 ++ T2)) a
  | [], _, _, h => h
  | x :: T1, a, hap, h => by
    obtain ⟨v, g, h⟩ := h
    have h2 := Lin.front ho T1 _ (fun y hy => hap y (by simp [hy])) h
    exact Lin.swap (hap x (by simp)).1 ho (hap x (by simp)).2 ⟨v, g, h2⟩

/-- What is not listed yet, in the order of the text. -/
def unl (ops : Array Oper) (listed : Array Bool) (is : List Nat) : List Oper := is.filterMap fun i => if listed.getD i true then none else ops[i]?
/-- Each operation waits for earlier ones alone, and each earlier one that it does not wait for is apart from it. -/
def linOk (ops : Array Oper) : Bool :=
  Region.noSelect ops && (List.range ops.size).all fun j => match ops[j]? with
    | none => true
    | some oj => oj.after.all (fun e => decide (e.on < j)) && (List.range j).all fun i => match ops[i]? with
      | none => true
      | some oi => oj.after.any (fun e => Region.binds .any e && e.on == i) || oi.apart ops oj
theorem linOk_spec (h : linOk ops = true) (j : Nat) (oj : Oper) (hj : ops[j]? = some oj) :
    (∀ e ∈ oj.after, e.on < j) ∧ ∀ i oi, i < j → ops[i]? = some oi → (∃ e ∈ oj.after, Region.binds .any e = true ∧ e.on = i) ∨ oi.apart ops oj = true := by
  simp only [linOk, Bool.and_eq_true, List.all_eq_true, List.mem_range] at h
  have h1 := h.2 j (Array.getElem?_eq_some_iff.1 hj).1
  simp only [hj, Bool.and_eq_true, List.all_eq_true, List.mem_range, Array.all_eq_true_iff_forall_mem, decide_eq_true_eq] at h1
  refine ⟨h1.1, fun i oi hi ho => ?_⟩
  have h2 := h1.2 i hi
  simp only [ho, Bool.or_eq_true] at h2
  rcases h2 with h2 | h2
  · obtain ⟨e, he, hb⟩ := Array.any_eq_true'.1 h2
    simp only [Bool.and_eq_true, beq_iff_eq] at hb
    exact .inl ⟨e, he, hb⟩
  · exact .inr h2
theorem unl_set (listed : Array Bool) (j : Nat) : ∀ (is : List Nat), j ∉ is → unl ops (listed.setIfInBounds j true) is = unl ops listed is
  | [], _ => rfl
  | i :: is, h => by
    have hne : j ≠ i := fun e => h (by simp [e])
    have ih := unl_set listed j is (fun e => h (by simp [e]))
    unfold unl at *
    simp only [List.filterMap_cons]
    rw [getD_set_ne true hne, ih]
theorem unl_app (listed : Array Bool) (is js : List Nat) : unl ops listed (is ++ js) = unl ops listed is ++ unl ops listed js := by simp [unl]
theorem unl_mem {listed : Array Bool} {is : List Nat} {x : Oper} (h : x ∈ unl ops listed is) : ∃ i ∈ is, listed.getD i true = false ∧ ops[i]? = some x := by
  obtain ⟨i, hi, h⟩ := List.mem_filterMap.1 h
  refine ⟨i, hi, ?_⟩
  cases hb : listed.getD i true with
  | true => rw [hb] at h; simp at h
  | false => rw [hb] at h; simpa using h
theorem range_split {j n : Nat} (h : j < n) : List.range n = List.range j ++ j :: List.range' (j + 1) (n - j - 1) := by
  apply List.ext_getElem?
  intro k
  rw [List.getElem?_append, List.length_range]
  by_cases h1 : k < j
  · rw [if_pos h1, List.getElem?_range h1, List.getElem?_range (by omega)]
  · rw [if_neg h1]
    by_cases h2 : k = j
    · subst h2
      rw [Nat.sub_self, List.getElem?_cons_zero, List.getElem?_range h]
    · obtain ⟨q, rfl⟩ : ∃ q, k = j + 1 + q := ⟨k - (j + 1), by omega⟩
      rw [show j + 1 + q - j = q + 1 from by omega, List.getElem?_cons_succ]
      by_cases h3 : j + 1 + q < n
      · rw [List.getElem?_range h3, List.getElem?_range' (by omega)]
        simp
      · rw [List.getElem?_eq_none (by simp; omega), List.getElem?_eq_none (by simp; omega)]

theorem lin_any (hok : linOk ops = true) : ∀ (fuel : Nat) (listed : Array Bool) (a : Act) (w : World), listed.size = ops.size → (unl ops listed (List.range ops.size)).length ≤ fuel → S w → Lin P ops Q S (unl ops listed (List.range ops.size)) a → wpAny P .any ops Q fuel listed a w := by
  have hsel : ∀ (j : Nat) (o : Oper), ops[j]? = some o → ∀ cs b, o.op ≠ .select cs b := fun j o ho cs b => Region.noSelect_spec (by simp only [linOk, Bool.and_eq_true] at hok; exact hok.1) j o cs b ho
  have hnil : ∀ listed : Array Bool, listed.size = ops.size → Region.ready .any ops listed = [] → unl ops listed (List.range ops.size) = [] := by
    intro listed hsz hr
    have key : ∀ j, j < ops.size → listed.getD j true = true := by
      intro j
      induction j using Nat.strongRecOn with
      | ind j ih =>
        intro hj
        cases hb : listed.getD j true with
        | true => rfl
        | false =>
          have hoj : ops[j]? = some ops[j] := Array.getElem?_eq_getElem hj
          have hm : j ∈ Region.ready .any ops listed := mem_ready.2 ⟨hb, _, hoj, fun e he _ => by
            have hlt := (linOk_spec hok j _ hoj).1 e he
            have h9 := ih e.on hlt (by omega)
            have h8 : e.on < listed.size := by omega
            simp [h8] at h9 ⊢
            exact h9⟩
          rw [hr] at hm
          cases hm
    unfold unl
    rw [List.filterMap_eq_nil_iff]
    intro i hi
    rw [key i (List.mem_range.1 hi)]
    simp
  have hpick : ∀ (listed : Array Bool) (j : Nat), listed.size = ops.size → j ∈ Region.ready .any ops listed → ∃ oj T1 T2, ops[j]? = some oj ∧ unl ops listed (List.range ops.size) = T1 ++ oj :: T2 ∧ unl ops (listed.setIfInBounds j true) (List.range ops.size) = T1 ++ T2 ∧ ∀ x ∈ T1, (∀ cs b, x.op ≠ .select cs b) ∧ x.apart ops oj = true := by
    intro listed j hsz hj
    obtain ⟨hun, oj, hoj, hall⟩ := mem_ready.1 hj
    have hlt : j < ops.size := (Array.getElem?_eq_some_iff.1 hoj).1
    have hn1 : j ∉ List.range j := by simp
    have hn2 : j ∉ List.range' (j + 1) (ops.size - j - 1) := fun hm => by have := List.mem_range'_1.1 hm; omega
    refine ⟨oj, unl ops listed (List.range j), unl ops listed (List.range' (j + 1) (ops.size - j - 1)), hoj, ?_, ?_, ?_⟩
    · rw [range_split hlt, unl_app]
      congr 1
      unfold unl
      rw [List.filterMap_cons, hun, hoj]
      simp
    · rw [range_split hlt, unl_app, unl_set _ _ _ hn1]
      congr 1
      have e : unl ops (listed.setIfInBounds j true) (j :: List.range' (j + 1) (ops.size - j - 1)) = unl ops (listed.setIfInBounds j true) (List.range' (j + 1) (ops.size - j - 1)) := by
        have hs : (listed.setIfInBounds j true).getD j true = true := by
          have : j < listed.size := by omega
          simp [this]
        unfold unl
        rw [List.filterMap_cons, hs]
        simp
      rw [e, unl_set _ _ _ hn2]
    · intro x hx
      obtain ⟨i, hi, hui, hxi⟩ := unl_mem hx
      have hij := List.mem_range.1 hi
      refine ⟨hsel i x hxi, ?_⟩
      rcases (linOk_spec hok j oj hoj).2 i x hij hxi with ⟨e, he, hb, rfl⟩ | h9
      · have h8 := hall e he hb
        have h7 : e.on < listed.size := by omega
        simp [h7] at h8 hui
        rw [hui] at h8
        cases h8
      · exact h9
  intro fuel
  induction fuel with
  | zero =>
    intro listed a w hsz hlen hS hL
    have h0 : unl ops listed (List.range ops.size) = [] := List.length_eq_zero_iff.1 (by omega)
    rw [h0] at hL
    refine ⟨?_, hL w hS⟩
    refine List.eq_nil_iff_forall_not_mem.2 (fun j hj => ?_)
    obtain ⟨oj, T1, T2, _, h1, _⟩ := hpick listed j hsz hj
    rw [h0] at h1
    simp at h1
  | succ fuel ih =>
    intro listed a w hsz hlen hS hL
    refine ⟨fun hr => ?_, fun j hj => ?_⟩
    · rw [hnil listed hsz hr] at hL
      exact hL w hS
    · obtain ⟨oj, T1, T2, hoj, h1, h2, h3⟩ := hpick listed j hsz hj
      rw [h1] at hL hlen
      obtain ⟨v, g, hL2⟩ := Lin.front (hsel j oj hoj) T1 a h3 hL
      refine g.wpOp hoj hS (fun w' hS' => ih (listed.setIfInBounds j true) _ w' (by simp [hsz]) ?_ hS' ?_)
      · rw [h2]
        simp at hlen ⊢
        omega
      · rw [h2]
        exact hL2

theorem fm_congr {α β : Type} {f g : α → Option β} : ∀ (l : List α), (∀ i ∈ l, f i = g i) → l.filterMap f = l.filterMap g
  | [], _ => rfl
  | x :: l, h => by rw [List.filterMap_cons, List.filterMap_cons, h x (by simp), fm_congr l (fun i hi => h i (by simp [hi]))]
theorem fm_range {α : Type} : ∀ l : List α, (List.range l.length).filterMap (fun i => l[i]?) = l
  | [] => rfl
  | x :: l => by
    rw [List.length_cons, List.range_succ_eq_map, List.filterMap_cons, List.filterMap_map]
    have := fm_range l
    simpa [Function.comp_def] using this
/-- THE BEGINNING: a region that draws its order, walked in the order of the text. -/
theorem wp_region_lin {id : Nat} {l : List Oper} {a : Act} {w : World} (S : World → Prop) (hm : P.follows .mixedOrders = true) (hok : linOk l.toArray = true) (hS : S w.drew) (h : Lin P l.toArray Q S l a) : (Code.region id l.toArray true).wp P Q a w := by
  refine wp_region_any hm ?_
  have hu : unl l.toArray (Array.replicate l.toArray.size false) (List.range l.toArray.size) = l := by
    have h1 : ∀ i ∈ List.range l.toArray.size, (if (Array.replicate l.toArray.size false).getD i true = true then none else l.toArray[i]?) = l[i]? := by
      intro i hi
      have hlt := List.mem_range.1 hi
      simp at hlt
      simp [hlt]
    unfold unl
    rw [fm_congr _ h1]
    exact fm_range l
  refine lin_any hok _ _ _ _ (by simp) ?_ hS ?_
  · rw [hu]; simp
  · rw [hu]; exact h

theorem lin_nil {a : Act} (h : ∀ w, S w → Q .normal a w) : Lin P ops Q S [] a := h
/-- An operation that gives its value in every world that meets S, and leaves the world as it is. -/
theorem lin_op {o : Oper} {r : List Oper} {a : Act} {v : Value} (hw : Region.wanted o (yielded ops a.tmps) = true) (hy : ∀ w, S w → (execOp a.eval o).run P w = .ok (.value v) w) (h : Lin P ops Q S r (a.put o.dst v)) : Lin P ops Q S (o :: r) a :=
  ⟨v, .inl ⟨hw, fun w hS => .inl ⟨w, hy w hS, hS⟩⟩, h⟩
/-- An operation whose guard is off. -/
theorem lin_off {o : Oper} {r : List Oper} {a : Act} (hw : Region.wanted o (yielded ops a.tmps) = false) (h : Lin P ops Q S r (a.put o.dst undef)) : Lin P ops Q S (o :: r) a :=
  ⟨undef, .inr ⟨hw, rfl⟩, h⟩
/-- A call that gives its value in every world that meets S, and leaves one that meets S. -/
theorem lin_call {o : Oper} {r : List Oper} {a : Act} {v : Value} {f : Nat} {args : Array Value} (hw : Region.wanted o (yielded ops a.tmps) = true) (hy : ∀ w, (execOp a.eval o).run P w = .ok (.enter f args) w) (hc : ∀ w, S w → Calls P f args w fun e w' => e = .returned v ∧ S w') (h : Lin P ops Q S r (a.put o.dst v)) : Lin P ops Q S (o :: r) a :=
  ⟨v, .inl ⟨hw, fun w hS => .inr ⟨f, args, hy w, hc w hS⟩⟩, h⟩
/-- A call of a Go function by its number. -/
theorem lin_fn {o : Oper} {r : List Oper} {a : Act} {v : Value} {f : Nat} {c : Call} {args : Array Value} (hw : Region.wanted o (yielded ops a.tmps) = true) (ho : o.op = .call c) (hc : c.callee = .value (.func f)) (he : ∀ args w, (callFunc f args).run P w = .ok (.enter f args) w)
    (hcl : ∀ w, S w → Calls P f args w fun e w' => e = .returned v ∧ S w') (ha : c.args.map a.eval = args) (h : Lin P ops Q S r (a.put o.dst v)) : Lin P ops Q S (o :: r) a := by
  refine lin_call (f := f) (args := args) hw (fun w => ?_) hcl h
  simp only [execOp, ho, resolve, hc, ha, Act.eval, Deferred.ofValue, invoke, Sem.run_bind, Sem.run_pure, Result.andThen_ok]
  have e1 := he (#[] ++ args ++ #[]) w
  simp only [Array.empty_append, Array.append_empty] at e1 ⊢
  exact e1
end
end Go.Proofs.Ytkoenconjldojaa
namespace Go.Proofs.Ytkoenconjldojaa
set_option linter.unusedVariables false

section
variable {P : Program} {ops : Array Oper} {Q : Exit → Act → World → Prop} {S : World → Prop}

/-- In every world that meets S the operation gives v, and leaves the world as it is. -/
def Still (P : Program) (ops : Array Oper) (S : World → Prop) (o : Oper) (v : Value) (a : Act) : Prop :=
  (Region.wanted o (yielded ops a.tmps) = true ∧ ∀ w, S w → ((execOp a.eval o).run P w = .ok (.value v) w ∨ ∃ f args, (execOp a.eval o).run P w = .ok (.enter f args) w ∧ Calls P f args w fun e w' => e = .returned v ∧ w = w')) ∨
  (Region.wanted o (yielded ops a.tmps) = false ∧ v = undef)
theorem Still.of_same {o : Oper} {v : Value} {a a' : Act} (hy : Still P ops S o v a) (he : execOp a'.eval o = execOp a.eval o)
    (hw : Region.wanted o (yielded ops a'.tmps) = Region.wanted o (yielded ops a.tmps)) : Still P ops S o v a' := by
  unfold Still at *
  rw [he, hw]
  exact hy
/-- From this world the operation gives some v and leaves some world that meets S, of which K holds. -/
def Moves (P : Program) (ops : Array Oper) (S : World → Prop) (o : Oper) (a : Act) (w : World) (K : Value → World → Prop) : Prop :=
  Region.wanted o (yielded ops a.tmps) = true ∧ ((∃ v w', ((execOp a.eval o).run P w = .ok (.value v) w' ∨ ((execOp a.eval o).run P w = .ok .skip w' ∧ v = undef)) ∧ S w' ∧ K v w') ∨ ∃ f args w1, (execOp a.eval o).run P w = .ok (.enter f args) w1 ∧ Calls P f args w1 fun e w' => ∃ v, e = .returned v ∧ S w' ∧ K v w')
theorem Moves.of_same {o : Oper} {a a' : Act} {w : World} {K : Value → World → Prop} (hy : Moves P ops S o a w K) (he : execOp a'.eval o = execOp a.eval o)
    (hw : Region.wanted o (yielded ops a'.tmps) = Region.wanted o (yielded ops a.tmps)) : Moves P ops S o a' w K := by
  unfold Moves at *
  rw [he, hw]
  exact hy
theorem Moves.imp {o : Oper} {a : Act} {w : World} {K K' : Value → World → Prop} (h : Moves P ops S o a w K) (hk : ∀ v w', S w' → K v w' → K' v w') : Moves P ops S o a w K' := by
  refine ⟨h.1, ?_⟩
  rcases h.2 with ⟨v, w', h1, h2, h3⟩ | ⟨f, args, w1, h1, h2⟩
  · exact .inl ⟨v, w', h1, h2, hk v w' h2 h3⟩
  · refine .inr ⟨f, args, w1, h1, Calls.mono h2 ?_⟩
    rintro e w' ⟨v, h3, h4, h5⟩
    exact ⟨v, h3, h4, hk v w' h4 h5⟩
theorem Moves.some_way {o : Oper} {a : Act} {w : World} {K : Value → World → Prop} (h : Moves P ops S o a w K) : ∃ v w', S w' ∧ K v w' := by
  rcases h.2 with ⟨v, w', h1, h2, h3⟩ | ⟨f, args, w1, h1, h2⟩
  · exact ⟨v, w', h2, h3⟩
  · obtain ⟨e, w', fr, ⟨v, _, h4, h5⟩, _⟩ := h2 []
    exact ⟨v, w', h4, h5⟩
/-- The operations in the order that is picked; those of eff may change the world. -/
def LinX (P : Program) (ops : Array Oper) (Q : Exit → Act → World → Prop) (S : World → Prop) (eff : List Nat) : List Nat → Act → World → Prop
  | [], a, w => Q .normal a w
  | i :: r, a, w => ∃ o, ops[i]? = some o ∧ (eff.contains i = false → ∃ v, Still P ops S o v a ∧ LinX P ops Q S eff r (a.put o.dst v) w) ∧ (eff.contains i = true → Moves P ops S o a w fun v w' => LinX P ops Q S eff r (a.put o.dst v) w')

theorem LinX.swap {eff : List Nat} {i j : Nat} {x y : Oper} {r : List Nat} {a : Act} {w : World} (hi : ops[i]? = some x) (hj : ops[j]? = some y) (hx : ∀ cs b, x.op ≠ .select cs b) (hy : ∀ cs b, y.op ≠ .select cs b) (hap : x.apart ops y = true) (hq : eff.contains i = false)
    (h : LinX P ops Q S eff (i :: j :: r) a w) : LinX P ops Q S eff (j :: i :: r) a w := by
  obtain ⟨h1, h2, h3⟩ := Oper.apart_spec hap
  have ey : ∀ (v : Value), execOp (a.put x.dst v).eval y = execOp a.eval y := fun v => execOp_put y hy a x.dst v h1
  have wy : ∀ (v : Value), Region.wanted y (yielded ops (a.put x.dst v).tmps) = Region.wanted y (yielded ops a.tmps) := fun v => wanted_put y a x.dst v h1
  have ex : ∀ (v : Value), execOp (a.put y.dst v).eval x = execOp a.eval x := fun v => execOp_put x hx a y.dst v h3
  have wx : ∀ (v : Value), Region.wanted x (yielded ops (a.put y.dst v).tmps) = Region.wanted x (yielded ops a.tmps) := fun v => wanted_put x a y.dst v h3
  obtain ⟨x', hx', q1, _⟩ := h
  obtain rfl : x' = x := Option.some.inj (hx'.symm.trans hi)
  obtain ⟨vx, gx, y', hy', q2, q3⟩ := q1 hq
  obtain rfl : y' = y := Option.some.inj (hy'.symm.trans hj)
  refine ⟨_, hj, fun hf => ?_, fun ht => ?_⟩
  · obtain ⟨vy, gy, h4⟩ := q2 hf
    refine ⟨vy, gy.of_same (ey vx).symm (wy vx).symm, _, hi, fun _ => ⟨vx, gx.of_same (ex vy) (wx vy), ?_⟩, fun h9 => by rw [hq] at h9; cases h9⟩
    rw [← Act.put_comm a vx vy h2]
    exact h4
  · refine (Moves.of_same (q3 ht) (ey vx).symm (wy vx).symm).imp (fun v w' hS' h4 => ?_)
    refine ⟨_, hi, fun _ => ⟨vx, gx.of_same (ex v) (wx v), ?_⟩, fun h9 => by rw [hq] at h9; cases h9⟩
    rw [← Act.put_comm a vx v h2]
    exact h4
theorem LinX.front {eff : List Nat} {j : Nat} {y : Oper} {T2 : List Nat} (hj : ops[j]? = some y) (hy : ∀ cs b, y.op ≠ .select cs b) : ∀ (T1 : List Nat) (a : Act) (w : World), (∀ i ∈ T1, ∃ x, ops[i]? = some x ∧ (∀ cs b, x.op ≠ .select cs b) ∧ x.apart ops y = true ∧ eff.contains i = false) → LinX P ops Q S eff (T1 ++ j :: T2) a w → LinX P ops Q S eff (j :: (T1 ++ T2)) a w
  | [], _, _, _, h => h
  | i :: T1, a, w, hap, h => by
    obtain ⟨x, hi, hx, hxy, hq⟩ := hap i (by simp)
    obtain ⟨x', hx', q1, _⟩ := h
    obtain rfl : x' = x := Option.some.inj (hx'.symm.trans hi)
    obtain ⟨vx, gx, h4⟩ := q1 hq
    have h5 := LinX.front hj hy T1 _ w (fun k hk => hap k (by simp [hk])) h4
    exact LinX.swap hi hj hx hy hxy hq ⟨_, hi, fun _ => ⟨vx, gx, h5⟩, fun h9 => by rw [hq] at h9; cases h9⟩

def waits (ops : Array Oper) (j i : Nat) : Bool := match ops[j]? with
  | none => false
  | some oj => oj.after.any (fun e => Region.binds .any e && e.on == i)
theorem waits_spec {i j : Nat} {oj : Oper} (hj : ops[j]? = some oj) (h : waits ops j i = true) : ∃ e ∈ oj.after, Region.binds .any e = true ∧ e.on = i := by
  unfold waits at h
  simp only [hj] at h
  obtain ⟨e, he, hb⟩ := Array.any_eq_true'.1 h
  simp only [Bool.and_eq_true, beq_iff_eq] at hb
  exact ⟨e, he, hb⟩
def pairApart (ops : Array Oper) (i j : Nat) : Bool := match ops[i]?, ops[j]? with
  | some x, some y => x.apart ops y
  | _, _ => false
def pairsOk (ops : Array Oper) (eff : List Nat) : List Nat → Bool
  | [] => true
  | i :: r => decide (i < ops.size) && (!r.contains i && (r.all (fun j => waits ops j i || (pairApart ops i j && !eff.contains i)) && pairsOk ops eff r))
/-- The order that is picked has all operations, each once; where one does not wait for an earlier one, the two are apart and the earlier one leaves the world as it is. -/
def ordOk (ops : Array Oper) (eff ord : List Nat) : Bool :=
  (Region.noSelect ops && decide (ord.length ≤ ops.size)) && ((List.range ops.size).all (fun j => ord.contains j && match ops[j]? with | none => true | some oj => oj.after.all (fun e => decide (e.on < j))) && pairsOk ops eff ord)
theorem pairsOk_split {eff : List Nat} : ∀ (L1 : List Nat) {j : Nat} {L2 : List Nat}, pairsOk ops eff (L1 ++ j :: L2) = true → j ∉ L1 ∧ j ∉ L2 ∧ ∀ i ∈ L1, i < ops.size ∧ (waits ops j i = true ∨ (pairApart ops i j = true ∧ eff.contains i = false))
  | [], j, L2, h => by
    simp only [List.nil_append, pairsOk, Bool.and_eq_true, Bool.not_eq_true'] at h
    refine ⟨by simp, ?_, by simp⟩
    intro hm
    have := h.2.1
    rw [List.contains_iff_mem.2 hm] at this
    cases this
  | k :: L1, j, L2, h => by
    simp only [List.cons_append, pairsOk, Bool.and_eq_true, Bool.not_eq_true', decide_eq_true_eq] at h
    obtain ⟨h0, h1, h2, h3⟩ := h
    obtain ⟨i1, i2, i3⟩ := pairsOk_split L1 h3
    have hkj : k ≠ j := by
      rintro rfl
      rw [List.contains_iff_mem.2 (by simp)] at h1
      cases h1
    refine ⟨by simp [i1]; exact fun e => hkj e.symm, i2, fun i hi => ?_⟩
    rcases List.mem_cons.1 hi with rfl | hi
    · refine ⟨h0, ?_⟩
      have h4 := List.all_eq_true.1 h2 j (by simp)
      simp only [Bool.or_eq_true, Bool.and_eq_true, Bool.not_eq_true'] at h4
      exact h4
    · exact i3 i hi

/-- What is not listed yet, in the order that is picked. -/
def left (listed : Array Bool) (ord : List Nat) : List Nat := ord.filter fun i => !listed.getD i true
theorem left_set (listed : Array Bool) (j : Nat) : ∀ (is : List Nat), j ∉ is → left (listed.setIfInBounds j true) is = left listed is
  | [], _ => rfl
  | i :: is, h => by
    have hne : j ≠ i := fun e => h (by simp [e])
    have ih := left_set listed j is (fun e => h (by simp [e]))
    unfold left at *
    simp only [List.filter_cons]
    rw [getD_set_ne true hne, ih]

theorem linX_any {eff ord : List Nat} (hok : ordOk ops eff ord = true) : ∀ (fuel : Nat) (listed : Array Bool) (a : Act) (w : World), listed.size = ops.size → (left listed ord).length ≤ fuel → S w → LinX P ops Q S eff (left listed ord) a w → wpAny P .any ops Q fuel listed a w := by
  simp only [ordOk, Bool.and_eq_true] at hok
  obtain ⟨⟨hns, _⟩, hall0, hpairs⟩ := hok
  have hsel : ∀ (j : Nat) (o : Oper), ops[j]? = some o → ∀ cs b, o.op ≠ .select cs b := fun j o ho cs b => Region.noSelect_spec hns j o cs b ho
  have hback : ∀ j oj, ops[j]? = some oj → j ∈ ord ∧ ∀ e ∈ oj.after, e.on < j := by
    intro j oj hoj
    have h1 := List.all_eq_true.1 hall0 j (List.mem_range.2 (Array.getElem?_eq_some_iff.1 hoj).1)
    simp only [hoj, Bool.and_eq_true, Array.all_eq_true_iff_forall_mem, decide_eq_true_eq] at h1
    exact ⟨List.contains_iff_mem.1 h1.1, h1.2⟩
  have hnil : ∀ listed : Array Bool, listed.size = ops.size → Region.ready .any ops listed = [] → left listed ord = [] := by
    intro listed hsz hr
    have key : ∀ j, listed.getD j true = true := by
      intro j
      induction j using Nat.strongRecOn with
      | ind j ih =>
        cases hb : listed.getD j true with
        | true => rfl
        | false =>
          have hj : j < ops.size := by
            rcases Nat.lt_or_ge j listed.size with h' | h'
            · omega
            · simp [Array.getElem?_eq_none h'] at hb
          have hoj : ops[j]? = some ops[j] := Array.getElem?_eq_getElem hj
          have hm : j ∈ Region.ready .any ops listed := mem_ready.2 ⟨hb, _, hoj, fun e he _ => by
            have hlt := (hback j _ hoj).2 e he
            have h9 := ih e.on hlt
            have h8 : e.on < listed.size := by omega
            simp [h8] at h9 ⊢
            exact h9⟩
          rw [hr] at hm
          cases hm
    unfold left
    rw [List.filter_eq_nil_iff]
    intro i _
    rw [key i]
    simp
  have hpick : ∀ (listed : Array Bool) (j : Nat), listed.size = ops.size → j ∈ Region.ready .any ops listed → ∃ oj T1 T2, ops[j]? = some oj ∧ left listed ord = T1 ++ j :: T2 ∧ left (listed.setIfInBounds j true) ord = T1 ++ T2 ∧ ∀ i ∈ T1, ∃ x, ops[i]? = some x ∧ (∀ cs b, x.op ≠ .select cs b) ∧ x.apart ops oj = true ∧ eff.contains i = false := by
    intro listed j hsz hj
    obtain ⟨hun, oj, hoj, hall⟩ := mem_ready.1 hj
    obtain ⟨L1, L2, hord⟩ := List.append_of_mem (hback j oj hoj).1
    rw [hord] at hpairs
    obtain ⟨hn1, hn2, hp⟩ := pairsOk_split L1 hpairs
    have hlt : j < listed.size := by have := (Array.getElem?_eq_some_iff.1 hoj).1; omega
    refine ⟨oj, left listed L1, left listed L2, hoj, ?_, ?_, ?_⟩
    · rw [hord]
      unfold left
      rw [List.filter_append, List.filter_cons, hun]
      simp
    · have e : left (listed.setIfInBounds j true) (j :: L2) = left (listed.setIfInBounds j true) L2 := by
        unfold left
        rw [List.filter_cons]
        simp [hlt]
      have e2 : left (listed.setIfInBounds j true) (L1 ++ j :: L2) = left (listed.setIfInBounds j true) L1 ++ left (listed.setIfInBounds j true) (j :: L2) := by simp [left]
      rw [hord, e2, e, left_set _ _ _ hn1, left_set _ _ _ hn2]
    · intro i hi
      have hi1 := List.mem_filter.1 hi
      obtain ⟨hil, hc⟩ := hp i hi1.1
      have hui : listed.getD i true = false := by simpa using hi1.2
      have hoi : ops[i]? = some ops[i] := Array.getElem?_eq_getElem hil
      rcases hc with h9 | h9
      · obtain ⟨e, he, hb, rfl⟩ := waits_spec hoj h9
        have h8 := hall e he hb
        have h7 : e.on < listed.size := by omega
        simp [h7] at h8 hui
        rw [hui] at h8
        cases h8
      · refine ⟨_, hoi, hsel i _ hoi, ?_, h9.2⟩
        have h7 := h9.1
        unfold pairApart at h7
        simp only [hoi, hoj] at h7
        exact h7
  intro fuel
  induction fuel with
  | zero =>
    intro listed a w hsz hlen hS hL
    have h0 : left listed ord = [] := List.length_eq_zero_iff.1 (by omega)
    rw [h0] at hL
    refine ⟨?_, hL⟩
    refine List.eq_nil_iff_forall_not_mem.2 (fun j hj => ?_)
    obtain ⟨oj, T1, T2, _, h1, _⟩ := hpick listed j hsz hj
    rw [h0] at h1
    simp at h1
  | succ fuel ih =>
    intro listed a w hsz hlen hS hL
    refine ⟨fun hr => ?_, fun j hj => ?_⟩
    · rw [hnil listed hsz hr] at hL
      exact hL
    · obtain ⟨oj, T1, T2, hoj, h1, h2, h3⟩ := hpick listed j hsz hj
      rw [h1] at hL hlen
      obtain ⟨oj', hoj', q1, q2⟩ := LinX.front hoj (hsel j oj hoj) T1 a w h3 hL
      obtain rfl : oj' = oj := Option.some.inj (hoj'.symm.trans hoj)
      have hnext : ∀ a' w', S w' → LinX P ops Q S eff (T1 ++ T2) a' w' → wpAny P .any ops Q fuel (listed.setIfInBounds j true) a' w' := fun a' w' hS' h4 => by
        refine ih (listed.setIfInBounds j true) a' w' (by simp [hsz]) ?_ hS' (by rw [h2]; exact h4)
        rw [h2]
        simp at hlen ⊢
        omega
      unfold wpOp
      simp only [hoj]
      cases hv : eff.contains j with
      | false =>
        obtain ⟨v, g, h5⟩ := q1 hv
        rcases g with ⟨hw, hy⟩ | ⟨hw, rfl⟩
        · simp only [hw, if_true]
          refine .inl ?_
          unfold Oper.wp
          rcases hy w hS with h6 | ⟨f, args, h6, h7⟩
          · rw [h6]
            exact hnext _ _ hS h5
          · rw [h6]
            refine Calls.mono h7 ?_
            rintro e w' ⟨rfl, rfl⟩
            exact hnext _ _ hS h5
        · simp only [hw, Bool.false_eq_true, if_false]
          exact hnext _ _ hS h5
      | true =>
        obtain ⟨hw, hm⟩ := q2 hv
        simp only [hw, if_true]
        refine .inl ?_
        unfold Oper.wp
        rcases hm with ⟨v, w', h6 | ⟨h6, rfl⟩, h7, h8⟩ | ⟨f, args, w1, h6, h7⟩
        · rw [h6]
          exact hnext _ _ h7 h8
        · rw [h6]
          exact hnext _ _ h7 h8
        · rw [h6]
          refine Calls.mono h7 ?_
          rintro e w' ⟨v, rfl, h8, h9⟩
          exact hnext _ _ h8 h9

/-- THE BEGINNING: a region that draws its order, walked in the order that is picked; those of eff may change the world. -/
theorem wp_region_linX {id : Nat} {a : Act} {w : World} (S : World → Prop) (eff ord : List Nat) (hm : P.follows .mixedOrders = true) (hok : ordOk ops eff ord = true) (hS : S w.drew) (h : LinX P ops Q S eff ord a w.drew) : (Code.region id ops true).wp P Q a w := by
  refine wp_region_any hm ?_
  simp only [ordOk, Bool.and_eq_true] at hok
  have hlt : ∀ i ∈ ord, i < ops.size := by
    intro i hi
    obtain ⟨L1, L2, hord⟩ := List.append_of_mem hi
    have h3 := hok.2.2
    rw [hord] at h3
    have : ∀ (L1 : List Nat), pairsOk ops eff (L1 ++ i :: L2) = true → i < ops.size := by
      intro L1
      induction L1 with
      | nil => intro h; simp only [List.nil_append, pairsOk, Bool.and_eq_true, decide_eq_true_eq] at h; exact h.1
      | cons k L1 ih => intro h; simp only [List.cons_append, pairsOk, Bool.and_eq_true] at h; exact ih h.2.2.2
    exact this L1 h3
  have hu : left (Array.replicate ops.size false) ord = ord := by
    unfold left
    rw [List.filter_eq_self]
    intro i hi
    have := hlt i hi
    simp [this]
  refine linX_any (S := S) (eff := eff) (ord := ord) (by simp only [ordOk, Bool.and_eq_true]; exact hok) _ _ _ _ (by simp) ?_ hS ?_
  · rw [hu]
    simpa using hok.1.2
  · rw [hu]; exact h

theorem linX_nil {eff : List Nat} {a : Act} {w : World} (h : Q .normal a w) : LinX P ops Q S eff [] a w := h
/-- An operation that gives its value in every world that meets S, and leaves the world as it is. -/
theorem linX_op {eff : List Nat} {i : Nat} {o : Oper} {r : List Nat} {a : Act} {w : World} {v : Value} (ho : ops[i]? = some o) (he : eff.contains i = false) (hw : Region.wanted o (yielded ops a.tmps) = true) (hy : ∀ w, S w → (execOp a.eval o).run P w = .ok (.value v) w) (h : LinX P ops Q S eff r (a.put o.dst v) w) : LinX P ops Q S eff (i :: r) a w :=
  ⟨o, ho, fun _ => ⟨v, .inl ⟨hw, fun w hS => .inl (hy w hS)⟩, h⟩, fun h9 => by rw [he] at h9; cases h9⟩
theorem linX_off {eff : List Nat} {i : Nat} {o : Oper} {r : List Nat} {a : Act} {w : World} (ho : ops[i]? = some o) (he : eff.contains i = false) (hw : Region.wanted o (yielded ops a.tmps) = false) (h : LinX P ops Q S eff r (a.put o.dst undef) w) : LinX P ops Q S eff (i :: r) a w :=
  ⟨o, ho, fun _ => ⟨undef, .inr ⟨hw, rfl⟩, h⟩, fun h9 => by rw [he] at h9; cases h9⟩
theorem linX_fn {eff : List Nat} {i : Nat} {o : Oper} {r : List Nat} {a : Act} {w : World} {v : Value} {f : Nat} {c : Call} {args : Array Value} (hi : ops[i]? = some o) (he : eff.contains i = false) (hw : Region.wanted o (yielded ops a.tmps) = true) (ho : o.op = .call c) (hc : c.callee = .value (.func f)) (hen : ∀ args w, (callFunc f args).run P w = .ok (.enter f args) w)
    (hcl : ∀ w, S w → Calls P f args w fun e w' => e = .returned v ∧ w = w') (ha : c.args.map a.eval = args) (h : LinX P ops Q S eff r (a.put o.dst v) w) : LinX P ops Q S eff (i :: r) a w := by
  refine ⟨o, hi, fun _ => ⟨v, .inl ⟨hw, fun w hS => .inr ⟨f, args, ?_, hcl w hS⟩⟩, h⟩, fun h9 => by rw [he] at h9; cases h9⟩
  simp only [execOp, ho, resolve, hc, ha, Act.eval, Deferred.ofValue, invoke, Sem.run_bind, Sem.run_pure, Result.andThen_ok]
  have e1 := hen (#[] ++ args ++ #[]) w
  simp only [Array.empty_append, Array.append_empty] at e1 ⊢
  exact e1
/-- An operation that changes the world. -/
theorem linX_do {eff : List Nat} {i : Nat} {o : Oper} {r : List Nat} {a : Act} {w w' : World} {v : Value} (ho : ops[i]? = some o) (he : eff.contains i = true) (hw : Region.wanted o (yielded ops a.tmps) = true) (hy : (execOp a.eval o).run P w = .ok (.value v) w') (hS : S w') (h : LinX P ops Q S eff r (a.put o.dst v) w') : LinX P ops Q S eff (i :: r) a w :=
  ⟨o, ho, fun h9 => (by rw [he] at h9; cases h9), fun _ => ⟨hw, .inl ⟨v, w', .inl hy, hS, h⟩⟩⟩
/-- A store. -/
theorem linX_store {eff : List Nat} {i : Nat} {o : Oper} {r : List Nat} {a : Act} {w w' : World} (ho : ops[i]? = some o) (he : eff.contains i = true) (hw : Region.wanted o (yielded ops a.tmps) = true) (hy : (execOp a.eval o).run P w = .ok .skip w') (hS : S w') (h : LinX P ops Q S eff r (a.put o.dst undef) w') : LinX P ops Q S eff (i :: r) a w :=
  ⟨o, ho, fun h9 => (by rw [he] at h9; cases h9), fun _ => ⟨hw, .inl ⟨undef, w', .inr ⟨hy, rfl⟩, hS, h⟩⟩⟩
/-- A call that changes the world. -/
theorem linX_call {eff : List Nat} {i : Nat} {o : Oper} {r : List Nat} {a : Act} {w : World} {f : Nat} {c : Call} {args : Array Value} (hi : ops[i]? = some o) (he : eff.contains i = true) (hw : Region.wanted o (yielded ops a.tmps) = true) (ho : o.op = .call c) (hc : c.callee = .value (.func f)) (hen : ∀ args w, (callFunc f args).run P w = .ok (.enter f args) w) (ha : c.args.map a.eval = args)
    (h : Calls P f args w fun e w' => ∃ v, e = .returned v ∧ S w' ∧ LinX P ops Q S eff r (a.put o.dst v) w') : LinX P ops Q S eff (i :: r) a w := by
  refine ⟨o, hi, fun h9 => (by rw [he] at h9; cases h9), fun _ => ⟨hw, .inr ⟨f, args, w, ?_, h⟩⟩⟩
  simp only [execOp, ho, resolve, hc, ha, Act.eval, Deferred.ofValue, invoke, Sem.run_bind, Sem.run_pure, Result.andThen_ok]
  have e1 := hen (#[] ++ args ++ #[]) w
  simp only [Array.empty_append, Array.append_empty] at e1 ⊢
  exact e1
end
end Go.Proofs.Ytkoenconjldojaa
namespace Go.Proofs.Ytkoenconjldojaa
def layC (o : Nat) (vs cur : List Value) : List Value := cur.take o ++ vs ++ cur.drop (o + vs.length)
end Go.Proofs.Ytkoenconjldojaa
namespace Go.Proofs.Ytkoenconjldojaa
open Go.RowKit Go.Shelf
set_option linter.unusedVariables false
/-- What lies in a block is loaded from it in every later world. -/
theorem Blk.later {w w' : World} {g : Nat} {t : TypeId} {cs : Array Value} (h : Blk w g t cs) (k : Below w.heap.size w w') : Blk w' g t cs := h.kept (Kept.of_below [] k) (by simp)
theorem ad_a {W : World} {g : Nat} {a : Ad} (h : Blk W g 57 a.cs) : ∀ w', Below W.heap.size W w' → (loadSem 57 (.pointer (some ⟨g, 0, none⟩))).run Try.prog w' = .ok (.agg a.cs) w' :=
  fun w' k => loadRes_of (o := 0) (h.later k) (fun q _ => by rw [Nat.zero_add]) _ Try.underlying57 rfl (s_ad a)
theorem ad_b {W : World} {g : Nat} {a : Ad} (h : Blk W g 57 a.cs) : ∀ w', Below W.heap.size W w' → (loadSem 55 (.pointer (some ⟨g, 1, none⟩))).run Try.prog w' = .ok (.agg a.b.cs) w' :=
  fun w' k => loadRes_of (o := 1) (h.later k) (fun q _ => a.c1 q) _ Try.underlying55 rfl (s_b16 a.b)
theorem ad_v {W : World} {g : Nat} {a : Ad} (h : Blk W g 57 a.cs) : ∀ w', Below W.heap.size W w' → w'.cell? ⟨g, 0, none⟩ = some (.int .i64 a.v) :=
  fun w' k => ((h.later k).cell 0).trans a.c0
theorem px_p {W : World} {g : Nat} {p : Px} (h : Blk W g 59 p.cs) : ∀ w', Below W.heap.size W w' → (loadSem 59 (.pointer (some ⟨g, 0, none⟩))).run Try.prog w' = .ok (.agg p.cs) w' :=
  fun w' k => loadRes_of (o := 0) (h.later k) (fun q _ => by rw [Nat.zero_add]) _ Try.underlying59 rfl (s_px p)
theorem px_a {W : World} {g : Nat} {p : Px} (h : Blk W g 59 p.cs) : ∀ w', Below W.heap.size W w' → (loadSem 57 (.pointer (some ⟨g, 0, none⟩))).run Try.prog w' = .ok (.agg p.a.cs) w' :=
  fun w' k => loadRes_of (o := 0) (h.later k) (fun q hq => by rw [Nat.zero_add]; exact p.ca q (by rw [Ad.size] at hq; exact hq)) _ Try.underlying57 rfl (s_ad p.a)
theorem px_b {W : World} {g : Nat} {p : Px} (h : Blk W g 59 p.cs) : ∀ w', Below W.heap.size W w' → (loadSem 55 (.pointer (some ⟨g, 1, none⟩))).run Try.prog w' = .ok (.agg p.a.b.cs) w' :=
  fun w' k => loadRes_of (o := 1) (h.later k) (fun q hq => p.cb q (by rw [B16.size] at hq; exact hq)) _ Try.underlying55 rfl (s_b16 p.a.b)
theorem px_v {W : World} {g : Nat} {p : Px} (h : Blk W g 59 p.cs) : ∀ w', Below W.heap.size W w' → w'.cell? ⟨g, 0, none⟩ = some (.int .i64 p.a.v) :=
  fun w' k => ((h.later k).cell 0).trans ((p.ca 0 (by omega)).trans p.a.c0)
theorem px_n {W : World} {g : Nat} {p : Px} (h : Blk W g 59 p.cs) : ∀ w', Below W.heap.size W w' → w'.cell? ⟨g, 17, none⟩ = some (.int .i64 p.n) :=
  fun w' k => ((h.later k).cell 17).trans p.cn
theorem bel_drew_all (W : World) : ∀ w', Below W.heap.size W w' → Below W.heap.size W w'.drew := fun w' h => bel_drew h

attribute [local go_sem ↓] load_b16_rule store_b16_rule load_ad_rule store_ad_rule load_px_rule store_px_rule eq_b16_rule eq_ad_rule eq_px_rule

end Go.Proofs.Ytkoenconjldojaa
namespace Go.Proofs.Ytkoenconjldojaa
open Go.RowKit Go.Shelf
set_option linter.unusedVariables false
attribute [local go_sem ↓] load_b16_rule store_b16_rule load_ad_rule store_ad_rule load_px_rule store_px_rule eq_b16_rule eq_ad_rule eq_px_rule

theorem btI_on {b : B16} {i : Nat} (h : bt b i = true) : btI b i = 1 := by unfold btI; rw [h]; rfl
theorem btI_off {b : B16} {i : Nat} (h : bt b i = false) : btI b i = 0 := by unfold btI; rw [h]; rfl
theorem clear_not {b : B16} {n m : Nat} (h1 : n ≤ m) (h2 : m < 128) (h : bt b m = true) : ¬ clear b n := fun hc => by
  have := hc m h1 h2
  rw [h] at this
  cases this

end Go.Proofs.Ytkoenconjldojaa
