/-
  A region that draws its order, walked once in the order of the text: where each operation gives its value in every world that meets S and leaves a world that meets S. Nothing here is a statement of the document.
-/
import Derived.Test.YtfnagfmbhcaphaaDoorRows
import Derived.WalkKit
import Derived.Shelf.Abstract
namespace Go.Proofs.YtfnagfmbhcaphaaDoor
set_option linter.unusedVariables false

section
variable {P : Program} {ops : Array Oper} {Q : Exit → Act → World → Prop} {S : World → Prop}

/-- In every world that meets S the operation gives v, and leaves a world that meets S. -/
def GivesIf (P : Program) (ops : Array Oper) (S : World → Prop) (o : Oper) (v : Value) (a : Act) : Prop :=
  (Region.wanted o (yielded ops a.tmps) = true ∧ ∀ w, S w → ((∃ w', (execOp a.eval o).run P w = .ok (.value v) w' ∧ S w') ∨ ∃ f args, (execOp a.eval o).run P w = .ok (.enter f args) w ∧ Calls P f args w fun e w' => e = .returned v ∧ S w')) ∨
  (Region.wanted o (yielded ops a.tmps) = false ∧ v = undef)
theorem GivesIf.of_same {o : Oper} {v : Value} {a a' : Act} (hy : GivesIf P ops S o v a) (he : execOp a'.eval o = execOp a.eval o)
    (hw : Region.wanted o (yielded ops a'.tmps) = Region.wanted o (yielded ops a.tmps)) : GivesIf P ops S o v a' := by
  unfold GivesIf at *
  rw [he, hw]
  exact hy
theorem GivesIf.wpOp {i : Nat} {o : Oper} {v : Value} {a : Act} (hi : ops[i]? = some o) (hy : GivesIf P ops S o v a) {K : Act → World → Prop} {w : World} (hS : S w) (h : ∀ w', S w' → K (a.put o.dst v) w') : wpOp P ops Q i K a w := by
  unfold Go.wpOp
  simp only [hi]
  rcases hy with ⟨hw, hv⟩ | ⟨hw, rfl⟩
  · simp only [hw, if_true]
    refine .inl ?_
    unfold Oper.wp
    rcases hv w hS with ⟨w', h1, h2⟩ | ⟨f, args, h1, h2⟩
    · rw [h1]
      exact h w' h2
    · rw [h1]
      refine Calls.mono h2 ?_
      rintro e w' ⟨rfl, h3⟩
      exact h w' h3
  · simp only [hw, Bool.false_eq_true, if_false]; exact h w hS
/-- The operations, one behind the other in the order of the text. -/
def Lin (P : Program) (ops : Array Oper) (Q : Exit → Act → World → Prop) (S : World → Prop) : List Oper → Act → Prop
  | [], a => ∀ w, S w → Q .normal a w
  | o :: r, a => ∃ v, GivesIf P ops S o v a ∧ Lin P ops Q S r (a.put o.dst v)

theorem Lin.swap {x y : Oper} {r : List Oper} {a : Act} (hx : ∀ cs b, x.op ≠ .select cs b) (hy : ∀ cs b, y.op ≠ .select cs b) (hap : x.apart ops y = true) (h : Lin P ops Q S (x :: y :: r) a) : Lin P ops Q S (y :: x :: r) a := by
  obtain ⟨h1, h2, h3⟩ := Oper.apart_spec hap
  obtain ⟨vx, gx, vy, gy, h⟩ := h
  refine ⟨vy, gy.of_same ?_ ?_, vx, gx.of_same (execOp_put x hx a y.dst vy h3) (wanted_put x a y.dst vy h3), ?_⟩
  · exact (execOp_put y hy a x.dst vx h1).symm
  · exact (wanted_put y a x.dst vx h1).symm
  · rw [← Act.put_comm a vx vy h2]
    exact h
theorem Lin.front {o : Oper} {T2 : List Oper} (ho : ∀ cs b, o.op ≠ .select cs b) : ∀ (T1 : List Oper) (a : Act), (∀ x ∈ T1, (∀ cs b, x.op ≠ .select cs b) ∧ x.apart ops o = true) → Lin P ops Q S (T1 ++ o :: T2) a → Lin P ops Q S (o :: (T1 ++ T2)) a
  | [], _, _, h => h
  | x :: T1, a, hap, h => by
    obtain ⟨v, g, h⟩ := h
    have h2 := Lin.front ho T1 _ (fun y hy => hap y (by simp [hy])) h
    exact Lin.swap (hap x (by simp)).1 ho (hap x (by simp)).2 ⟨v, g, h2⟩

/-- What is not listed yet, in the order of the text. -/
def unl (ops : Array Oper) (listed : Array Bool) (is : List Nat) : List Oper := is.filterMap fun i => if listed.getD i true then none else ops[i]?
/-- Each operation waits for earlier ones alone, and each earlier one that it does not wait for is apart from it. -/
def linOk (ops : Array Oper) : Bool :=
  Region.noSelect ops && (List.range ops.size).all fun j => match ops[j]? with
    | none => true
    | some oj => oj.after.all (fun e => decide (e.on < j)) && (List.range j).all fun i => match ops[i]? with
      | none => true
      | some oi => oj.after.any (fun e => Region.binds .any e && e.on == i) || oi.apart ops oj
theorem linOk_spec (h : linOk ops = true) (j : Nat) (oj : Oper) (hj : ops[j]? = some oj) :
    (∀ e ∈ oj.after, e.on < j) ∧ ∀ i oi, i < j → ops[i]? = some oi → (∃ e ∈ oj.after, Region.binds .any e = true ∧ e.on = i) ∨ oi.apart ops oj = true := by
  simp only [linOk, Bool.and_eq_true, List.all_eq_true, List.mem_range] at h
  have h1 := h.2 j (Array.getElem?_eq_some_iff.1 hj).1
  simp only [hj, Bool.and_eq_true, List.all_eq_true, List.mem_range, Array.all_eq_true_iff_forall_mem, decide_eq_true_eq] at h1
  refine ⟨h1.1, fun i oi hi ho => ?_⟩
  have h2 := h1.2 i hi
  simp only [ho, Bool.or_eq_true] at h2
  rcases h2 with h2 | h2
  · obtain ⟨e, he, hb⟩ := Array.any_eq_true'.1 h2
    simp only [Bool.and_eq_true, beq_iff_eq] at hb
    exact .inl ⟨e, he, hb⟩
  · exact .inr h2
theorem unl_set (listed : Array Bool) (j : Nat) : ∀ (is : List Nat), j ∉ is → unl ops (listed.setIfInBounds j true) is = unl ops listed is
  | [], _ => rfl
  | i :: is, h => by
    have hne : j ≠ i := fun e => h (by simp [e])
    have ih := unl_set listed j is (fun e => h (by simp [e]))
    unfold unl at *
    simp only [List.filterMap_cons]
    rw [getD_set_ne true hne, ih]
theorem unl_app (listed : Array Bool) (is js : List Nat) : unl ops listed (is ++ js) = unl ops listed is ++ unl ops listed js := by simp [unl]
theorem unl_mem {listed : Array Bool} {is : List Nat} {x : Oper} (h : x ∈ unl ops listed is) : ∃ i ∈ is, listed.getD i true = false ∧ ops[i]? = some x := by
  obtain ⟨i, hi, h⟩ := List.mem_filterMap.1 h
  refine ⟨i, hi, ?_⟩
  cases hb : listed.getD i true with
  | true => rw [hb] at h; simp at h
  | false => rw [hb] at h; simpa using h
theorem range_split {j n : Nat} (h : j < n) : List.range n = List.range j ++ j :: List.range' (j + 1) (n - j - 1) := by
  apply List.ext_getElem?
  intro k
  rw [List.getElem?_append, List.length_range]
  by_cases h1 : k < j
  · rw [if_pos h1, List.getElem?_range h1, List.getElem?_range (by omega)]
  · rw [if_neg h1]
    by_cases h2 : k = j
    · subst h2
      rw [Nat.sub_self, List.getElem?_cons_zero, List.getElem?_range h]
    · obtain ⟨q, rfl⟩ : ∃ q, k = j + 1 + q := ⟨k - (j + 1), by omega⟩
      rw [show j + 1 + q - j = q + 1 from by omega, List.getElem?_cons_succ]
      by_cases h3 : j + 1 + q < n
      · rw [List.getElem?_range h3, List.getElem?_range' (by omega)]
        simp
      · rw [List.getElem?_eq_none (by simp; omega), List.getElem?_eq_none (by simp; omega)]

theorem lin_any (hok : linOk ops = true) : ∀ (fuel : Nat) (listed : Array Bool) (a : Act) (w : World), listed.size = ops.size → (unl ops listed (List.range ops.size)).length ≤ fuel → S w → Lin P ops Q S (unl ops listed (List.range ops.size)) a → wpAny P .any ops Q fuel listed a w := by
  have hsel : ∀ (j : Nat) (o : Oper), ops[j]? = some o → ∀ cs b, o.op ≠ .select cs b := fun j o ho cs b => Region.noSelect_spec (by simp only [linOk, Bool.and_eq_true] at hok; exact hok.1) j o cs b ho
  have hnil : ∀ listed : Array Bool, listed.size = ops.size → Region.ready .any ops listed = [] → unl ops listed (List.range ops.size) = [] := by
    intro listed hsz hr
    have key : ∀ j, j < ops.size → listed.getD j true = true := by
      intro j
      induction j using Nat.strongRecOn with
      | ind j ih =>
        intro hj
        cases hb : listed.getD j true with
        | true => rfl
        | false =>
          have hoj : ops[j]? = some ops[j] := Array.getElem?_eq_getElem hj
          have hm : j ∈ Region.ready .any ops listed := mem_ready.2 ⟨hb, _, hoj, fun e he _ => by
            have hlt := (linOk_spec hok j _ hoj).1 e he
            have h9 := ih e.on hlt (by omega)
            have h8 : e.on < listed.size := by omega
            simp [h8] at h9 ⊢
            exact h9⟩
          rw [hr] at hm
          cases hm
    unfold unl
    rw [List.filterMap_eq_nil_iff]
    intro i hi
    rw [key i (List.mem_range.1 hi)]
    simp
  have hpick : ∀ (listed : Array Bool) (j : Nat), listed.size = ops.size → j ∈ Region.ready .any ops listed → ∃ oj T1 T2, ops[j]? = some oj ∧ unl ops listed (List.range ops.size) = T1 ++ oj :: T2 ∧ unl ops (listed.setIfInBounds j true) (List.range ops.size) = T1 ++ T2 ∧ ∀ x ∈ T1, (∀ cs b, x.op ≠ .select cs b) ∧ x.apart ops oj = true := by
    intro listed j hsz hj
    obtain ⟨hun, oj, hoj, hall⟩ := mem_ready.1 hj
    have hlt : j < ops.size := (Array.getElem?_eq_some_iff.1 hoj).1
    have hn1 : j ∉ List.range j := by simp
    have hn2 : j ∉ List.range' (j + 1) (ops.size - j - 1) := fun hm => by have := List.mem_range'_1.1 hm; omega
    refine ⟨oj, unl ops listed (List.range j), unl ops listed (List.range' (j + 1) (ops.size - j - 1)), hoj, ?_, ?_, ?_⟩
    · rw [range_split hlt, unl_app]
      congr 1
      unfold unl
      rw [List.filterMap_cons, hun, hoj]
      simp
    · rw [range_split hlt, unl_app, unl_set _ _ _ hn1]
      congr 1
      have e : unl ops (listed.setIfInBounds j true) (j :: List.range' (j + 1) (ops.size - j - 1)) = unl ops (listed.setIfInBounds j true) (List.range' (j + 1) (ops.size - j - 1)) := by
        have hs : (listed.setIfInBounds j true).getD j true = true := by
          have : j < listed.size := by omega
          simp [this]
        unfold unl
        rw [List.filterMap_cons, hs]
        simp
      rw [e, unl_set _ _ _ hn2]
    · intro x hx
      obtain ⟨i, hi, hui, hxi⟩ := unl_mem hx
      have hij := List.mem_range.1 hi
      refine ⟨hsel i x hxi, ?_⟩
      rcases (linOk_spec hok j oj hoj).2 i x hij hxi with ⟨e, he, hb, rfl⟩ | h9
      · have h8 := hall e he hb
        have h7 : e.on < listed.size := by omega
        simp [h7] at h8 hui
        rw [hui] at h8
        cases h8
      · exact h9
  intro fuel
  induction fuel with
  | zero =>
    intro listed a w hsz hlen hS hL
    have h0 : unl ops listed (List.range ops.size) = [] := List.length_eq_zero_iff.1 (by omega)
    rw [h0] at hL
    refine ⟨?_, hL w hS⟩
    refine List.eq_nil_iff_forall_not_mem.2 (fun j hj => ?_)
    obtain ⟨oj, T1, T2, _, h1, _⟩ := hpick listed j hsz hj
    rw [h0] at h1
    simp at h1
  | succ fuel ih =>
    intro listed a w hsz hlen hS hL
    refine ⟨fun hr => ?_, fun j hj => ?_⟩
    · rw [hnil listed hsz hr] at hL
      exact hL w hS
    · obtain ⟨oj, T1, T2, hoj, h1, h2, h3⟩ := hpick listed j hsz hj
      rw [h1] at hL hlen
      obtain ⟨v, g, hL2⟩ := Lin.front (hsel j oj hoj) T1 a h3 hL
      refine g.wpOp hoj hS (fun w' hS' => ih (listed.setIfInBounds j true) _ w' (by simp [hsz]) ?_ hS' ?_)
      · rw [h2]
        simp at hlen ⊢
        omega
      · rw [h2]
        exact hL2

theorem fm_congr {α β : Type} {f g : α → Option β} : ∀ (l : List α), (∀ i ∈ l, f i = g i) → l.filterMap f = l.filterMap g
  | [], _ => rfl
  | x :: l, h => by rw [List.filterMap_cons, List.filterMap_cons, h x (by simp), fm_congr l (fun i hi => h i (by simp [hi]))]
theorem fm_range {α : Type} : ∀ l : List α, (List.range l.length).filterMap (fun i => l[i]?) = l
  | [] => rfl
  | x :: l => by
    rw [List.length_cons, List.range_succ_eq_map, List.filterMap_cons, List.filterMap_map]
    have := fm_range l
    simpa [Function.comp_def] using this
/-- THE BEGINNING: a region that draws its order, walked in the order of the text. -/
theorem wp_region_lin {id : Nat} {l : List Oper} {a : Act} {w : World} (S : World → Prop) (hm : P.follows .mixedOrders = true) (hok : linOk l.toArray = true) (hS : S w.drew) (h : Lin P l.toArray Q S l a) : (Code.region id l.toArray true).wp P Q a w := by
  refine wp_region_any hm ?_
  have hu : unl l.toArray (Array.replicate l.toArray.size false) (List.range l.toArray.size) = l := by
    have h1 : ∀ i ∈ List.range l.toArray.size, (if (Array.replicate l.toArray.size false).getD i true = true then none else l.toArray[i]?) = l[i]? := by
      intro i hi
      have hlt := List.mem_range.1 hi
      simp at hlt
      simp [hlt]
    unfold unl
    rw [fm_congr _ h1]
    exact fm_range l
  refine lin_any hok _ _ _ _ (by simp) ?_ hS ?_
  · rw [hu]; simp
  · rw [hu]; exact h

theorem lin_nil {a : Act} (h : ∀ w, S w → Q .normal a w) : Lin P ops Q S [] a := h
/-- An operation that gives its value in every world that meets S, and leaves the world as it is. -/
theorem lin_op {o : Oper} {r : List Oper} {a : Act} {v : Value} (hw : Region.wanted o (yielded ops a.tmps) = true) (hy : ∀ w, S w → (execOp a.eval o).run P w = .ok (.value v) w) (h : Lin P ops Q S r (a.put o.dst v)) : Lin P ops Q S (o :: r) a :=
  ⟨v, .inl ⟨hw, fun w hS => .inl ⟨w, hy w hS, hS⟩⟩, h⟩
/-- An operation whose guard is off. -/
theorem lin_off {o : Oper} {r : List Oper} {a : Act} (hw : Region.wanted o (yielded ops a.tmps) = false) (h : Lin P ops Q S r (a.put o.dst undef)) : Lin P ops Q S (o :: r) a :=
  ⟨undef, .inr ⟨hw, rfl⟩, h⟩
/-- A call that gives its value in every world that meets S, and leaves one that meets S. -/
theorem lin_call {o : Oper} {r : List Oper} {a : Act} {v : Value} {f : Nat} {args : Array Value} (hw : Region.wanted o (yielded ops a.tmps) = true) (hy : ∀ w, (execOp a.eval o).run P w = .ok (.enter f args) w) (hc : ∀ w, S w → Calls P f args w fun e w' => e = .returned v ∧ S w') (h : Lin P ops Q S r (a.put o.dst v)) : Lin P ops Q S (o :: r) a :=
  ⟨v, .inl ⟨hw, fun w hS => .inr ⟨f, args, hy w, hc w hS⟩⟩, h⟩
/-- A call of a Go function by its number. -/
theorem lin_fn {o : Oper} {r : List Oper} {a : Act} {v : Value} {f : Nat} {c : Call} {args : Array Value} (hw : Region.wanted o (yielded ops a.tmps) = true) (ho : o.op = .call c) (hc : c.callee = .value (.func f)) (he : ∀ args w, (callFunc f args).run P w = .ok (.enter f args) w)
    (hcl : ∀ w, S w → Calls P f args w fun e w' => e = .returned v ∧ S w') (ha : c.args.map a.eval = args) (h : Lin P ops Q S r (a.put o.dst v)) : Lin P ops Q S (o :: r) a := by
  refine lin_call (f := f) (args := args) hw (fun w => ?_) hcl h
  simp only [execOp, ho, resolve, hc, ha, Act.eval, Deferred.ofValue, invoke, Sem.run_bind, Sem.run_pure, Result.andThen_ok]
  have e1 := he (#[] ++ args ++ #[]) w
  simp only [Array.empty_append, Array.append_empty] at e1 ⊢
  exact e1
end
end Go.Proofs.YtfnagfmbhcaphaaDoor
