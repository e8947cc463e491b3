/-
  Append of a log, done or refused for want of room. Nothing here is a statement of the document.
-/
import Derived.Test.YtelpihlifdfgoaaLin
namespace Go.Proofs.Ytelpihlifdfgoaa
set_option linter.unusedVariables false

section
variable {P : Program} {ops : Array Oper} {Q : Exit → Act → World → Prop} {S : World → Prop}

/-- In every world that meets S the operation gives v, and leaves the world as it is. -/
def Still (P : Program) (ops : Array Oper) (S : World → Prop) (o : Oper) (v : Value) (a : Act) : Prop :=
  (Region.wanted o (yielded ops a.tmps) = true ∧ ∀ w, S w → ((execOp a.eval o).run P w = .ok (.value v) w ∨ ∃ f args, (execOp a.eval o).run P w = .ok (.enter f args) w ∧ Calls P f args w fun e w' => e = .returned v ∧ w = w')) ∨
  (Region.wanted o (yielded ops a.tmps) = false ∧ v = undef)
theorem Still.of_same {o : Oper} {v : Value} {a a' : Act} (hy : Still P ops S o v a) (he : execOp a'.eval o = execOp a.eval o)
    (hw : Region.wanted o (yielded ops a'.tmps) = Region.wanted o (yielded ops a.tmps)) : Still P ops S o v a' := by
  unfold Still at *
  rw [he, hw]
  exact hy
/-- From this world the operation gives some v and leaves some world that meets S, of which K holds. -/
def Moves (P : Program) (ops : Array Oper) (S : World → Prop) (o : Oper) (a : Act) (w : World) (K : Value → World → Prop) : Prop :=
  Region.wanted o (yielded ops a.tmps) = true ∧ ((∃ v w', ((execOp a.eval o).run P w = .ok (.value v) w' ∨ ((execOp a.eval o).run P w = .ok .skip w' ∧ v = undef)) ∧ S w' ∧ K v w') ∨ ∃ f args w1, (execOp a.eval o).run P w = .ok (.enter f args) w1 ∧ Calls P f args w1 fun e w' => ∃ v, e = .returned v ∧ S w' ∧ K v w')
theorem Moves.of_same {o : Oper} {a a' : Act} {w : World} {K : Value → World → Prop} (hy : Moves P ops S o a w K) (he : execOp a'.eval o = execOp a.eval o)
    (hw : Region.wanted o (yielded ops a'.tmps) = Region.wanted o (yielded ops a.tmps)) : Moves P ops S o a' w K := by
  unfold Moves at *
  rw [he, hw]
  exact hy
theorem Moves.imp {o : Oper} {a : Act} {w : World} {K K' : Value → World → Prop} (h : Moves P ops S o a w K) (hk : ∀ v w', S w' → K v w' → K' v w') : Moves P ops S o a w K' := by
  refine ⟨h.1, ?_⟩
  rcases h.2 with ⟨v, w', h1, h2, h3⟩ | ⟨f, args, w1, h1, h2⟩
  · exact .inl ⟨v, w', h1, h2, hk v w' h2 h3⟩
  · refine .inr ⟨f, args, w1, h1, Calls.mono h2 ?_⟩
    rintro e w' ⟨v, h3, h4, h5⟩
    exact ⟨v, h3, h4, hk v w' h4 h5⟩
theorem Moves.some_way {o : Oper} {a : Act} {w : World} {K : Value → World → Prop} (h : Moves P ops S o a w K) : ∃ v w', S w' ∧ K v w' := by
  rcases h.2 with ⟨v, w', h1, h2, h3⟩ | ⟨f, args, w1, h1, h2⟩
  · exact ⟨v, w', h2, h3⟩
  · obtain ⟨e, w', fr, ⟨v, _, h4, h5⟩, _⟩ := h2 []
    exact ⟨v, w', h4, h5⟩
/-- The operations in the order that is picked; those of eff may change the world. -/
def LinX (P : Program) (ops : Array Oper) (Q : Exit → Act → World → Prop) (S : World → Prop) (eff : List Nat) : List Nat → Act → World → Prop
  | [], a, w => Q .normal a w
  | i :: r, a, w => ∃ o, ops[i]? = some o ∧ (eff.contains i = false → ∃ v, Still P ops S o v a ∧ LinX P ops Q S eff r (a.put o.dst v) w) ∧ (eff.contains i = true → Moves P ops S o a w fun v w' => LinX P ops Q S eff r (a.put o.dst v) w')

theorem LinX.swap {eff : List Nat} {i j : Nat} {x y : Oper} {r : List Nat} {a : Act} {w : World} (hi : ops[i]? = some x) (hj : ops[j]? = some y) (hx : ∀ cs b, x.op ≠ .select cs b) (hy : ∀ cs b, y.op ≠ .select cs b) (hap : x.apart ops y = true) (hq : eff.contains i = false)
    (h : LinX P ops Q S eff (i :: j :: r) a w) : LinX P ops Q S eff (j :: i :: r) a w := by
  obtain ⟨h1, h2, h3⟩ := Oper.apart_spec hap
  have ey : ∀ (v : Value), execOp (a.put x.dst v).eval y = execOp a.eval y := fun v => execOp_put y hy a x.dst v h1
  have wy : ∀ (v : Value), Region.wanted y (yielded ops (a.put x.dst v).tmps) = Region.wanted y (yielded ops a.tmps) := fun v => wanted_put y a x.dst v h1
  have ex : ∀ (v : Value), execOp (a.put y.dst v).eval x = execOp a.eval x := fun v => execOp_put x hx a y.dst v h3
  have wx : ∀ (v : Value), Region.wanted x (yielded ops (a.put y.dst v).tmps) = Region.wanted x (yielded ops a.tmps) := fun v => wanted_put x a y.dst v h3
  obtain ⟨x', hx', q1, _⟩ := h
  obtain rfl : x' = x := Option.some.inj (hx'.symm.trans hi)
  obtain ⟨vx, gx, y', hy', q2, q3⟩ := q1 hq
  obtain rfl : y' = y := Option.some.inj (hy'.symm.trans hj)
  refine ⟨_, hj, fun hf => ?_, fun ht => ?_⟩
  · obtain ⟨vy, gy, h4⟩ := q2 hf
    refine ⟨vy, gy.of_same (ey vx).symm (wy vx).symm, _, hi, fun _ => ⟨vx, gx.of_same (ex vy) (wx vy), ?_⟩, fun h9 => by rw [hq] at h9; cases h9⟩
    rw [← Act.put_comm a vx vy h2]
    exact h4
  · refine (Moves.of_same (q3 ht) (ey vx).symm (wy vx).symm).imp (fun v w' hS' h4 => ?_)
    refine ⟨_, hi, fun _ => ⟨vx, gx.of_same (ex v) (wx v), ?_⟩, fun h9 => by rw [hq] at h9; cases h9⟩
    rw [← Act.put_comm a vx v h2]
    exact h4
theorem LinX.front {eff : List Nat} {j : Nat} {y : Oper} {T2 : List Nat} (hj : ops[j]? = some y) (hy : ∀ cs b, y.op ≠ .select cs b) : ∀ (T1 : List Nat) (a : Act) (w : World), (∀ i ∈ T1, ∃ x, ops[i]? = some x ∧ (∀ cs b, x.op ≠ .select cs b) ∧ x.apart ops y = true ∧ eff.contains i = false) → LinX P ops Q S eff (T1 ++ j :: T2) a w → LinX P ops Q S eff (j :: (T1 ++ T2)) a w
  | [], _, _, _, h => h
  | i :: T1, a, w, hap, h => by
    obtain ⟨x, hi, hx, hxy, hq⟩ := hap i (by simp)
    obtain ⟨x', hx', q1, _⟩ := h
    obtain rfl : x' = x := Option.some.inj (hx'.symm.trans hi)
    obtain ⟨vx, gx, h4⟩ := q1 hq
    have h5 := LinX.front hj hy T1 _ w (fun k hk => hap k (by simp [hk])) h4
    exact LinX.swap hi hj hx hy hxy hq ⟨_, hi, fun _ => ⟨vx, gx, h5⟩, fun h9 => by rw [hq] at h9; cases h9⟩

def waits (ops : Array Oper) (j i : Nat) : Bool := match ops[j]? with
  | none => false
  | some oj => oj.after.any (fun e => Region.binds .any e && e.on == i)
theorem waits_spec {i j : Nat} {oj : Oper} (hj : ops[j]? = some oj) (h : waits ops j i = true) : ∃ e ∈ oj.after, Region.binds .any e = true ∧ e.on = i := by
  unfold waits at h
  simp only [hj] at h
  obtain ⟨e, he, hb⟩ := Array.any_eq_true'.1 h
  simp only [Bool.and_eq_true, beq_iff_eq] at hb
  exact ⟨e, he, hb⟩
def pairApart (ops : Array Oper) (i j : Nat) : Bool := match ops[i]?, ops[j]? with
  | some x, some y => x.apart ops y
  | _, _ => false
def pairsOk (ops : Array Oper) (eff : List Nat) : List Nat → Bool
  | [] => true
  | i :: r => decide (i < ops.size) && (!r.contains i && (r.all (fun j => waits ops j i || (pairApart ops i j && !eff.contains i)) && pairsOk ops eff r))
/-- The order that is picked has all operations, each once; where one does not wait for an earlier one, the two are apart and the earlier one leaves the world as it is. -/
def ordOk (ops : Array Oper) (eff ord : List Nat) : Bool :=
  (Region.noSelect ops && decide (ord.length ≤ ops.size)) && ((List.range ops.size).all (fun j => ord.contains j && match ops[j]? with | none => true | some oj => oj.after.all (fun e => decide (e.on < j))) && pairsOk ops eff ord)
theorem pairsOk_split {eff : List Nat} : ∀ (L1 : List Nat) {j : Nat} {L2 : List Nat}, pairsOk ops eff (L1 ++ j :: L2) = true → j ∉ L1 ∧ j ∉ L2 ∧ ∀ i ∈ L1, i < ops.size ∧ (waits ops j i = true ∨ (pairApart ops i j = true ∧ eff.contains i = false))
  | [], j, L2, h => by
    simp only [List.nil_append, pairsOk, Bool.and_eq_true, Bool.not_eq_true'] at h
    refine ⟨by simp, ?_, by simp⟩
    intro hm
    have := h.2.1
    rw [List.contains_iff_mem.2 hm] at this
    cases this
  | k :: L1, j, L2, h => by
    simp only [List.cons_append, pairsOk, Bool.and_eq_true, Bool.not_eq_true', decide_eq_true_eq] at h
    obtain ⟨h0, h1, h2, h3⟩ := h
    obtain ⟨i1, i2, i3⟩ := pairsOk_split L1 h3
    have hkj : k ≠ j := by
      rintro rfl
      rw [List.contains_iff_mem.2 (by simp)] at h1
      cases h1
    refine ⟨by simp [i1]; exact fun e => hkj e.symm, i2, fun i hi => ?_⟩
    rcases List.mem_cons.1 hi with rfl | hi
    · refine ⟨h0, ?_⟩
      have h4 := List.all_eq_true.1 h2 j (by simp)
      simp only [Bool.or_eq_true, Bool.and_eq_true, Bool.not_eq_true'] at h4
      exact h4
    · exact i3 i hi

/-- What is not listed yet, in the order that is picked. -/
def left (listed : Array Bool) (ord : List Nat) : List Nat := ord.filter fun i => !listed.getD i true
theorem left_set (listed : Array Bool) (j : Nat) : ∀ (is : List Nat), j ∉ is → left (listed.setIfInBounds j true) is = left listed is
  | [], _ => rfl
  | i :: is, h => by
    have hne : j ≠ i := fun e => h (by simp [e])
    have ih := left_set listed j is (fun e => h (by simp [e]))
    unfold left at *
    simp only [List.filter_cons]
    rw [getD_set_ne true hne, ih]

theorem linX_any {eff ord : List Nat} (hok : ordOk ops eff ord = true) : ∀ (fuel : Nat) (listed : Array Bool) (a : Act) (w : World), listed.size = ops.size → (left listed ord).length ≤ fuel → S w → LinX P ops Q S eff (left listed ord) a w → wpAny P .any ops Q fuel listed a w := by
  simp only [ordOk, Bool.and_eq_true] at hok
  obtain ⟨⟨hns, _⟩, hall0, hpairs⟩ := hok
  have hsel : ∀ (j : Nat) (o : Oper), ops[j]? = some o → ∀ cs b, o.op ≠ .select cs b := fun j o ho cs b => Region.noSelect_spec hns j o cs b ho
  have hback : ∀ j oj, ops[j]? = some oj → j ∈ ord ∧ ∀ e ∈ oj.after, e.on < j := by
    intro j oj hoj
    have h1 := List.all_eq_true.1 hall0 j (List.mem_range.2 (Array.getElem?_eq_some_iff.1 hoj).1)
    simp only [hoj, Bool.and_eq_true, Array.all_eq_true_iff_forall_mem, decide_eq_true_eq] at h1
    exact ⟨List.contains_iff_mem.1 h1.1, h1.2⟩
  have hnil : ∀ listed : Array Bool, listed.size = ops.size → Region.ready .any ops listed = [] → left listed ord = [] := by
    intro listed hsz hr
    have key : ∀ j, listed.getD j true = true := by
      intro j
      induction j using Nat.strongRecOn with
      | ind j ih =>
        cases hb : listed.getD j true with
        | true => rfl
        | false =>
          have hj : j < ops.size := by
            rcases Nat.lt_or_ge j listed.size with h' | h'
            · omega
            · simp [Array.getElem?_eq_none h'] at hb
          have hoj : ops[j]? = some ops[j] := Array.getElem?_eq_getElem hj
          have hm : j ∈ Region.ready .any ops listed := mem_ready.2 ⟨hb, _, hoj, fun e he _ => by
            have hlt := (hback j _ hoj).2 e he
            have h9 := ih e.on hlt
            have h8 : e.on < listed.size := by omega
            simp [h8] at h9 ⊢
            exact h9⟩
          rw [hr] at hm
          cases hm
    unfold left
    rw [List.filter_eq_nil_iff]
    intro i _
    rw [key i]
    simp
  have hpick : ∀ (listed : Array Bool) (j : Nat), listed.size = ops.size → j ∈ Region.ready .any ops listed → ∃ oj T1 T2, ops[j]? = some oj ∧ left listed ord = T1 ++ j :: T2 ∧ left (listed.setIfInBounds j true) ord = T1 ++ T2 ∧ ∀ i ∈ T1, ∃ x, ops[i]? = some x ∧ (∀ cs b, x.op ≠ .select cs b) ∧ x.apart ops oj = true ∧ eff.contains i = false := by
    intro listed j hsz hj
    obtain ⟨hun, oj, hoj, hall⟩ := mem_ready.1 hj
    obtain ⟨L1, L2, hord⟩ := List.append_of_mem (hback j oj hoj).1
    rw [hord] at hpairs
    obtain ⟨hn1, hn2, hp⟩ := pairsOk_split L1 hpairs
    have hlt : j < listed.size := by have := (Array.getElem?_eq_some_iff.1 hoj).1; omega
    refine ⟨oj, left listed L1, left listed L2, hoj, ?_, ?_, ?_⟩
    · rw [hord]
      unfold left
      rw [List.filter_append, List.filter_cons, hun]
      simp
    · have e : left (listed.setIfInBounds j true) (j :: L2) = left (listed.setIfInBounds j true) L2 := by
        unfold left
        rw [List.filter_cons]
        simp [hlt]
      have e2 : left (listed.setIfInBounds j true) (L1 ++ j :: L2) = left (listed.setIfInBounds j true) L1 ++ left (listed.setIfInBounds j true) (j :: L2) := by simp [left]
      rw [hord, e2, e, left_set _ _ _ hn1, left_set _ _ _ hn2]
    · intro i hi
      have hi1 := List.mem_filter.1 hi
      obtain ⟨hil, hc⟩ := hp i hi1.1
      have hui : listed.getD i true = false := by simpa using hi1.2
      have hoi : ops[i]? = some ops[i] := Array.getElem?_eq_getElem hil
      rcases hc with h9 | h9
      · obtain ⟨e, he, hb, rfl⟩ := waits_spec hoj h9
        have h8 := hall e he hb
        have h7 : e.on < listed.size := by omega
        simp [h7] at h8 hui
        rw [hui] at h8
        cases h8
      · refine ⟨_, hoi, hsel i _ hoi, ?_, h9.2⟩
        have h7 := h9.1
        unfold pairApart at h7
        simp only [hoi, hoj] at h7
        exact h7
  intro fuel
  induction fuel with
  | zero =>
    intro listed a w hsz hlen hS hL
    have h0 : left listed ord = [] := List.length_eq_zero_iff.1 (by omega)
    rw [h0] at hL
    refine ⟨?_, hL⟩
    refine List.eq_nil_iff_forall_not_mem.2 (fun j hj => ?_)
    obtain ⟨oj, T1, T2, _, h1, _⟩ := hpick listed j hsz hj
    rw [h0] at h1
    simp at h1
  | succ fuel ih =>
    intro listed a w hsz hlen hS hL
    refine ⟨fun hr => ?_, fun j hj => ?_⟩
    · rw [hnil listed hsz hr] at hL
      exact hL
    · obtain ⟨oj, T1, T2, hoj, h1, h2, h3⟩ := hpick listed j hsz hj
      rw [h1] at hL hlen
      obtain ⟨oj', hoj', q1, q2⟩ := LinX.front hoj (hsel j oj hoj) T1 a w h3 hL
      obtain rfl : oj' = oj := Option.some.inj (hoj'.symm.trans hoj)
      have hnext : ∀ a' w', S w' → LinX P ops Q S eff (T1 ++ T2) a' w' → wpAny P .any ops Q fuel (listed.setIfInBounds j true) a' w' := fun a' w' hS' h4 => by
        refine ih (listed.setIfInBounds j true) a' w' (by simp [hsz]) ?_ hS' (by rw [h2]; exact h4)
        rw [h2]
        simp at hlen ⊢
        omega
      unfold wpOp
      simp only [hoj]
      cases hv : eff.contains j with
      | false =>
        obtain ⟨v, g, h5⟩ := q1 hv
        rcases g with ⟨hw, hy⟩ | ⟨hw, rfl⟩
        · simp only [hw, if_true]
          refine .inl ?_
          unfold Oper.wp
          rcases hy w hS with h6 | ⟨f, args, h6, h7⟩
          · rw [h6]
            exact hnext _ _ hS h5
          · rw [h6]
            refine Calls.mono h7 ?_
            rintro e w' ⟨rfl, rfl⟩
            exact hnext _ _ hS h5
        · simp only [hw, Bool.false_eq_true, if_false]
          exact hnext _ _ hS h5
      | true =>
        obtain ⟨hw, hm⟩ := q2 hv
        simp only [hw, if_true]
        refine .inl ?_
        unfold Oper.wp
        rcases hm with ⟨v, w', h6 | ⟨h6, rfl⟩, h7, h8⟩ | ⟨f, args, w1, h6, h7⟩
        · rw [h6]
          exact hnext _ _ h7 h8
        · rw [h6]
          exact hnext _ _ h7 h8
        · rw [h6]
          refine Calls.mono h7 ?_
          rintro e w' ⟨v, rfl, h8, h9⟩
          exact hnext _ _ h8 h9

/-- THE BEGINNING: a region that draws its order, walked in the order that is picked; those of eff may change the world. -/
theorem wp_region_linX {id : Nat} {a : Act} {w : World} (S : World → Prop) (eff ord : List Nat) (hm : P.follows .mixedOrders = true) (hok : ordOk ops eff ord = true) (hS : S w.drew) (h : LinX P ops Q S eff ord a w.drew) : (Code.region id ops true).wp P Q a w := by
  refine wp_region_any hm ?_
  simp only [ordOk, Bool.and_eq_true] at hok
  have hlt : ∀ i ∈ ord, i < ops.size := by
    intro i hi
    obtain ⟨L1, L2, hord⟩ := List.append_of_mem hi
    have h3 := hok.2.2
    rw [hord] at h3
    have : ∀ (L1 : List Nat), pairsOk ops eff (L1 ++ i :: L2) = true → i < ops.size := by
      intro L1
      induction L1 with
      | nil => intro h; simp only [List.nil_append, pairsOk, Bool.and_eq_true, decide_eq_true_eq] at h; exact h.1
      | cons k L1 ih => intro h; simp only [List.cons_append, pairsOk, Bool.and_eq_true] at h; exact ih h.2.2.2
    exact this L1 h3
  have hu : left (Array.replicate ops.size false) ord = ord := by
    unfold left
    rw [List.filter_eq_self]
    intro i hi
    have := hlt i hi
    simp [this]
  refine linX_any (S := S) (eff := eff) (ord := ord) (by simp only [ordOk, Bool.and_eq_true]; exact hok) _ _ _ _ (by simp) ?_ hS ?_
  · rw [hu]
    simpa using hok.1.2
  · rw [hu]; exact h

theorem linX_nil {eff : List Nat} {a : Act} {w : World} (h : Q .normal a w) : LinX P ops Q S eff [] a w := h
/-- An operation that gives its value in every world that meets S, and leaves the world as it is. -/
theorem linX_op {eff : List Nat} {i : Nat} {o : Oper} {r : List Nat} {a : Act} {w : World} {v : Value} (ho : ops[i]? = some o) (he : eff.contains i = false) (hw : Region.wanted o (yielded ops a.tmps) = true) (hy : ∀ w, S w → (execOp a.eval o).run P w = .ok (.value v) w) (h : LinX P ops Q S eff r (a.put o.dst v) w) : LinX P ops Q S eff (i :: r) a w :=
  ⟨o, ho, fun _ => ⟨v, .inl ⟨hw, fun w hS => .inl (hy w hS)⟩, h⟩, fun h9 => by rw [he] at h9; cases h9⟩
theorem linX_off {eff : List Nat} {i : Nat} {o : Oper} {r : List Nat} {a : Act} {w : World} (ho : ops[i]? = some o) (he : eff.contains i = false) (hw : Region.wanted o (yielded ops a.tmps) = false) (h : LinX P ops Q S eff r (a.put o.dst undef) w) : LinX P ops Q S eff (i :: r) a w :=
  ⟨o, ho, fun _ => ⟨undef, .inr ⟨hw, rfl⟩, h⟩, fun h9 => by rw [he] at h9; cases h9⟩
theorem linX_fn {eff : List Nat} {i : Nat} {o : Oper} {r : List Nat} {a : Act} {w : World} {v : Value} {f : Nat} {c : Call} {args : Array Value} (hi : ops[i]? = some o) (he : eff.contains i = false) (hw : Region.wanted o (yielded ops a.tmps) = true) (ho : o.op = .call c) (hc : c.callee = .value (.func f)) (hen : ∀ args w, (callFunc f args).run P w = .ok (.enter f args) w)
    (hcl : ∀ w, S w → Calls P f args w fun e w' => e = .returned v ∧ w = w') (ha : c.args.map a.eval = args) (h : LinX P ops Q S eff r (a.put o.dst v) w) : LinX P ops Q S eff (i :: r) a w := by
  refine ⟨o, hi, fun _ => ⟨v, .inl ⟨hw, fun w hS => .inr ⟨f, args, ?_, hcl w hS⟩⟩, h⟩, fun h9 => by rw [he] at h9; cases h9⟩
  simp only [execOp, ho, resolve, hc, ha, Act.eval, Deferred.ofValue, invoke, Sem.run_bind, Sem.run_pure, Result.andThen_ok]
  have e1 := hen (#[] ++ args ++ #[]) w
  simp only [Array.empty_append, Array.append_empty] at e1 ⊢
  exact e1
/-- An operation that changes the world. -/
theorem linX_do {eff : List Nat} {i : Nat} {o : Oper} {r : List Nat} {a : Act} {w w' : World} {v : Value} (ho : ops[i]? = some o) (he : eff.contains i = true) (hw : Region.wanted o (yielded ops a.tmps) = true) (hy : (execOp a.eval o).run P w = .ok (.value v) w') (hS : S w') (h : LinX P ops Q S eff r (a.put o.dst v) w') : LinX P ops Q S eff (i :: r) a w :=
  ⟨o, ho, fun h9 => (by rw [he] at h9; cases h9), fun _ => ⟨hw, .inl ⟨v, w', .inl hy, hS, h⟩⟩⟩
/-- A store. -/
theorem linX_store {eff : List Nat} {i : Nat} {o : Oper} {r : List Nat} {a : Act} {w w' : World} (ho : ops[i]? = some o) (he : eff.contains i = true) (hw : Region.wanted o (yielded ops a.tmps) = true) (hy : (execOp a.eval o).run P w = .ok .skip w') (hS : S w') (h : LinX P ops Q S eff r (a.put o.dst undef) w') : LinX P ops Q S eff (i :: r) a w :=
  ⟨o, ho, fun h9 => (by rw [he] at h9; cases h9), fun _ => ⟨hw, .inl ⟨undef, w', .inr ⟨hy, rfl⟩, hS, h⟩⟩⟩
/-- A call that changes the world. -/
theorem linX_call {eff : List Nat} {i : Nat} {o : Oper} {r : List Nat} {a : Act} {w : World} {f : Nat} {c : Call} {args : Array Value} (hi : ops[i]? = some o) (he : eff.contains i = true) (hw : Region.wanted o (yielded ops a.tmps) = true) (ho : o.op = .call c) (hc : c.callee = .value (.func f)) (hen : ∀ args w, (callFunc f args).run P w = .ok (.enter f args) w) (ha : c.args.map a.eval = args)
    (h : Calls P f args w fun e w' => ∃ v, e = .returned v ∧ S w' ∧ LinX P ops Q S eff r (a.put o.dst v) w') : LinX P ops Q S eff (i :: r) a w := by
  refine ⟨o, hi, fun h9 => (by rw [he] at h9; cases h9), fun _ => ⟨hw, .inr ⟨f, args, w, ?_, h⟩⟩⟩
  simp only [execOp, ho, resolve, hc, ha, Act.eval, Deferred.ofValue, invoke, Sem.run_bind, Sem.run_pure, Result.andThen_ok]
  have e1 := hen (#[] ++ args ++ #[]) w
  simp only [Array.empty_append, Array.append_empty] at e1 ⊢
  exact e1
end
end Go.Proofs.Ytelpihlifdfgoaa
namespace Go.Proofs.Ytelpihlifdfgoaa
set_option linter.unusedVariables false

section
variable {P : Program} {ops : Array Oper} {Q : Exit → Act → World → Prop} {S : World → Prop}
def reach (ops : Array Oper) : Nat → Nat → Nat → Bool
  | 0, _, _ => false
  | f + 1, j, i => waits ops j i || (match ops[j]? with | none => false | some oj => oj.after.any fun e => Region.binds .any e && reach ops f e.on i)
def ClosedL (ops : Array Oper) (listed : Array Bool) : Prop := ∀ j oj, ops[j]? = some oj → listed.getD j false = true → ∀ e ∈ oj.after, Region.binds .any e = true → listed.getD e.on false = true
theorem reach_spec {listed : Array Bool} (hc : ClosedL ops listed) : ∀ (f j i : Nat) {oj : Oper}, ops[j]? = some oj → (∀ e ∈ oj.after, Region.binds .any e = true → listed.getD e.on false = true) → reach ops f j i = true → listed.getD i false = true
  | 0, _, _, _, _, _, h => by cases h
  | f + 1, j, i, oj, hj, ha, h => by
    simp only [reach, hj, Bool.or_eq_true] at h
    rcases h with h | h
    · obtain ⟨e, he, hb, rfl⟩ := waits_spec hj h
      exact ha e he hb
    · obtain ⟨e, he, hb⟩ := Array.any_eq_true'.1 h
      simp only [Bool.and_eq_true] at hb
      have h1 := ha e he hb.1
      cases ho : ops[e.on]? with
      | none =>
        exfalso
        have h2 := hb.2
        cases f with
        | zero => cases h2
        | succ f => simp [reach, waits, ho] at h2
      | some oe => exact reach_spec hc f e.on i ho (hc e.on oe ho h1) hb.2
theorem closedL_set {listed : Array Bool} {i : Nat} (hc : ClosedL ops listed) (hi : i ∈ Region.ready .any ops listed) : ClosedL ops (listed.setIfInBounds i true) := by
  obtain ⟨_, oi, hoi, hall⟩ := mem_ready.1 hi
  intro j oj hj hl e he hb
  by_cases hij : i = j
  · subst hij
    have : oj = oi := Option.some.inj (hj.symm.trans hoi)
    subst this
    exact getD_set_true (hall e he hb)
  · rw [getD_set_ne false hij] at hl
    exact getD_set_true (hc j oj hj hl e he hb)

def pairsOkY (ops : Array Oper) (eff : List Nat) : List Nat → Bool
  | [] => true
  | i :: r => decide (i < ops.size) && (!r.contains i && (r.all (fun j => (pairApart ops i j && !eff.contains i) || reach ops 14 j i) && pairsOkY ops eff r))
/-- The order that is picked has all operations, each once; where one does not wait for an earlier one, the two are apart and the earlier one leaves the world as it is. -/
def ordOkY (ops : Array Oper) (eff ord : List Nat) : Bool :=
  (Region.noSelect ops && decide (ord.length ≤ ops.size)) && ((List.range ops.size).all (fun j => ord.contains j && match ops[j]? with | none => true | some oj => oj.after.all (fun e => !Region.binds .any e || decide (e.on < j))) && pairsOkY ops eff ord)
theorem pairsOkY_split {eff : List Nat} : ∀ (L1 : List Nat) {j : Nat} {L2 : List Nat}, pairsOkY ops eff (L1 ++ j :: L2) = true → j ∉ L1 ∧ j ∉ L2 ∧ ∀ i ∈ L1, i < ops.size ∧ ((pairApart ops i j = true ∧ eff.contains i = false) ∨ reach ops 14 j i = true)
  | [], j, L2, h => by
    simp only [List.nil_append, pairsOkY, Bool.and_eq_true, Bool.not_eq_true'] at h
    refine ⟨by simp, ?_, by simp⟩
    intro hm
    have := h.2.1
    rw [List.contains_iff_mem.2 hm] at this
    cases this
  | k :: L1, j, L2, h => by
    simp only [List.cons_append, pairsOkY, Bool.and_eq_true, Bool.not_eq_true', decide_eq_true_eq] at h
    obtain ⟨h0, h1, h2, h3⟩ := h
    obtain ⟨i1, i2, i3⟩ := pairsOkY_split L1 h3
    have hkj : k ≠ j := by
      rintro rfl
      rw [List.contains_iff_mem.2 (by simp)] at h1
      cases h1
    refine ⟨by simp [i1]; exact fun e => hkj e.symm, i2, fun i hi => ?_⟩
    rcases List.mem_cons.1 hi with rfl | hi
    · refine ⟨h0, ?_⟩
      have h4 := List.all_eq_true.1 h2 j (by simp)
      simp only [Bool.or_eq_true, Bool.and_eq_true, Bool.not_eq_true'] at h4
      exact h4
    · exact i3 i hi

theorem linY_any {eff ord : List Nat} (hok : ordOkY ops eff ord = true) : ∀ (fuel : Nat) (listed : Array Bool) (a : Act) (w : World), listed.size = ops.size → ClosedL ops listed → (left listed ord).length ≤ fuel → S w → LinX P ops Q S eff (left listed ord) a w → wpAny P .any ops Q fuel listed a w := by
  simp only [ordOkY, Bool.and_eq_true] at hok
  obtain ⟨⟨hns, _⟩, hall0, hpairs⟩ := hok
  have hsel : ∀ (j : Nat) (o : Oper), ops[j]? = some o → ∀ cs b, o.op ≠ .select cs b := fun j o ho cs b => Region.noSelect_spec hns j o cs b ho
  have hback : ∀ j oj, ops[j]? = some oj → j ∈ ord ∧ ∀ e ∈ oj.after, Region.binds .any e = true → e.on < j := by
    intro j oj hoj
    have h1 := List.all_eq_true.1 hall0 j (List.mem_range.2 (Array.getElem?_eq_some_iff.1 hoj).1)
    simp only [hoj, Bool.and_eq_true, Array.all_eq_true_iff_forall_mem] at h1
    exact ⟨List.contains_iff_mem.1 h1.1, fun e he hb => by
      have h2 := h1.2 e he
      simpa [hb] using h2⟩
  have hnil : ∀ listed : Array Bool, listed.size = ops.size → Region.ready .any ops listed = [] → left listed ord = [] := by
    intro listed hsz hr
    have key : ∀ j, listed.getD j true = true := by
      intro j
      induction j using Nat.strongRecOn with
      | ind j ih =>
        cases hb : listed.getD j true with
        | true => rfl
        | false =>
          have hj : j < ops.size := by
            rcases Nat.lt_or_ge j listed.size with h' | h'
            · omega
            · simp [Array.getElem?_eq_none h'] at hb
          have hoj : ops[j]? = some ops[j] := Array.getElem?_eq_getElem hj
          have hm : j ∈ Region.ready .any ops listed := mem_ready.2 ⟨hb, _, hoj, fun e he hbd => by
            have hlt := (hback j _ hoj).2 e he hbd
            have h9 := ih e.on hlt
            have h8 : e.on < listed.size := by omega
            simp [h8] at h9 ⊢
            exact h9⟩
          rw [hr] at hm
          cases hm
    unfold left
    rw [List.filter_eq_nil_iff]
    intro i _
    rw [key i]
    simp
  have hpick : ∀ (listed : Array Bool) (j : Nat), listed.size = ops.size → ClosedL ops listed → j ∈ Region.ready .any ops listed → ∃ oj T1 T2, ops[j]? = some oj ∧ left listed ord = T1 ++ j :: T2 ∧ left (listed.setIfInBounds j true) ord = T1 ++ T2 ∧ ∀ i ∈ T1, ∃ x, ops[i]? = some x ∧ (∀ cs b, x.op ≠ .select cs b) ∧ x.apart ops oj = true ∧ eff.contains i = false := by
    intro listed j hsz hcl hj
    obtain ⟨hun, oj, hoj, hall⟩ := mem_ready.1 hj
    obtain ⟨L1, L2, hord⟩ := List.append_of_mem (hback j oj hoj).1
    rw [hord] at hpairs
    obtain ⟨hn1, hn2, hp⟩ := pairsOkY_split L1 hpairs
    have hlt : j < listed.size := by have := (Array.getElem?_eq_some_iff.1 hoj).1; omega
    refine ⟨oj, left listed L1, left listed L2, hoj, ?_, ?_, ?_⟩
    · rw [hord]
      unfold left
      rw [List.filter_append, List.filter_cons, hun]
      simp
    · have e : left (listed.setIfInBounds j true) (j :: L2) = left (listed.setIfInBounds j true) L2 := by
        unfold left
        rw [List.filter_cons]
        simp [hlt]
      have e2 : left (listed.setIfInBounds j true) (L1 ++ j :: L2) = left (listed.setIfInBounds j true) L1 ++ left (listed.setIfInBounds j true) (j :: L2) := by simp [left]
      rw [hord, e2, e, left_set _ _ _ hn1, left_set _ _ _ hn2]
    · intro i hi
      have hi1 := List.mem_filter.1 hi
      obtain ⟨hil, hc⟩ := hp i hi1.1
      have hui : listed.getD i true = false := by simpa using hi1.2
      have hoi : ops[i]? = some ops[i] := Array.getElem?_eq_getElem hil
      rcases hc with h9 | h9
      · refine ⟨_, hoi, hsel i _ hoi, ?_, h9.2⟩
        have h7 := h9.1
        unfold pairApart at h7
        simp only [hoi, hoj] at h7
        exact h7
      · have h8 := reach_spec hcl 14 j i hoj hall h9
        have h7 : i < listed.size := by omega
        simp [h7] at h8 hui
        rw [hui] at h8
        cases h8
  intro fuel
  induction fuel with
  | zero =>
    intro listed a w hsz hcl hlen hS hL
    have h0 : left listed ord = [] := List.length_eq_zero_iff.1 (by omega)
    rw [h0] at hL
    refine ⟨?_, hL⟩
    refine List.eq_nil_iff_forall_not_mem.2 (fun j hj => ?_)
    obtain ⟨oj, T1, T2, _, h1, _⟩ := hpick listed j hsz hcl hj
    rw [h0] at h1
    simp at h1
  | succ fuel ih =>
    intro listed a w hsz hcl hlen hS hL
    refine ⟨fun hr => ?_, fun j hj => ?_⟩
    · rw [hnil listed hsz hr] at hL
      exact hL
    · obtain ⟨oj, T1, T2, hoj, h1, h2, h3⟩ := hpick listed j hsz hcl hj
      rw [h1] at hL hlen
      obtain ⟨oj', hoj', q1, q2⟩ := LinX.front hoj (hsel j oj hoj) T1 a w h3 hL
      obtain rfl : oj' = oj := Option.some.inj (hoj'.symm.trans hoj)
      have hnext : ∀ a' w', S w' → LinX P ops Q S eff (T1 ++ T2) a' w' → wpAny P .any ops Q fuel (listed.setIfInBounds j true) a' w' := fun a' w' hS' h4 => by
        refine ih (listed.setIfInBounds j true) a' w' (by simp [hsz]) (closedL_set hcl hj) ?_ hS' (by rw [h2]; exact h4)
        rw [h2]
        simp at hlen ⊢
        omega
      unfold wpOp
      simp only [hoj]
      cases hv : eff.contains j with
      | false =>
        obtain ⟨v, g, h5⟩ := q1 hv
        rcases g with ⟨hw, hy⟩ | ⟨hw, rfl⟩
        · simp only [hw, if_true]
          refine .inl ?_
          unfold Oper.wp
          rcases hy w hS with h6 | ⟨f, args, h6, h7⟩
          · rw [h6]
            exact hnext _ _ hS h5
          · rw [h6]
            refine Calls.mono h7 ?_
            rintro e w' ⟨rfl, rfl⟩
            exact hnext _ _ hS h5
        · simp only [hw, Bool.false_eq_true, if_false]
          exact hnext _ _ hS h5
      | true =>
        obtain ⟨hw, hm⟩ := q2 hv
        simp only [hw, if_true]
        refine .inl ?_
        unfold Oper.wp
        rcases hm with ⟨v, w', h6 | ⟨h6, rfl⟩, h7, h8⟩ | ⟨f, args, w1, h6, h7⟩
        · rw [h6]
          exact hnext _ _ h7 h8
        · rw [h6]
          exact hnext _ _ h7 h8
        · rw [h6]
          refine Calls.mono h7 ?_
          rintro e w' ⟨v, rfl, h8, h9⟩
          exact hnext _ _ h8 h9

/-- THE BEGINNING: a region that draws its order, walked in the order that is picked; those of eff may change the world. -/
theorem wp_region_linY {id : Nat} {a : Act} {w : World} (S : World → Prop) (eff ord : List Nat) (hm : P.follows .mixedOrders = true) (hok : ordOkY ops eff ord = true) (hS : S w.drew) (h : LinX P ops Q S eff ord a w.drew) : (Code.region id ops true).wp P Q a w := by
  refine wp_region_any hm ?_
  have hok2 := hok
  simp only [ordOkY, Bool.and_eq_true] at hok
  have hlt : ∀ i ∈ ord, i < ops.size := by
    intro i hi
    obtain ⟨L1, L2, hord⟩ := List.append_of_mem hi
    have h3 := hok.2.2
    rw [hord] at h3
    have : ∀ (L1 : List Nat), pairsOkY ops eff (L1 ++ i :: L2) = true → i < ops.size := by
      intro L1
      induction L1 with
      | nil => intro h; simp only [List.nil_append, pairsOkY, Bool.and_eq_true, decide_eq_true_eq] at h; exact h.1
      | cons k L1 ih => intro h; simp only [List.cons_append, pairsOkY, Bool.and_eq_true] at h; exact ih h.2.2.2
    exact this L1 h3
  have hu : left (Array.replicate ops.size false) ord = ord := by
    unfold left
    rw [List.filter_eq_self]
    intro i hi
    have := hlt i hi
    simp [this]
  refine linY_any hok2 _ _ _ _ (by simp) (fun j oj _ h => by simp only [Array.getD_eq_getD_getElem?, Array.getElem?_replicate] at h; split at h <;> simp at h) ?_ hS ?_
  · rw [hu]
    simpa using hok.1.2
  · rw [hu]; exact h
end
end Go.Proofs.Ytelpihlifdfgoaa
namespace Go.Proofs.Ytelpihlifdfgoaa
open Go.RowKit Go.Shelf
set_option linter.unusedVariables false
/-- Where an area begins. -/
def areaN (n c : Nat) : Nat := if c = 0 then 2 else 2 + n
theorem tv_far {w : World} {B p pb BT m : Nat} {bv tv : Value} {D : Dk} {vs : List Value} (h : Dsk w B p pb bv D) (ht : w.ownsRow BT 29 1 tv m vs) : ∀ k, tv.ownBlock = some k → k ∉ fp p pb bv := by
  intro k hk hm
  rcases ht.2 with ⟨rfl, _⟩ | ⟨q, cap, cur, rfl, e2, hg, e4⟩
  · simp [Value.ownBlock] at hk
  · obtain rfl : q = k := by simpa [Value.ownBlock] using hk
    have hg : Blk w q 29 cur := hg
    simp only [fp, List.mem_cons, Option.mem_toList] at hm
    rcases hm with h9 | h9 | h9
    · exact hg.ne h.cells (by decide) h9
    · exact hg.ne h.plate (by decide) h9
    · rcases h.buf.2 with h8 | ⟨q', cap', cur', e1', e2', e3', e4'⟩
      · rw [h8.1] at h9; cases h9
      · rw [e1'] at h9
        obtain rfl : q' = q := by simpa [Value.ownBlock] using h9
        exact absurd (Option.some.inj (hg.symm.trans e3')) (by simp)
theorem tv_ne {w : World} {BT m g : Nat} {tv : Value} {vs : List Value} {cs : Array Value} (hg : Blk w g 67 cs) (ht : w.ownsRow BT 29 1 tv m vs) : tv.ownBlock ≠ some g := by
  intro hk
  rcases ht.2 with ⟨rfl, _⟩ | ⟨q, cap, cur, rfl, e2, h9, e4⟩
  · simp [Value.ownBlock] at hk
  · obtain rfl : q = g := by simpa [Value.ownBlock] using hk
    have h9 : Blk w q 29 cur := h9
    exact h9.ne hg (by decide) rfl
set_option maxRecDepth 100000 in
set_option maxHeartbeats 1000000 in
theorem wappend_full {w : World} {g t u p n m : Nat} {sv : Value} {ta : Option Addr} {tc c : Nat} (h : Blk w g 67 (lgcs t sv (.slice ta m tc) u p n c false)) (hc2 : c < 2) (hn : n ≤ 1000) (hu : u ≤ n) (a : Option Addr) (len cp : Nat) (hlm : len ≤ 40000) (hN : n - u < secN len) :
    Calls Try.prog 29 #[.pointer (some ⟨g, 0, none⟩), .slice a len cp] w fun e w' => e = .returned (.int .i64 6) ∧ Below w.heap.size w w' := by
  have hre := refuses_any (w := w) (g := g) (b := false) (h.cell 10) a len cp
  rw [if_neg (by simp), if_neg (by omega)] at hre
  have hse := sectors_any (len : Int)
  rw [secI_nat] at hse
  have hlf := wleft_any h hc2 hu hn
  have hd : (n : Int) - (u : Int) < (secN len : Int) := by omega
  clear h
  generalize secN len = s at *
  go_enter Try.func29, Try.ntmps29
  go_wp2_with fail
  refine hre.mono ?_
  rintro e w1 ⟨rfl, rfl⟩
  go_wp2_with fail
  refine (hse _).mono ?_
  rintro e w1 ⟨rfl, rfl⟩
  go_wp2_with fail
  refine hlf.mono ?_
  rintro e w2 ⟨rfl, hb2⟩
  go_wp2_with fail
  go_ret
  exact ⟨rfl, hb2⟩
attribute [local go_sem ↓] load_chain_rule store_chain_rule
set_option maxRecDepth 100000 in
set_option maxHeartbeats 4000000 in
theorem wappend_done2 {w : World} {B p pb g t u n m BT : Nat} {bv sv : Value} {D : Dk} {ta : Option Addr} {tc c : Nat} {vs : List Value} (hD : Dsk w B p pb bv D) (hB : B ≤ w.heap.size) (h : Blk w g 67 (lgcs t sv (.slice ta m tc) u p n c false)) (hc2 : c < 2) (hn : n ≤ 1000) (hu : u ≤ n) (hm : m ≤ 1000) (ht : t ≤ 4294967295) (htv : w.ownsRow BT 29 1 (.slice ta m tc) m vs) (hBT : BT ≤ w.heap.size)
    (a : Option Addr) (len cp : Nat) (l : List Nat) (hL : Lies w a l) (hl : l.length = len) (hlm : len ≤ 40000) (hcp : len ≤ cp) (hBy : Bys l) (hsf : Safe w a) (hap : ∀ x, a = some x → x.block ≠ p ∧ x.block ≠ pb ∧ x.block ≠ g) (h0 : a = none → len = 0) (hN : secN len ≤ n - u) :
    Calls Try.prog 29 #[.pointer (some ⟨g, 0, none⟩), .slice a len cp] w fun e w' => e = .returned (.int .i64 (layM D (frmL (areaN n c + u) t (m + 1) l)).2) ∧ ∃ bv', Dsk w' B p pb bv' (layM D (frmL (areaN n c + u) t (m + 1) l)).1 ∧
      ((layM D (frmL (areaN n c + u) t (m + 1) l)).2 = 0 → ∃ v tv', w'.ownsRow w.heap.size 5 1 v len (l.map byc) ∧ w'.ownsRow BT 29 1 tv' (m + 1) (vs ++ [v]) ∧ Blk w' g 67 (lgcs t sv tv' (u + secN len) p n c false) ∧ (∀ i, tv'.ownBlock = some i → (.slice ta m tc : Value).ownBlock = some i ∨ w.heap.size ≤ i)) ∧
      ((layM D (frmL (areaN n c + u) t (m + 1) l)).2 ≠ 0 → Blk w' g 67 (lgcs t sv (.slice ta m tc) u p n c true)) ∧ Kept (g :: ((.slice ta m tc : Value).ownBlock.toList ++ fp p pb bv)) w w' ∧ (∀ k, bv'.ownBlock = some k → bv.ownBlock = some k ∨ w.heap.size ≤ k) := by
  have hre := refuses_any (w := w) (g := g) (b := false) (h.cell 10) a len cp
  rw [if_neg (by simp), if_neg (by omega)] at hre
  have hse := sectors_any (len : Int)
  rw [secI_nat] at hse
  have hlf := wleft_any h hc2 hu hn
  have hd : decide ((n : Int) - (u : Int) < (secN len : Int)) = false := decide_eq_false (by omega)
  have hdn : ¬ (n : Int) - (u : Int) < (secN len : Int) := by omega
  obtain ⟨F, hF⟩ : ∃ F, areaN n c = F := ⟨_, rfl⟩
  have hF2 : F ≤ 1002 := by rw [← hF]; unfold areaN; split <;> omega
  have hFc : ∀ (w' : World) (b' : Bool), Blk w' g 67 (lgcs t sv (.slice ta m tc) u p n c b') → w'.cell? ⟨g, 5 + c * 2, none⟩ = some (.int .i64 (F : Int)) := fun w' b' h9 => by
    rw [h9.cell, ← hF]
    rcases (show c = 0 ∨ c = 1 by omega) with rfl | rfl
    · rfl
    · show some (Value.int .i64 ((2 : Int) + (n : Int))) = _
      simp [areaN]
  rw [hF]
  have HH := Lib.hid (And.intro hD (And.intro h (And.intro hL (And.intro hsf (And.intro hap (And.intro h0 (And.intro hBy (And.intro htv (And.intro hFc (And.intro hc2 hu))))))))))
  obtain ⟨LR, hLR⟩ : ∃ LR, layM D (frmL (F + u) t (m + 1) l) = LR := ⟨_, rfl⟩
  rw [hLR]
  obtain ⟨s, hs⟩ : ∃ s, secN len = s := ⟨_, rfl⟩
  rw [hs] at hse hd hdn ⊢
  have HS := Lib.hid (And.intro hs hN)
  clear hs hN hD h hL hsf hap h0 hBy htv hFc hF
  go_enter Try.func29, Try.ntmps29
  go_wp2_with fail
  refine hre.mono ?_
  rintro e w1 ⟨rfl, rfl⟩
  go_wp2_with fail
  refine (hse _).mono ?_
  rintro e w1 ⟨rfl, rfl⟩
  go_wp2_with fail
  refine hlf.mono ?_
  rintro e W ⟨rfl, hbW⟩
  clear hre hse hlf
  have HbW := Lib.hid hbW
  clear hbW
  go_wp2_with fail
  have hbW := HbW.out
  have hS0 : ∃ b', Blk W.drew g 67 (lgcs t sv (.slice ta m tc) u p n c b') := ⟨false, (HH.out.2.1.kept (Kept.of_below [] hbW) (by simp)).drew⟩
  have hbq : Below w.heap.size w W.drew := hbW.drew
  obtain ⟨S, hS⟩ : ∃ S : World → Prop, S = fun w' => ∃ b', Blk w' g 67 (lgcs t sv (.slice ta m tc) u p n c b') := ⟨_, rfl⟩
  have hSi : ∀ (w' : World) (b' : Bool), Blk w' g 67 (lgcs t sv (.slice ta m tc) u p n c b') → S w' := fun w' b' h9 => by rw [hS]; exact ⟨b', h9⟩
  have L9 : ∀ w', S w' → w'.cell? ⟨g, 9, none⟩ = some (.int .i64 (c : Int)) := fun w' h9 => by rw [hS] at h9; obtain ⟨b', h9⟩ := h9; exact h9.cell 9
  have L3 : ∀ w', S w' → w'.cell? ⟨g, 3, none⟩ = some (.int .i64 (u : Int)) := fun w' h9 => by rw [hS] at h9; obtain ⟨b', h9⟩ := h9; exact h9.cell 3
  have LF : ∀ w', S w' → w'.cell? ⟨g, 5 + c * 2, none⟩ = some (.int .i64 (F : Int)) := fun w' h9 => by rw [hS] at h9; obtain ⟨b', h9⟩ := h9; exact HH.out.2.2.2.2.2.2.2.2.1 _ _ h9
  obtain ⟨CC, hCC⟩ : ∃ CC, chcs t sv (.slice ta m tc) u = CC := ⟨_, rfl⟩
  have L0 : ∀ w', S w' → (loadSem 62 (.pointer (some ⟨g, 0, none⟩))).run Try.prog w' = .ok (.agg CC) w' := fun w' h9 => by
    rw [hS] at h9; obtain ⟨b', h9⟩ := h9
    rw [← hCC]
    exact loadRes_of (o := 0) (vs := chcs t sv (.slice ta m tc) u) h9 (fun j hj => by
      have : j < 4 := hj
      rcases (show j = 0 ∨ j = 1 ∨ j = 2 ∨ j = 3 by omega) with rfl | rfl | rfl | rfl <;> rfl) _ Try.underlying62 rfl (s_chain _ _ _ _)
  have hnx := fun w' => next_of t sv ta m tc u (by omega) a len cp w'
  rw [hCC] at hnx
  obtain ⟨FC, hFC⟩ : ∃ FC, fcs t (m + 1) a len cp = FC := ⟨_, rfl⟩
  have hro := fun w' => rows_of (F + u) t (m + 1) a len cp l w'
  rw [hFC] at hnx
  simp only [hFC] at hro
  have hSW : S W.drew := by rw [hS]; exact hS0
  have HFC := Lib.hid (And.intro hFC (And.intro hbq hSi))
  clear hS0 hbq hFC hSi hbW
  have hc0 : ¬ (c : Int) < 0 := by omega
  have hc2i : (c : Int) < 2 := by omega
  obtain ⟨X, hX⟩ : ∃ X, F + u = X := ⟨_, rfl⟩
  have hadd : wrap64 ((F : Int) + (u : Int)) = (X : Int) := by unfold wrap64; omega
  rw [hX] at hLR
  have hro : ∀ W, Calls Try.prog 48 #[.agg FC, .int .i64 (X : Int)] W fun e w' =>
      e = .returned (.func (.func 64) #[] #[.pointer (some ⟨W.heap.size, 0, none⟩), .pointer (some ⟨W.heap.size + 1, 0, none⟩)]) ∧ Blk w' W.heap.size 105 FC ∧ Blk w' (W.heap.size + 1) 3 #[.int .i64 (X : Int)] ∧ Below W.heap.size W w' := fun W => by
    have := hro W
    rw [hX] at this
    exact this
  have HX := Lib.hid hX
  clear hX
  refine wp_region_linY S [6, 23, 24, 25] [0, 1, 2, 3, 4, 5, 7, 8, 9, 10, 11, 12, 13, 14, 15, 16, 17, 18, 19, 20, 21, 22, 6, 23, 24, 25, 26] (by kernel_rfl) (by kernel_rfl) hSW ?_
  (repeat (first | (refine linX_off rfl rfl (by rfl) ?_; (try simp only [Act.put, List.getElem_toArray, List.getElem_cons_zero, List.getElem_cons_succ, List.setIfInBounds_toArray, List.set_cons_zero, List.set_cons_succ])) | (refine linX_op (v := ?_) rfl rfl (by rfl) (fun w9 hS9 => ?_) ?_; rotate_left; (focus (((have k0 := L0 w9 hS9; have k1 := L9 w9 hS9; have k2 := L3 w9 hS9; have k3 := LF w9 hS9; go_simp; (try go_bits)) <;> with_reducible rfl))); (try simp only [Act.put, List.getElem_toArray, List.getElem_cons_zero, List.getElem_cons_succ, List.setIfInBounds_toArray, List.set_cons_zero, List.set_cons_succ]))))
  refine linX_call (f := 51) (args := #[.agg CC, .slice a len cp]) rfl rfl (by rfl) rfl rfl (enters_of Try.func51 (by kernel_rfl) rfl) ?_ ?_
  · simp [Act.eval]
  refine (hnx _).mono ?_
  rintro e W2 ⟨rfl, hb2⟩
  have hb2' : Below w.heap.size w W2 := HFC.out.2.1.trans (hb2.mono HFC.out.2.1.size)
  refine ⟨_, rfl, HFC.out.2.2 _ _ (HH.out.2.1.kept (Kept.of_below [] hb2') (by simp)), ?_⟩
  (try simp only [Act.put, List.getElem_toArray, List.getElem_cons_zero, List.getElem_cons_succ, List.setIfInBounds_toArray, List.set_cons_zero, List.set_cons_succ])
  (repeat (first | (refine linX_off rfl rfl (by rfl) ?_; (try simp only [Act.put, List.getElem_toArray, List.getElem_cons_zero, List.getElem_cons_succ, List.setIfInBounds_toArray, List.set_cons_zero, List.set_cons_succ])) | (refine linX_op (v := ?_) rfl rfl (by rfl) (fun w9 hS9 => ?_) ?_; rotate_left; (focus (((have k0 := L0 w9 hS9; have k1 := L9 w9 hS9; have k2 := L3 w9 hS9; have k3 := LF w9 hS9; go_simp; (try go_bits)) <;> with_reducible rfl))); (try simp only [Act.put, List.getElem_toArray, List.getElem_cons_zero, List.getElem_cons_succ, List.setIfInBounds_toArray, List.set_cons_zero, List.set_cons_succ]))))
  refine linX_call (f := 48) (args := #[.agg FC, .int .i64 (X : Int)]) rfl rfl (by rfl) rfl rfl (enters_of Try.func48 (by kernel_rfl) rfl) ?_ ?_
  · simp [Act.eval]
    have := HX.out
    omega
  refine (hro _).mono ?_
  rintro e W3 ⟨rfl, bf, bi, hb3⟩
  have hb3' : Below w.heap.size w W3 := hb2'.trans (hb3.mono hb2'.size)
  refine ⟨_, rfl, HFC.out.2.2 _ _ (HH.out.2.1.kept (Kept.of_below [] hb3') (by simp)), ?_⟩
  (try simp only [Act.put, List.getElem_toArray, List.getElem_cons_zero, List.getElem_cons_succ, List.setIfInBounds_toArray, List.set_cons_zero, List.set_cons_succ])
  have hWs : w.heap.size ≤ W2.heap.size := hb2'.size
  have hF2' : frameR X t (m + 1) l W2.heap.size (W2.heap.size + 1) = frameR X t (m + 1) l W2.heap.size (W2.heap.size + 1) := rfl
  obtain ⟨W4, hW4⟩ : ∃ W4, W3.alloc (.cells (rowVals [frameR X t (m + 1) l W2.heap.size (W2.heap.size + 1)]) 95) = W4 := ⟨_, rfl⟩
  have hb34 : Below W3.heap.size W3 W4 := by rw [← hW4]; exact (Below.refl _ _).alloc (Nat.le_refl _) _
  have hb4 : Below w.heap.size w W4 := hb3'.trans (hb34.mono hb3'.size)
  have br : Blk W4 W3.heap.size 95 (rowVals [frameR X t (m + 1) l W2.heap.size (W2.heap.size + 1)]) := by rw [← hW4]; exact Blk.new _ _ _
  have hW4' : W3.alloc (.cells #[.func (.func 64) #[] #[.pointer (some ⟨W2.heap.size, 0, none⟩), .pointer (some ⟨W2.heap.size + 1, 0, none⟩)]] 95) = W4 := hW4
  refine linX_do (v := .slice (some ⟨W3.heap.size, 0, none⟩) 1 1) (w' := W4) rfl rfl (by rfl) ?_ (HFC.out.2.2 _ _ (HH.out.2.1.kept (Kept.of_below [] hb4) (by simp))) ?_
  · (focus ((go_simp; (try go_bits)) <;> with_reducible rfl))
  (try simp only [Act.put, List.getElem_toArray, List.getElem_cons_zero, List.getElem_cons_succ, List.setIfInBounds_toArray, List.set_cons_zero, List.set_cons_succ])
  have hD4 := HH.out.1.later hb4
  have hg4 := HH.out.2.1.kept (Kept.of_below [] hb4) (by simp)
  have hpW : p < W2.heap.size := Nat.lt_of_lt_of_le HH.out.1.lt hWs
  have hpbW : pb < W2.heap.size := Nat.lt_of_lt_of_le HH.out.1.plate.lt hWs
  have htold := told_rows (w := W4) (first := X) (t := t) (n := m + 1) hl hlm hcp HH.out.2.2.2.2.2.2.1 (by omega) (by omega) (by rw [HFC.out.1]; exact bf.kept (Kept.of_below [] hb34) (by simp)) (bi.kept (Kept.of_below [] hb34) (by simp)) (HH.out.2.2.1.kept hb4) (fun x hx => by
    obtain ⟨o, ho, h9⟩ := HH.out.2.2.2.1 x hx
    exact ⟨o, (hb4.block _ (Array.getElem?_eq_some_iff.1 ho).1).trans ho, h9⟩) (by have := HX.out; omega)
  have hnC : ∀ q, q < W2.heap.size → (∀ x, a = some x → x.block ≠ q) → q ∉ W2.heap.size :: (W2.heap.size + 1) :: (a.map (·.block)).toList := fun q hq hx hm => by
    simp only [List.mem_cons, Option.mem_toList] at hm
    rcases hm with h9 | h9 | h9
    · omega
    · omega
    · obtain ⟨x, hx9, h8⟩ := Option.map_eq_some_iff.1 h9
      exact hx x hx9 h8
  have hwr := wwrite_any hD4 (Nat.le_trans hB hb4.size) hg4 rfl rfl [frameR X t (m + 1) l W2.heap.size (W2.heap.size + 1)] _ (hnC p hpW (fun x hx => (HH.out.2.2.2.2.1 x hx).1)) (hnC pb hpbW (fun x hx => (HH.out.2.2.2.2.1 x hx).2.1)) (fun x hx => by rw [List.mem_singleton.1 hx]; exact htold) br (by simp)
  rw [errs_one, show (frameR X t (m + 1) l W2.heap.size (W2.heap.size + 1)).items = frmL X t (m + 1) l from rfl, hLR] at hwr
  have HW := Lib.hid (And.intro hb4 (And.intro hg4 hWs))
  clear hD4 hg4 htold hnC br bf bi hb2 hb2' hb34 hb3 hb3' hb4 hro hnx hpW hpbW hF2'
  refine linX_call (f := 41) (args := #[.pointer (some ⟨g, 0, none⟩), .slice (some ⟨W3.heap.size, 0, none⟩) 1 1]) rfl rfl (by rfl) rfl rfl (enters_of Try.func41 (by kernel_rfl) rfl) ?_ ?_
  · simp [Act.eval]
  refine hwr.mono ?_
  rintro e w4 ⟨rfl, bv', hD5, hg5, hk5, ho5⟩
  clear hwr
  refine ⟨_, rfl, HFC.out.2.2 _ _ hg5, ?_⟩
  (try simp only [Act.put, List.getElem_toArray, List.getElem_cons_zero, List.getElem_cons_succ, List.setIfInBounds_toArray, List.set_cons_zero, List.set_cons_succ])
  (repeat (first | (refine linX_off rfl rfl (by rfl) ?_; (try simp only [Act.put, List.getElem_toArray, List.getElem_cons_zero, List.getElem_cons_succ, List.setIfInBounds_toArray, List.set_cons_zero, List.set_cons_succ])) | (refine linX_op (v := ?_) rfl rfl (by rfl) (fun w9 hS9 => ?_) ?_; rotate_left; (focus (((have k0 := L0 w9 hS9; have k1 := L9 w9 hS9; have k2 := L3 w9 hS9; have k3 := LF w9 hS9; go_simp; (try go_bits)) <;> with_reducible rfl))); (try simp only [Act.put, List.getElem_toArray, List.getElem_cons_zero, List.getElem_cons_succ, List.setIfInBounds_toArray, List.set_cons_zero, List.set_cons_succ]))))
  refine linX_nil ?_
  obtain ⟨D2, er⟩ := LR
  have hk04 : Kept (g :: fp p pb bv) w w4 := (Kept.of_below _ HW.out.1).trans hk5
  have hL5 : Lies w4 a l := lies_same HH.out.2.2.1 (a_kept HH.out.1 HH.out.2.2.2.1 HH.out.2.2.2.2.1 hk04)
  have hs4 : w.heap.size ≤ w4.heap.size := hk04.size
  have ho04 : ∀ k, bv'.ownBlock = some k → bv.ownBlock = some k ∨ w.heap.size ≤ k := fun k hk => (ho5 k hk).imp id (fun h9 => Nat.le_trans HW.out.1.size h9)
  have htv4 : w4.ownsRow BT 29 1 (.slice ta m tc) m vs := by
    rcases HH.out.2.2.2.2.2.2.2.1.2 with h9 | ⟨q, cap, cur, h1, h2, h3, h4⟩
    · exact ⟨HH.out.2.2.2.2.2.2.2.1.1, .inl h9⟩
    · have hq1 : (Value.slice ta m tc).ownBlock = some q := by rw [h1]; rfl
      have hq2 := tv_far HH.out.1 HH.out.2.2.2.2.2.2.2.1 q hq1
      have hq3 : q ≠ g := fun e => tv_ne HH.out.2.1 HH.out.2.2.2.2.2.2.2.1 (by rw [hq1, e])
      exact ⟨HH.out.2.2.2.2.2.2.2.1.1, .inr ⟨q, cap, cur, h1, h2, (hk04.block q (Array.getElem?_eq_some_iff.1 h3).1 (by simp; exact ⟨hq3, hq2⟩)).trans h3, h4⟩⟩
  by_cases he : er = 0
  · subst he
    rw [show decide (((D2, (0 : Int)) : Dk × Int).2 ≠ 0) = false from rfl] at hg5
    have hg5' : Blk w4 g 67 (lgcs t sv (.slice ta m tc) u p n c false) := hg5
    have had := add_any hg5' (by simp [lgcs]) rfl rfl htv4 (tv_ne hg5' htv4) hm (by have := HH.out.2.2.2.2.2.2.2.2.2.2; omega) (Nat.le_trans hBT hs4) a len cp l hL5 hl hlm HH.out.2.2.2.2.2.1
    have H5 := Lib.hid (And.intro hD5 (And.intro hg5' (And.intro hk04 (And.intro htv4 (And.intro ho04 hs4)))))
    clear hD5 hg5 hg5' hk5 hk04 hL5 htv4 ho5 ho04 hs4 L0 L9 L3 LF
    go_wp2_with fail
    refine had.mono ?_
    rintro e w6 ⟨rfl, v, tv', hv, htv', hg6, hk6, ho6⟩
    clear had
    go_wp2_with fail
    go_ret
    have hne : ∀ i ∈ g :: (Value.slice ta m tc).ownBlock.toList, i ∉ fp p pb bv' := fun i hi => by
      rcases List.mem_cons.1 hi with h9 | h9
      · exact h9 ▸ g_far H5.out.1 H5.out.2.1
      · exact tv_far H5.out.1 H5.out.2.2.2.1 i (by simpa using h9)
    refine ⟨rfl, bv', H5.out.1.apart hk6 hne, ⟨v, ?_, tv', htv', ?_, fun i hi => ?_⟩, (H5.out.2.2.1.more ?_).trans (hk6.more ?_), H5.out.2.2.2.2.1⟩
    · rcases hv.2 with h9 | ⟨q, cap, cur, h1, h2, h3⟩
      · exact ⟨hv.1, .inl h9⟩
      · exact ⟨hv.1, .inr ⟨q, cap, cur, h1, Nat.le_trans H5.out.2.2.2.2.2 h2, h3⟩⟩
    · rw [HS.out.1] at hg6
      exact hg6
    · rcases ho6 with h9 | ⟨k, h9, h8⟩
      · exact .inl (h9 ▸ hi)
      · rw [hi] at h9
        obtain rfl := Option.some.inj h9
        exact .inr (Nat.le_trans H5.out.2.2.2.2.2 h8)
    · intro i hi
      simp only [List.mem_cons, List.mem_append] at hi ⊢
      rcases hi with h9 | h9
      · exact .inl h9
      · exact .inr (.inr h9)
    · intro i hi
      simp only [List.mem_cons, List.mem_append] at hi ⊢
      rcases hi with h9 | h9
      · exact .inl h9
      · exact .inr (.inl h9)
  · have heb : (er != 0) = true := by simpa using he
    rw [show decide (((D2, er) : Dk × Int).2 ≠ 0) = true from decide_eq_true he] at hg5
    have hg5' : Blk w4 g 67 (lgcs t sv (.slice ta m tc) u p n c true) := hg5
    clear L0 L9 L3 LF
    go_wp2_with fail
    go_ret
    refine ⟨rfl, bv', hD5, hg5', hk04.more ?_, ho04⟩
    intro i hi
    simp only [List.mem_cons, List.mem_append] at hi ⊢
    rcases hi with h9 | h9
    · exact .inl h9
    · exact .inr (.inr h9)
theorem wappend_done {w : World} {B p pb g t u n m BT : Nat} {bv sv : Value} {D : Dk} {ta : Option Addr} {tc c : Nat} {vs : List Value} (hD : Dsk w B p pb bv D) (hB : B ≤ w.heap.size) (h : Blk w g 67 (lgcs t sv (.slice ta m tc) u p n c false)) (hc2 : c < 2) (hn : n ≤ 1000) (hu : u ≤ n) (hm : m ≤ 1000) (ht : t ≤ 4294967295) (htv : w.ownsRow BT 29 1 (.slice ta m tc) m vs) (hBT : BT ≤ w.heap.size)
    (a : Option Addr) (len cp : Nat) (l : List Nat) (hL : Lies w a l) (hl : l.length = len) (hlm : len ≤ 40000) (hcp : len ≤ cp) (hBy : Bys l) (hsf : Safe w a) (hap : ∀ x, a = some x → x.block ≠ p ∧ x.block ≠ pb ∧ x.block ≠ g) (h0 : a = none → len = 0) (hN : secN len ≤ n - u) :
    Calls Try.prog 29 #[.pointer (some ⟨g, 0, none⟩), .slice a len cp] w fun e w' => e = .returned (.int .i64 (layM D (frmL (areaN n c + u) t (m + 1) l)).2) ∧ ∃ bv', Dsk w' B p pb bv' (layM D (frmL (areaN n c + u) t (m + 1) l)).1 ∧
      ((layM D (frmL (areaN n c + u) t (m + 1) l)).2 = 0 → ∃ v tv', w'.ownsRow w.heap.size 5 1 v len (l.map byc) ∧ w'.ownsRow BT 29 1 tv' (m + 1) (vs ++ [v]) ∧ Blk w' g 67 (lgcs t sv tv' (u + secN len) p n c false)) ∧
      ((layM D (frmL (areaN n c + u) t (m + 1) l)).2 ≠ 0 → Blk w' g 67 (lgcs t sv (.slice ta m tc) u p n c true)) ∧ Kept (g :: ((.slice ta m tc : Value).ownBlock.toList ++ fp p pb bv)) w w' ∧ (∀ k, bv'.ownBlock = some k → bv.ownBlock = some k ∨ w.heap.size ≤ k) := by
  refine (wappend_done2 hD hB h hc2 hn hu hm ht htv hBT a len cp l hL hl hlm hcp hBy hsf hap h0 hN).mono ?_
  rintro e w' ⟨h1, bv', h2, h3, h4⟩
  exact ⟨h1, bv', h2, fun he => by
    obtain ⟨v, tv', k1, k2, k3, _⟩ := h3 he
    exact ⟨v, tv', k1, k2, k3⟩, h4⟩
end Go.Proofs.Ytelpihlifdfgoaa
