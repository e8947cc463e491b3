/-
  The document's Decode, in parts: two words as one number. Nothing here is a statement of the document.
-/
import Derived.Test.YtgnpoehcmlmajaaLin
import Derived.RegionTactic
import Derived.BigRegion
import Derived.Laws.Cover3
import Derived.Test.YtgnpoehcmlmajaaDskB
namespace Go.Proofs.Ytgnpoehcmlmajaa
set_option linter.unusedVariables false

section
variable {P : Program} {ops : Array Oper} {Q : Exit → Act → World → Prop} {S : World → Prop}

/-- In every world that meets S the operation gives v, and leaves the world as it is. -/
def Still (P : Program) (ops : Array Oper) (S : World → Prop) (o : Oper) (v : Value) (a : Act) : Prop :=
  (Region.wanted o (yielded ops a.tmps) = true ∧ ∀ w, S w → ((execOp a.eval o).run P w = .ok (.value v) w ∨ ∃ f args, (execOp a.eval o).run P w = .ok (.enter f args) w ∧ Calls P f args w fun e w' => e = .returned v ∧ w = w')) ∨
  (Region.wanted o (yielded ops a.tmps) = false ∧ v = undef)
theorem Still.of_same {o : Oper} {v : Value} {a a' : Act} (hy : Still P ops S o v a) (he : execOp a'.eval o = execOp a.eval o)
    (hw : Region.wanted o (yielded ops a'.tmps) = Region.wanted o (yielded ops a.tmps)) : Still P ops S o v a' := by
  unfold Still at *
  rw [he, hw]
  exact hy
/-- From this world the operation gives some v and leaves some world that meets S, of which K holds. -/
def Moves (P : Program) (ops : Array Oper) (S : World → Prop) (o : Oper) (a : Act) (w : World) (K : Value → World → Prop) : Prop :=
  Region.wanted o (yielded ops a.tmps) = true ∧ ((∃ v w', ((execOp a.eval o).run P w = .ok (.value v) w' ∨ ((execOp a.eval o).run P w = .ok .skip w' ∧ v = undef)) ∧ S w' ∧ K v w') ∨ ∃ f args w1, (execOp a.eval o).run P w = .ok (.enter f args) w1 ∧ Calls P f args w1 fun e w' => ∃ v, e = .returned v ∧ S w' ∧ K v w')
theorem Moves.of_same {o : Oper} {a a' : Act} {w : World} {K : Value → World → Prop} (hy : Moves P ops S o a w K) (he : execOp a'.eval o = execOp a.eval o)
    (hw : Region.wanted o (yielded ops a'.tmps) = Region.wanted o (yielded ops a.tmps)) : Moves P ops S o a' w K := by
  unfold Moves at *
  rw [he, hw]
  exact hy
theorem Moves.imp {o : Oper} {a : Act} {w : World} {K K' : Value → World → Prop} (h : Moves P ops S o a w K) (hk : ∀ v w', S w' → K v w' → K' v w') : Moves P ops S o a w K' := by
  refine ⟨h.1, ?_⟩
  rcases h.2 with ⟨v, w', h1, h2, h3⟩ | ⟨f, args, w1, h1, h2⟩
  · exact .inl ⟨v, w', h1, h2, hk v w' h2 h3⟩
  · refine .inr ⟨f, args, w1, h1, Calls.mono h2 ?_⟩
    rintro e w' ⟨v, h3, h4, h5⟩
    exact ⟨v, h3, h4, hk v w' h4 h5⟩
theorem Moves.some_way {o : Oper} {a : Act} {w : World} {K : Value → World → Prop} (h : Moves P ops S o a w K) : ∃ v w', S w' ∧ K v w' := by
  rcases h.2 with ⟨v, w', h1, h2, h3⟩ | ⟨f, args, w1, h1, h2⟩
  · exact ⟨v, w', h2, h3⟩
  · obtain ⟨e, w', fr, ⟨v, _, h4, h5⟩, _⟩ := h2 []
    exact ⟨v, w', h4, h5⟩
/-- The operations in the order that is picked; those of eff may change the world. -/
def LinX (P : Program) (ops : Array Oper) (Q : Exit → Act → World → Prop) (S : World → Prop) (eff : List Nat) : List Nat → Act → World → Prop
  | [], a, w => Q .normal a w
  | i :: r, a, w => ∃ o, ops[i]? = some o ∧ (eff.contains i = false → ∃ v, Still P ops S o v a ∧ LinX P ops Q S eff r (a.put o.dst v) w) ∧ (eff.contains i = true → Moves P ops S o a w fun v w' => LinX P ops Q S eff r (a.put o.dst v) w')

theorem LinX.swap {eff : List Nat} {i j : Nat} {x y : Oper} {r : List Nat} {a : Act} {w : World} (hi : ops[i]? = some x) (hj : ops[j]? = some y) (hx : ∀ cs b, x.op ≠ .select cs b) (hy : ∀ cs b, y.op ≠ .select cs b) (hap : x.apart ops y = true) (hq : eff.contains i = false)
    (h : LinX P ops Q S eff (i :: j :: r) a w) : LinX P ops Q S eff (j :: i :: r) a w := by
  obtain ⟨h1, h2, h3⟩ := Oper.apart_spec hap
  have ey : ∀ (v : Value), execOp (a.put x.dst v).eval y = execOp a.eval y := fun v => execOp_put y hy a x.dst v h1
  have wy : ∀ (v : Value), Region.wanted y (yielded ops (a.put x.dst v).tmps) = Region.wanted y (yielded ops a.tmps) := fun v => wanted_put y a x.dst v h1
  have ex : ∀ (v : Value), execOp (a.put y.dst v).eval x = execOp a.eval x := fun v => execOp_put x hx a y.dst v h3
  have wx : ∀ (v : Value), Region.wanted x (yielded ops (a.put y.dst v).tmps) = Region.wanted x (yielded ops a.tmps) := fun v => wanted_put x a y.dst v h3
  obtain ⟨x', hx', q1, _⟩ := h
  obtain rfl : x' = x := Option.some.inj (hx'.symm.trans hi)
  obtain ⟨vx, gx, y', hy', q2, q3⟩ := q1 hq
  obtain rfl : y' = y := Option.some.inj (hy'.symm.trans hj)
  refine ⟨_, hj, fun hf => ?_, fun ht => ?_⟩
  · obtain ⟨vy, gy, h4⟩ := q2 hf
    refine ⟨vy, gy.of_same (ey vx).symm (wy vx).symm, _, hi, fun _ => ⟨vx, gx.of_same (ex vy) (wx vy), ?_⟩, fun h9 => by rw [hq] at h9; cases h9⟩
    rw [← Act.put_comm a vx vy h2]
    exact h4
  · refine (Moves.of_same (q3 ht) (ey vx).symm (wy vx).symm).imp (fun v w' hS' h4 => ?_)
    refine ⟨_, hi, fun _ => ⟨vx, gx.of_same (ex v) (wx v), ?_⟩, fun h9 => by rw [hq] at h9; cases h9⟩
    rw [← Act.put_comm a vx v h2]
    exact h4
theorem LinX.front {eff : List Nat} {j : Nat} {y : Oper} {T2 : List Nat} (hj : ops[j]? = some y) (hy : ∀ cs b, y.op ≠ .select cs b) : ∀ (T1 : List Nat) (a : Act) (w : World), (∀ i ∈ T1, ∃ x, ops[i]? = some x ∧ (∀ cs b, x.op ≠ .select cs b) ∧ x.apart ops y = true ∧ eff.contains i = false) → LinX P ops Q S eff (T1 ++ j :: T2) a w → LinX P ops Q S eff (j :: (T1 ++ T2)) a w
  | [], _, _, _, h => h
  | i :: T1, a, w, hap, h => by
    obtain ⟨x, hi, hx, hxy, hq⟩ := hap i (by simp)
    obtain ⟨x', hx', q1, _⟩ := h
    obtain rfl : x' = x := Option.some.inj (hx'.symm.trans hi)
    obtain ⟨vx, gx, h4⟩ := q1 hq
    have h5 := LinX.front hj hy T1 _ w (fun k hk => hap k (by simp [hk])) h4
    exact LinX.swap hi hj hx hy hxy hq ⟨_, hi, fun _ => ⟨vx, gx, h5⟩, fun h9 => by rw [hq] at h9; cases h9⟩

def waits (ops : Array Oper) (j i : Nat) : Bool := match ops[j]? with
  | none => false
  | some oj => oj.after.any (fun e => Region.binds .any e && e.on == i)
theorem waits_spec {i j : Nat} {oj : Oper} (hj : ops[j]? = some oj) (h : waits ops j i = true) : ∃ e ∈ oj.after, Region.binds .any e = true ∧ e.on = i := by
  unfold waits at h
  simp only [hj] at h
  obtain ⟨e, he, hb⟩ := Array.any_eq_true'.1 h
  simp only [Bool.and_eq_true, beq_iff_eq] at hb
  exact ⟨e, he, hb⟩
def pairApart (ops : Array Oper) (i j : Nat) : Bool := match ops[i]?, ops[j]? with
  | some x, some y => x.apart ops y
  | _, _ => false
def pairsOk (ops : Array Oper) (eff : List Nat) : List Nat → Bool
  | [] => true
  | i :: r => decide (i < ops.size) && (!r.contains i && (r.all (fun j => waits ops j i || (pairApart ops i j && !eff.contains i)) && pairsOk ops eff r))
/-- The order that is picked has all operations, each once; where one does not wait for an earlier one, the two are apart and the earlier one leaves the world as it is. -/
def ordOk (ops : Array Oper) (eff ord : List Nat) : Bool :=
  (Region.noSelect ops && decide (ord.length ≤ ops.size)) && ((List.range ops.size).all (fun j => ord.contains j && match ops[j]? with | none => true | some oj => oj.after.all (fun e => decide (e.on < j))) && pairsOk ops eff ord)
theorem pairsOk_split {eff : List Nat} : ∀ (L1 : List Nat) {j : Nat} {L2 : List Nat}, pairsOk ops eff (L1 ++ j :: L2) = true → j ∉ L1 ∧ j ∉ L2 ∧ ∀ i ∈ L1, i < ops.size ∧ (waits ops j i = true ∨ (pairApart ops i j = true ∧ eff.contains i = false))
  | [], j, L2, h => by
    simp only [List.nil_append, pairsOk, Bool.and_eq_true, Bool.not_eq_true'] at h
    refine ⟨by simp, ?_, by simp⟩
    intro hm
    have := h.2.1
    rw [List.contains_iff_mem.2 hm] at this
    cases this
  | k :: L1, j, L2, h => by
    simp only [List.cons_append, pairsOk, Bool.and_eq_true, Bool.not_eq_true', decide_eq_true_eq] at h
    obtain ⟨h0, h1, h2, h3⟩ := h
    obtain ⟨i1, i2, i3⟩ := pairsOk_split L1 h3
    have hkj : k ≠ j := by
      rintro rfl
      rw [List.contains_iff_mem.2 (by simp)] at h1
      cases h1
    refine ⟨by simp [i1]; exact fun e => hkj e.symm, i2, fun i hi => ?_⟩
    rcases List.mem_cons.1 hi with rfl | hi
    · refine ⟨h0, ?_⟩
      have h4 := List.all_eq_true.1 h2 j (by simp)
      simp only [Bool.or_eq_true, Bool.and_eq_true, Bool.not_eq_true'] at h4
      exact h4
    · exact i3 i hi

/-- What is not listed yet, in the order that is picked. -/
def left (listed : Array Bool) (ord : List Nat) : List Nat := ord.filter fun i => !listed.getD i true
theorem left_set (listed : Array Bool) (j : Nat) : ∀ (is : List Nat), j ∉ is → left (listed.setIfInBounds j true) is = left listed is
  | [], _ => rfl
  | i :: is, h => by
    have hne : j ≠ i := fun e => h (by simp [e])
    have ih := left_set listed j is (fun e => h (by simp [e]))
    unfold left at *
    simp only [List.filter_cons]
    rw [getD_set_ne true hne, ih]

theorem linX_any {eff ord : List Nat} (hok : ordOk ops eff ord = true) : ∀ (fuel : Nat) (listed : Array Bool) (a : Act) (w : World), listed.size = ops.size → (left listed ord).length ≤ fuel → S w → LinX P ops Q S eff (left listed ord) a w → wpAny P .any ops Q fuel listed a w := by
  simp only [ordOk, Bool.and_eq_true] at hok
  obtain ⟨⟨hns, _⟩, hall0, hpairs⟩ := hok
  have hsel : ∀ (j : Nat) (o : Oper), ops[j]? = some o → ∀ cs b, o.op ≠ .select cs b := fun j o ho cs b => Region.noSelect_spec hns j o cs b ho
  have hback : ∀ j oj, ops[j]? = some oj → j ∈ ord ∧ ∀ e ∈ oj.after, e.on < j := by
    intro j oj hoj
    have h1 := List.all_eq_true.1 hall0 j (List.mem_range.2 (Array.getElem?_eq_some_iff.1 hoj).1)
    simp only [hoj, Bool.and_eq_true, Array.all_eq_true_iff_forall_mem, decide_eq_true_eq] at h1
    exact ⟨List.contains_iff_mem.1 h1.1, h1.2⟩
  have hnil : ∀ listed : Array Bool, listed.size = ops.size → Region.ready .any ops listed = [] → left listed ord = [] := by
    intro listed hsz hr
    have key : ∀ j, listed.getD j true = true := by
      intro j
      induction j using Nat.strongRecOn with
      | ind j ih =>
        cases hb : listed.getD j true with
        | true => rfl
        | false =>
          have hj : j < ops.size := by
            rcases Nat.lt_or_ge j listed.size with h' | h'
            · omega
            · simp [Array.getElem?_eq_none h'] at hb
          have hoj : ops[j]? = some ops[j] := Array.getElem?_eq_getElem hj
          have hm : j ∈ Region.ready .any ops listed := mem_ready.2 ⟨hb, _, hoj, fun e he _ => by
            have hlt := (hback j _ hoj).2 e he
            have h9 := ih e.on hlt
            have h8 : e.on < listed.size := by omega
            simp [h8] at h9 ⊢
            exact h9⟩
          rw [hr] at hm
          cases hm
    unfold left
    rw [List.filter_eq_nil_iff]
    intro i _
    rw [key i]
    simp
  have hpick : ∀ (listed : Array Bool) (j : Nat), listed.size = ops.size → j ∈ Region.ready .any ops listed → ∃ oj T1 T2, ops[j]? = some oj ∧ left listed ord = T1 ++ j :: T2 ∧ left (listed.setIfInBounds j true) ord = T1 ++ T2 ∧ ∀ i ∈ T1, ∃ x, ops[i]? = some x ∧ (∀ cs b, x.op ≠ .select cs b) ∧ x.apart ops oj = true ∧ eff.contains i = false := by
    intro listed j hsz hj
    obtain ⟨hun, oj, hoj, hall⟩ := mem_ready.1 hj
    obtain ⟨L1, L2, hord⟩ := List.append_of_mem (hback j oj hoj).1
    rw [hord] at hpairs
    obtain ⟨hn1, hn2, hp⟩ := pairsOk_split L1 hpairs
    have hlt : j < listed.size := by have := (Array.getElem?_eq_some_iff.1 hoj).1; omega
    refine ⟨oj, left listed L1, left listed L2, hoj, ?_, ?_, ?_⟩
    · rw [hord]
      unfold left
      rw [List.filter_append, List.filter_cons, hun]
      simp
    · have e : left (listed.setIfInBounds j true) (j :: L2) = left (listed.setIfInBounds j true) L2 := by
        unfold left
        rw [List.filter_cons]
        simp [hlt]
      have e2 : left (listed.setIfInBounds j true) (L1 ++ j :: L2) = left (listed.setIfInBounds j true) L1 ++ left (listed.setIfInBounds j true) (j :: L2) := by simp [left]
      rw [hord, e2, e, left_set _ _ _ hn1, left_set _ _ _ hn2]
    · intro i hi
      have hi1 := List.mem_filter.1 hi
      obtain ⟨hil, hc⟩ := hp i hi1.1
      have hui : listed.getD i true = false := by simpa using hi1.2
      have hoi : ops[i]? = some ops[i] := Array.getElem?_eq_getElem hil
      rcases hc with h9 | h9
      · obtain ⟨e, he, hb, rfl⟩ := waits_spec hoj h9
        have h8 := hall e he hb
        have h7 : e.on < listed.size := by omega
        simp [h7] at h8 hui
        rw [hui] at h8
        cases h8
      · refine ⟨_, hoi, hsel i _ hoi, ?_, h9.2⟩
        have h7 := h9.1
        unfold pairApart at h7
        simp only [hoi, hoj] at h7
        exact h7
  intro fuel
  induction fuel with
  | zero =>
    intro listed a w hsz hlen hS hL
    have h0 : left listed ord = [] := List.length_eq_zero_iff.1 (by omega)
    rw [h0] at hL
    refine ⟨?_, hL⟩
    refine List.eq_nil_iff_forall_not_mem.2 (fun j hj => ?_)
    obtain ⟨oj, T1, T2, _, h1, _⟩ := hpick listed j hsz hj
    rw [h0] at h1
    simp at h1
  | succ fuel ih =>
    intro listed a w hsz hlen hS hL
    refine ⟨fun hr => ?_, fun j hj => ?_⟩
    · rw [hnil listed hsz hr] at hL
      exact hL
    · obtain ⟨oj, T1, T2, hoj, h1, h2, h3⟩ := hpick listed j hsz hj
      rw [h1] at hL hlen
      obtain ⟨oj', hoj', q1, q2⟩ := LinX.front hoj (hsel j oj hoj) T1 a w h3 hL
      obtain rfl : oj' = oj := Option.some.inj (hoj'.symm.trans hoj)
      have hnext : ∀ a' w', S w' → LinX P ops Q S eff (T1 ++ T2) a' w' → wpAny P .any ops Q fuel (listed.setIfInBounds j true) a' w' := fun a' w' hS' h4 => by
        refine ih (listed.setIfInBounds j true) a' w' (by simp [hsz]) ?_ hS' (by rw [h2]; exact h4)
        rw [h2]
        simp at hlen ⊢
        omega
      unfold wpOp
      simp only [hoj]
      cases hv : eff.contains j with
      | false =>
        obtain ⟨v, g, h5⟩ := q1 hv
        rcases g with ⟨hw, hy⟩ | ⟨hw, rfl⟩
        · simp only [hw, if_true]
          refine .inl ?_
          unfold Oper.wp
          rcases hy w hS with h6 | ⟨f, args, h6, h7⟩
          · rw [h6]
            exact hnext _ _ hS h5
          · rw [h6]
            refine Calls.mono h7 ?_
            rintro e w' ⟨rfl, rfl⟩
            exact hnext _ _ hS h5
        · simp only [hw, Bool.false_eq_true, if_false]
          exact hnext _ _ hS h5
      | true =>
        obtain ⟨hw, hm⟩ := q2 hv
        simp only [hw, if_true]
        refine .inl ?_
        unfold Oper.wp
        rcases hm with ⟨v, w', h6 | ⟨h6, rfl⟩, h7, h8⟩ | ⟨f, args, w1, h6, h7⟩
        · rw [h6]
          exact hnext _ _ h7 h8
        · rw [h6]
          exact hnext _ _ h7 h8
        · rw [h6]
          refine Calls.mono h7 ?_
          rintro e w' ⟨v, rfl, h8, h9⟩
          exact hnext _ _ h8 h9

/-- THE BEGINNING: a region that draws its order, walked in the order that is picked; those of eff may change the world. -/
theorem wp_region_linX {id : Nat} {a : Act} {w : World} (S : World → Prop) (eff ord : List Nat) (hm : P.follows .mixedOrders = true) (hok : ordOk ops eff ord = true) (hS : S w.drew) (h : LinX P ops Q S eff ord a w.drew) : (Code.region id ops true).wp P Q a w := by
  refine wp_region_any hm ?_
  simp only [ordOk, Bool.and_eq_true] at hok
  have hlt : ∀ i ∈ ord, i < ops.size := by
    intro i hi
    obtain ⟨L1, L2, hord⟩ := List.append_of_mem hi
    have h3 := hok.2.2
    rw [hord] at h3
    have : ∀ (L1 : List Nat), pairsOk ops eff (L1 ++ i :: L2) = true → i < ops.size := by
      intro L1
      induction L1 with
      | nil => intro h; simp only [List.nil_append, pairsOk, Bool.and_eq_true, decide_eq_true_eq] at h; exact h.1
      | cons k L1 ih => intro h; simp only [List.cons_append, pairsOk, Bool.and_eq_true] at h; exact ih h.2.2.2
    exact this L1 h3
  have hu : left (Array.replicate ops.size false) ord = ord := by
    unfold left
    rw [List.filter_eq_self]
    intro i hi
    have := hlt i hi
    simp [this]
  refine linX_any (S := S) (eff := eff) (ord := ord) (by simp only [ordOk, Bool.and_eq_true]; exact hok) _ _ _ _ (by simp) ?_ hS ?_
  · rw [hu]
    simpa using hok.1.2
  · rw [hu]; exact h

theorem linX_nil {eff : List Nat} {a : Act} {w : World} (h : Q .normal a w) : LinX P ops Q S eff [] a w := h
/-- An operation that gives its value in every world that meets S, and leaves the world as it is. -/
theorem linX_op {eff : List Nat} {i : Nat} {o : Oper} {r : List Nat} {a : Act} {w : World} {v : Value} (ho : ops[i]? = some o) (he : eff.contains i = false) (hw : Region.wanted o (yielded ops a.tmps) = true) (hy : ∀ w, S w → (execOp a.eval o).run P w = .ok (.value v) w) (h : LinX P ops Q S eff r (a.put o.dst v) w) : LinX P ops Q S eff (i :: r) a w :=
  ⟨o, ho, fun _ => ⟨v, .inl ⟨hw, fun w hS => .inl (hy w hS)⟩, h⟩, fun h9 => by rw [he] at h9; cases h9⟩
theorem linX_off {eff : List Nat} {i : Nat} {o : Oper} {r : List Nat} {a : Act} {w : World} (ho : ops[i]? = some o) (he : eff.contains i = false) (hw : Region.wanted o (yielded ops a.tmps) = false) (h : LinX P ops Q S eff r (a.put o.dst undef) w) : LinX P ops Q S eff (i :: r) a w :=
  ⟨o, ho, fun _ => ⟨undef, .inr ⟨hw, rfl⟩, h⟩, fun h9 => by rw [he] at h9; cases h9⟩
theorem linX_fn {eff : List Nat} {i : Nat} {o : Oper} {r : List Nat} {a : Act} {w : World} {v : Value} {f : Nat} {c : Call} {args : Array Value} (hi : ops[i]? = some o) (he : eff.contains i = false) (hw : Region.wanted o (yielded ops a.tmps) = true) (ho : o.op = .call c) (hc : c.callee = .value (.func f)) (hen : ∀ args w, (callFunc f args).run P w = .ok (.enter f args) w)
    (hcl : ∀ w, S w → Calls P f args w fun e w' => e = .returned v ∧ w = w') (ha : c.args.map a.eval = args) (h : LinX P ops Q S eff r (a.put o.dst v) w) : LinX P ops Q S eff (i :: r) a w := by
  refine ⟨o, hi, fun _ => ⟨v, .inl ⟨hw, fun w hS => .inr ⟨f, args, ?_, hcl w hS⟩⟩, h⟩, fun h9 => by rw [he] at h9; cases h9⟩
  simp only [execOp, ho, resolve, hc, ha, Act.eval, Deferred.ofValue, invoke, Sem.run_bind, Sem.run_pure, Result.andThen_ok]
  have e1 := hen (#[] ++ args ++ #[]) w
  simp only [Array.empty_append, Array.append_empty] at e1 ⊢
  exact e1
/-- An operation that changes the world. -/
theorem linX_do {eff : List Nat} {i : Nat} {o : Oper} {r : List Nat} {a : Act} {w w' : World} {v : Value} (ho : ops[i]? = some o) (he : eff.contains i = true) (hw : Region.wanted o (yielded ops a.tmps) = true) (hy : (execOp a.eval o).run P w = .ok (.value v) w') (hS : S w') (h : LinX P ops Q S eff r (a.put o.dst v) w') : LinX P ops Q S eff (i :: r) a w :=
  ⟨o, ho, fun h9 => (by rw [he] at h9; cases h9), fun _ => ⟨hw, .inl ⟨v, w', .inl hy, hS, h⟩⟩⟩
/-- A store. -/
theorem linX_store {eff : List Nat} {i : Nat} {o : Oper} {r : List Nat} {a : Act} {w w' : World} (ho : ops[i]? = some o) (he : eff.contains i = true) (hw : Region.wanted o (yielded ops a.tmps) = true) (hy : (execOp a.eval o).run P w = .ok .skip w') (hS : S w') (h : LinX P ops Q S eff r (a.put o.dst undef) w') : LinX P ops Q S eff (i :: r) a w :=
  ⟨o, ho, fun h9 => (by rw [he] at h9; cases h9), fun _ => ⟨hw, .inl ⟨undef, w', .inr ⟨hy, rfl⟩, hS, h⟩⟩⟩
/-- A call that changes the world. -/
theorem linX_call {eff : List Nat} {i : Nat} {o : Oper} {r : List Nat} {a : Act} {w : World} {f : Nat} {c : Call} {args : Array Value} (hi : ops[i]? = some o) (he : eff.contains i = true) (hw : Region.wanted o (yielded ops a.tmps) = true) (ho : o.op = .call c) (hc : c.callee = .value (.func f)) (hen : ∀ args w, (callFunc f args).run P w = .ok (.enter f args) w) (ha : c.args.map a.eval = args)
    (h : Calls P f args w fun e w' => ∃ v, e = .returned v ∧ S w' ∧ LinX P ops Q S eff r (a.put o.dst v) w') : LinX P ops Q S eff (i :: r) a w := by
  refine ⟨o, hi, fun h9 => (by rw [he] at h9; cases h9), fun _ => ⟨hw, .inr ⟨f, args, w, ?_, h⟩⟩⟩
  simp only [execOp, ho, resolve, hc, ha, Act.eval, Deferred.ofValue, invoke, Sem.run_bind, Sem.run_pure, Result.andThen_ok]
  have e1 := hen (#[] ++ args ++ #[]) w
  simp only [Array.empty_append, Array.append_empty] at e1 ⊢
  exact e1
end
end Go.Proofs.Ytgnpoehcmlmajaa
namespace Go.Proofs.Ytgnpoehcmlmajaa
open Go.RowKit Go.Shelf
set_option linter.unusedVariables false

/-- Words, and yes and no, as cells. -/
def wcs (l : List Nat) : Array Value := (l.map fun n : Nat => Value.int .u32 (n : Int)).toArray
def bcs (l : List Bool) : Array Value := (l.map Value.bool).toArray
theorem wcs_get {l : List Nat} {i : Nat} (h : i < l.length) : (wcs l)[i]? = some (.int .u32 ((l.getD i 0 : Nat) : Int)) := by
  simp [wcs, h]
theorem wcs_set (l : List Nat) (i n : Nat) : (wcs l).setIfInBounds i (.int .u32 (n : Int)) = wcs (l.set i n) := by
  simp [wcs, List.map_set]
theorem bcs_get {l : List Bool} {i : Nat} (h : i < l.length) : (bcs l)[i]? = some (.bool (l.getD i false)) := by
  simp [bcs, h]
theorem bcs_set (l : List Bool) (i : Nat) (b : Bool) : (bcs l).setIfInBounds i (.bool b) = bcs (l.set i b) := by
  simp [bcs, List.map_set]

/-- An arena lies at g: its words at p, where blocks begin at q. -/
structure Ar (w : World) (g p q : Nat) (ws : List Nat) (bs : List Bool) : Prop where
  box : Blk w g 65 #[.slice (some ⟨p, 0, none⟩) ws.length ws.length, .slice (some ⟨q, 0, none⟩) ws.length ws.length]
  wds : Blk w p 53 (wcs ws)
  bgs : Blk w q 4 (bcs bs)
  len : bs.length = ws.length
  lo : 64 ≤ ws.length
  hi : ws.length ≤ 16384
  sml : ∀ n ∈ ws, n < 4294967296

section
variable {w : World} {g p q : Nat} {ws : List Nat} {bs : List Bool}
theorem Ar.gp (h : Ar w g p q ws bs) : g ≠ p := h.box.ne h.wds (by decide)
theorem Ar.gq (h : Ar w g p q ws bs) : g ≠ q := h.box.ne h.bgs (by decide)
theorem Ar.pq (h : Ar w g p q ws bs) : p ≠ q := h.wds.ne h.bgs (by decide)
theorem Ar.kept (h : Ar w g p q ws bs) {S : List Nat} {w' : World} (k : Kept S w w') (hg : g ∉ S) (hp : p ∉ S) (hq : q ∉ S) : Ar w' g p q ws bs :=
  ⟨h.box.kept k hg, h.wds.kept k hp, h.bgs.kept k hq, h.len, h.lo, h.hi, h.sml⟩
theorem Ar.later (h : Ar w g p q ws bs) {w' : World} (k : Below w.heap.size w w') : Ar w' g p q ws bs := h.kept (Kept.of_below [] k) (by simp) (by simp) (by simp)
theorem Ar.drew (h : Ar w g p q ws bs) : Ar w.drew g p q ws bs := ⟨h.box, h.wds, h.bgs, h.len, h.lo, h.hi, h.sml⟩
theorem Ar.drewN (h : Ar w g p q ws bs) (n : Nat) : Ar (w.drewN n) g p q ws bs := ⟨h.box, h.wds, h.bgs, h.len, h.lo, h.hi, h.sml⟩
theorem Ar.small (h : Ar w g p q ws bs) (i : Nat) : ws.getD i 0 < 4294967296 := by
  by_cases hi : i < ws.length
  · have : ws.getD i 0 = ws[i] := by simp [hi]
    rw [this]; exact h.sml _ (List.getElem_mem hi)
  · have : ws.getD i 0 = 0 := by simp [List.getElem?_eq_none (by omega : ws.length ≤ i)]
    omega
theorem Ar.c0 (h : Ar w g p q ws bs) : w.cell? ⟨g, 0, none⟩ = some (.slice (some ⟨p, 0, none⟩) ws.length ws.length) := h.box.cell 0
theorem Ar.c1 (h : Ar w g p q ws bs) : w.cell? ⟨g, 1, none⟩ = some (.slice (some ⟨q, 0, none⟩) ws.length ws.length) := h.box.cell 1
theorem Ar.word (h : Ar w g p q ws bs) {i : Nat} (hi : i < ws.length) : w.cell? ⟨p, i, none⟩ = some (.int .u32 ((ws.getD i 0 : Nat) : Int)) := (h.wds.cell i).trans (wcs_get hi)
theorem Ar.beg (h : Ar w g p q ws bs) {i : Nat} (hi : i < ws.length) : w.cell? ⟨q, i, none⟩ = some (.bool (bs.getD i false)) := (h.bgs.cell i).trans (bcs_get (by rw [h.len]; exact hi))
theorem Ar.set (h : Ar w g p q ws bs) (i n : Nat) (hn : n < 4294967296) : Ar (w.setCell ⟨p, i, none⟩ (.int .u32 (n : Int))) g p q (ws.set i n) bs :=
  ⟨by simpa using h.box.far (p := ⟨p, i, none⟩) h.gp _, by have := h.wds.set i (.int .u32 (n : Int)); rwa [wcs_set] at this, h.bgs.far (p := ⟨p, i, none⟩) h.pq.symm _, by simpa using h.len, by simpa using h.lo, by simpa using h.hi, fun x hx => by
    rcases List.mem_or_eq_of_mem_set hx with h1 | h1
    · exact h.sml x h1
    · omega⟩
theorem Ar.setB (h : Ar w g p q ws bs) (i : Nat) (b : Bool) : Ar (w.setCell ⟨q, i, none⟩ (.bool b)) g p q ws (bs.set i b) :=
  ⟨h.box.far (p := ⟨q, i, none⟩) h.gq _, h.wds.far (p := ⟨q, i, none⟩) h.pq _, by have := h.bgs.set i (.bool b); rwa [bcs_set] at this, by simpa using h.len, h.lo, h.hi, h.sml⟩
end

theorem ret_int {k : IntKind} {a b : Int} (h : a = b) : Ending.returned (.int k a) = .returned (.int k b) := by rw [h]
theorem ret_bool {a b : Bool} (h : a = b) : Ending.returned (.bool a) = .returned (.bool b) := by rw [h]
/-! ### heads -/
/-- The head of a block: its class, and whether it is taken. -/
def hdN (c : Nat) (t : Bool) : Nat := 16 + 2 * c + t.toNat

set_option maxHeartbeats 400000 in
theorem mayhave_any (n : Int) (w : World) : Calls Try.prog 19 #[.int .i64 n] w fun e w' => e = .returned (.bool (decide (64 ≤ n) && decide (n ≤ 16384))) ∧ w = w' := by
  by_cases h1 : 64 ≤ n
  · have d1 : decide (64 ≤ n) = true := by simpa using h1
    go_enter Try.func19, Try.ntmps19
    go_wp2
    go_ret
    exact ⟨ret_bool (by simp [d1]), rfl⟩
  · have d1 : decide (64 ≤ n) = false := by simpa using h1
    go_enter Try.func19, Try.ntmps19
    go_wp2
    go_ret
    exact ⟨ret_bool (by simp [d1]), rfl⟩

set_option maxHeartbeats 400000 in
theorem headof_any (c : Nat) (t : Bool) (hc : c ≤ 5) (w : World) : Calls Try.prog 50 #[.int .i64 (c : Int), .bool t] w fun e w' => e = .returned (.int .u32 ((hdN c t : Nat) : Int)) ∧ w = w' := by
  cases t <;> rcases (show c = 0 ∨ c = 1 ∨ c = 2 ∨ c = 3 ∨ c = 4 ∨ c = 5 by omega) with rfl | rfl | rfl | rfl | rfl | rfl <;>
  · go_enter Try.func50, Try.ntmps50
    go_wp2
    go_ret
    first | exact ⟨rfl, rfl⟩ | exact ⟨ret_int (by decide +kernel), rfl⟩ | exact ⟨ret_bool (by decide +kernel), rfl⟩

set_option maxHeartbeats 400000 in
theorem hclass_any (c : Nat) (t : Bool) (hc : c ≤ 5) (w : World) : Calls Try.prog 58 #[.int .u32 ((hdN c t : Nat) : Int)] w fun e w' => e = .returned (.int .i64 (c : Int)) ∧ w = w' := by
  cases t <;> rcases (show c = 0 ∨ c = 1 ∨ c = 2 ∨ c = 3 ∨ c = 4 ∨ c = 5 by omega) with rfl | rfl | rfl | rfl | rfl | rfl <;>
  · go_enter Try.func58, Try.ntmps58
    go_wp2
    go_ret
    first | exact ⟨rfl, rfl⟩ | exact ⟨ret_int (by decide +kernel), rfl⟩ | exact ⟨ret_bool (by decide +kernel), rfl⟩
set_option maxHeartbeats 400000 in
theorem htaken_any (c : Nat) (t : Bool) (hc : c ≤ 5) (w : World) : Calls Try.prog 75 #[.int .u32 ((hdN c t : Nat) : Int)] w fun e w' => e = .returned (.bool t) ∧ w = w' := by
  cases t <;> rcases (show c = 0 ∨ c = 1 ∨ c = 2 ∨ c = 3 ∨ c = 4 ∨ c = 5 by omega) with rfl | rfl | rfl | rfl | rfl | rfl <;>
  · go_enter Try.func75, Try.ntmps75
    go_wp2
    go_ret
    first | exact ⟨rfl, rfl⟩ | exact ⟨ret_int (by decide +kernel), rfl⟩ | exact ⟨ret_bool (by decide +kernel), rfl⟩
set_option maxHeartbeats 400000 in
theorem hsize_any (c : Nat) (t : Bool) (hc : c ≤ 5) (w : World) : Calls Try.prog 70 #[.int .u32 ((hdN c t : Nat) : Int)] w fun e w' => e = .returned (.int .i64 ((2 ^ c : Nat) : Int)) ∧ w = w' := by
  have H := hclass_any c t hc w
  generalize hdN c t = h at *
  rcases (show c = 0 ∨ c = 1 ∨ c = 2 ∨ c = 3 ∨ c = 4 ∨ c = 5 by omega) with rfl | rfl | rfl | rfl | rfl | rfl <;>
  · go_enter Try.func70, Try.ntmps70
    go_wp2_with fail
    refine H.mono ?_
    rintro e w' ⟨rfl, rfl⟩
    go_wp2
    go_ret
    first | exact ⟨rfl, rfl⟩ | exact ⟨ret_int (by decide +kernel), rfl⟩ | exact ⟨ret_bool (by decide +kernel), rfl⟩

/-! ### words -/
section
variable {w : World} {g p q : Nat} {ws : List Nat} {bs : List Bool}
set_option maxHeartbeats 400000 in
theorem edge_any (h : Ar w g p q ws bs) : Calls Try.prog 52 #[.pointer (some ⟨g, 0, none⟩)] w fun e w' => e = .returned (.int .i64 ((ws.getD 15 0 : Nat) : Int)) ∧ w = w' := by
  have c0 := h.c0
  have c15 := h.word (i := 15) (by have := h.lo; omega)
  have hx := h.small 15
  have h1 := h.lo
  have h2 := h.hi
  clear h
  generalize ws.getD 15 0 = x at *
  generalize ws.length = n at *
  go_enter Try.func52, Try.ntmps52
  go_wp2
  go_ret
  exact ⟨rfl, rfl⟩
set_option maxHeartbeats 400000 in
theorem head_any (h : Ar w g p q ws bs) (x : Nat) (h1 : 1 ≤ x) (h2 : x < ws.length) : Calls Try.prog 57 #[.pointer (some ⟨g, 0, none⟩), .int .i64 (x : Int)] w fun e w' => e = .returned (.int .u32 ((ws.getD (x - 1) 0 : Nat) : Int)) ∧ w = w' := by
  have c0 := h.c0
  have cx := h.word (i := x - 1) (by omega)
  have h3 := h.lo
  have h4 := h.hi
  clear h
  generalize ws.getD (x - 1) 0 = y at *
  generalize ws.length = n at *
  obtain ⟨z, rfl⟩ : ∃ z, x = z + 1 := ⟨x - 1, by omega⟩
  rw [Nat.add_sub_cancel] at cx
  go_enter Try.func57, Try.ntmps57
  go_wp2
  go_ret
  exact ⟨rfl, rfl⟩
set_option maxRecDepth 100000 in
set_option maxHeartbeats 400000 in
theorem pair_any (h : Ar w g p q ws bs) (k : Nat) (hk : k = 1 ∨ k = 3 ∨ k = 7) : Calls Try.prog 55 #[.pointer (some ⟨g, 0, none⟩), .int .i64 (k : Int)] w fun e w' => e = .returned (.pointer (some ⟨p, k, none⟩)) ∧ w = w' := by
  have c0 := h.c0
  have h3 := h.lo
  have h4 := h.hi
  clear h
  generalize ws.length = n at *
  have hn : ¬ n = k := by omega
  have ha := run_arrayAt (P := Try.prog) (w := w) 161 53 2 (some ⟨p, k, none⟩) (n - k) (n - k) Try.underlying161 (by omega)
  rcases hk with rfl | rfl | rfl <;>
  · go_enter Try.func55, Try.ntmps55
    go_wp2
    go_ret
    exact ⟨rfl, rfl⟩
end
end Go.Proofs.Ytgnpoehcmlmajaa
namespace Go.Proofs.Ytgnpoehcmlmajaa
open Go.RowKit Go.Shelf
set_option linter.unusedVariables false

theorem shl_or (x y : Nat) (hx : x < 4294967296) (hy : y < 4294967296) : bits .or .u64 ((x : Int) * 4294967296) (y : Int) = ((x * 4294967296 + y : Nat) : Int) := by
  have h := u64_or_nat (x * 4294967296) y (by omega) (by omega)
  have e : ((x * 4294967296 : Nat) : Int) = (x : Int) * 4294967296 := by simp
  rw [e] at h
  rw [h]
  have h2 := Nat.two_pow_add_eq_or_of_lt (i := 32) (b := y) (by simpa using hy) x
  rw [show (2 : Nat) ^ 32 = 4294967296 from rfl, Nat.mul_comm] at h2
  rw [← h2]

set_option maxRecDepth 100000 in
set_option maxHeartbeats 1000000 in
theorem joined_any {w : World} {p k x y : Nat} (cx : ∀ n, (w.drewN n).cell? ⟨p, k, none⟩ = some (.int .u32 (x : Int))) (cy : ∀ n, (w.drewN n).cell? ⟨p, k + 1, none⟩ = some (.int .u32 (y : Int))) (hx : x < 4294967296) (hy : y < 4294967296) :
    Calls Try.prog 59 #[.pointer (some ⟨p, k, none⟩)] w fun e w' => e = .returned (.int .u64 ((x * 4294967296 + y : Nat) : Int)) ∧ ∃ n, w' = w.drewN n := by
  have hs := Lib.hid (shl_or x y hx hy)
  go_enter Try.func59, Try.ntmps59
  go_wp2_with fail
  go_quiet (fail)
  go_wp2
  go_ret
  exact ⟨ret_int hs.out, _, rfl⟩

set_option maxRecDepth 100000 in
set_option maxHeartbeats 1000000 in
theorem lay_any {w : World} {g p q k x : Nat} {ws : List Nat} {bs : List Bool} (h : Ar w g p q ws bs) (hk : k + 1 < ws.length) (hx : x < 18446744073709551616) :
    Calls Try.prog 54 #[.pointer (some ⟨p, k, none⟩), .int .u64 (x : Int)] w fun e w' => e = .returned (.tuple #[]) ∧ Ar w' g p q ((ws.set k (x / 4294967296)).set (k + 1) (x % 4294967296)) bs ∧ Kept [p] w w' := by
  have c1 := h.word (i := k) (by omega)
  have c2 := h.word (i := k + 1) (by omega)
  have f1 := h.wds.free k
  have f2 := h.wds.free (k + 1)
  have a1 := (h.set k (x / 4294967296) (by omega)).set (k + 1) (x % 4294967296) (by omega)
  rw [show ((x / 4294967296 : Nat) : Int) = (x : Int) / 4294967296 from by omega, show ((x % 4294967296 : Nat) : Int) = (x : Int) % 4294967296 from by omega] at a1
  have HH := Lib.hid (And.intro a1 (((Kept.refl [p] w).setCell (p := ⟨p, k, none⟩) (.inl (by simp)) (.int .u32 ((x : Int) / 4294967296))).setCell (p := ⟨p, k + 1, none⟩) (.inl (by simp)) (.int .u32 ((x : Int) % 4294967296))))
  generalize ws.getD k 0 = y1 at *
  generalize ws.getD (k + 1) 0 = y2 at *
  clear h a1
  go_enter Try.func54, Try.ntmps54
  go_wp2_with fail
  go_region
  go_end0
  exact ⟨rfl, HH.out.1.drew, HH.out.2.drew⟩

/-! ### a new arena -/
theorem made_words (n : Nat) : madeCells (Value.int .u32 0).cells (n * 1) = wcs (List.replicate n 0) := by
  apply Array.ext_getElem?
  intro i
  by_cases hi : i < n <;> simp [madeCells, wcs, Value.cells, hi, Nat.mod_one]
theorem made_begins (n : Nat) : madeCells (Value.bool false).cells (n * 1) = bcs (List.replicate n false) := by
  apply Array.ext_getElem?
  intro i
  by_cases hi : i < n <;> simp [madeCells, bcs, Value.cells, hi, Nat.mod_one]
theorem i_u32 : (Try.prog.info? 53).map (fun i => (i.zero, i.size, i.bytes)) = some (some (.int .u32 0), 1, 4) := by kernel_rfl
theorem i_boo : (Try.prog.info? 4).map (fun i => (i.zero, i.size, i.bytes)) = some (some (.bool false), 1, 1) := by kernel_rfl

set_option maxRecDepth 100000 in
set_option maxHeartbeats 1000000 in
theorem over_any (p n : Nat) (hn : n ≤ 16384) (w : World) : Calls Try.prog 20 #[.slice (some ⟨p, 0, none⟩) n n] w fun e w' => e = .returned (.pointer (some ⟨w.heap.size + 1, 0, none⟩)) ∧
    w' = (w.alloc (.cells (bcs (List.replicate n false)) 4)).alloc (.cells #[.slice (some ⟨p, 0, none⟩) n n, .slice (some ⟨w.heap.size, 0, none⟩) n n] 65) := by
  obtain ⟨i0, hi, hz0, hz1, hz2⟩ := info_parts i_boo
  have hmk := run_make (P := Try.prog) w 63 4 i0 (.bool false) Try.underlying63 hi hz0 .i64 .i64 (n : Int) (n : Int) (by omega) (by omega) (by rw [hz2]; omega) (by omega)
  rw [hz1, show (n : Int).toNat = n from by omega, made_begins] at hmk
  have hbd := fun w' => (show (Instr.build 65 #[(0, .slice (some ⟨p, 0, none⟩) n n), (1, .slice (some ⟨w.heap.size, 0, none⟩) n n)]).run Try.prog w' = .ok (.agg #[.slice (some ⟨p, 0, none⟩) n n, .slice (some ⟨w.heap.size, 0, none⟩) n n]) w' by kernel_rfl)
  generalize bcs (List.replicate n false) = B at *
  clear hi hz0 hz1 hz2
  go_enter Try.func20, Try.ntmps20
  go_wp2
  go_ret
  exact ⟨rfl, rfl⟩

/-- The words of a new arena. -/
def newWs (n : Nat) : List Nat := ((List.replicate n 0).set 0 n).set 15 16
theorem newWs_len (n : Nat) : (newWs n).length = n := by simp [newWs]

set_option maxRecDepth 100000 in
set_option maxHeartbeats 1000000 in
theorem new_no (n : Int) (h : ¬ (64 ≤ n ∧ n ≤ 16384)) (w : World) : Calls Try.prog 6 #[.int .i64 n] w fun e w' => e = .returned (.tuple #[.pointer none, .int .i64 2]) ∧ w = w' := by
  have hm := mayhave_any n w
  rw [show (decide (64 ≤ n) && decide (n ≤ 16384)) = false from by rw [← Bool.decide_and]; exact decide_eq_false h] at hm
  clear h
  go_enter Try.func6, Try.ntmps6
  go_wp2_with fail
  refine hm.mono ?_
  rintro e w' ⟨rfl, rfl⟩
  clear hm
  go_wp2
  go_ret2
  exact ⟨rfl, rfl⟩
set_option maxRecDepth 100000 in
set_option maxHeartbeats 1000000 in
theorem new_yes (n : Nat) (h1 : 64 ≤ n) (h2 : n ≤ 16384) (w : World) : Calls Try.prog 6 #[.int .i64 (n : Int)] w fun e w' => e = .returned (.tuple #[.pointer (some ⟨w.heap.size + 2, 0, none⟩), .int .i64 0]) ∧
    Ar w' (w.heap.size + 2) w.heap.size (w.heap.size + 1) (newWs n) (List.replicate n false) ∧ Below w.heap.size w w' := by
  have hm := mayhave_any (n : Int) w
  rw [show (decide (64 ≤ (n : Int)) && decide ((n : Int) ≤ 16384)) = true from by rw [← Bool.decide_and]; exact decide_eq_true (by omega)] at hm
  obtain ⟨i0, hi, hz0, hz1, hz2⟩ := info_parts i_u32
  have hmk := run_make (P := Try.prog) w 62 53 i0 (.int .u32 0) Try.underlying62 hi hz0 .i64 .i64 (n : Int) (n : Int) (by omega) (by omega) (by rw [hz2]; omega) (by omega)
  rw [hz1, show (n : Int).toNat = n from by omega, made_words] at hmk
  clear hi hz0 hz1 hz2
  obtain ⟨W0, hW0⟩ : ∃ W0, w.alloc (.cells (wcs (List.replicate n 0)) 53) = W0 := ⟨_, rfl⟩
  have hov := over_any w.heap.size n h2 W0
  obtain ⟨W1, hW1⟩ : ∃ W1, (W0.alloc (.cells (bcs (List.replicate n false)) 4)).alloc (.cells #[.slice (some ⟨w.heap.size, 0, none⟩) n n, .slice (some ⟨W0.heap.size, 0, none⟩) n n] 65) = W1 := ⟨_, rfl⟩
  rw [hW1] at hov
  have hs0 : W0.heap.size = w.heap.size + 1 := by rw [← hW0]; simp
  have A0 : Ar W1 (w.heap.size + 2) w.heap.size (w.heap.size + 1) (List.replicate n 0) (List.replicate n false) := by
    refine ⟨?_, ?_, ?_, by simp, by simpa using h1, by simpa using h2, fun x hx => by rw [List.eq_of_mem_replicate hx]; omega⟩
    · rw [List.length_replicate, ← hW1, ← hs0]
      have := Blk.new (W0.alloc (.cells (bcs (List.replicate n false)) 4)) 65 #[.slice (some ⟨w.heap.size, 0, none⟩) n n, .slice (some ⟨W0.heap.size, 0, none⟩) n n]
      rw [World.size_alloc, hs0] at this
      rw [hs0]
      exact this
    · rw [← hW1]
      have b := Blk.new w 53 (wcs (List.replicate n 0))
      rw [hW0] at b
      exact (b.alloc _).alloc _
    · rw [← hW1, ← hs0]; exact (Blk.new W0 _ _).alloc _
  have hb : Below w.heap.size w W1 := by
    rw [← hW1, ← hW0]
    exact (((Below.refl _ _).alloc (Nat.le_refl _) _).alloc (by simp) _).alloc (by simp; omega) _
  have hl : (List.replicate n 0).length = n := by simp
  have c0 := A0.c0
  rw [hl] at c0
  have e0 := A0.word (i := 0) (by simp; omega)
  have e15 := A0.word (i := 15) (by simp; omega)
  have f0 := A0.wds.free 0
  have f15 := A0.wds.free 15
  have A2 := (A0.set 0 n (by omega)).set 15 16 (by omega)
  have hb2 : Below w.heap.size w ((W1.setCell ⟨w.heap.size, 0, none⟩ (.int .u32 (n : Int))).setCell ⟨w.heap.size, 15, none⟩ (.int .u32 ((16 : Nat) : Int))) := (hb.setCell (p := ⟨w.heap.size, 0, none⟩) (by simp) _).setCell (p := ⟨w.heap.size, 15, none⟩) (by simp) _
  have HA := Lib.hid (And.intro A2 hb2)
  generalize (List.replicate n 0).getD 0 0 = y1 at *
  generalize (List.replicate n 0).getD 15 0 = y2 at *
  clear A0 A2 hb2 hb hl hW1
  go_enter Try.func6, Try.ntmps6
  go_wp2_with fail
  refine hm.mono ?_
  rintro e w' ⟨rfl, rfl⟩
  clear hm
  go_wp2_with fail
  refine hov.mono ?_
  rintro e w' ⟨rfl, rfl⟩
  rw [hs0]
  clear hov hmk hW0 hs0
  go_wp2_with fail
  go_region
  go_wp2
  go_ret2
  exact ⟨rfl, HA.out.1.drew, HA.out.2.drew⟩

end Go.Proofs.Ytgnpoehcmlmajaa
namespace Go.Proofs.Ytgnpoehcmlmajaa
open Go.RowKit Go.Shelf
set_option linter.unusedVariables false
set_option maxRecDepth 100000 in
set_option maxHeartbeats 1000000 in
theorem rtwo_any (b o len cap : Nat) (l : List Nat) (w : World) (hl : l.length = len) (hcap : len ≤ cap) (hle : len ≤ 70000) (hB : Bys l) (hL : Lies w (some ⟨b, o, none⟩) l) (i : Nat) (hi : 4 * i + 8 ≤ len) :
    Calls Try.prog 48 #[.slice (some ⟨b, o, none⟩) len cap, .int .i64 (i : Int)] w fun e w' => e = .returned (.int .u64 ((wdB l i * 4294967296 + wdB l (i + 1) : Nat) : Int)) ∧ w = w' := by
  have h1 := rword_any b o len cap l w hl hcap hle hB hL i (by omega)
  have h2 := rword_any b o len cap l w hl hcap hle hB hL (i + 1) (by omega)
  have v1 := wdB_lt hB i
  have v2 := wdB_lt hB (i + 1)
  have hso := shl_or (wdB l i) (wdB l (i + 1)) v1 v2
  have hi1 : ((i + 1 : Nat) : Int) = (i : Int) + 1 := by omega
  rw [hi1] at h2
  clear hB hL hl hi1
  generalize wdB l i = x at *
  generalize wdB l (i + 1) = y at *
  go_enter Try.func48, Try.ntmps48
  go_wp2_with fail
  refine h1.mono ?_
  rintro e _ ⟨rfl, rfl⟩
  go_wp2_with fail
  refine h2.mono ?_
  rintro e _ ⟨rfl, rfl⟩
  clear h1 h2
  go_wp2_with fail
  go_ret
  exact ⟨ret_int (by omega), rfl⟩
end Go.Proofs.Ytgnpoehcmlmajaa
