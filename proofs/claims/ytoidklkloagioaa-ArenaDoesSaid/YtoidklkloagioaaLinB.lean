/-
  A region that draws its order, walked once in an order that the prover picks: each operation gives its value in every world that meets S and leaves one that meets S; the last one, for which all others are, may change the world. Nothing here is a statement of the document.
-/
import Derived.Test.YtoidklkloagioaaLinI
namespace Go.Proofs.Ytoidklkloagioaa
set_option linter.unusedVariables false

section
variable {P : Program} {ops : Array Oper} {Q : Exit → Act → World → Prop} {S : World → Prop}

def LinB (P : Program) (ops : Array Oper) (Q : Exit → Act → World → Prop) (S : World → Prop) (eff : List Nat) : List Nat → Act → Prop
  | [], a => ∀ w, S w → Q .normal a w
  | i :: r, a => ∃ o, ops[i]? = some o ∧ (eff.contains i = false → ∃ v, GivesIf P ops S o v a ∧ LinB P ops Q S eff r (a.put o.dst v)) ∧ (eff.contains i = true → r = [] ∧ ∀ w, S w → Moves P ops (fun _ => True) o a w fun v w' => Q .normal (a.put o.dst v) w')

theorem LinB.swap {eff : List Nat} {i j : Nat} {x y : Oper} {r : List Nat} {a : Act} (hi : ops[i]? = some x) (hj : ops[j]? = some y) (hx : ∀ cs b, x.op ≠ .select cs b) (hy : ∀ cs b, y.op ≠ .select cs b) (hap : x.apart ops y = true) (hq : eff.contains i = false) (hq2 : eff.contains j = false)
    (h : LinB P ops Q S eff (i :: j :: r) a) : LinB P ops Q S eff (j :: i :: r) a := by
  obtain ⟨h1, h2, h3⟩ := Oper.apart_spec hap
  obtain ⟨x', hx', q1, _⟩ := h
  obtain rfl : x' = x := Option.some.inj (hx'.symm.trans hi)
  obtain ⟨vx, gx, y', hy', q2, _⟩ := q1 hq
  obtain rfl : y' = y := Option.some.inj (hy'.symm.trans hj)
  obtain ⟨vy, gy, h4⟩ := q2 hq2
  refine ⟨_, hj, fun _ => ⟨vy, gy.of_same (execOp_put _ hy a x'.dst vx h1).symm (wanted_put _ a x'.dst vx h1).symm, _, hi, fun _ => ⟨vx, gx.of_same (execOp_put _ hx a y'.dst vy h3) (wanted_put _ a y'.dst vy h3), ?_⟩, fun h9 => by rw [hq] at h9; cases h9⟩, fun h9 => by rw [hq2] at h9; cases h9⟩
  rw [← Act.put_comm a vx vy h2]
  exact h4
theorem LinB.front {eff : List Nat} {j : Nat} {y : Oper} {T2 : List Nat} (hj : ops[j]? = some y) (hy : ∀ cs b, y.op ≠ .select cs b) (hq2 : eff.contains j = false) : ∀ (T1 : List Nat) (a : Act), (∀ i ∈ T1, ∃ x, ops[i]? = some x ∧ (∀ cs b, x.op ≠ .select cs b) ∧ x.apart ops y = true ∧ eff.contains i = false) → LinB P ops Q S eff (T1 ++ j :: T2) a → LinB P ops Q S eff (j :: (T1 ++ T2)) a
  | [], _, _, h => h
  | i :: T1, a, hap, h => by
    obtain ⟨x, hi, hx, hxy, hq⟩ := hap i (by simp)
    obtain ⟨x', hx', q1, _⟩ := h
    obtain rfl : x' = x := Option.some.inj (hx'.symm.trans hi)
    obtain ⟨vx, gx, h4⟩ := q1 hq
    have h5 := LinB.front hj hy hq2 T1 _ (fun k hk => hap k (by simp [hk])) h4
    exact LinB.swap hi hj hx hy hxy hq hq2 ⟨_, hi, fun _ => ⟨vx, gx, h5⟩, fun h9 => by rw [hq] at h9; cases h9⟩

def pairsOkB (ops : Array Oper) (eff : List Nat) : List Nat → Bool
  | [] => true
  | i :: r => decide (i < ops.size) && (!r.contains i && (r.all (fun j => reach ops 9 j i || (pairApart ops i j && (!eff.contains i && !eff.contains j))) && pairsOkB ops eff r))
def ordOkB (ops : Array Oper) (eff ord : List Nat) : Bool :=
  (Region.noSelect ops && decide (ord.length ≤ ops.size)) && ((List.range ops.size).all (fun j => ord.contains j && match ops[j]? with | none => true | some oj => oj.after.all (fun e => decide (e.on < j))) && pairsOkB ops eff ord)
theorem pairsOkB_split {eff : List Nat} : ∀ (L1 : List Nat) {j : Nat} {L2 : List Nat}, pairsOkB ops eff (L1 ++ j :: L2) = true → j ∉ L1 ∧ j ∉ L2 ∧ ∀ i ∈ L1, i < ops.size ∧ (reach ops 9 j i = true ∨ (pairApart ops i j = true ∧ eff.contains i = false ∧ eff.contains j = false))
  | [], j, L2, h => by
    simp only [List.nil_append, pairsOkB, Bool.and_eq_true, Bool.not_eq_true'] at h
    refine ⟨by simp, ?_, by simp⟩
    intro hm
    have := h.2.1
    rw [List.contains_iff_mem.2 hm] at this
    cases this
  | k :: L1, j, L2, h => by
    simp only [List.cons_append, pairsOkB, Bool.and_eq_true, Bool.not_eq_true', decide_eq_true_eq] at h
    obtain ⟨h0, h1, h2, h3⟩ := h
    obtain ⟨i1, i2, i3⟩ := pairsOkB_split L1 h3
    have hkj : k ≠ j := by
      rintro rfl
      rw [List.contains_iff_mem.2 (by simp)] at h1
      cases h1
    refine ⟨by simp [i1]; exact fun e => hkj e.symm, i2, fun i hi => ?_⟩
    rcases List.mem_cons.1 hi with rfl | hi
    · refine ⟨h0, ?_⟩
      have h4 := List.all_eq_true.1 h2 j (by simp)
      simp only [Bool.or_eq_true, Bool.and_eq_true, Bool.not_eq_true'] at h4
      rcases h4 with h4 | h4
      · exact .inl h4
      · exact .inr ⟨h4.1, h4.2.1, h4.2.2⟩
    · exact i3 i hi

theorem linB_any {eff ord : List Nat} (hok : ordOkB ops eff ord = true) : ∀ (fuel : Nat) (listed : Array Bool) (a : Act) (w : World), listed.size = ops.size → ClosedL ops listed → (left listed ord).length ≤ fuel → S w → LinB P ops Q S eff (left listed ord) a → wpAny P .any ops Q fuel listed a w := by
  simp only [ordOkB, Bool.and_eq_true] at hok
  obtain ⟨⟨hns, _⟩, hall0, hpairs⟩ := hok
  have hsel : ∀ (j : Nat) (o : Oper), ops[j]? = some o → ∀ cs b, o.op ≠ .select cs b := fun j o ho cs b => Region.noSelect_spec hns j o cs b ho
  have hback : ∀ j oj, ops[j]? = some oj → j ∈ ord ∧ ∀ e ∈ oj.after, e.on < j := by
    intro j oj hoj
    have h1 := List.all_eq_true.1 hall0 j (List.mem_range.2 (Array.getElem?_eq_some_iff.1 hoj).1)
    simp only [hoj, Bool.and_eq_true, Array.all_eq_true_iff_forall_mem, decide_eq_true_eq] at h1
    exact ⟨List.contains_iff_mem.1 h1.1, h1.2⟩
  have hnil : ∀ listed : Array Bool, listed.size = ops.size → Region.ready .any ops listed = [] → left listed ord = [] := by
    intro listed hsz hr
    have key : ∀ j, listed.getD j true = true := by
      intro j
      induction j using Nat.strongRecOn with
      | ind j ih =>
        cases hb : listed.getD j true with
        | true => rfl
        | false =>
          have hj : j < ops.size := by
            rcases Nat.lt_or_ge j listed.size with h' | h'
            · omega
            · simp [Array.getElem?_eq_none h'] at hb
          have hoj : ops[j]? = some ops[j] := Array.getElem?_eq_getElem hj
          have hm : j ∈ Region.ready .any ops listed := mem_ready.2 ⟨hb, _, hoj, fun e he _ => by
            have hlt := (hback j _ hoj).2 e he
            have h9 := ih e.on hlt
            have h8 : e.on < listed.size := by omega
            simp [h8] at h9 ⊢
            exact h9⟩
          rw [hr] at hm
          cases hm
    unfold left
    rw [List.filter_eq_nil_iff]
    intro i _
    rw [key i]
    simp
  have hpick : ∀ (listed : Array Bool) (j : Nat), listed.size = ops.size → ClosedL ops listed → j ∈ Region.ready .any ops listed → ∃ oj T1 T2, ops[j]? = some oj ∧ left listed ord = T1 ++ j :: T2 ∧ left (listed.setIfInBounds j true) ord = T1 ++ T2 ∧ ∀ i ∈ T1, ∃ x, ops[i]? = some x ∧ (∀ cs b, x.op ≠ .select cs b) ∧ x.apart ops oj = true ∧ eff.contains i = false ∧ eff.contains j = false := by
    intro listed j hsz hcl hj
    obtain ⟨hun, oj, hoj, hall⟩ := mem_ready.1 hj
    obtain ⟨L1, L2, hord⟩ := List.append_of_mem (hback j oj hoj).1
    rw [hord] at hpairs
    obtain ⟨hn1, hn2, hp⟩ := pairsOkB_split L1 hpairs
    have hlt : j < listed.size := by have := (Array.getElem?_eq_some_iff.1 hoj).1; omega
    refine ⟨oj, left listed L1, left listed L2, hoj, ?_, ?_, ?_⟩
    · rw [hord]
      unfold left
      rw [List.filter_append, List.filter_cons, hun]
      simp
    · have e : left (listed.setIfInBounds j true) (j :: L2) = left (listed.setIfInBounds j true) L2 := by
        unfold left
        rw [List.filter_cons]
        simp [hlt]
      have e2 : left (listed.setIfInBounds j true) (L1 ++ j :: L2) = left (listed.setIfInBounds j true) L1 ++ left (listed.setIfInBounds j true) (j :: L2) := by simp [left]
      rw [hord, e2, e, left_set _ _ _ hn1, left_set _ _ _ hn2]
    · intro i hi
      have hi1 := List.mem_filter.1 hi
      obtain ⟨hil, hc⟩ := hp i hi1.1
      have hui : listed.getD i true = false := by simpa using hi1.2
      have hoi : ops[i]? = some ops[i] := Array.getElem?_eq_getElem hil
      rcases hc with h9 | h9
      · have h8 := reach_spec hcl 9 j i hoj hall h9
        have h7 : i < listed.size := by omega
        simp [h7] at h8 hui
        rw [hui] at h8
        cases h8
      · refine ⟨_, hoi, hsel i _ hoi, ?_, h9.2⟩
        have h7 := h9.1
        unfold pairApart at h7
        simp only [hoi, hoj] at h7
        exact h7
  intro fuel
  induction fuel with
  | zero =>
    intro listed a w hsz hcl hlen hS hL
    have h0 : left listed ord = [] := List.length_eq_zero_iff.1 (by omega)
    rw [h0] at hL
    refine ⟨?_, hL w hS⟩
    refine List.eq_nil_iff_forall_not_mem.2 (fun j hj => ?_)
    obtain ⟨oj, T1, T2, _, h1, _⟩ := hpick listed j hsz hcl hj
    rw [h0] at h1
    simp at h1
  | succ fuel ih =>
    intro listed a w hsz hcl hlen hS hL
    refine ⟨fun hr => ?_, fun j hj => ?_⟩
    · rw [hnil listed hsz hr] at hL
      exact hL w hS
    · obtain ⟨oj, T1, T2, hoj, h1, h2, h3⟩ := hpick listed j hsz hcl hj
      rw [h1] at hL hlen
      cases hv : eff.contains j with
      | false =>
        obtain ⟨oj', hoj', q1, q2⟩ := LinB.front hoj (hsel j oj hoj) hv T1 a (fun i hi => by obtain ⟨x, e1, e2, e3, e4, _⟩ := h3 i hi; exact ⟨x, e1, e2, e3, e4⟩) hL
        obtain rfl : oj' = oj := Option.some.inj (hoj'.symm.trans hoj)
        obtain ⟨v, g, h5⟩ := q1 hv
        refine g.wpOp hoj hS (fun w' hS' => ih (listed.setIfInBounds j true) _ w' (by simp [hsz]) (closedL_set hcl hj) ?_ hS' ?_)
        · rw [h2]
          simp at hlen ⊢
          omega
        · rw [h2]
          exact h5
      | true =>
        have hT1 : T1 = [] := by
          cases T1 with
          | nil => rfl
          | cons i T1 =>
            obtain ⟨x, _, _, _, _, e5⟩ := h3 i (by simp)
            rw [hv] at e5; cases e5
        subst hT1
        obtain ⟨oj', hoj', q1, q2⟩ := hL
        obtain rfl : oj' = oj := Option.some.inj (hoj'.symm.trans hoj)
        obtain ⟨hT2, hm0⟩ := q2 hv
        subst hT2
        obtain ⟨hw, hm⟩ := hm0 w hS
        have hnext : ∀ a' w', Q .normal a' w' → wpAny P .any ops Q fuel (listed.setIfInBounds j true) a' w' := fun a' w' h4 => by
          have hcl2 := closedL_set hcl hj
          have hnone : Region.ready .any ops (listed.setIfInBounds j true) = [] := by
            refine List.eq_nil_iff_forall_not_mem.2 (fun j2 hj2 => ?_)
            obtain ⟨_, U1, U2, _, u1, _⟩ := hpick _ j2 (by simp [hsz]) hcl2 hj2
            rw [h2] at u1
            simp at u1
          cases fuel with
          | zero => exact ⟨hnone, h4⟩
          | succ fuel => exact ⟨fun _ => h4, fun i hi => by rw [hnone] at hi; cases hi⟩
        unfold wpOp
        simp only [hoj, hw, if_true]
        refine .inl ?_
        unfold Oper.wp
        rcases hm with ⟨v, w', h6 | ⟨h6, rfl⟩, h7, h8⟩ | ⟨f, args, w1, h6, h7⟩
        · rw [h6]
          exact hnext _ _ h8
        · rw [h6]
          exact hnext _ _ h8
        · rw [h6]
          refine Calls.mono h7 ?_
          rintro e w' ⟨v, rfl, h8, h9⟩
          exact hnext _ _ h9

/-- THE BEGINNING. -/
theorem wp_region_linB {id : Nat} {a : Act} {w : World} (S : World → Prop) (eff ord : List Nat) (hm : P.follows .mixedOrders = true) (hok : ordOkB ops eff ord = true) (hS : S w.drew) (h : LinB P ops Q S eff ord a) : (Code.region id ops true).wp P Q a w := by
  refine wp_region_any hm ?_
  have hok2 := hok
  simp only [ordOkB, Bool.and_eq_true] at hok
  have hlt : ∀ i ∈ ord, i < ops.size := by
    intro i hi
    obtain ⟨L1, L2, hord⟩ := List.append_of_mem hi
    have h3 := hok.2.2
    rw [hord] at h3
    have : ∀ (L1 : List Nat), pairsOkB ops eff (L1 ++ i :: L2) = true → i < ops.size := by
      intro L1
      induction L1 with
      | nil => intro h; simp only [List.nil_append, pairsOkB, Bool.and_eq_true, decide_eq_true_eq] at h; exact h.1
      | cons k L1 ih => intro h; simp only [List.cons_append, pairsOkB, Bool.and_eq_true] at h; exact ih h.2.2.2
    exact this L1 h3
  have hu : left (Array.replicate ops.size false) ord = ord := by
    unfold left
    rw [List.filter_eq_self]
    intro i hi
    have := hlt i hi
    simp [this]
  refine linB_any hok2 _ _ _ _ (by simp) (fun j oj _ h => by rw [getD_replicate_false] at h; cases h) ?_ hS ?_
  · rw [hu]
    simpa using hok.1.2
  · rw [hu]; exact h

theorem linB_nil {eff : List Nat} {a : Act} (h : ∀ w, S w → Q .normal a w) : LinB P ops Q S eff [] a := h
theorem linB_op {eff : List Nat} {i : Nat} {o : Oper} {r : List Nat} {a : Act} {v : Value} (ho : ops[i]? = some o) (he : eff.contains i = false) (hw : Region.wanted o (yielded ops a.tmps) = true) (hy : ∀ w, S w → (execOp a.eval o).run P w = .ok (.value v) w) (h : LinB P ops Q S eff r (a.put o.dst v)) : LinB P ops Q S eff (i :: r) a :=
  ⟨o, ho, fun _ => ⟨v, .inl ⟨hw, fun w hS => .inl ⟨w, hy w hS, hS⟩⟩, h⟩, fun h9 => by rw [he] at h9; cases h9⟩
theorem linB_off {eff : List Nat} {i : Nat} {o : Oper} {r : List Nat} {a : Act} (ho : ops[i]? = some o) (he : eff.contains i = false) (hw : Region.wanted o (yielded ops a.tmps) = false) (h : LinB P ops Q S eff r (a.put o.dst undef)) : LinB P ops Q S eff (i :: r) a :=
  ⟨o, ho, fun _ => ⟨undef, .inr ⟨hw, rfl⟩, h⟩, fun h9 => by rw [he] at h9; cases h9⟩
theorem linB_fn {eff : List Nat} {i : Nat} {o : Oper} {r : List Nat} {a : Act} {v : Value} {f : Nat} {c : Call} {args : Array Value} (hi : ops[i]? = some o) (he : eff.contains i = false) (hw : Region.wanted o (yielded ops a.tmps) = true) (ho : o.op = .call c) (hc : c.callee = .value (.func f)) (hen : ∀ args w, (callFunc f args).run P w = .ok (.enter f args) w)
    (hcl : ∀ w, S w → Calls P f args w fun e w' => e = .returned v ∧ S w') (ha : c.args.map a.eval = args) (h : LinB P ops Q S eff r (a.put o.dst v)) : LinB P ops Q S eff (i :: r) a := by
  refine ⟨o, hi, fun _ => ⟨v, .inl ⟨hw, fun w hS => .inr ⟨f, args, ?_, hcl w hS⟩⟩, h⟩, fun h9 => by rw [he] at h9; cases h9⟩
  simp only [execOp, ho, resolve, hc, ha, Act.eval, Deferred.ofValue, invoke, Sem.run_bind, Sem.run_pure, Result.andThen_ok]
  have e1 := hen (#[] ++ args ++ #[]) w
  simp only [Array.empty_append, Array.append_empty] at e1 ⊢
  exact e1
/-- The last one, a call. -/
theorem linB_last {eff : List Nat} {i : Nat} {o : Oper} {a : Act} {f : Nat} {c : Call} {args : Array Value} (hi : ops[i]? = some o) (he : eff.contains i = true) (hw : Region.wanted o (yielded ops a.tmps) = true) (ho : o.op = .call c) (hc : c.callee = .value (.func f)) (hen : ∀ args w, (callFunc f args).run P w = .ok (.enter f args) w) (ha : c.args.map a.eval = args)
    (h : ∀ w, S w → Calls P f args w fun e w' => ∃ v, e = .returned v ∧ Q .normal (a.put o.dst v) w') : LinB P ops Q S eff [i] a := by
  refine ⟨o, hi, fun h9 => (by rw [he] at h9; cases h9), fun _ => ⟨rfl, fun w hS => ⟨hw, .inr ⟨f, args, w, ?_, (h w hS).mono fun e w' ⟨v, h1, h2⟩ => ⟨v, h1, trivial, h2⟩⟩⟩⟩⟩
  simp only [execOp, ho, resolve, hc, ha, Act.eval, Deferred.ofValue, invoke, Sem.run_bind, Sem.run_pure, Result.andThen_ok]
  have e1 := hen (#[] ++ args ++ #[]) w
  simp only [Array.empty_append, Array.append_empty] at e1 ⊢
  exact e1
/-- The last one, a store. -/
theorem linB_store {eff : List Nat} {i : Nat} {o : Oper} {a : Act} (hi : ops[i]? = some o) (he : eff.contains i = true) (hw : Region.wanted o (yielded ops a.tmps) = true)
    (h : ∀ w, S w → ∃ w', (execOp a.eval o).run P w = .ok .skip w' ∧ Q .normal (a.put o.dst undef) w') : LinB P ops Q S eff [i] a :=
  ⟨o, hi, fun h9 => (by rw [he] at h9; cases h9), fun _ => ⟨rfl, fun w hS => by
    obtain ⟨w', h1, h2⟩ := h w hS
    exact ⟨hw, .inl ⟨undef, w', .inr ⟨h1, rfl⟩, trivial, h2⟩⟩⟩⟩
end
end Go.Proofs.Ytoidklkloagioaa
