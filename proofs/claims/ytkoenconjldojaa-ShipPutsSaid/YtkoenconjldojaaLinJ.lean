/-
  As LinI, at an iterator's outermost: an operation may call yield. Nothing here is a statement of the document.
-/
import Derived.Test.YtkoenconjldojaaPfxD
import Derived.Deep.QuietTactic
import Derived.Test.YtkoenconjldojaaItB
import Derived.StillTail
namespace Go.Proofs.Ytkoenconjldojaa
set_option linter.unusedVariables false

section
variable {P : Program} {ops : Array Oper} {Q : Exit → Act → World → Prop} {S : World → Prop}

/-- In every world that meets S the operation gives v, and leaves the world as it is, but for draws. -/
def StillD (P : Program) (ops : Array Oper) (S : World → Prop) (o : Oper) (v : Value) (a : Act) : Prop :=
  (Region.wanted o (yielded ops a.tmps) = true ∧ ∀ w, S w → ((execOp a.eval o).run P w = .ok (.value v) w ∨ ∃ f args, (execOp a.eval o).run P w = .ok (.enter f args) w ∧ Calls P f args w fun e w' => e = .returned v ∧ ∃ n, w' = w.drewN n)) ∨
  (Region.wanted o (yielded ops a.tmps) = false ∧ v = undef)
theorem StillD.of_same {o : Oper} {v : Value} {a a' : Act} (hy : StillD P ops S o v a) (he : execOp a'.eval o = execOp a.eval o)
    (hw : Region.wanted o (yielded ops a'.tmps) = Region.wanted o (yielded ops a.tmps)) : StillD P ops S o v a' := by
  unfold StillD at *
  rw [he, hw]
  exact hy
/-- The operations in the order that is picked; those of eff may change the world. -/
def LinD (P : Program) (ops : Array Oper) (Q : Exit → Act → World → Prop) (S : World → Prop) (eff : List Nat) : List Nat → Act → World → Prop
  | [], a, w => ∀ n, Q .normal a (w.drewN n)
  | i :: r, a, w => ∃ o, ops[i]? = some o ∧ (eff.contains i = false → ∃ v, StillD P ops S o v a ∧ LinD P ops Q S eff r (a.put o.dst v) w) ∧ (eff.contains i = true → ∀ n, Moves P ops S o a (w.drewN n) fun v w' => LinD P ops Q S eff r (a.put o.dst v) w')

theorem LinD.swap {eff : List Nat} {i j : Nat} {x y : Oper} {r : List Nat} {a : Act} {w : World} (hi : ops[i]? = some x) (hj : ops[j]? = some y) (hx : ∀ cs b, x.op ≠ .select cs b) (hy : ∀ cs b, y.op ≠ .select cs b) (hap : x.apart ops y = true) (hq : eff.contains i = false)
    (h : LinD P ops Q S eff (i :: j :: r) a w) : LinD P ops Q S eff (j :: i :: r) a w := by
  obtain ⟨h1, h2, h3⟩ := Oper.apart_spec hap
  have ey : ∀ (v : Value), execOp (a.put x.dst v).eval y = execOp a.eval y := fun v => execOp_put y hy a x.dst v h1
  have wy : ∀ (v : Value), Region.wanted y (yielded ops (a.put x.dst v).tmps) = Region.wanted y (yielded ops a.tmps) := fun v => wanted_put y a x.dst v h1
  have ex : ∀ (v : Value), execOp (a.put y.dst v).eval x = execOp a.eval x := fun v => execOp_put x hx a y.dst v h3
  have wx : ∀ (v : Value), Region.wanted x (yielded ops (a.put y.dst v).tmps) = Region.wanted x (yielded ops a.tmps) := fun v => wanted_put x a y.dst v h3
  obtain ⟨x', hx', q1, _⟩ := h
  obtain rfl : x' = x := Option.some.inj (hx'.symm.trans hi)
  obtain ⟨vx, gx, y', hy', q2, q3⟩ := q1 hq
  obtain rfl : y' = y := Option.some.inj (hy'.symm.trans hj)
  refine ⟨_, hj, fun hf => ?_, fun ht n => ?_⟩
  · obtain ⟨vy, gy, h4⟩ := q2 hf
    refine ⟨vy, gy.of_same (ey vx).symm (wy vx).symm, _, hi, fun _ => ⟨vx, gx.of_same (ex vy) (wx vy), ?_⟩, fun h9 => by rw [hq] at h9; cases h9⟩
    rw [← Act.put_comm a vx vy h2]
    exact h4
  · refine (Moves.of_same (q3 ht n) (ey vx).symm (wy vx).symm).imp (fun v w' hS' h4 => ?_)
    refine ⟨_, hi, fun _ => ⟨vx, gx.of_same (ex v) (wx v), ?_⟩, fun h9 => by rw [hq] at h9; cases h9⟩
    rw [← Act.put_comm a vx v h2]
    exact h4
theorem LinD.front {eff : List Nat} {j : Nat} {y : Oper} {T2 : List Nat} (hj : ops[j]? = some y) (hy : ∀ cs b, y.op ≠ .select cs b) : ∀ (T1 : List Nat) (a : Act) (w : World), (∀ i ∈ T1, ∃ x, ops[i]? = some x ∧ (∀ cs b, x.op ≠ .select cs b) ∧ x.apart ops y = true ∧ eff.contains i = false) → LinD P ops Q S eff (T1 ++ j :: T2) a w → LinD P ops Q S eff (j :: (T1 ++ T2)) a w
  | [], _, _, _, h => h
  | i :: T1, a, w, hap, h => by
    obtain ⟨x, hi, hx, hxy, hq⟩ := hap i (by simp)
    obtain ⟨x', hx', q1, _⟩ := h
    obtain rfl : x' = x := Option.some.inj (hx'.symm.trans hi)
    obtain ⟨vx, gx, h4⟩ := q1 hq
    have h5 := LinD.front hj hy T1 _ w (fun k hk => hap k (by simp [hk])) h4
    exact LinD.swap hi hj hx hy hxy hq ⟨_, hi, fun _ => ⟨vx, gx, h5⟩, fun h9 => by rw [hq] at h9; cases h9⟩

theorem linD_any {eff ord : List Nat} (hok : ordOk ops eff ord = true) (hSd : ∀ w n, S w → S (w.drewN n)) : ∀ (fuel : Nat) (listed : Array Bool) (a : Act) (w : World) (m : Nat), listed.size = ops.size → (left listed ord).length ≤ fuel → S w → LinD P ops Q S eff (left listed ord) a w → wpAny P .any ops Q fuel listed a (w.drewN m) := by
  simp only [ordOk, Bool.and_eq_true] at hok
  obtain ⟨⟨hns, _⟩, hall0, hpairs⟩ := hok
  have hsel : ∀ (j : Nat) (o : Oper), ops[j]? = some o → ∀ cs b, o.op ≠ .select cs b := fun j o ho cs b => Region.noSelect_spec hns j o cs b ho
  have hback : ∀ j oj, ops[j]? = some oj → j ∈ ord ∧ ∀ e ∈ oj.after, e.on < j := by
    intro j oj hoj
    have h1 := List.all_eq_true.1 hall0 j (List.mem_range.2 (Array.getElem?_eq_some_iff.1 hoj).1)
    simp only [hoj, Bool.and_eq_true, Array.all_eq_true_iff_forall_mem, decide_eq_true_eq] at h1
    exact ⟨List.contains_iff_mem.1 h1.1, h1.2⟩
  have hnil : ∀ listed : Array Bool, listed.size = ops.size → Region.ready .any ops listed = [] → left listed ord = [] := by
    intro listed hsz hr
    have key : ∀ j, listed.getD j true = true := by
      intro j
      induction j using Nat.strongRecOn with
      | ind j ih =>
        cases hb : listed.getD j true with
        | true => rfl
        | false =>
          have hj : j < ops.size := by
            rcases Nat.lt_or_ge j listed.size with h' | h'
            · omega
            · simp [Array.getElem?_eq_none h'] at hb
          have hoj : ops[j]? = some ops[j] := Array.getElem?_eq_getElem hj
          have hm : j ∈ Region.ready .any ops listed := mem_ready.2 ⟨hb, _, hoj, fun e he _ => by
            have hlt := (hback j _ hoj).2 e he
            have h9 := ih e.on hlt
            have h8 : e.on < listed.size := by omega
            simp [h8] at h9 ⊢
            exact h9⟩
          rw [hr] at hm
          cases hm
    unfold left
    rw [List.filter_eq_nil_iff]
    intro i _
    rw [key i]
    simp
  have hpick : ∀ (listed : Array Bool) (j : Nat), listed.size = ops.size → j ∈ Region.ready .any ops listed → ∃ oj T1 T2, ops[j]? = some oj ∧ left listed ord = T1 ++ j :: T2 ∧ left (listed.setIfInBounds j true) ord = T1 ++ T2 ∧ ∀ i ∈ T1, ∃ x, ops[i]? = some x ∧ (∀ cs b, x.op ≠ .select cs b) ∧ x.apart ops oj = true ∧ eff.contains i = false := by
    intro listed j hsz hj
    obtain ⟨hun, oj, hoj, hall⟩ := mem_ready.1 hj
    obtain ⟨L1, L2, hord⟩ := List.append_of_mem (hback j oj hoj).1
    rw [hord] at hpairs
    obtain ⟨hn1, hn2, hp⟩ := pairsOk_split L1 hpairs
    have hlt : j < listed.size := by have := (Array.getElem?_eq_some_iff.1 hoj).1; omega
    refine ⟨oj, left listed L1, left listed L2, hoj, ?_, ?_, ?_⟩
    · rw [hord]
      unfold left
      rw [List.filter_append, List.filter_cons, hun]
      simp
    · have e : left (listed.setIfInBounds j true) (j :: L2) = left (listed.setIfInBounds j true) L2 := by
        unfold left
        rw [List.filter_cons]
        simp [hlt]
      have e2 : left (listed.setIfInBounds j true) (L1 ++ j :: L2) = left (listed.setIfInBounds j true) L1 ++ left (listed.setIfInBounds j true) (j :: L2) := by simp [left]
      rw [hord, e2, e, left_set _ _ _ hn1, left_set _ _ _ hn2]
    · intro i hi
      have hi1 := List.mem_filter.1 hi
      obtain ⟨hil, hc⟩ := hp i hi1.1
      have hui : listed.getD i true = false := by simpa using hi1.2
      have hoi : ops[i]? = some ops[i] := Array.getElem?_eq_getElem hil
      rcases hc with h9 | h9
      · obtain ⟨e, he, hb, rfl⟩ := waits_spec hoj h9
        have h8 := hall e he hb
        have h7 : e.on < listed.size := by omega
        simp [h7] at h8 hui
        rw [hui] at h8
        cases h8
      · refine ⟨_, hoi, hsel i _ hoi, ?_, h9.2⟩
        have h7 := h9.1
        unfold pairApart at h7
        simp only [hoi, hoj] at h7
        exact h7
  intro fuel
  induction fuel with
  | zero =>
    intro listed a w m hsz hlen hS hL
    have h0 : left listed ord = [] := List.length_eq_zero_iff.1 (by omega)
    rw [h0] at hL
    refine ⟨?_, hL m⟩
    refine List.eq_nil_iff_forall_not_mem.2 (fun j hj => ?_)
    obtain ⟨oj, T1, T2, _, h1, _⟩ := hpick listed j hsz hj
    rw [h0] at h1
    simp at h1
  | succ fuel ih =>
    intro listed a w m hsz hlen hS hL
    refine ⟨fun hr => ?_, fun j hj => ?_⟩
    · rw [hnil listed hsz hr] at hL
      exact hL m
    · obtain ⟨oj, T1, T2, hoj, h1, h2, h3⟩ := hpick listed j hsz hj
      rw [h1] at hL hlen
      obtain ⟨oj', hoj', q1, q2⟩ := LinD.front hoj (hsel j oj hoj) T1 a w h3 hL
      obtain rfl : oj' = oj := Option.some.inj (hoj'.symm.trans hoj)
      have hnext : ∀ a' w' m, S w' → LinD P ops Q S eff (T1 ++ T2) a' w' → wpAny P .any ops Q fuel (listed.setIfInBounds j true) a' (w'.drewN m) := fun a' w' m hS' h4 => by
        refine ih (listed.setIfInBounds j true) a' w' m (by simp [hsz]) ?_ hS' (by rw [h2]; exact h4)
        rw [h2]
        simp at hlen ⊢
        omega
      unfold wpOp
      simp only [hoj]
      cases hv : eff.contains j with
      | false =>
        obtain ⟨v, g, h5⟩ := q1 hv
        rcases g with ⟨hw, hy⟩ | ⟨hw, rfl⟩
        · simp only [hw, if_true]
          refine .inl ?_
          unfold Oper.wp
          rcases hy _ (hSd w m hS) with h6 | ⟨f, args, h6, h7⟩
          · rw [h6]
            exact hnext _ _ m hS h5
          · rw [h6]
            refine Calls.mono h7 ?_
            rintro e w' ⟨rfl, n, rfl⟩
            rw [World.drewN_drewN]
            exact hnext _ _ _ hS h5
        · simp only [hw, Bool.false_eq_true, if_false]
          exact hnext _ _ m hS h5
      | true =>
        obtain ⟨hw, hm⟩ := q2 hv m
        simp only [hw, if_true]
        refine .inl ?_
        unfold Oper.wp
        rcases hm with ⟨v, w', h6 | ⟨h6, rfl⟩, h7, h8⟩ | ⟨f, args, w1, h6, h7⟩
        · rw [h6]
          exact hnext _ _ 0 h7 h8
        · rw [h6]
          exact hnext _ _ 0 h7 h8
        · rw [h6]
          refine Calls.mono h7 ?_
          rintro e w' ⟨v, rfl, h8, h9⟩
          exact hnext _ _ 0 h8 h9

/-- THE BEGINNING: a region that draws its order, walked in the order that is picked; those of eff may change the world. -/
theorem wp_region_linD {id : Nat} {a : Act} {w : World} (S : World → Prop) (eff ord : List Nat) (hm : P.follows .mixedOrders = true) (hok : ordOk ops eff ord = true) (hSd : ∀ w n, S w → S (w.drewN n)) (hS : S w.drew) (h : LinD P ops Q S eff ord a w.drew) : (Code.region id ops true).wp P Q a w := by
  refine wp_region_any hm ?_
  simp only [ordOk, Bool.and_eq_true] at hok
  have hlt : ∀ i ∈ ord, i < ops.size := by
    intro i hi
    obtain ⟨L1, L2, hord⟩ := List.append_of_mem hi
    have h3 := hok.2.2
    rw [hord] at h3
    have : ∀ (L1 : List Nat), pairsOk ops eff (L1 ++ i :: L2) = true → i < ops.size := by
      intro L1
      induction L1 with
      | nil => intro h; simp only [List.nil_append, pairsOk, Bool.and_eq_true, decide_eq_true_eq] at h; exact h.1
      | cons k L1 ih => intro h; simp only [List.cons_append, pairsOk, Bool.and_eq_true] at h; exact ih h.2.2.2
    exact this L1 h3
  have hu : left (Array.replicate ops.size false) ord = ord := by
    unfold left
    rw [List.filter_eq_self]
    intro i hi
    have := hlt i hi
    simp [this]
  refine linD_any (S := S) (eff := eff) (ord := ord) (by simp only [ordOk, Bool.and_eq_true]; exact hok) hSd _ _ _ _ 0 (by simp) ?_ hS ?_
  · rw [hu]
    simpa using hok.1.2
  · rw [hu]; exact h

theorem linD_nil {eff : List Nat} {a : Act} {w : World} (h : ∀ n, Q .normal a (w.drewN n)) : LinD P ops Q S eff [] a w := h
/-- An operation that gives its value in every world that meets S, and leaves the world as it is. -/
theorem linD_op {eff : List Nat} {i : Nat} {o : Oper} {r : List Nat} {a : Act} {w : World} {v : Value} (ho : ops[i]? = some o) (he : eff.contains i = false) (hw : Region.wanted o (yielded ops a.tmps) = true) (hy : ∀ w, S w → (execOp a.eval o).run P w = .ok (.value v) w) (h : LinD P ops Q S eff r (a.put o.dst v) w) : LinD P ops Q S eff (i :: r) a w :=
  ⟨o, ho, fun _ => ⟨v, .inl ⟨hw, fun w hS => .inl (hy w hS)⟩, h⟩, fun h9 => by rw [he] at h9; cases h9⟩
theorem linD_off {eff : List Nat} {i : Nat} {o : Oper} {r : List Nat} {a : Act} {w : World} (ho : ops[i]? = some o) (he : eff.contains i = false) (hw : Region.wanted o (yielded ops a.tmps) = false) (h : LinD P ops Q S eff r (a.put o.dst undef) w) : LinD P ops Q S eff (i :: r) a w :=
  ⟨o, ho, fun _ => ⟨undef, .inr ⟨hw, rfl⟩, h⟩, fun h9 => by rw [he] at h9; cases h9⟩
theorem linD_fn {eff : List Nat} {i : Nat} {o : Oper} {r : List Nat} {a : Act} {w : World} {v : Value} {f : Nat} {c : Call} {args : Array Value} (hi : ops[i]? = some o) (he : eff.contains i = false) (hw : Region.wanted o (yielded ops a.tmps) = true) (ho : o.op = .call c) (hc : c.callee = .value (.func f)) (hen : ∀ args w, (callFunc f args).run P w = .ok (.enter f args) w)
    (hcl : ∀ w, S w → Calls P f args w fun e w' => e = .returned v ∧ ∃ n, w' = w.drewN n) (ha : c.args.map a.eval = args) (h : LinD P ops Q S eff r (a.put o.dst v) w) : LinD P ops Q S eff (i :: r) a w := by
  refine ⟨o, hi, fun _ => ⟨v, .inl ⟨hw, fun w hS => .inr ⟨f, args, ?_, hcl w hS⟩⟩, h⟩, fun h9 => by rw [he] at h9; cases h9⟩
  simp only [execOp, ho, resolve, hc, ha, Act.eval, Deferred.ofValue, invoke, Sem.run_bind, Sem.run_pure, Result.andThen_ok]
  have e1 := hen (#[] ++ args ++ #[]) w
  simp only [Array.empty_append, Array.append_empty] at e1 ⊢
  exact e1
/-- An operation that changes the world. -/
theorem linD_do {eff : List Nat} {i : Nat} {o : Oper} {r : List Nat} {a : Act} {w : World} {v : Value} (ho : ops[i]? = some o) (he : eff.contains i = true) (hw : Region.wanted o (yielded ops a.tmps) = true) (hy : ∀ n, ∃ w', (execOp a.eval o).run P (w.drewN n) = .ok (.value v) w' ∧ S w' ∧ LinD P ops Q S eff r (a.put o.dst v) w') : LinD P ops Q S eff (i :: r) a w :=
  ⟨o, ho, fun h9 => (by rw [he] at h9; cases h9), fun _ n => ⟨hw, let ⟨w', h1, h2, h3⟩ := hy n; .inl ⟨v, w', .inl h1, h2, h3⟩⟩⟩
/-- A store. -/
theorem linD_store {eff : List Nat} {i : Nat} {o : Oper} {r : List Nat} {a : Act} {w : World} (ho : ops[i]? = some o) (he : eff.contains i = true) (hw : Region.wanted o (yielded ops a.tmps) = true) (hy : ∀ n, ∃ w', (execOp a.eval o).run P (w.drewN n) = .ok .skip w' ∧ S w' ∧ LinD P ops Q S eff r (a.put o.dst undef) w') : LinD P ops Q S eff (i :: r) a w :=
  ⟨o, ho, fun h9 => (by rw [he] at h9; cases h9), fun _ n => ⟨hw, let ⟨w', h1, h2, h3⟩ := hy n; .inl ⟨undef, w', .inr ⟨h1, rfl⟩, h2, h3⟩⟩⟩
/-- A call that changes the world. -/
theorem linD_call {eff : List Nat} {i : Nat} {o : Oper} {r : List Nat} {a : Act} {w : World} {f : Nat} {c : Call} {args : Array Value} (hi : ops[i]? = some o) (he : eff.contains i = true) (hw : Region.wanted o (yielded ops a.tmps) = true) (ho : o.op = .call c) (hc : c.callee = .value (.func f)) (hen : ∀ args w, (callFunc f args).run P w = .ok (.enter f args) w) (ha : c.args.map a.eval = args)
    (h : ∀ n, Calls P f args (w.drewN n) fun e w' => ∃ v, e = .returned v ∧ S w' ∧ LinD P ops Q S eff r (a.put o.dst v) w') : LinD P ops Q S eff (i :: r) a w := by
  refine ⟨o, hi, fun h9 => (by rw [he] at h9; cases h9), fun _ n => ⟨hw, .inr ⟨f, args, w.drewN n, ?_, h n⟩⟩⟩
  simp only [execOp, ho, resolve, hc, ha, Act.eval, Deferred.ofValue, invoke, Sem.run_bind, Sem.run_pure, Result.andThen_ok]
  have e1 := hen (#[] ++ args ++ #[]) (w.drewN n)
  simp only [Array.empty_append, Array.append_empty] at e1 ⊢
  exact e1
end
end Go.Proofs.Ytkoenconjldojaa
namespace Go.Proofs.Ytkoenconjldojaa
set_option linter.unusedVariables false

section
variable {P : Program} {ops : Array Oper} {Q : Exit → Act → World → Prop} {S : World → Prop} {n0 : Nat}

def noDeferJ (ops : Array Oper) : Bool := ops.all fun o => match o.op with | .defer _ => false | _ => true
theorem noDefer_specJ (h : noDeferJ ops = true) (j : Nat) (o : Oper) (hj : ops[j]? = some o) : ∀ c, o.op ≠ .defer c := by
  intro c hc
  have h1 := Array.all_eq_true.1 h j (Array.getElem?_eq_some_iff.1 hj).1
  rw [(Array.getElem?_eq_some_iff.1 hj).2, hc] at h1
  cases h1

theorem wpIn_upJ {o : Oper} {a : Act} (hd : ∀ c, o.op ≠ .defer c) {wx : World} {K : Act → World → Prop} (h : o.uponIn Fence.wide n0 P a K Q ((execOp a.eval o).run P wx)) : o.wpIn Fence.wide n0 P a wx K Q := by
  unfold Oper.wpIn
  rw [Oper.semAt_eq _ _ _ hd]
  exact ⟨fun _ _ => trivial, h⟩
theorem RoundIn.deeperJ {m m' l : Nat} {P : Program} {f : FuncId} {tmps : Array Value} {assign body : Code} {w : World} {R : Ending → World → Prop} (h : RoundIn Fence.wide m P l f tmps assign body w R) : RoundIn Fence.wide m' P l f tmps assign body w R :=
  ⟨trivial, fun c cs _ => h.2 c cs (room_wide _)⟩

/-- From this world the operation gives some v and leaves some world that meets S, of which K holds. -/
def MovesJ (n0 : Nat) (P : Program) (ops : Array Oper) (S : World → Prop) (o : Oper) (a : Act) (w : World) (K : Value → World → Prop) : Prop :=
  (Region.wanted o (yielded ops a.tmps) = true ∧ ((∃ v w', ((execOp a.eval o).run P w = .ok (.value v) w' ∨ ((execOp a.eval o).run P w = .ok .skip w' ∧ v = undef)) ∧ S w' ∧ K v w') ∨ ∃ f args w1, (execOp a.eval o).run P w = .ok (.enter f args) w1 ∧ Calls P f args w1 fun e w' => ∃ v, e = .returned v ∧ S w' ∧ K v w')) ∨ ∃ l' fn tmps assign body w1, Region.wanted o (yielded ops a.tmps) = true ∧ (execOp a.eval o).run P w = .ok (.round l' fn tmps assign body) w1 ∧ RoundIn Fence.wide n0 P l' fn tmps assign body w1 fun e w' => ∃ v, e = .returned v ∧ S w' ∧ K v w'
theorem MovesJ.of_same {o : Oper} {a a' : Act} {w : World} {K : Value → World → Prop} (hy : MovesJ n0 P ops S o a w K) (he : execOp a'.eval o = execOp a.eval o)
    (hw : Region.wanted o (yielded ops a'.tmps) = Region.wanted o (yielded ops a.tmps)) : MovesJ n0 P ops S o a' w K := by
  unfold MovesJ at *
  rw [he, hw]
  exact hy
theorem MovesJ.imp {o : Oper} {a : Act} {w : World} {K K' : Value → World → Prop} (h : MovesJ n0 P ops S o a w K) (hk : ∀ v w', S w' → K v w' → K' v w') : MovesJ n0 P ops S o a w K' := by
  rcases h with ⟨hw, h⟩ | ⟨l', fn, tmps, assign, body, w1, hw, h1, h2⟩
  · refine .inl ⟨hw, ?_⟩
    rcases h with ⟨v, w', h1, h2, h3⟩ | ⟨f, args, w1, h1, h2⟩
    · exact .inl ⟨v, w', h1, h2, hk v w' h2 h3⟩
    · refine .inr ⟨f, args, w1, h1, Calls.mono h2 ?_⟩
      rintro e w' ⟨v, h3, h4, h5⟩
      exact ⟨v, h3, h4, hk v w' h4 h5⟩
  · refine .inr ⟨l', fn, tmps, assign, body, w1, hw, h1, RoundIn.mono h2 ?_⟩
    rintro e w' ⟨v, h3, h4, h5⟩
    exact ⟨v, h3, h4, hk v w' h4 h5⟩
/-- j waits for i, at once or by others. -/
def reachJ (ops : Array Oper) : Nat → Nat → Nat → Bool
  | 0, _, _ => false
  | f + 1, j, i => waits ops j i || (match ops[j]? with | none => false | some oj => oj.after.any fun e => Region.binds .any e && reachJ ops f e.on i)
/-- What is listed has all that it waits for listed. -/
def ClosedLJ (ops : Array Oper) (listed : Array Bool) : Prop := ∀ j oj, ops[j]? = some oj → listed.getD j false = true → ∀ e ∈ oj.after, Region.binds .any e = true → listed.getD e.on false = true
theorem reach_specJ {listed : Array Bool} (hc : ClosedLJ ops listed) : ∀ (f j i : Nat) {oj : Oper}, ops[j]? = some oj → (∀ e ∈ oj.after, Region.binds .any e = true → listed.getD e.on false = true) → reachJ ops f j i = true → listed.getD i false = true
  | 0, _, _, _, _, _, h => by cases h
  | f + 1, j, i, oj, hj, ha, h => by
    simp only [reachJ, hj, Bool.or_eq_true] at h
    rcases h with h | h
    · obtain ⟨e, he, hb, rfl⟩ := waits_spec hj h
      exact ha e he hb
    · obtain ⟨e, he, hb⟩ := Array.any_eq_true'.1 h
      simp only [Bool.and_eq_true] at hb
      have h1 := ha e he hb.1
      cases ho : ops[e.on]? with
      | none =>
        exfalso
        have h2 := hb.2
        cases f with
        | zero => cases h2
        | succ f => simp [reachJ, waits, ho] at h2
      | some oe => exact reach_specJ hc f e.on i ho (hc e.on oe ho h1) hb.2
def pairsOkTJ (ops : Array Oper) (eff : List Nat) : List Nat → Bool
  | [] => true
  | i :: r => decide (i < ops.size) && (!r.contains i && (r.all (fun j => reachJ ops 4 j i || (pairApart ops i j && !eff.contains i)) && pairsOkTJ ops eff r))
def ordOkTJ (ops : Array Oper) (eff ord : List Nat) : Bool :=
  (Region.noSelect ops && decide (ord.length ≤ ops.size)) && ((List.range ops.size).all (fun j => ord.contains j && match ops[j]? with | none => true | some oj => oj.after.all (fun e => decide (e.on < j))) && pairsOkTJ ops eff ord)
theorem pairsOkT_splitJ {eff : List Nat} : ∀ (L1 : List Nat) {j : Nat} {L2 : List Nat}, pairsOkTJ ops eff (L1 ++ j :: L2) = true → j ∉ L1 ∧ j ∉ L2 ∧ ∀ i ∈ L1, i < ops.size ∧ (reachJ ops 4 j i = true ∨ (pairApart ops i j = true ∧ eff.contains i = false))
  | [], j, L2, h => by
    simp only [List.nil_append, pairsOkTJ, Bool.and_eq_true, Bool.not_eq_true'] at h
    refine ⟨by simp, ?_, by simp⟩
    intro hm
    have := h.2.1
    rw [List.contains_iff_mem.2 hm] at this
    cases this
  | k :: L1, j, L2, h => by
    simp only [List.cons_append, pairsOkTJ, Bool.and_eq_true, Bool.not_eq_true', decide_eq_true_eq] at h
    obtain ⟨h0, h1, h2, h3⟩ := h
    obtain ⟨i1, i2, i3⟩ := pairsOkT_splitJ L1 h3
    have hkj : k ≠ j := by
      rintro rfl
      rw [List.contains_iff_mem.2 (by simp)] at h1
      cases h1
    refine ⟨by simp [i1]; exact fun e => hkj e.symm, i2, fun i hi => ?_⟩
    rcases List.mem_cons.1 hi with rfl | hi
    · refine ⟨h0, ?_⟩
      have h4 := List.all_eq_true.1 h2 j (by simp)
      simp only [Bool.or_eq_true, Bool.and_eq_true, Bool.not_eq_true'] at h4
      exact h4
    · exact i3 i hi
theorem closedL_setJ {listed : Array Bool} {i : Nat} (hc : ClosedLJ ops listed) (hi : i ∈ Region.ready .any ops listed) : ClosedLJ ops (listed.setIfInBounds i true) := by
  obtain ⟨_, oi, hoi, hall⟩ := mem_ready.1 hi
  intro j oj hj hl e he hb
  by_cases hij : i = j
  · subst hij
    have : oj = oi := Option.some.inj (hj.symm.trans hoi)
    subst this
    exact getD_set_true (hall e he hb)
  · rw [getD_set_ne false hij] at hl
    exact getD_set_true (hc j oj hj hl e he hb)

/-- The operations in the order that is picked; those of eff may change the world. -/
def LinJ (n0 : Nat) (P : Program) (ops : Array Oper) (Q : Exit → Act → World → Prop) (S : World → Prop) (eff : List Nat) : List Nat → Act → World → Prop
  | [], a, w => ∀ n, Q .normal a (w.drewN n)
  | i :: r, a, w => ∃ o, ops[i]? = some o ∧ (eff.contains i = false → ∃ v, StillD P ops S o v a ∧ LinJ n0 P ops Q S eff r (a.put o.dst v) w) ∧ (eff.contains i = true → ∀ n, MovesJ n0 P ops S o a (w.drewN n) fun v w' => LinJ n0 P ops Q S eff r (a.put o.dst v) w')

theorem LinJ.swap {eff : List Nat} {i j : Nat} {x y : Oper} {r : List Nat} {a : Act} {w : World} (hi : ops[i]? = some x) (hj : ops[j]? = some y) (hx : ∀ cs b, x.op ≠ .select cs b) (hy : ∀ cs b, y.op ≠ .select cs b) (hap : x.apart ops y = true) (hq : eff.contains i = false)
    (h : LinJ n0 P ops Q S eff (i :: j :: r) a w) : LinJ n0 P ops Q S eff (j :: i :: r) a w := by
  obtain ⟨h1, h2, h3⟩ := Oper.apart_spec hap
  have ey : ∀ (v : Value), execOp (a.put x.dst v).eval y = execOp a.eval y := fun v => execOp_put y hy a x.dst v h1
  have wy : ∀ (v : Value), Region.wanted y (yielded ops (a.put x.dst v).tmps) = Region.wanted y (yielded ops a.tmps) := fun v => wanted_put y a x.dst v h1
  have ex : ∀ (v : Value), execOp (a.put y.dst v).eval x = execOp a.eval x := fun v => execOp_put x hx a y.dst v h3
  have wx : ∀ (v : Value), Region.wanted x (yielded ops (a.put y.dst v).tmps) = Region.wanted x (yielded ops a.tmps) := fun v => wanted_put x a y.dst v h3
  obtain ⟨x', hx', q1, _⟩ := h
  obtain rfl : x' = x := Option.some.inj (hx'.symm.trans hi)
  obtain ⟨vx, gx, y', hy', q2, q3⟩ := q1 hq
  obtain rfl : y' = y := Option.some.inj (hy'.symm.trans hj)
  refine ⟨_, hj, fun hf => ?_, fun ht n => ?_⟩
  · obtain ⟨vy, gy, h4⟩ := q2 hf
    refine ⟨vy, gy.of_same (ey vx).symm (wy vx).symm, _, hi, fun _ => ⟨vx, gx.of_same (ex vy) (wx vy), ?_⟩, fun h9 => by rw [hq] at h9; cases h9⟩
    rw [← Act.put_comm a vx vy h2]
    exact h4
  · refine (MovesJ.of_same (q3 ht n) (ey vx).symm (wy vx).symm).imp (fun v w' hS' h4 => ?_)
    refine ⟨_, hi, fun _ => ⟨vx, gx.of_same (ex v) (wx v), ?_⟩, fun h9 => by rw [hq] at h9; cases h9⟩
    rw [← Act.put_comm a vx v h2]
    exact h4
theorem LinJ.front {eff : List Nat} {j : Nat} {y : Oper} {T2 : List Nat} (hj : ops[j]? = some y) (hy : ∀ cs b, y.op ≠ .select cs b) : ∀ (T1 : List Nat) (a : Act) (w : World), (∀ i ∈ T1, ∃ x, ops[i]? = some x ∧ (∀ cs b, x.op ≠ .select cs b) ∧ x.apart ops y = true ∧ eff.contains i = false) → LinJ n0 P ops Q S eff (T1 ++ j :: T2) a w → LinJ n0 P ops Q S eff (j :: (T1 ++ T2)) a w
  | [], _, _, _, h => h
  | i :: T1, a, w, hap, h => by
    obtain ⟨x, hi, hx, hxy, hq⟩ := hap i (by simp)
    obtain ⟨x', hx', q1, _⟩ := h
    obtain rfl : x' = x := Option.some.inj (hx'.symm.trans hi)
    obtain ⟨vx, gx, h4⟩ := q1 hq
    have h5 := LinJ.front hj hy T1 _ w (fun k hk => hap k (by simp [hk])) h4
    exact LinJ.swap hi hj hx hy hxy hq ⟨_, hi, fun _ => ⟨vx, gx, h5⟩, fun h9 => by rw [hq] at h9; cases h9⟩

theorem linJ_any {eff ord : List Nat} (hok : ordOkTJ ops eff ord = true) (hnd : noDeferJ ops = true) (hSd : ∀ w n, S w → S (w.drewN n)) : ∀ (fuel : Nat) (listed : Array Bool) (a : Act) (w : World) (m : Nat), listed.size = ops.size → ClosedLJ ops listed → (left listed ord).length ≤ fuel → S w → LinJ n0 P ops Q S eff (left listed ord) a w → wpAnyIn Fence.wide n0 P .any ops Q fuel listed a (w.drewN m) := by
  simp only [ordOkTJ, Bool.and_eq_true] at hok
  obtain ⟨⟨hns, _⟩, hall0, hpairs⟩ := hok
  have hsel : ∀ (j : Nat) (o : Oper), ops[j]? = some o → ∀ cs b, o.op ≠ .select cs b := fun j o ho cs b => Region.noSelect_spec hns j o cs b ho
  have hback : ∀ j oj, ops[j]? = some oj → j ∈ ord ∧ ∀ e ∈ oj.after, e.on < j := by
    intro j oj hoj
    have h1 := List.all_eq_true.1 hall0 j (List.mem_range.2 (Array.getElem?_eq_some_iff.1 hoj).1)
    simp only [hoj, Bool.and_eq_true, Array.all_eq_true_iff_forall_mem, decide_eq_true_eq] at h1
    exact ⟨List.contains_iff_mem.1 h1.1, h1.2⟩
  have hnil : ∀ listed : Array Bool, listed.size = ops.size → Region.ready .any ops listed = [] → left listed ord = [] := by
    intro listed hsz hr
    have key : ∀ j, listed.getD j true = true := by
      intro j
      induction j using Nat.strongRecOn with
      | ind j ih =>
        cases hb : listed.getD j true with
        | true => rfl
        | false =>
          have hj : j < ops.size := by
            rcases Nat.lt_or_ge j listed.size with h' | h'
            · omega
            · simp [Array.getElem?_eq_none h'] at hb
          have hoj : ops[j]? = some ops[j] := Array.getElem?_eq_getElem hj
          have hm : j ∈ Region.ready .any ops listed := mem_ready.2 ⟨hb, _, hoj, fun e he _ => by
            have hlt := (hback j _ hoj).2 e he
            have h9 := ih e.on hlt
            have h8 : e.on < listed.size := by omega
            simp [h8] at h9 ⊢
            exact h9⟩
          rw [hr] at hm
          cases hm
    unfold left
    rw [List.filter_eq_nil_iff]
    intro i _
    rw [key i]
    simp
  have hpick : ∀ (listed : Array Bool) (j : Nat), listed.size = ops.size → ClosedLJ ops listed → j ∈ Region.ready .any ops listed → ∃ oj T1 T2, ops[j]? = some oj ∧ left listed ord = T1 ++ j :: T2 ∧ left (listed.setIfInBounds j true) ord = T1 ++ T2 ∧ ∀ i ∈ T1, ∃ x, ops[i]? = some x ∧ (∀ cs b, x.op ≠ .select cs b) ∧ x.apart ops oj = true ∧ eff.contains i = false := by
    intro listed j hsz hcl hj
    obtain ⟨hun, oj, hoj, hall⟩ := mem_ready.1 hj
    obtain ⟨L1, L2, hord⟩ := List.append_of_mem (hback j oj hoj).1
    rw [hord] at hpairs
    obtain ⟨hn1, hn2, hp⟩ := pairsOkT_splitJ L1 hpairs
    have hlt : j < listed.size := by have := (Array.getElem?_eq_some_iff.1 hoj).1; omega
    refine ⟨oj, left listed L1, left listed L2, hoj, ?_, ?_, ?_⟩
    · rw [hord]
      unfold left
      rw [List.filter_append, List.filter_cons, hun]
      simp
    · have e : left (listed.setIfInBounds j true) (j :: L2) = left (listed.setIfInBounds j true) L2 := by
        unfold left
        rw [List.filter_cons]
        simp [hlt]
      have e2 : left (listed.setIfInBounds j true) (L1 ++ j :: L2) = left (listed.setIfInBounds j true) L1 ++ left (listed.setIfInBounds j true) (j :: L2) := by simp [left]
      rw [hord, e2, e, left_set _ _ _ hn1, left_set _ _ _ hn2]
    · intro i hi
      have hi1 := List.mem_filter.1 hi
      obtain ⟨hil, hc⟩ := hp i hi1.1
      have hui : listed.getD i true = false := by simpa using hi1.2
      have hoi : ops[i]? = some ops[i] := Array.getElem?_eq_getElem hil
      rcases hc with h9 | h9
      · have h8 := reach_specJ hcl 4 j i hoj hall h9
        have h7 : i < listed.size := by omega
        simp [h7] at h8 hui
        rw [hui] at h8
        cases h8
      · refine ⟨_, hoi, hsel i _ hoi, ?_, h9.2⟩
        have h7 := h9.1
        unfold pairApart at h7
        simp only [hoi, hoj] at h7
        exact h7
  intro fuel
  induction fuel with
  | zero =>
    intro listed a w m hsz hcl hlen hS hL
    have h0 : left listed ord = [] := List.length_eq_zero_iff.1 (by omega)
    rw [h0] at hL
    refine ⟨?_, hL m⟩
    refine List.eq_nil_iff_forall_not_mem.2 (fun j hj => ?_)
    obtain ⟨oj, T1, T2, _, h1, _⟩ := hpick listed j hsz hcl hj
    rw [h0] at h1
    simp at h1
  | succ fuel ih =>
    intro listed a w m hsz hcl hlen hS hL
    refine ⟨fun hr => ?_, fun j hj => ?_⟩
    · rw [hnil listed hsz hr] at hL
      exact hL m
    · obtain ⟨oj, T1, T2, hoj, h1, h2, h3⟩ := hpick listed j hsz hcl hj
      rw [h1] at hL hlen
      obtain ⟨oj', hoj', q1, q2⟩ := LinJ.front hoj (hsel j oj hoj) T1 a w h3 hL
      obtain rfl : oj' = oj := Option.some.inj (hoj'.symm.trans hoj)
      have hnext : ∀ a' w' m, S w' → LinJ n0 P ops Q S eff (T1 ++ T2) a' w' → wpAnyIn Fence.wide n0 P .any ops Q fuel (listed.setIfInBounds j true) a' (w'.drewN m) := fun a' w' m hS' h4 => by
        refine ih (listed.setIfInBounds j true) a' w' m (by simp [hsz]) (closedL_setJ hcl hj) ?_ hS' (by rw [h2]; exact h4)
        rw [h2]
        simp at hlen ⊢
        omega
      have hd := noDefer_specJ hnd j _ hoj
      unfold wpOpIn
      simp only [hoj]
      cases hv : eff.contains j with
      | false =>
        obtain ⟨v, g, h5⟩ := q1 hv
        rcases g with ⟨hw, hy⟩ | ⟨hw, rfl⟩
        · simp only [hw, if_true]
          refine wpIn_upJ hd ?_
          rcases hy _ (hSd w m hS) with h6 | ⟨f, args, h6, h7⟩
          · rw [h6, Oper.uponIn_value]
            exact hnext _ _ m hS h5
          · rw [h6, Oper.uponIn_enter]
            refine ⟨(fun h => by cases h), callsIn_wide.2 (Calls.mono h7 ?_)⟩
            rintro e w' ⟨rfl, n, rfl⟩
            rw [World.drewN_drewN]
            exact hnext _ _ _ hS h5
        · simp only [hw, Bool.false_eq_true, if_false]
          exact ⟨fun _ _ => trivial, hnext _ _ m hS h5⟩
      | true =>
        rcases q2 hv m with ⟨hw, hm⟩ | ⟨l', fn, tmps, assign, body, w1, hw, h6, h7⟩
        · simp only [hw, if_true]
          refine wpIn_upJ hd ?_
          rcases hm with ⟨v, w', h6 | ⟨h6, rfl⟩, h7, h8⟩ | ⟨f, args, w1, h6, h7⟩
          · rw [h6, Oper.uponIn_value]
            exact hnext _ _ 0 h7 h8
          · rw [h6, Oper.uponIn_skip]
            exact hnext _ _ 0 h7 h8
          · rw [h6, Oper.uponIn_enter]
            refine ⟨(fun h => by cases h), callsIn_wide.2 (Calls.mono h7 ?_)⟩
            rintro e w' ⟨v, rfl, h8, h9⟩
            exact hnext _ _ 0 h8 h9
        · simp only [hw, if_true]
          refine wpIn_upJ hd ?_
          rw [h6, Oper.uponIn_round]
          refine ⟨(fun h => by cases h), RoundIn.mono (RoundIn.deeperJ h7) ?_⟩
          rintro e w' ⟨v, rfl, h8, h9⟩
          exact hnext _ _ 0 h8 h9

/-- THE BEGINNING: a region that draws its order, walked in the order that is picked; those of eff may change the world. -/
theorem wp_region_linJ {id : Nat} {a : Act} {w : World} (S : World → Prop) (eff ord : List Nat) (hm : P.follows .mixedOrders = true) (hok : ordOkTJ ops eff ord = true) (hnd : noDeferJ ops = true) (hSd : ∀ w n, S w → S (w.drewN n)) (hS : S w.drew) (h : LinJ n0 P ops Q S eff ord a w.drew) : (Code.region id ops true).wpIn Fence.wide n0 P Q a w := by
  refine wpIn_region_any hm ?_
  simp only [ordOkTJ, Bool.and_eq_true] at hok
  have hlt : ∀ i ∈ ord, i < ops.size := by
    intro i hi
    obtain ⟨L1, L2, hord⟩ := List.append_of_mem hi
    have h3 := hok.2.2
    rw [hord] at h3
    have : ∀ (L1 : List Nat), pairsOkTJ ops eff (L1 ++ i :: L2) = true → i < ops.size := by
      intro L1
      induction L1 with
      | nil => intro h; simp only [List.nil_append, pairsOkTJ, Bool.and_eq_true, decide_eq_true_eq] at h; exact h.1
      | cons k L1 ih => intro h; simp only [List.cons_append, pairsOkTJ, Bool.and_eq_true] at h; exact ih h.2.2.2
    exact this L1 h3
  have hu : left (Array.replicate ops.size false) ord = ord := by
    unfold left
    rw [List.filter_eq_self]
    intro i hi
    have := hlt i hi
    simp [this]
  refine linJ_any (S := S) (eff := eff) (ord := ord) (by simp only [ordOkTJ, Bool.and_eq_true]; exact hok) hnd hSd _ _ _ _ 0 (by simp) (fun j oj _ h => by rw [getD_replicate_false] at h; cases h) ?_ hS ?_
  · rw [hu]
    simpa using hok.1.2
  · rw [hu]; exact h

theorem linJ_nil {eff : List Nat} {a : Act} {w : World} (h : ∀ n, Q .normal a (w.drewN n)) : LinJ n0 P ops Q S eff [] a w := h
/-- An operation that gives its value in every world that meets S, and leaves the world as it is. -/
theorem linJ_op {eff : List Nat} {i : Nat} {o : Oper} {r : List Nat} {a : Act} {w : World} {v : Value} (ho : ops[i]? = some o) (he : eff.contains i = false) (hw : Region.wanted o (yielded ops a.tmps) = true) (hy : ∀ w, S w → (execOp a.eval o).run P w = .ok (.value v) w) (h : LinJ n0 P ops Q S eff r (a.put o.dst v) w) : LinJ n0 P ops Q S eff (i :: r) a w :=
  ⟨o, ho, fun _ => ⟨v, .inl ⟨hw, fun w hS => .inl (hy w hS)⟩, h⟩, fun h9 => by rw [he] at h9; cases h9⟩
theorem linJ_off {eff : List Nat} {i : Nat} {o : Oper} {r : List Nat} {a : Act} {w : World} (ho : ops[i]? = some o) (he : eff.contains i = false) (hw : Region.wanted o (yielded ops a.tmps) = false) (h : LinJ n0 P ops Q S eff r (a.put o.dst undef) w) : LinJ n0 P ops Q S eff (i :: r) a w :=
  ⟨o, ho, fun _ => ⟨undef, .inr ⟨hw, rfl⟩, h⟩, fun h9 => by rw [he] at h9; cases h9⟩
theorem linJ_fn {eff : List Nat} {i : Nat} {o : Oper} {r : List Nat} {a : Act} {w : World} {v : Value} {f : Nat} {c : Call} {args : Array Value} (hi : ops[i]? = some o) (he : eff.contains i = false) (hw : Region.wanted o (yielded ops a.tmps) = true) (ho : o.op = .call c) (hc : c.callee = .value (.func f)) (hen : ∀ args w, (callFunc f args).run P w = .ok (.enter f args) w)
    (hcl : ∀ w, S w → Calls P f args w fun e w' => e = .returned v ∧ ∃ n, w' = w.drewN n) (ha : c.args.map a.eval = args) (h : LinJ n0 P ops Q S eff r (a.put o.dst v) w) : LinJ n0 P ops Q S eff (i :: r) a w := by
  refine ⟨o, hi, fun _ => ⟨v, .inl ⟨hw, fun w hS => .inr ⟨f, args, ?_, hcl w hS⟩⟩, h⟩, fun h9 => by rw [he] at h9; cases h9⟩
  simp only [execOp, ho, resolve, hc, ha, Act.eval, Deferred.ofValue, invoke, Sem.run_bind, Sem.run_pure, Result.andThen_ok]
  have e1 := hen (#[] ++ args ++ #[]) w
  simp only [Array.empty_append, Array.append_empty] at e1 ⊢
  exact e1
/-- An operation that changes the world. -/
theorem linJ_do {eff : List Nat} {i : Nat} {o : Oper} {r : List Nat} {a : Act} {w : World} {v : Value} (ho : ops[i]? = some o) (he : eff.contains i = true) (hw : Region.wanted o (yielded ops a.tmps) = true) (hy : ∀ n, ∃ w', (execOp a.eval o).run P (w.drewN n) = .ok (.value v) w' ∧ S w' ∧ LinJ n0 P ops Q S eff r (a.put o.dst v) w') : LinJ n0 P ops Q S eff (i :: r) a w :=
  ⟨o, ho, fun h9 => (by rw [he] at h9; cases h9), fun _ n => .inl ⟨hw, let ⟨w', h1, h2, h3⟩ := hy n; .inl ⟨v, w', .inl h1, h2, h3⟩⟩⟩
/-- A store. -/
theorem linJ_store {eff : List Nat} {i : Nat} {o : Oper} {r : List Nat} {a : Act} {w : World} (ho : ops[i]? = some o) (he : eff.contains i = true) (hw : Region.wanted o (yielded ops a.tmps) = true) (hy : ∀ n, ∃ w', (execOp a.eval o).run P (w.drewN n) = .ok .skip w' ∧ S w' ∧ LinJ n0 P ops Q S eff r (a.put o.dst undef) w') : LinJ n0 P ops Q S eff (i :: r) a w :=
  ⟨o, ho, fun h9 => (by rw [he] at h9; cases h9), fun _ n => .inl ⟨hw, let ⟨w', h1, h2, h3⟩ := hy n; .inl ⟨undef, w', .inr ⟨h1, rfl⟩, h2, h3⟩⟩⟩
/-- A call that changes the world. -/
theorem linJ_call {eff : List Nat} {i : Nat} {o : Oper} {r : List Nat} {a : Act} {w : World} {f : Nat} {c : Call} {args : Array Value} (hi : ops[i]? = some o) (he : eff.contains i = true) (hw : Region.wanted o (yielded ops a.tmps) = true) (ho : o.op = .call c) (hc : c.callee = .value (.func f)) (hen : ∀ args w, (callFunc f args).run P w = .ok (.enter f args) w) (ha : c.args.map a.eval = args)
    (h : ∀ n, Calls P f args (w.drewN n) fun e w' => ∃ v, e = .returned v ∧ S w' ∧ LinJ n0 P ops Q S eff r (a.put o.dst v) w') : LinJ n0 P ops Q S eff (i :: r) a w := by
  refine ⟨o, hi, fun h9 => (by rw [he] at h9; cases h9), fun _ n => .inl ⟨hw, .inr ⟨f, args, w.drewN n, ?_, h n⟩⟩⟩
  simp only [execOp, ho, resolve, hc, ha, Act.eval, Deferred.ofValue, invoke, Sem.run_bind, Sem.run_pure, Result.andThen_ok]
  have e1 := hen (#[] ++ args ++ #[]) (w.drewN n)
  simp only [Array.empty_append, Array.append_empty] at e1 ⊢
  exact e1
/-- A call of yield. -/
theorem linJ_yield {eff : List Nat} {i : Nat} {o : Oper} {r : List Nat} {a : Act} {w : World} {l' : Nat} (hi : ops[i]? = some o) (he : eff.contains i = true) (hw : Region.wanted o (yielded ops a.tmps) = true)
    (h : ∀ n, ∃ fn tmps assign body w1, (execOp a.eval o).run P (w.drewN n) = .ok (.round l' fn tmps assign body) w1 ∧ RoundIn Fence.wide n0 P l' fn tmps assign body w1 fun e w' => ∃ v, e = .returned v ∧ S w' ∧ LinJ n0 P ops Q S eff r (a.put o.dst v) w') : LinJ n0 P ops Q S eff (i :: r) a w := by
  refine ⟨o, hi, fun h9 => (by rw [he] at h9; cases h9), fun _ n => ?_⟩
  obtain ⟨fn, tmps, assign, body, w1, h1, h2⟩ := h n
  exact .inr ⟨l', fn, tmps, assign, body, w1, hw, h1, h2⟩
end
end Go.Proofs.Ytkoenconjldojaa
