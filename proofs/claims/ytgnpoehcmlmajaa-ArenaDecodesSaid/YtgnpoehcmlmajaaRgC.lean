/-
  Whether words are block behind block, or stand still somewhere. No walk. Nothing here is a statement of the document.
-/
import Derived.Test.YtgnpoehcmlmajaaLinD
import Derived.Test.YtgnpoehcmlmajaaIt
import Derived.StillTail
namespace Go.Proofs.Ytgnpoehcmlmajaa
set_option linter.unusedVariables false

section
variable {P : Program} {ops : Array Oper} {Q : Exit → Act → World → Prop} {S : World → Prop} {l0 n0 : Nat}

def noDefer (ops : Array Oper) : Bool := ops.all fun o => match o.op with | .defer _ => false | _ => true
theorem noDefer_spec (h : noDefer ops = true) (j : Nat) (o : Oper) (hj : ops[j]? = some o) : ∀ c, o.op ≠ .defer c := by
  intro c hc
  have h1 := Array.all_eq_true.1 h j (Array.getElem?_eq_some_iff.1 hj).1
  rw [(Array.getElem?_eq_some_iff.1 hj).2, hc] at h1
  cases h1

theorem wpIn_up {o : Oper} {a : Act} (hd : ∀ c, o.op ≠ .defer c) {wx : World} {K : Act → World → Prop} (h : o.uponIn (Fence.wide.inRound l0) n0 P a K Q ((execOp a.eval o).run P wx)) : o.wpIn (Fence.wide.inRound l0) n0 P a wx K Q := by
  unfold Oper.wpIn
  rw [Oper.semAt_eq _ _ _ hd]
  exact ⟨fun _ _ => trivial, h⟩
theorem RoundIn.deeper {m m' l' l : Nat} {P : Program} {f : FuncId} {tmps : Array Value} {assign body : Code} {w : World} {R : Ending → World → Prop} (h : RoundIn (Fence.wide.inRound l') m P l f tmps assign body w R) : RoundIn (Fence.wide.inRound l') m' P l f tmps assign body w R :=
  ⟨trivial, fun c cs _ => h.2 c cs (fun d hd => by cases hd)⟩

/-- From this world the operation gives some v and leaves some world that meets S, of which K holds. -/
def MovesI (l0 n0 : Nat) (P : Program) (ops : Array Oper) (S : World → Prop) (o : Oper) (a : Act) (w : World) (K : Value → World → Prop) : Prop :=
  (Region.wanted o (yielded ops a.tmps) = true ∧ ((∃ v w', ((execOp a.eval o).run P w = .ok (.value v) w' ∨ ((execOp a.eval o).run P w = .ok .skip w' ∧ v = undef)) ∧ S w' ∧ K v w') ∨ ∃ f args w1, (execOp a.eval o).run P w = .ok (.enter f args) w1 ∧ Calls P f args w1 fun e w' => ∃ v, e = .returned v ∧ S w' ∧ K v w')) ∨ ∃ l' fn tmps assign body w1, Region.wanted o (yielded ops a.tmps) = true ∧ (execOp a.eval o).run P w = .ok (.round l' fn tmps assign body) w1 ∧ RoundIn (Fence.wide.inRound l0) n0 P l' fn tmps assign body w1 fun e w' => ∃ v, e = .returned v ∧ S w' ∧ K v w'
theorem MovesI.of_same {o : Oper} {a a' : Act} {w : World} {K : Value → World → Prop} (hy : MovesI l0 n0 P ops S o a w K) (he : execOp a'.eval o = execOp a.eval o)
    (hw : Region.wanted o (yielded ops a'.tmps) = Region.wanted o (yielded ops a.tmps)) : MovesI l0 n0 P ops S o a' w K := by
  unfold MovesI at *
  rw [he, hw]
  exact hy
theorem MovesI.imp {o : Oper} {a : Act} {w : World} {K K' : Value → World → Prop} (h : MovesI l0 n0 P ops S o a w K) (hk : ∀ v w', S w' → K v w' → K' v w') : MovesI l0 n0 P ops S o a w K' := by
  rcases h with ⟨hw, h⟩ | ⟨l', fn, tmps, assign, body, w1, hw, h1, h2⟩
  · refine .inl ⟨hw, ?_⟩
    rcases h with ⟨v, w', h1, h2, h3⟩ | ⟨f, args, w1, h1, h2⟩
    · exact .inl ⟨v, w', h1, h2, hk v w' h2 h3⟩
    · refine .inr ⟨f, args, w1, h1, Calls.mono h2 ?_⟩
      rintro e w' ⟨v, h3, h4, h5⟩
      exact ⟨v, h3, h4, hk v w' h4 h5⟩
  · refine .inr ⟨l', fn, tmps, assign, body, w1, hw, h1, RoundIn.mono h2 ?_⟩
    rintro e w' ⟨v, h3, h4, h5⟩
    exact ⟨v, h3, h4, hk v w' h4 h5⟩
/-- j waits for i, at once or by others. -/
def reach (ops : Array Oper) : Nat → Nat → Nat → Bool
  | 0, _, _ => false
  | f + 1, j, i => waits ops j i || (match ops[j]? with | none => false | some oj => oj.after.any fun e => Region.binds .any e && reach ops f e.on i)
/-- What is listed has all that it waits for listed. -/
def ClosedL (ops : Array Oper) (listed : Array Bool) : Prop := ∀ j oj, ops[j]? = some oj → listed.getD j false = true → ∀ e ∈ oj.after, Region.binds .any e = true → listed.getD e.on false = true
theorem reach_spec {listed : Array Bool} (hc : ClosedL ops listed) : ∀ (f j i : Nat) {oj : Oper}, ops[j]? = some oj → (∀ e ∈ oj.after, Region.binds .any e = true → listed.getD e.on false = true) → reach ops f j i = true → listed.getD i false = true
  | 0, _, _, _, _, _, h => by cases h
  | f + 1, j, i, oj, hj, ha, h => by
    simp only [reach, hj, Bool.or_eq_true] at h
    rcases h with h | h
    · obtain ⟨e, he, hb, rfl⟩ := waits_spec hj h
      exact ha e he hb
    · obtain ⟨e, he, hb⟩ := Array.any_eq_true'.1 h
      simp only [Bool.and_eq_true] at hb
      have h1 := ha e he hb.1
      cases ho : ops[e.on]? with
      | none =>
        exfalso
        have h2 := hb.2
        cases f with
        | zero => cases h2
        | succ f => simp [reach, waits, ho] at h2
      | some oe => exact reach_spec hc f e.on i ho (hc e.on oe ho h1) hb.2
def pairsOkT (ops : Array Oper) (eff : List Nat) : List Nat → Bool
  | [] => true
  | i :: r => decide (i < ops.size) && (!r.contains i && (r.all (fun j => reach ops 4 j i || (pairApart ops i j && !eff.contains i)) && pairsOkT ops eff r))
def ordOkT (ops : Array Oper) (eff ord : List Nat) : Bool :=
  (Region.noSelect ops && decide (ord.length ≤ ops.size)) && ((List.range ops.size).all (fun j => ord.contains j && match ops[j]? with | none => true | some oj => oj.after.all (fun e => decide (e.on < j))) && pairsOkT ops eff ord)
theorem pairsOkT_split {eff : List Nat} : ∀ (L1 : List Nat) {j : Nat} {L2 : List Nat}, pairsOkT ops eff (L1 ++ j :: L2) = true → j ∉ L1 ∧ j ∉ L2 ∧ ∀ i ∈ L1, i < ops.size ∧ (reach ops 4 j i = true ∨ (pairApart ops i j = true ∧ eff.contains i = false))
  | [], j, L2, h => by
    simp only [List.nil_append, pairsOkT, Bool.and_eq_true, Bool.not_eq_true'] at h
    refine ⟨by simp, ?_, by simp⟩
    intro hm
    have := h.2.1
    rw [List.contains_iff_mem.2 hm] at this
    cases this
  | k :: L1, j, L2, h => by
    simp only [List.cons_append, pairsOkT, Bool.and_eq_true, Bool.not_eq_true', decide_eq_true_eq] at h
    obtain ⟨h0, h1, h2, h3⟩ := h
    obtain ⟨i1, i2, i3⟩ := pairsOkT_split L1 h3
    have hkj : k ≠ j := by
      rintro rfl
      rw [List.contains_iff_mem.2 (by simp)] at h1
      cases h1
    refine ⟨by simp [i1]; exact fun e => hkj e.symm, i2, fun i hi => ?_⟩
    rcases List.mem_cons.1 hi with rfl | hi
    · refine ⟨h0, ?_⟩
      have h4 := List.all_eq_true.1 h2 j (by simp)
      simp only [Bool.or_eq_true, Bool.and_eq_true, Bool.not_eq_true'] at h4
      exact h4
    · exact i3 i hi
theorem closedL_set {listed : Array Bool} {i : Nat} (hc : ClosedL ops listed) (hi : i ∈ Region.ready .any ops listed) : ClosedL ops (listed.setIfInBounds i true) := by
  obtain ⟨_, oi, hoi, hall⟩ := mem_ready.1 hi
  intro j oj hj hl e he hb
  by_cases hij : i = j
  · subst hij
    have : oj = oi := Option.some.inj (hj.symm.trans hoi)
    subst this
    exact getD_set_true (hall e he hb)
  · rw [getD_set_ne false hij] at hl
    exact getD_set_true (hc j oj hj hl e he hb)

/-- The operations in the order that is picked; those of eff may change the world. -/
def LinI (l0 n0 : Nat) (P : Program) (ops : Array Oper) (Q : Exit → Act → World → Prop) (S : World → Prop) (eff : List Nat) : List Nat → Act → World → Prop
  | [], a, w => ∀ n, Q .normal a (w.drewN n)
  | i :: r, a, w => ∃ o, ops[i]? = some o ∧ (eff.contains i = false → ∃ v, StillD P ops S o v a ∧ LinI l0 n0 P ops Q S eff r (a.put o.dst v) w) ∧ (eff.contains i = true → ∀ n, MovesI l0 n0 P ops S o a (w.drewN n) fun v w' => LinI l0 n0 P ops Q S eff r (a.put o.dst v) w')

theorem LinI.swap {eff : List Nat} {i j : Nat} {x y : Oper} {r : List Nat} {a : Act} {w : World} (hi : ops[i]? = some x) (hj : ops[j]? = some y) (hx : ∀ cs b, x.op ≠ .select cs b) (hy : ∀ cs b, y.op ≠ .select cs b) (hap : x.apart ops y = true) (hq : eff.contains i = false)
    (h : LinI l0 n0 P ops Q S eff (i :: j :: r) a w) : LinI l0 n0 P ops Q S eff (j :: i :: r) a w := by
  obtain ⟨h1, h2, h3⟩ := Oper.apart_spec hap
  have ey : ∀ (v : Value), execOp (a.put x.dst v).eval y = execOp a.eval y := fun v => execOp_put y hy a x.dst v h1
  have wy : ∀ (v : Value), Region.wanted y (yielded ops (a.put x.dst v).tmps) = Region.wanted y (yielded ops a.tmps) := fun v => wanted_put y a x.dst v h1
  have ex : ∀ (v : Value), execOp (a.put y.dst v).eval x = execOp a.eval x := fun v => execOp_put x hx a y.dst v h3
  have wx : ∀ (v : Value), Region.wanted x (yielded ops (a.put y.dst v).tmps) = Region.wanted x (yielded ops a.tmps) := fun v => wanted_put x a y.dst v h3
  obtain ⟨x', hx', q1, _⟩ := h
  obtain rfl : x' = x := Option.some.inj (hx'.symm.trans hi)
  obtain ⟨vx, gx, y', hy', q2, q3⟩ := q1 hq
  obtain rfl : y' = y := Option.some.inj (hy'.symm.trans hj)
  refine ⟨_, hj, fun hf => ?_, fun ht n => ?_⟩
  · obtain ⟨vy, gy, h4⟩ := q2 hf
    refine ⟨vy, gy.of_same (ey vx).symm (wy vx).symm, _, hi, fun _ => ⟨vx, gx.of_same (ex vy) (wx vy), ?_⟩, fun h9 => by rw [hq] at h9; cases h9⟩
    rw [← Act.put_comm a vx vy h2]
    exact h4
  · refine (MovesI.of_same (q3 ht n) (ey vx).symm (wy vx).symm).imp (fun v w' hS' h4 => ?_)
    refine ⟨_, hi, fun _ => ⟨vx, gx.of_same (ex v) (wx v), ?_⟩, fun h9 => by rw [hq] at h9; cases h9⟩
    rw [← Act.put_comm a vx v h2]
    exact h4
theorem LinI.front {eff : List Nat} {j : Nat} {y : Oper} {T2 : List Nat} (hj : ops[j]? = some y) (hy : ∀ cs b, y.op ≠ .select cs b) : ∀ (T1 : List Nat) (a : Act) (w : World), (∀ i ∈ T1, ∃ x, ops[i]? = some x ∧ (∀ cs b, x.op ≠ .select cs b) ∧ x.apart ops y = true ∧ eff.contains i = false) → LinI l0 n0 P ops Q S eff (T1 ++ j :: T2) a w → LinI l0 n0 P ops Q S eff (j :: (T1 ++ T2)) a w
  | [], _, _, _, h => h
  | i :: T1, a, w, hap, h => by
    obtain ⟨x, hi, hx, hxy, hq⟩ := hap i (by simp)
    obtain ⟨x', hx', q1, _⟩ := h
    obtain rfl : x' = x := Option.some.inj (hx'.symm.trans hi)
    obtain ⟨vx, gx, h4⟩ := q1 hq
    have h5 := LinI.front hj hy T1 _ w (fun k hk => hap k (by simp [hk])) h4
    exact LinI.swap hi hj hx hy hxy hq ⟨_, hi, fun _ => ⟨vx, gx, h5⟩, fun h9 => by rw [hq] at h9; cases h9⟩

theorem linI_any {eff ord : List Nat} (hok : ordOkT ops eff ord = true) (hnd : noDefer ops = true) (hSd : ∀ w n, S w → S (w.drewN n)) : ∀ (fuel : Nat) (listed : Array Bool) (a : Act) (w : World) (m : Nat), listed.size = ops.size → ClosedL ops listed → (left listed ord).length ≤ fuel → S w → LinI l0 n0 P ops Q S eff (left listed ord) a w → wpAnyIn (Fence.wide.inRound l0) n0 P .any ops Q fuel listed a (w.drewN m) := by
  simp only [ordOkT, Bool.and_eq_true] at hok
  obtain ⟨⟨hns, _⟩, hall0, hpairs⟩ := hok
  have hsel : ∀ (j : Nat) (o : Oper), ops[j]? = some o → ∀ cs b, o.op ≠ .select cs b := fun j o ho cs b => Region.noSelect_spec hns j o cs b ho
  have hback : ∀ j oj, ops[j]? = some oj → j ∈ ord ∧ ∀ e ∈ oj.after, e.on < j := by
    intro j oj hoj
    have h1 := List.all_eq_true.1 hall0 j (List.mem_range.2 (Array.getElem?_eq_some_iff.1 hoj).1)
    simp only [hoj, Bool.and_eq_true, Array.all_eq_true_iff_forall_mem, decide_eq_true_eq] at h1
    exact ⟨List.contains_iff_mem.1 h1.1, h1.2⟩
  have hnil : ∀ listed : Array Bool, listed.size = ops.size → Region.ready .any ops listed = [] → left listed ord = [] := by
    intro listed hsz hr
    have key : ∀ j, listed.getD j true = true := by
      intro j
      induction j using Nat.strongRecOn with
      | ind j ih =>
        cases hb : listed.getD j true with
        | true => rfl
        | false =>
          have hj : j < ops.size := by
            rcases Nat.lt_or_ge j listed.size with h' | h'
            · omega
            · simp [Array.getElem?_eq_none h'] at hb
          have hoj : ops[j]? = some ops[j] := Array.getElem?_eq_getElem hj
          have hm : j ∈ Region.ready .any ops listed := mem_ready.2 ⟨hb, _, hoj, fun e he _ => by
            have hlt := (hback j _ hoj).2 e he
            have h9 := ih e.on hlt
            have h8 : e.on < listed.size := by omega
            simp [h8] at h9 ⊢
            exact h9⟩
          rw [hr] at hm
          cases hm
    unfold left
    rw [List.filter_eq_nil_iff]
    intro i _
    rw [key i]
    simp
  have hpick : ∀ (listed : Array Bool) (j : Nat), listed.size = ops.size → ClosedL ops listed → j ∈ Region.ready .any ops listed → ∃ oj T1 T2, ops[j]? = some oj ∧ left listed ord = T1 ++ j :: T2 ∧ left (listed.setIfInBounds j true) ord = T1 ++ T2 ∧ ∀ i ∈ T1, ∃ x, ops[i]? = some x ∧ (∀ cs b, x.op ≠ .select cs b) ∧ x.apart ops oj = true ∧ eff.contains i = false := by
    intro listed j hsz hcl hj
    obtain ⟨hun, oj, hoj, hall⟩ := mem_ready.1 hj
    obtain ⟨L1, L2, hord⟩ := List.append_of_mem (hback j oj hoj).1
    rw [hord] at hpairs
    obtain ⟨hn1, hn2, hp⟩ := pairsOkT_split L1 hpairs
    have hlt : j < listed.size := by have := (Array.getElem?_eq_some_iff.1 hoj).1; omega
    refine ⟨oj, left listed L1, left listed L2, hoj, ?_, ?_, ?_⟩
    · rw [hord]
      unfold left
      rw [List.filter_append, List.filter_cons, hun]
      simp
    · have e : left (listed.setIfInBounds j true) (j :: L2) = left (listed.setIfInBounds j true) L2 := by
        unfold left
        rw [List.filter_cons]
        simp [hlt]
      have e2 : left (listed.setIfInBounds j true) (L1 ++ j :: L2) = left (listed.setIfInBounds j true) L1 ++ left (listed.setIfInBounds j true) (j :: L2) := by simp [left]
      rw [hord, e2, e, left_set _ _ _ hn1, left_set _ _ _ hn2]
    · intro i hi
      have hi1 := List.mem_filter.1 hi
      obtain ⟨hil, hc⟩ := hp i hi1.1
      have hui : listed.getD i true = false := by simpa using hi1.2
      have hoi : ops[i]? = some ops[i] := Array.getElem?_eq_getElem hil
      rcases hc with h9 | h9
      · have h8 := reach_spec hcl 4 j i hoj hall h9
        have h7 : i < listed.size := by omega
        simp [h7] at h8 hui
        rw [hui] at h8
        cases h8
      · refine ⟨_, hoi, hsel i _ hoi, ?_, h9.2⟩
        have h7 := h9.1
        unfold pairApart at h7
        simp only [hoi, hoj] at h7
        exact h7
  intro fuel
  induction fuel with
  | zero =>
    intro listed a w m hsz hcl hlen hS hL
    have h0 : left listed ord = [] := List.length_eq_zero_iff.1 (by omega)
    rw [h0] at hL
    refine ⟨?_, hL m⟩
    refine List.eq_nil_iff_forall_not_mem.2 (fun j hj => ?_)
    obtain ⟨oj, T1, T2, _, h1, _⟩ := hpick listed j hsz hcl hj
    rw [h0] at h1
    simp at h1
  | succ fuel ih =>
    intro listed a w m hsz hcl hlen hS hL
    refine ⟨fun hr => ?_, fun j hj => ?_⟩
    · rw [hnil listed hsz hr] at hL
      exact hL m
    · obtain ⟨oj, T1, T2, hoj, h1, h2, h3⟩ := hpick listed j hsz hcl hj
      rw [h1] at hL hlen
      obtain ⟨oj', hoj', q1, q2⟩ := LinI.front hoj (hsel j oj hoj) T1 a w h3 hL
      obtain rfl : oj' = oj := Option.some.inj (hoj'.symm.trans hoj)
      have hnext : ∀ a' w' m, S w' → LinI l0 n0 P ops Q S eff (T1 ++ T2) a' w' → wpAnyIn (Fence.wide.inRound l0) n0 P .any ops Q fuel (listed.setIfInBounds j true) a' (w'.drewN m) := fun a' w' m hS' h4 => by
        refine ih (listed.setIfInBounds j true) a' w' m (by simp [hsz]) (closedL_set hcl hj) ?_ hS' (by rw [h2]; exact h4)
        rw [h2]
        simp at hlen ⊢
        omega
      have hd := noDefer_spec hnd j _ hoj
      unfold wpOpIn
      simp only [hoj]
      cases hv : eff.contains j with
      | false =>
        obtain ⟨v, g, h5⟩ := q1 hv
        rcases g with ⟨hw, hy⟩ | ⟨hw, rfl⟩
        · simp only [hw, if_true]
          refine wpIn_up hd ?_
          rcases hy _ (hSd w m hS) with h6 | ⟨f, args, h6, h7⟩
          · rw [h6, Oper.uponIn_value]
            exact hnext _ _ m hS h5
          · rw [h6, Oper.uponIn_enter]
            refine ⟨(fun h => by cases h), CallsIn.inRound _ (callsIn_wide.2 (Calls.mono h7 ?_))⟩
            rintro e w' ⟨rfl, n, rfl⟩
            rw [World.drewN_drewN]
            exact hnext _ _ _ hS h5
        · simp only [hw, Bool.false_eq_true, if_false]
          exact ⟨fun _ _ => trivial, hnext _ _ m hS h5⟩
      | true =>
        rcases q2 hv m with ⟨hw, hm⟩ | ⟨l', fn, tmps, assign, body, w1, hw, h6, h7⟩
        · simp only [hw, if_true]
          refine wpIn_up hd ?_
          rcases hm with ⟨v, w', h6 | ⟨h6, rfl⟩, h7, h8⟩ | ⟨f, args, w1, h6, h7⟩
          · rw [h6, Oper.uponIn_value]
            exact hnext _ _ 0 h7 h8
          · rw [h6, Oper.uponIn_skip]
            exact hnext _ _ 0 h7 h8
          · rw [h6, Oper.uponIn_enter]
            refine ⟨(fun h => by cases h), CallsIn.inRound _ (callsIn_wide.2 (Calls.mono h7 ?_))⟩
            rintro e w' ⟨v, rfl, h8, h9⟩
            exact hnext _ _ 0 h8 h9
        · simp only [hw, if_true]
          refine wpIn_up hd ?_
          rw [h6, Oper.uponIn_round]
          refine ⟨(fun h => by cases h), RoundIn.mono (RoundIn.deeper h7) ?_⟩
          rintro e w' ⟨v, rfl, h8, h9⟩
          exact hnext _ _ 0 h8 h9

/-- THE BEGINNING: a region that draws its order, walked in the order that is picked; those of eff may change the world. -/
theorem wp_region_linI {id : Nat} {a : Act} {w : World} (S : World → Prop) (eff ord : List Nat) (hm : P.follows .mixedOrders = true) (hok : ordOkT ops eff ord = true) (hnd : noDefer ops = true) (hSd : ∀ w n, S w → S (w.drewN n)) (hS : S w.drew) (h : LinI l0 n0 P ops Q S eff ord a w.drew) : (Code.region id ops true).wpIn (Fence.wide.inRound l0) n0 P Q a w := by
  refine wpIn_region_any hm ?_
  simp only [ordOkT, Bool.and_eq_true] at hok
  have hlt : ∀ i ∈ ord, i < ops.size := by
    intro i hi
    obtain ⟨L1, L2, hord⟩ := List.append_of_mem hi
    have h3 := hok.2.2
    rw [hord] at h3
    have : ∀ (L1 : List Nat), pairsOkT ops eff (L1 ++ i :: L2) = true → i < ops.size := by
      intro L1
      induction L1 with
      | nil => intro h; simp only [List.nil_append, pairsOkT, Bool.and_eq_true, decide_eq_true_eq] at h; exact h.1
      | cons k L1 ih => intro h; simp only [List.cons_append, pairsOkT, Bool.and_eq_true] at h; exact ih h.2.2.2
    exact this L1 h3
  have hu : left (Array.replicate ops.size false) ord = ord := by
    unfold left
    rw [List.filter_eq_self]
    intro i hi
    have := hlt i hi
    simp [this]
  refine linI_any (S := S) (eff := eff) (ord := ord) (by simp only [ordOkT, Bool.and_eq_true]; exact hok) hnd hSd _ _ _ _ 0 (by simp) (fun j oj _ h => by rw [getD_replicate_false] at h; cases h) ?_ hS ?_
  · rw [hu]
    simpa using hok.1.2
  · rw [hu]; exact h

theorem linI_nil {eff : List Nat} {a : Act} {w : World} (h : ∀ n, Q .normal a (w.drewN n)) : LinI l0 n0 P ops Q S eff [] a w := h
/-- An operation that gives its value in every world that meets S, and leaves the world as it is. -/
theorem linI_op {eff : List Nat} {i : Nat} {o : Oper} {r : List Nat} {a : Act} {w : World} {v : Value} (ho : ops[i]? = some o) (he : eff.contains i = false) (hw : Region.wanted o (yielded ops a.tmps) = true) (hy : ∀ w, S w → (execOp a.eval o).run P w = .ok (.value v) w) (h : LinI l0 n0 P ops Q S eff r (a.put o.dst v) w) : LinI l0 n0 P ops Q S eff (i :: r) a w :=
  ⟨o, ho, fun _ => ⟨v, .inl ⟨hw, fun w hS => .inl (hy w hS)⟩, h⟩, fun h9 => by rw [he] at h9; cases h9⟩
theorem linI_off {eff : List Nat} {i : Nat} {o : Oper} {r : List Nat} {a : Act} {w : World} (ho : ops[i]? = some o) (he : eff.contains i = false) (hw : Region.wanted o (yielded ops a.tmps) = false) (h : LinI l0 n0 P ops Q S eff r (a.put o.dst undef) w) : LinI l0 n0 P ops Q S eff (i :: r) a w :=
  ⟨o, ho, fun _ => ⟨undef, .inr ⟨hw, rfl⟩, h⟩, fun h9 => by rw [he] at h9; cases h9⟩
theorem linI_fn {eff : List Nat} {i : Nat} {o : Oper} {r : List Nat} {a : Act} {w : World} {v : Value} {f : Nat} {c : Call} {args : Array Value} (hi : ops[i]? = some o) (he : eff.contains i = false) (hw : Region.wanted o (yielded ops a.tmps) = true) (ho : o.op = .call c) (hc : c.callee = .value (.func f)) (hen : ∀ args w, (callFunc f args).run P w = .ok (.enter f args) w)
    (hcl : ∀ w, S w → Calls P f args w fun e w' => e = .returned v ∧ ∃ n, w' = w.drewN n) (ha : c.args.map a.eval = args) (h : LinI l0 n0 P ops Q S eff r (a.put o.dst v) w) : LinI l0 n0 P ops Q S eff (i :: r) a w := by
  refine ⟨o, hi, fun _ => ⟨v, .inl ⟨hw, fun w hS => .inr ⟨f, args, ?_, hcl w hS⟩⟩, h⟩, fun h9 => by rw [he] at h9; cases h9⟩
  simp only [execOp, ho, resolve, hc, ha, Act.eval, Deferred.ofValue, invoke, Sem.run_bind, Sem.run_pure, Result.andThen_ok]
  have e1 := hen (#[] ++ args ++ #[]) w
  simp only [Array.empty_append, Array.append_empty] at e1 ⊢
  exact e1
/-- An operation that changes the world. -/
theorem linI_do {eff : List Nat} {i : Nat} {o : Oper} {r : List Nat} {a : Act} {w : World} {v : Value} (ho : ops[i]? = some o) (he : eff.contains i = true) (hw : Region.wanted o (yielded ops a.tmps) = true) (hy : ∀ n, ∃ w', (execOp a.eval o).run P (w.drewN n) = .ok (.value v) w' ∧ S w' ∧ LinI l0 n0 P ops Q S eff r (a.put o.dst v) w') : LinI l0 n0 P ops Q S eff (i :: r) a w :=
  ⟨o, ho, fun h9 => (by rw [he] at h9; cases h9), fun _ n => .inl ⟨hw, let ⟨w', h1, h2, h3⟩ := hy n; .inl ⟨v, w', .inl h1, h2, h3⟩⟩⟩
/-- A store. -/
theorem linI_store {eff : List Nat} {i : Nat} {o : Oper} {r : List Nat} {a : Act} {w : World} (ho : ops[i]? = some o) (he : eff.contains i = true) (hw : Region.wanted o (yielded ops a.tmps) = true) (hy : ∀ n, ∃ w', (execOp a.eval o).run P (w.drewN n) = .ok .skip w' ∧ S w' ∧ LinI l0 n0 P ops Q S eff r (a.put o.dst undef) w') : LinI l0 n0 P ops Q S eff (i :: r) a w :=
  ⟨o, ho, fun h9 => (by rw [he] at h9; cases h9), fun _ n => .inl ⟨hw, let ⟨w', h1, h2, h3⟩ := hy n; .inl ⟨undef, w', .inr ⟨h1, rfl⟩, h2, h3⟩⟩⟩
/-- A call that changes the world. -/
theorem linI_call {eff : List Nat} {i : Nat} {o : Oper} {r : List Nat} {a : Act} {w : World} {f : Nat} {c : Call} {args : Array Value} (hi : ops[i]? = some o) (he : eff.contains i = true) (hw : Region.wanted o (yielded ops a.tmps) = true) (ho : o.op = .call c) (hc : c.callee = .value (.func f)) (hen : ∀ args w, (callFunc f args).run P w = .ok (.enter f args) w) (ha : c.args.map a.eval = args)
    (h : ∀ n, Calls P f args (w.drewN n) fun e w' => ∃ v, e = .returned v ∧ S w' ∧ LinI l0 n0 P ops Q S eff r (a.put o.dst v) w') : LinI l0 n0 P ops Q S eff (i :: r) a w := by
  refine ⟨o, hi, fun h9 => (by rw [he] at h9; cases h9), fun _ n => .inl ⟨hw, .inr ⟨f, args, w.drewN n, ?_, h n⟩⟩⟩
  simp only [execOp, ho, resolve, hc, ha, Act.eval, Deferred.ofValue, invoke, Sem.run_bind, Sem.run_pure, Result.andThen_ok]
  have e1 := hen (#[] ++ args ++ #[]) (w.drewN n)
  simp only [Array.empty_append, Array.append_empty] at e1 ⊢
  exact e1
/-- A call of yield. -/
theorem linI_yield {eff : List Nat} {i : Nat} {o : Oper} {r : List Nat} {a : Act} {w : World} {l' : Nat} (hi : ops[i]? = some o) (he : eff.contains i = true) (hw : Region.wanted o (yielded ops a.tmps) = true)
    (h : ∀ n, ∃ fn tmps assign body w1, (execOp a.eval o).run P (w.drewN n) = .ok (.round l' fn tmps assign body) w1 ∧ RoundIn Fence.wide n0 P l' fn tmps assign body w1 fun e w' => ∃ v, e = .returned v ∧ S w' ∧ LinI l0 n0 P ops Q S eff r (a.put o.dst v) w') : LinI l0 n0 P ops Q S eff (i :: r) a w := by
  refine ⟨o, hi, fun h9 => (by rw [he] at h9; cases h9), fun _ n => ?_⟩
  obtain ⟨fn, tmps, assign, body, w1, h1, h2⟩ := h n
  exact .inr ⟨l', fn, tmps, assign, body, w1, hw, h1, RoundIn.wide h2⟩
end
end Go.Proofs.Ytgnpoehcmlmajaa
namespace Go.Proofs.Ytgnpoehcmlmajaa
open Go.RowKit Go.Shelf
set_option linter.unusedVariables false

/-- A block: its place, its class, whether it is taken. -/
structure Bl where
  x : Nat
  c : Nat
  t : Bool
def Bl.zero : Bl := ⟨0, 0, false⟩
/-- Block stands behind block from a word on, up to the edge. -/
def Chain (ws : List Nat) : Nat → List Bl → Prop
  | a0, [] => a0 = ws.getD 15 0
  | a0, b :: r => b.x = a0 + 1 ∧ b.c ≤ 5 ∧ ws.getD a0 0 = hdN b.c b.t ∧ a0 + 1 + 2 ^ b.c ≤ ws.getD 15 0 ∧ Chain ws (a0 + 1 + 2 ^ b.c) r
/-- Where the k-th block is; behind all: one behind the edge. -/
def posB (e : Nat) (B : List Bl) (k : Nat) : Nat := (B[k]?.map Bl.x).getD (e + 1)
theorem chain_head {ws : List Nat} {a0 : Nat} {B : List Bl} (h : Chain ws a0 B) : posB (ws.getD 15 0) B 0 = a0 + 1 := by
  cases B with
  | nil => have h1 : a0 = ws.getD 15 0 := h; simp only [posB]; rw [h1]; rfl
  | cons b r => exact h.1
theorem chain_get {ws : List Nat} : ∀ {B : List Bl} {a0 : Nat}, Chain ws a0 B → 16 ≤ a0 → ∀ {k : Nat} {b : Bl}, B[k]? = some b →
    b.c ≤ 5 ∧ a0 + 1 ≤ b.x ∧ ws.getD (b.x - 1) 0 = hdN b.c b.t ∧ b.x + 2 ^ b.c ≤ ws.getD 15 0 ∧ posB (ws.getD 15 0) B (k + 1) = b.x + 2 ^ b.c + 1
  | [], _, _, _, k, b, hb => by simp at hb
  | c :: r, a0, h, h16, 0, b, hb => by
    obtain rfl : c = b := by simpa using hb
    obtain ⟨h1, h2, h3, h4, h5⟩ := h
    refine ⟨h2, by omega, by rw [h1]; exact h3, by omega, ?_⟩
    have := chain_head h5
    have e : posB (ws.getD 15 0) (c :: r) 1 = posB (ws.getD 15 0) r 0 := rfl
    rw [e, this]; omega
  | c :: r, a0, h, h16, k + 1, b, hb => by
    obtain ⟨h1, h2, h3, h4, h5⟩ := h
    have hz : 0 ≤ 2 ^ c.c := Nat.zero_le _
    generalize 2 ^ c.c = z at *
    obtain ⟨g1, g2, g3, g4, g5⟩ := chain_get h5 (by omega) (k := k) (b := b) (by simpa using hb)
    exact ⟨g1, by omega, g3, g4, g5⟩
theorem posB_get {e : Nat} {B : List Bl} {k : Nat} {b : Bl} (hb : B[k]? = some b) : posB e B k = b.x := by simp [posB, hb]
theorem posB_end (e : Nat) (B : List Bl) : posB e B B.length = e + 1 := by simp [posB]

/-- Of an arena nothing turns: of this type pieces are. -/
def XP : TypeId → Bool := fun t => t == 86
section
variable {w : World} {g p q : Nat} {ws : List Nat} {bs : List Bool}
theorem Ar.kx (h : Ar w g p q ws bs) {S : List Nat} {w' : World} (k : KX XP S w w') (hg : g ∉ S) (hp : p ∉ S) (hq : q ∉ S) : Ar w' g p q ws bs :=
  ⟨k.blk h.box hg (by decide), k.blk h.wds hp (by decide), k.blk h.bgs hq (by decide), h.len, h.lo, h.hi, h.sml⟩

set_option maxHeartbeats 400000 in
theorem blocks_any (a : Option Addr) (w : World) : Calls Try.prog 68 #[.pointer a] w fun e w' =>
    e = .returned (.func (.func 82) #[] #[.pointer (some ⟨w.heap.size, 0, none⟩)]) ∧ Blk w' w.heap.size 25 #[.pointer a] ∧ Below w.heap.size w w' ∧ w'.heap.size = w.heap.size + 1 := by
  have hmf : ∀ (fn : Fn) (first cap : Array Value) (w : World), (Instr.makeFunc fn first cap).run Try.prog w = .ok (.func fn first cap) w := fun _ _ _ _ => rfl
  have HB := Lib.hid (And.intro (Blk.new w 25 #[.pointer a]) ((Below.refl w.heap.size w).alloc (Nat.le_refl _) (.cells #[.pointer a] 25)))
  go_enter Try.func68, Try.ntmps68
  go_wp2
  go_ret
  exact ⟨rfl, HB.out.1, HB.out.2, by simp⟩

/-- What the iterator over all blocks tells. -/
def encB (B : List Bl) (k : Nat) : Array Value := #[.int .i64 ((B.getD k Bl.zero).x : Int), .int .u32 ((hdN (B.getD k Bl.zero).c (B.getD k Bl.zero).t : Nat) : Int)]

attribute [local go_sem] Oper.semAt_some
set_option maxRecDepth 100000 in
set_option maxHeartbeats 1000000 in
theorem blocks_tells {S : List Nat} {box : Nat} {B : List Bl} (h : Ar w g p q ws bs) (hC : Chain ws 16 B) (he : ws.getD 15 0 ≤ ws.length) (hb : Blk w box 25 #[.pointer (some ⟨g, 0, none⟩)])
    (hgS : g ∉ S) (hpS : p ∉ S) (hqS : q ∉ S) (hbS : box ∉ S) :
    Tells XP 82 #[.pointer (some ⟨box, 0, none⟩)] S B.length (encB B) w := by
  intro lo J Jx W hWk hlw hlo hJ hJx hY h0
  have n1 : g ≠ lo := by have := h.box.lt; omega
  have n2 : p ≠ lo := by have := h.wds.lt; omega
  have n3 : q ≠ lo := by have := h.bgs.lt; omega
  have n4 : box ≠ lo := by have := hb.lt; omega
  replace h := h.kx hWk hgS hpS hqS
  replace hb := hWk.blk hb hbS (by decide)
  have hhi := h.hi
  have hC0 := chain_head hC
  have hCg := fun (k : Nat) (b : Bl) (hb : B[k]? = some b) => chain_get hC (Nat.le_refl _) hb
  have hCe := posB_end (ws.getD 15 0) B
  clear hlw hWk hC
  generalize hee : ws.getD 15 0 = e at *
  have HE := Lib.hid hee
  clear hee
  refine callsIn_of_wp Try.func82 rfl trivial ?_ rfl
  simp only [Try.ntmps82, List.size_toArray, List.length_cons, List.length_nil, Nat.reduceAdd, Nat.reduceSub, Array.replicate_succ, Array.replicate_zero, List.push_toArray, List.append_toArray, List.nil_append, List.cons_append]
  gi_wp2
  gi_loopw [3] (fun i wr => ∃ k : Nat, k ≤ B.length ∧ i = .int .i64 (posB e B k : Int) ∧ J k wr ∧ Ar wr g p q ws bs ∧ Blk wr box 25 #[.pointer (some ⟨g, 0, none⟩)] ∧ 0 ≤ wr.heap.size) (fun i _ => e + 2 - (intOf i).toNat)
  case atStart => exact ⟨0, Nat.zero_le _, by rw [hC0]; rfl, h0, h, hb, Nat.zero_le _⟩
  case round =>
    obtain ⟨k, hk, rfl, hJs, hA, hbw, _⟩ := hrel
    have cb : wr.cell? ⟨box, 0, none⟩ = some (.pointer (some ⟨g, 0, none⟩)) := hbw.cell 0
    have hed := edge_any hA
    rw [HE.out] at hed
    by_cases hlt : k < B.length
    · obtain ⟨g1, g2, g3, g4, g5⟩ := hCg k B[k] (List.getElem?_eq_getElem hlt)
      have hpo := posB_get (e := e) (List.getElem?_eq_getElem hlt)
      have hdd : B.getD k Bl.zero = B[k] := by simp [hlt]
      obtain ⟨fn, tmps, assign, body, hy, hR⟩ := hY k wr hlt hJs
      unfold encB at hy
      rw [hdd] at hy
      rw [hpo]
      have hhd := head_any hA B[k].x (by omega) (by have := (pow5 g1).1; omega)
      rw [g3] at hhd
      have hsz := fun w => hsize_any B[k].c B[k].t g1 w
      have hp5 := pow5 g1
      generalize B[k] = b at *
      generalize hdN b.c b.t = hv at *
      generalize b.x = x at *
      generalize 2 ^ b.c = z at *
      have d1 : decide ((x : Int) ≤ (e : Int)) = true := decide_eq_true (by omega)
      have d2 : decide (x ≤ e) = true := decide_eq_true (by omega)
      have HJ := Lib.hid (And.intro hA (And.intro hbw (And.intro hpo g5)))
      clear hJs hA hbw hC0 hCe hCg h hb h0 hpo g5 hY
      gi_wp2
      refine ⟨trivial, ?_⟩
      refine (callsIn_wide.2 hed).mono ?_
      rintro e1 w1 ⟨rfl, rfl⟩
      gi_wp2
      refine ⟨trivial, ?_⟩
      refine (callsIn_wide.2 hhd).mono ?_
      rintro e1 w1 ⟨rfl, rfl⟩
      clear hed hhd
      gi_wp2
      refine hR.mono ?_
      rintro e2 W4 ⟨hk4, ⟨rfl, hJ4⟩ | ⟨rfl, hJx4⟩⟩
      · have hA4 := HJ.out.1.kx hk4 (by simp [n1, hgS]) (by simp [n2, hpS]) (by simp [n3, hqS])
        have hb4 := hk4.blk HJ.out.2.1 (by simp [n4, hbS]) (by decide)
        have hnx : posB e B (k + 1) = x + (z + 1) := by have := HJ.out.2.2.2; omega
        have HN := Lib.hid hnx
        clear hnx hy
        gi_wp2
        refine ⟨trivial, ?_⟩
        refine (callsIn_wide.2 (hsz _)).mono ?_
        rintro e1 w1 ⟨rfl, rfl⟩
        clear hsz
        gi_wp2
        go_roundw
        case rel => exact ⟨k + 1, by omega, by rw [HN.out]; go_num, hJ4, hA4, hb4, Nat.zero_le _⟩
        case measure => simp [intOf]; omega
      · gi_wp2
        refine bodyPost_ret (results_none rfl _ _ _) rfl ?_
        exact ⟨⟨_, rfl⟩, .inr ⟨k, by omega, hJx4⟩⟩
    · obtain rfl : k = B.length := by omega
      rw [hCe]
      have d1 : decide ((e : Int) + 1 ≤ (e : Int)) = false := decide_eq_false (by omega)
      clear hC0 hCe hCg h hb h0 hY
      gi_wp2
      refine ⟨trivial, ?_⟩
      refine (callsIn_wide.2 hed).mono ?_
      rintro e1 w1 ⟨rfl, rfl⟩
      gi_wp2
      go_end0
      exact ⟨⟨_, rfl⟩, .inl hJs⟩
end
end Go.Proofs.Ytgnpoehcmlmajaa
namespace Go.Proofs.Ytgnpoehcmlmajaa
open Go.RowKit Go.Shelf
set_option linter.unusedVariables false

/-- Block behind block, from one word to another. -/
def Tile (ws : List Nat) : Nat → List Bl → Nat → Prop
  | a0, [], e => a0 = e
  | a0, b :: r, e => b.x = a0 + 1 ∧ b.c ≤ 5 ∧ ws.getD a0 0 = hdN b.c b.t ∧ a0 + 1 + 2 ^ b.c ≤ ws.getD 15 0 ∧ Tile ws (a0 + 1 + 2 ^ b.c) r e
/-- No block stands at this word, though the edge is not there yet. -/
def Stuck (ws : List Nat) (e : Nat) : Prop := e < ws.getD 15 0 ∧ ∀ c t, c ≤ 5 → ws.getD e 0 = hdN c t → ws.getD 15 0 < e + 1 + 2 ^ c
theorem hdN_both {c d : Nat} {t u : Bool} (hc : c ≤ 5) (hd : d ≤ 5) (h : hdN c t = hdN d u) : c = d ∧ t = u := by
  unfold hdN at h
  cases t <;> cases u <;> simp at h ⊢ <;> omega
theorem tile_chain {ws : List Nat} : ∀ {B : List Bl} {a0 : Nat}, Tile ws a0 B (ws.getD 15 0) ↔ Chain ws a0 B
  | [], a0 => Iff.rfl
  | b :: r, a0 => by
    constructor
    · rintro ⟨h1, h2, h3, h4, h5⟩
      exact ⟨h1, h2, h3, h4, tile_chain.1 h5⟩
    · rintro ⟨h1, h2, h3, h4, h5⟩
      exact ⟨h1, h2, h3, h4, tile_chain.2 h5⟩
theorem tile_snoc {ws : List Nat} : ∀ {B : List Bl} {a0 e : Nat} {c : Nat} {t : Bool}, Tile ws a0 B e → c ≤ 5 → ws.getD e 0 = hdN c t → e + 1 + 2 ^ c ≤ ws.getD 15 0 → Tile ws a0 (B ++ [⟨e + 1, c, t⟩]) (e + 1 + 2 ^ c)
  | [], a0, e, c, t, h, hc, hh, hf => by
    have h1 : a0 = e := h
    subst h1
    exact ⟨rfl, hc, hh, hf, rfl⟩
  | b :: r, a0, e, c, t, h, hc, hh, hf => by
    obtain ⟨h1, h2, h3, h4, h5⟩ := h
    exact ⟨h1, h2, h3, h4, tile_snoc h5 hc hh hf⟩
theorem tile_le {ws : List Nat} : ∀ {B : List Bl} {a0 e : Nat}, Tile ws a0 B e → a0 ≤ e
  | [], a0, e, h => Nat.le_of_eq h
  | b :: r, a0, e, h => by
    obtain ⟨_, _, _, _, h5⟩ := h
    have := tile_le h5
    generalize 2 ^ b.c = z at *
    omega
/-- Where it stands still there is no row of blocks at all. -/
theorem tile_stuck {ws : List Nat} : ∀ {B : List Bl} {a0 e : Nat}, Tile ws a0 B e → Stuck ws e → ∀ B', ¬ Chain ws a0 B'
  | [], a0, e, h, hs, B', hC => by
    have h1 : a0 = e := h
    subst h1
    cases B' with
    | nil =>
      have h2 : a0 = ws.getD 15 0 := hC
      exact absurd hs.1 (by omega)
    | cons d r =>
      obtain ⟨_, h2, h3, h4, _⟩ := hC
      have := hs.2 d.c d.t h2 h3
      omega
  | b :: r, a0, e, h, hs, B', hC => by
    obtain ⟨h1, h2, h3, h4, h5⟩ := h
    cases B' with
    | nil =>
      have h6 : a0 = ws.getD 15 0 := hC
      have := Nat.zero_le (2 ^ b.c)
      generalize 2 ^ b.c = z at *
      omega
    | cons d r' =>
      obtain ⟨g1, g2, g3, g4, g5⟩ := hC
      have hcd := (hdN_both h2 g2 (h3.symm.trans g3)).1
      rw [← hcd] at g5
      exact tile_stuck h5 hs r' g5
theorem head_dec (x : Nat) : (∃ c t, c ≤ 5 ∧ x = hdN c t) ∨ ∀ c t, c ≤ 5 → x ≠ hdN c t := by
  by_cases h : 16 ≤ x ∧ x ≤ 27
  · refine .inl ⟨(x - 16) / 2, decide ((x - 16) % 2 = 1), by omega, ?_⟩
    unfold hdN
    by_cases h2 : (x - 16) % 2 = 1
    · simp [h2]; omega
    · simp [h2]; omega
  · refine .inr fun c t hc e => h ?_
    subst e
    unfold hdN
    cases t <;> simp <;> omega
/-- Words are block behind block up to the edge, or stand still at one. -/
theorem chain_or {ws : List Nat} : ∀ (n a0 : Nat), ws.getD 15 0 - a0 ≤ n → a0 ≤ ws.getD 15 0 → (∃ B, Chain ws a0 B) ∨ ∃ B e, Tile ws a0 B e ∧ Stuck ws e
  | n, a0, hn, ha => by
    rcases Nat.eq_or_lt_of_le ha with h | h
    · exact .inl ⟨[], h⟩
    · rcases head_dec (ws.getD a0 0) with ⟨c, t, hc, hx⟩ | hx
      · by_cases hf : a0 + 1 + 2 ^ c ≤ ws.getD 15 0
        · cases n with
          | zero => omega
          | succ n =>
            rcases chain_or n (a0 + 1 + 2 ^ c) (by have := Nat.zero_le (2 ^ c); omega) hf with ⟨B, hB⟩ | ⟨B, e, hT, hS⟩
            · exact .inl ⟨⟨a0 + 1, c, t⟩ :: B, rfl, hc, hx, hf, hB⟩
            · exact .inr ⟨⟨a0 + 1, c, t⟩ :: B, e, ⟨rfl, hc, hx, hf, hT⟩, hS⟩
        · refine .inr ⟨[], a0, rfl, h, fun d u hd hy => ?_⟩
          have := (hdN_both hc hd (hx.symm.trans hy)).1
          subst this
          omega
      · exact .inr ⟨[], a0, rfl, h, fun d u hd hy => absurd hy (hx d u hd)⟩
end Go.Proofs.Ytgnpoehcmlmajaa
