/-
  Prefixes in a row that a call owns: as cells, appended to. Nothing here is a statement of the document.
-/
import Derived.Test.YtikdgbmdepplgaaGreatDoorLinF
import Derived.Test.YtikdgbmdepplgaaGreatDoorTbS
import Derived.Test.YtikdgbmdepplgaaGreatDoorPfxV
namespace Go.Proofs.YtikdgbmdepplgaaGreatDoor
set_option linter.unusedVariables false

section
variable {P : Program} {ops : Array Oper} {Q : Exit → Act → World → Prop} {S : World → Prop} {l0 n0 fin : Nat} {fre : List Nat}
/-- The operations in the order that is picked; those of eff may change the world. -/
def LinG (P : Program) (ops : Array Oper) (Q : Exit → Act → World → Prop) (S : World → Prop) (fin : Nat) (eff fre : List Nat) : List Nat → Act → World → Prop
  | [], a, w => Q .normal a w
  | i :: r, a, w => ∃ o, ops[i]? = some o ∧ (eff.contains i = false → ∃ v, Still P ops (fun w => fre.contains i = true ∨ S w) o v a ∧ LinG P ops Q S fin eff fre r (a.put o.dst v) w) ∧ (eff.contains i = true → Moves P ops (fun w' => i = fin ∨ S w') o a w fun v w' => LinG P ops Q S fin eff fre r (a.put o.dst v) w')

theorem LinG.swap {eff : List Nat} {i j : Nat} {x y : Oper} {r : List Nat} {a : Act} {w : World} (hi : ops[i]? = some x) (hj : ops[j]? = some y) (hx : ∀ cs b, x.op ≠ .select cs b) (hy : ∀ cs b, y.op ≠ .select cs b) (hap : x.apart ops y = true) (hq : eff.contains i = false)
    (h : LinG P ops Q S fin eff fre (i :: j :: r) a w) : LinG P ops Q S fin eff fre (j :: i :: r) a w := by
  obtain ⟨h1, h2, h3⟩ := Oper.apart_spec hap
  have ey : ∀ (v : Value), execOp (a.put x.dst v).eval y = execOp a.eval y := fun v => execOp_put y hy a x.dst v h1
  have wy : ∀ (v : Value), Region.wanted y (yielded ops (a.put x.dst v).tmps) = Region.wanted y (yielded ops a.tmps) := fun v => wanted_put y a x.dst v h1
  have ex : ∀ (v : Value), execOp (a.put y.dst v).eval x = execOp a.eval x := fun v => execOp_put x hx a y.dst v h3
  have wx : ∀ (v : Value), Region.wanted x (yielded ops (a.put y.dst v).tmps) = Region.wanted x (yielded ops a.tmps) := fun v => wanted_put x a y.dst v h3
  obtain ⟨x', hx', q1, _⟩ := h
  obtain rfl : x' = x := Option.some.inj (hx'.symm.trans hi)
  obtain ⟨vx, gx, y', hy', q2, q3⟩ := q1 hq
  obtain rfl : y' = y := Option.some.inj (hy'.symm.trans hj)
  refine ⟨_, hj, fun hf => ?_, fun ht => ?_⟩
  · obtain ⟨vy, gy, h4⟩ := q2 hf
    refine ⟨vy, gy.of_same (ey vx).symm (wy vx).symm, _, hi, fun _ => ⟨vx, gx.of_same (ex vy) (wx vy), ?_⟩, fun h9 => by rw [hq] at h9; cases h9⟩
    rw [← Act.put_comm a vx vy h2]
    exact h4
  · refine (Moves.of_same (q3 ht) (ey vx).symm (wy vx).symm).imp (fun v w' hS' h4 => ?_)
    refine ⟨_, hi, fun _ => ⟨vx, gx.of_same (ex v) (wx v), ?_⟩, fun h9 => by rw [hq] at h9; cases h9⟩
    rw [← Act.put_comm a vx v h2]
    exact h4
theorem LinG.front {eff : List Nat} {j : Nat} {y : Oper} {T2 : List Nat} (hj : ops[j]? = some y) (hy : ∀ cs b, y.op ≠ .select cs b) : ∀ (T1 : List Nat) (a : Act) (w : World), (∀ i ∈ T1, ∃ x, ops[i]? = some x ∧ (∀ cs b, x.op ≠ .select cs b) ∧ x.apart ops y = true ∧ eff.contains i = false) → LinG P ops Q S fin eff fre (T1 ++ j :: T2) a w → LinG P ops Q S fin eff fre (j :: (T1 ++ T2)) a w
  | [], _, _, _, h => h
  | i :: T1, a, w, hap, h => by
    obtain ⟨x, hi, hx, hxy, hq⟩ := hap i (by simp)
    obtain ⟨x', hx', q1, _⟩ := h
    obtain rfl : x' = x := Option.some.inj (hx'.symm.trans hi)
    obtain ⟨vx, gx, h4⟩ := q1 hq
    have h5 := LinG.front hj hy T1 _ w (fun k hk => hap k (by simp [hk])) h4
    exact LinG.swap hi hj hx hy hxy hq ⟨_, hi, fun _ => ⟨vx, gx, h5⟩, fun h9 => by rw [hq] at h9; cases h9⟩

def ordOkG (ops : Array Oper) (fin : Nat) (eff fre ord : List Nat) : Bool := ordOkY ops eff ord && ord.all fun i => i == fin || (reach ops 14 fin i || fre.contains i)
theorem finLastG {listed : Array Bool} {eff ord : List Nat} (hok : ordOkG ops fin eff fre ord = true) (hsz : listed.size = ops.size) (hcl : ClosedL ops listed) (hj : fin ∈ Region.ready .any ops listed) : ∀ i ∈ left (listed.setIfInBounds fin true) ord, fre.contains i = true := by
  obtain ⟨hun, oj, hoj, hall⟩ := mem_ready.1 hj
  intro i hi
  obtain ⟨h1, h2⟩ := List.mem_filter.1 hi
  have hlt : fin < listed.size := by have := (Array.getElem?_eq_some_iff.1 hoj).1; omega
  have hne : i ≠ fin := by
    rintro rfl
    simp [hlt] at h2
  have h3 : listed.getD i true = false := by
    rw [getD_set_ne true (fun e => hne e.symm)] at h2
    simpa using h2
  simp only [ordOkG, Bool.and_eq_true] at hok
  have h4 := List.all_eq_true.1 hok.2 i h1
  simp only [Bool.or_eq_true, beq_iff_eq] at h4
  rcases h4 with h4 | h4 | h4
  · exact absurd h4 hne
  · have h5 := reach_spec hcl 14 fin i hoj hall h4
    by_cases h6 : i < listed.size
    · simp [h6] at h3 h5
      rw [h3] at h5; cases h5
    · simp [h6] at h5
  · exact h4
theorem linG_any {eff ord : List Nat} (hokF : ordOkG ops fin eff fre ord = true) : ∀ (fuel : Nat) (listed : Array Bool) (a : Act) (w : World), listed.size = ops.size → ClosedL ops listed → (left listed ord).length ≤ fuel → (S w ∨ ∀ i ∈ left listed ord, fre.contains i = true) → LinG P ops Q S fin eff fre (left listed ord) a w → wpAny P .any ops Q fuel listed a w := by
  have hok : ordOkY ops eff ord = true := by simp only [ordOkG, Bool.and_eq_true] at hokF; exact hokF.1
  simp only [ordOkY, Bool.and_eq_true] at hok
  obtain ⟨⟨hns, _⟩, hall0, hpairs⟩ := hok
  have hsel : ∀ (j : Nat) (o : Oper), ops[j]? = some o → ∀ cs b, o.op ≠ .select cs b := fun j o ho cs b => Region.noSelect_spec hns j o cs b ho
  have hback : ∀ j oj, ops[j]? = some oj → j ∈ ord ∧ ∀ e ∈ oj.after, Region.binds .any e = true → e.on < j := by
    intro j oj hoj
    have h1 := List.all_eq_true.1 hall0 j (List.mem_range.2 (Array.getElem?_eq_some_iff.1 hoj).1)
    simp only [hoj, Bool.and_eq_true, Array.all_eq_true_iff_forall_mem] at h1
    exact ⟨List.contains_iff_mem.1 h1.1, fun e he hb => by
      have h2 := h1.2 e he
      simpa [hb] using h2⟩
  have hnil : ∀ listed : Array Bool, listed.size = ops.size → Region.ready .any ops listed = [] → left listed ord = [] := by
    intro listed hsz hr
    have key : ∀ j, listed.getD j true = true := by
      intro j
      induction j using Nat.strongRecOn with
      | ind j ih =>
        cases hb : listed.getD j true with
        | true => rfl
        | false =>
          have hj : j < ops.size := by
            rcases Nat.lt_or_ge j listed.size with h' | h'
            · omega
            · simp [Array.getElem?_eq_none h'] at hb
          have hoj : ops[j]? = some ops[j] := Array.getElem?_eq_getElem hj
          have hm : j ∈ Region.ready .any ops listed := mem_ready.2 ⟨hb, _, hoj, fun e he hbd => by
            have hlt := (hback j _ hoj).2 e he hbd
            have h9 := ih e.on hlt
            have h8 : e.on < listed.size := by omega
            simp [h8] at h9 ⊢
            exact h9⟩
          rw [hr] at hm
          cases hm
    unfold left
    rw [List.filter_eq_nil_iff]
    intro i _
    rw [key i]
    simp
  have hpick : ∀ (listed : Array Bool) (j : Nat), listed.size = ops.size → ClosedL ops listed → j ∈ Region.ready .any ops listed → ∃ oj T1 T2, ops[j]? = some oj ∧ left listed ord = T1 ++ j :: T2 ∧ left (listed.setIfInBounds j true) ord = T1 ++ T2 ∧ ∀ i ∈ T1, ∃ x, ops[i]? = some x ∧ (∀ cs b, x.op ≠ .select cs b) ∧ x.apart ops oj = true ∧ eff.contains i = false := by
    intro listed j hsz hcl hj
    obtain ⟨hun, oj, hoj, hall⟩ := mem_ready.1 hj
    obtain ⟨L1, L2, hord⟩ := List.append_of_mem (hback j oj hoj).1
    rw [hord] at hpairs
    obtain ⟨hn1, hn2, hp⟩ := pairsOkY_split L1 hpairs
    have hlt : j < listed.size := by have := (Array.getElem?_eq_some_iff.1 hoj).1; omega
    refine ⟨oj, left listed L1, left listed L2, hoj, ?_, ?_, ?_⟩
    · rw [hord]
      unfold left
      rw [List.filter_append, List.filter_cons, hun]
      simp
    · have e : left (listed.setIfInBounds j true) (j :: L2) = left (listed.setIfInBounds j true) L2 := by
        unfold left
        rw [List.filter_cons]
        simp [hlt]
      have e2 : left (listed.setIfInBounds j true) (L1 ++ j :: L2) = left (listed.setIfInBounds j true) L1 ++ left (listed.setIfInBounds j true) (j :: L2) := by simp [left]
      rw [hord, e2, e, left_set _ _ _ hn1, left_set _ _ _ hn2]
    · intro i hi
      have hi1 := List.mem_filter.1 hi
      obtain ⟨hil, hc⟩ := hp i hi1.1
      have hui : listed.getD i true = false := by simpa using hi1.2
      have hoi : ops[i]? = some ops[i] := Array.getElem?_eq_getElem hil
      rcases hc with h9 | h9
      · refine ⟨_, hoi, hsel i _ hoi, ?_, h9.2⟩
        have h7 := h9.1
        unfold pairApart at h7
        simp only [hoi, hoj] at h7
        exact h7
      · have h8 := reach_spec hcl 14 j i hoj hall h9
        have h7 : i < listed.size := by omega
        simp [h7] at h8 hui
        rw [hui] at h8
        cases h8
  intro fuel
  induction fuel with
  | zero =>
    intro listed a w hsz hcl hlen hS hL
    have h0 : left listed ord = [] := List.length_eq_zero_iff.1 (by omega)
    rw [h0] at hL
    refine ⟨?_, hL⟩
    refine List.eq_nil_iff_forall_not_mem.2 (fun j hj => ?_)
    obtain ⟨oj, T1, T2, _, h1, _⟩ := hpick listed j hsz hcl hj
    rw [h0] at h1
    simp at h1
  | succ fuel ih =>
    intro listed a w hsz hcl hlen hS hL
    refine ⟨fun hr => ?_, fun j hj => ?_⟩
    · rw [hnil listed hsz hr] at hL
      exact hL
    · obtain ⟨oj, T1, T2, hoj, h1, h2, h3⟩ := hpick listed j hsz hcl hj
      have hfin : j = fin → ∀ i ∈ T1 ++ T2, fre.contains i = true := fun e => by rw [← h2, e]; exact finLastG hokF hsz hcl (e ▸ hj)
      have hS0 : fre.contains j = true ∨ S w := hS.symm.imp_left (fun e => e j (by rw [h1]; simp))
      have hS1 : S w ∨ ∀ i ∈ T1 ++ T2, fre.contains i = true := hS.imp_right (fun e i hi => e i (by rw [h1]; simp at hi ⊢; exact hi.imp_right .inr))
      rw [h1] at hL hlen
      obtain ⟨oj', hoj', q1, q2⟩ := LinG.front hoj (hsel j oj hoj) T1 a w h3 hL
      obtain rfl : oj' = oj := Option.some.inj (hoj'.symm.trans hoj)
      have hnext : ∀ a' w', (S w' ∨ ∀ i ∈ T1 ++ T2, fre.contains i = true) → LinG P ops Q S fin eff fre (T1 ++ T2) a' w' → wpAny P .any ops Q fuel (listed.setIfInBounds j true) a' w' := fun a' w' hS' h4 => by
        refine ih (listed.setIfInBounds j true) a' w' (by simp [hsz]) (closedL_set hcl hj) ?_ (hS'.imp_right (fun e => by rw [h2]; exact e)) (by rw [h2]; exact h4)
        rw [h2]
        simp at hlen ⊢
        omega
      unfold wpOp
      simp only [hoj]
      cases hv : eff.contains j with
      | false =>
        obtain ⟨v, g, h5⟩ := q1 hv
        rcases g with ⟨hw, hy⟩ | ⟨hw, rfl⟩
        · simp only [hw, if_true]
          refine .inl ?_
          unfold Oper.wp
          rcases hy w hS0 with h6 | ⟨f, args, h6, h7⟩
          · rw [h6]
            exact hnext _ _ hS1 h5
          · rw [h6]
            refine Calls.mono h7 ?_
            rintro e w' ⟨rfl, rfl⟩
            exact hnext _ _ hS1 h5
        · simp only [hw, Bool.false_eq_true, if_false]
          exact hnext _ _ hS1 h5
      | true =>
        obtain ⟨hw, hm⟩ := q2 hv
        simp only [hw, if_true]
        refine .inl ?_
        unfold Oper.wp
        rcases hm with ⟨v, w', h6 | ⟨h6, rfl⟩, h7, h8⟩ | ⟨f, args, w1, h6, h7⟩
        · rw [h6]
          exact hnext _ _ (h7.symm.imp_right hfin) h8
        · rw [h6]
          exact hnext _ _ (h7.symm.imp_right hfin) h8
        · rw [h6]
          refine Calls.mono h7 ?_
          rintro e w' ⟨v, rfl, h8, h9⟩
          exact hnext _ _ (h8.symm.imp_right hfin) h9

theorem linGK_any {eff ord : List Nat} (hokF : ordOkG ops fin eff fre ord = true) (hnd : noDeferK ops = true) : ∀ (fuel : Nat) (listed : Array Bool) (a : Act) (w : World), listed.size = ops.size → ClosedL ops listed → (left listed ord).length ≤ fuel → (S w ∨ ∀ i ∈ left listed ord, fre.contains i = true) → LinG P ops Q S fin eff fre (left listed ord) a w → wpAnyIn (Fence.wide.inRound l0) n0 P .any ops Q fuel listed a w := by
  have hok : ordOkY ops eff ord = true := by simp only [ordOkG, Bool.and_eq_true] at hokF; exact hokF.1
  simp only [ordOkY, Bool.and_eq_true] at hok
  obtain ⟨⟨hns, _⟩, hall0, hpairs⟩ := hok
  have hsel : ∀ (j : Nat) (o : Oper), ops[j]? = some o → ∀ cs b, o.op ≠ .select cs b := fun j o ho cs b => Region.noSelect_spec hns j o cs b ho
  have hback : ∀ j oj, ops[j]? = some oj → j ∈ ord ∧ ∀ e ∈ oj.after, Region.binds .any e = true → e.on < j := by
    intro j oj hoj
    have h1 := List.all_eq_true.1 hall0 j (List.mem_range.2 (Array.getElem?_eq_some_iff.1 hoj).1)
    simp only [hoj, Bool.and_eq_true, Array.all_eq_true_iff_forall_mem] at h1
    exact ⟨List.contains_iff_mem.1 h1.1, fun e he hb => by
      have h2 := h1.2 e he
      simpa [hb] using h2⟩
  have hnil : ∀ listed : Array Bool, listed.size = ops.size → Region.ready .any ops listed = [] → left listed ord = [] := by
    intro listed hsz hr
    have key : ∀ j, listed.getD j true = true := by
      intro j
      induction j using Nat.strongRecOn with
      | ind j ih =>
        cases hb : listed.getD j true with
        | true => rfl
        | false =>
          have hj : j < ops.size := by
            rcases Nat.lt_or_ge j listed.size with h' | h'
            · omega
            · simp [Array.getElem?_eq_none h'] at hb
          have hoj : ops[j]? = some ops[j] := Array.getElem?_eq_getElem hj
          have hm : j ∈ Region.ready .any ops listed := mem_ready.2 ⟨hb, _, hoj, fun e he hbd => by
            have hlt := (hback j _ hoj).2 e he hbd
            have h9 := ih e.on hlt
            have h8 : e.on < listed.size := by omega
            simp [h8] at h9 ⊢
            exact h9⟩
          rw [hr] at hm
          cases hm
    unfold left
    rw [List.filter_eq_nil_iff]
    intro i _
    rw [key i]
    simp
  have hpick : ∀ (listed : Array Bool) (j : Nat), listed.size = ops.size → ClosedL ops listed → j ∈ Region.ready .any ops listed → ∃ oj T1 T2, ops[j]? = some oj ∧ left listed ord = T1 ++ j :: T2 ∧ left (listed.setIfInBounds j true) ord = T1 ++ T2 ∧ ∀ i ∈ T1, ∃ x, ops[i]? = some x ∧ (∀ cs b, x.op ≠ .select cs b) ∧ x.apart ops oj = true ∧ eff.contains i = false := by
    intro listed j hsz hcl hj
    obtain ⟨hun, oj, hoj, hall⟩ := mem_ready.1 hj
    obtain ⟨L1, L2, hord⟩ := List.append_of_mem (hback j oj hoj).1
    rw [hord] at hpairs
    obtain ⟨hn1, hn2, hp⟩ := pairsOkY_split L1 hpairs
    have hlt : j < listed.size := by have := (Array.getElem?_eq_some_iff.1 hoj).1; omega
    refine ⟨oj, left listed L1, left listed L2, hoj, ?_, ?_, ?_⟩
    · rw [hord]
      unfold left
      rw [List.filter_append, List.filter_cons, hun]
      simp
    · have e : left (listed.setIfInBounds j true) (j :: L2) = left (listed.setIfInBounds j true) L2 := by
        unfold left
        rw [List.filter_cons]
        simp [hlt]
      have e2 : left (listed.setIfInBounds j true) (L1 ++ j :: L2) = left (listed.setIfInBounds j true) L1 ++ left (listed.setIfInBounds j true) (j :: L2) := by simp [left]
      rw [hord, e2, e, left_set _ _ _ hn1, left_set _ _ _ hn2]
    · intro i hi
      have hi1 := List.mem_filter.1 hi
      obtain ⟨hil, hc⟩ := hp i hi1.1
      have hui : listed.getD i true = false := by simpa using hi1.2
      have hoi : ops[i]? = some ops[i] := Array.getElem?_eq_getElem hil
      rcases hc with h9 | h9
      · refine ⟨_, hoi, hsel i _ hoi, ?_, h9.2⟩
        have h7 := h9.1
        unfold pairApart at h7
        simp only [hoi, hoj] at h7
        exact h7
      · have h8 := reach_spec hcl 14 j i hoj hall h9
        have h7 : i < listed.size := by omega
        simp [h7] at h8 hui
        rw [hui] at h8
        cases h8
  intro fuel
  induction fuel with
  | zero =>
    intro listed a w hsz hcl hlen hS hL
    have h0 : left listed ord = [] := List.length_eq_zero_iff.1 (by omega)
    rw [h0] at hL
    refine ⟨?_, hL⟩
    refine List.eq_nil_iff_forall_not_mem.2 (fun j hj => ?_)
    obtain ⟨oj, T1, T2, _, h1, _⟩ := hpick listed j hsz hcl hj
    rw [h0] at h1
    simp at h1
  | succ fuel ih =>
    intro listed a w hsz hcl hlen hS hL
    refine ⟨fun hr => ?_, fun j hj => ?_⟩
    · rw [hnil listed hsz hr] at hL
      exact hL
    · obtain ⟨oj, T1, T2, hoj, h1, h2, h3⟩ := hpick listed j hsz hcl hj
      have hfin : j = fin → ∀ i ∈ T1 ++ T2, fre.contains i = true := fun e => by rw [← h2, e]; exact finLastG hokF hsz hcl (e ▸ hj)
      have hS0 : fre.contains j = true ∨ S w := hS.symm.imp_left (fun e => e j (by rw [h1]; simp))
      have hS1 : S w ∨ ∀ i ∈ T1 ++ T2, fre.contains i = true := hS.imp_right (fun e i hi => e i (by rw [h1]; simp at hi ⊢; exact hi.imp_right .inr))
      rw [h1] at hL hlen
      obtain ⟨oj', hoj', q1, q2⟩ := LinG.front hoj (hsel j oj hoj) T1 a w h3 hL
      obtain rfl : oj' = oj := Option.some.inj (hoj'.symm.trans hoj)
      have hnext : ∀ a' w', (S w' ∨ ∀ i ∈ T1 ++ T2, fre.contains i = true) → LinG P ops Q S fin eff fre (T1 ++ T2) a' w' → wpAnyIn (Fence.wide.inRound l0) n0 P .any ops Q fuel (listed.setIfInBounds j true) a' w' := fun a' w' hS' h4 => by
        refine ih (listed.setIfInBounds j true) a' w' (by simp [hsz]) (closedL_set hcl hj) ?_ (hS'.imp_right (fun e => by rw [h2]; exact e)) (by rw [h2]; exact h4)
        rw [h2]
        simp at hlen ⊢
        omega
      have hd := noDeferK_spec hnd j _ hoj
      unfold wpOpIn
      simp only [hoj]
      cases hv : eff.contains j with
      | false =>
        obtain ⟨v, g, h5⟩ := q1 hv
        rcases g with ⟨hw, hy⟩ | ⟨hw, rfl⟩
        · simp only [hw, if_true]
          refine wpInK_up hd ?_
          rcases hy w hS0 with h6 | ⟨f, args, h6, h7⟩
          · rw [h6, Oper.uponIn_value]
            exact hnext _ _ hS1 h5
          · rw [h6, Oper.uponIn_enter]
            refine ⟨(fun h => by cases h), CallsIn.inRound _ (callsIn_wide.2 (Calls.mono h7 ?_))⟩
            rintro e w' ⟨rfl, rfl⟩
            exact hnext _ _ hS1 h5
        · simp only [hw, Bool.false_eq_true, if_false]
          exact ⟨fun _ _ => trivial, hnext _ _ hS1 h5⟩
      | true =>
        obtain ⟨hw, hm⟩ := q2 hv
        simp only [hw, if_true]
        refine wpInK_up hd ?_
        rcases hm with ⟨v, w', h6 | ⟨h6, rfl⟩, h7, h8⟩ | ⟨f, args, w1, h6, h7⟩
        · rw [h6, Oper.uponIn_value]
          exact hnext _ _ (h7.symm.imp_right hfin) h8
        · rw [h6, Oper.uponIn_skip]
          exact hnext _ _ (h7.symm.imp_right hfin) h8
        · rw [h6, Oper.uponIn_enter]
          refine ⟨(fun h => by cases h), CallsIn.inRound _ (callsIn_wide.2 (Calls.mono h7 ?_))⟩
          rintro e w' ⟨v, rfl, h8, h9⟩
          exact hnext _ _ (h8.symm.imp_right hfin) h9

/-- THE BEGINNING: a region that draws its order, walked in the order that is picked; those of eff may change the world. -/
theorem wp_region_linG {id : Nat} {a : Act} {w : World} (S : World → Prop) (fin : Nat) (eff fre ord : List Nat) (hm : P.follows .mixedOrders = true) (hokF : ordOkG ops fin eff fre ord = true) (hS : S w.drew) (h : LinG P ops Q S fin eff fre ord a w.drew) : (Code.region id ops true).wp P Q a w := by
  refine wp_region_any hm ?_
  have hok : ordOkY ops eff ord = true := by simp only [ordOkG, Bool.and_eq_true] at hokF; exact hokF.1
  simp only [ordOkY, Bool.and_eq_true] at hok
  have hlt : ∀ i ∈ ord, i < ops.size := by
    intro i hi
    obtain ⟨L1, L2, hord⟩ := List.append_of_mem hi
    have h3 := hok.2.2
    rw [hord] at h3
    have : ∀ (L1 : List Nat), pairsOkY ops eff (L1 ++ i :: L2) = true → i < ops.size := by
      intro L1
      induction L1 with
      | nil => intro h; simp only [List.nil_append, pairsOkY, Bool.and_eq_true, decide_eq_true_eq] at h; exact h.1
      | cons k L1 ih => intro h; simp only [List.cons_append, pairsOkY, Bool.and_eq_true] at h; exact ih h.2.2.2
    exact this L1 h3
  have hu : left (Array.replicate ops.size false) ord = ord := by
    unfold left
    rw [List.filter_eq_self]
    intro i hi
    have := hlt i hi
    simp [this]
  refine linG_any (S := S) hokF _ _ _ _ (by simp) (fun j oj _ h => by simp only [Array.getD_eq_getD_getElem?, Array.getElem?_replicate] at h; split at h <;> simp at h) ?_ (.inl hS) ?_
  · rw [hu]
    simpa using hok.1.2
  · rw [hu]; exact h
/-- THE BEGINNING: a region that draws its order, walked in the order that is picked; those of eff may change the world. -/
theorem wp_region_linGK {id : Nat} {a : Act} {w : World} (S : World → Prop) (fin : Nat) (eff fre ord : List Nat) (hm : P.follows .mixedOrders = true) (hokF : ordOkG ops fin eff fre ord = true) (hnd : noDeferK ops = true) (hS : S w.drew) (h : LinG P ops Q S fin eff fre ord a w.drew) : (Code.region id ops true).wpIn (Fence.wide.inRound l0) n0 P Q a w := by
  refine wpIn_region_any hm ?_
  have hok : ordOkY ops eff ord = true := by simp only [ordOkG, Bool.and_eq_true] at hokF; exact hokF.1
  simp only [ordOkY, Bool.and_eq_true] at hok
  have hlt : ∀ i ∈ ord, i < ops.size := by
    intro i hi
    obtain ⟨L1, L2, hord⟩ := List.append_of_mem hi
    have h3 := hok.2.2
    rw [hord] at h3
    have : ∀ (L1 : List Nat), pairsOkY ops eff (L1 ++ i :: L2) = true → i < ops.size := by
      intro L1
      induction L1 with
      | nil => intro h; simp only [List.nil_append, pairsOkY, Bool.and_eq_true, decide_eq_true_eq] at h; exact h.1
      | cons k L1 ih => intro h; simp only [List.cons_append, pairsOkY, Bool.and_eq_true] at h; exact ih h.2.2.2
    exact this L1 h3
  have hu : left (Array.replicate ops.size false) ord = ord := by
    unfold left
    rw [List.filter_eq_self]
    intro i hi
    have := hlt i hi
    simp [this]
  refine linGK_any (S := S) hokF hnd _ _ _ _ (by simp) (fun j oj _ h => by simp only [Array.getD_eq_getD_getElem?, Array.getElem?_replicate] at h; split at h <;> simp at h) ?_ (.inl hS) ?_
  · rw [hu]
    simpa using hok.1.2
  · rw [hu]; exact h
theorem linG_nil {eff : List Nat} {a : Act} {w : World} (h : Q .normal a w) : LinG P ops Q S fin eff fre [] a w := h
/-- An operation that gives its value in every world that meets S, and leaves the world as it is. -/
theorem linG_op {eff : List Nat} {i : Nat} {o : Oper} {r : List Nat} {a : Act} {w : World} {v : Value} (ho : ops[i]? = some o) (he : eff.contains i = false) (hf : fre.contains i = false) (hw : Region.wanted o (yielded ops a.tmps) = true) (hy : ∀ w, S w → (execOp a.eval o).run P w = .ok (.value v) w) (h : LinG P ops Q S fin eff fre r (a.put o.dst v) w) : LinG P ops Q S fin eff fre (i :: r) a w :=
  ⟨o, ho, fun _ => ⟨v, .inl ⟨hw, fun w hS => .inl (hy w (hS.resolve_left (by rw [hf]; simp)))⟩, h⟩, fun h9 => by rw [he] at h9; cases h9⟩
/-- An operation that gives its value in every world. -/
theorem linG_free {eff : List Nat} {i : Nat} {o : Oper} {r : List Nat} {a : Act} {w : World} {v : Value} (ho : ops[i]? = some o) (he : eff.contains i = false) (hw : Region.wanted o (yielded ops a.tmps) = true) (hy : ∀ w, (execOp a.eval o).run P w = .ok (.value v) w) (h : LinG P ops Q S fin eff fre r (a.put o.dst v) w) : LinG P ops Q S fin eff fre (i :: r) a w :=
  ⟨o, ho, fun _ => ⟨v, .inl ⟨hw, fun w hS => .inl (hy w)⟩, h⟩, fun h9 => by rw [he] at h9; cases h9⟩
theorem linG_off {eff : List Nat} {i : Nat} {o : Oper} {r : List Nat} {a : Act} {w : World} (ho : ops[i]? = some o) (he : eff.contains i = false) (hw : Region.wanted o (yielded ops a.tmps) = false) (h : LinG P ops Q S fin eff fre r (a.put o.dst undef) w) : LinG P ops Q S fin eff fre (i :: r) a w :=
  ⟨o, ho, fun _ => ⟨undef, .inr ⟨hw, rfl⟩, h⟩, fun h9 => by rw [he] at h9; cases h9⟩
theorem linG_fn {eff : List Nat} {i : Nat} {o : Oper} {r : List Nat} {a : Act} {w : World} {v : Value} {f : Nat} {c : Call} {args : Array Value} (hi : ops[i]? = some o) (he : eff.contains i = false) (hf : fre.contains i = false) (hw : Region.wanted o (yielded ops a.tmps) = true) (ho : o.op = .call c) (hc : c.callee = .value (.func f)) (hen : ∀ args w, (callFunc f args).run P w = .ok (.enter f args) w)
    (hcl : ∀ w, S w → Calls P f args w fun e w' => e = .returned v ∧ w = w') (ha : c.args.map a.eval = args) (h : LinG P ops Q S fin eff fre r (a.put o.dst v) w) : LinG P ops Q S fin eff fre (i :: r) a w := by
  refine ⟨o, hi, fun _ => ⟨v, .inl ⟨hw, fun w hS => .inr ⟨f, args, ?_, hcl w (hS.resolve_left (by rw [hf]; simp))⟩⟩, h⟩, fun h9 => by rw [he] at h9; cases h9⟩
  simp only [execOp, ho, resolve, hc, ha, Act.eval, Deferred.ofValue, invoke, Sem.run_bind, Sem.run_pure, Result.andThen_ok]
  have e1 := hen (#[] ++ args ++ #[]) w
  simp only [Array.empty_append, Array.append_empty] at e1 ⊢
  exact e1
/-- An operation that changes the world. -/
theorem linG_do {eff : List Nat} {i : Nat} {o : Oper} {r : List Nat} {a : Act} {w w' : World} {v : Value} (ho : ops[i]? = some o) (he : eff.contains i = true) (hw : Region.wanted o (yielded ops a.tmps) = true) (hy : (execOp a.eval o).run P w = .ok (.value v) w') (hS : S w') (h : LinG P ops Q S fin eff fre r (a.put o.dst v) w') : LinG P ops Q S fin eff fre (i :: r) a w :=
  ⟨o, ho, fun h9 => (by rw [he] at h9; cases h9), fun _ => ⟨hw, .inl ⟨v, w', .inl hy, .inr hS, h⟩⟩⟩
/-- A store. -/
theorem linG_store {eff : List Nat} {i : Nat} {o : Oper} {r : List Nat} {a : Act} {w w' : World} (ho : ops[i]? = some o) (he : eff.contains i = true) (hw : Region.wanted o (yielded ops a.tmps) = true) (hy : (execOp a.eval o).run P w = .ok .skip w') (hS : S w') (h : LinG P ops Q S fin eff fre r (a.put o.dst undef) w') : LinG P ops Q S fin eff fre (i :: r) a w :=
  ⟨o, ho, fun h9 => (by rw [he] at h9; cases h9), fun _ => ⟨hw, .inl ⟨undef, w', .inr ⟨hy, rfl⟩, .inr hS, h⟩⟩⟩
/-- A call that changes the world. -/
theorem linG_call {eff : List Nat} {i : Nat} {o : Oper} {r : List Nat} {a : Act} {w : World} {f : Nat} {c : Call} {args : Array Value} (hi : ops[i]? = some o) (he : eff.contains i = true) (hw : Region.wanted o (yielded ops a.tmps) = true) (ho : o.op = .call c) (hc : c.callee = .value (.func f)) (hen : ∀ args w, (callFunc f args).run P w = .ok (.enter f args) w) (ha : c.args.map a.eval = args)
    (h : Calls P f args w fun e w' => ∃ v, e = .returned v ∧ S w' ∧ LinG P ops Q S fin eff fre r (a.put o.dst v) w') : LinG P ops Q S fin eff fre (i :: r) a w := by
  refine ⟨o, hi, fun h9 => (by rw [he] at h9; cases h9), fun _ => ⟨hw, .inr ⟨f, args, w, ?_, h.mono fun e w' ⟨v, h1, h2, h3⟩ => ⟨v, h1, .inr h2, h3⟩⟩⟩⟩
  simp only [execOp, ho, resolve, hc, ha, Act.eval, Deferred.ofValue, invoke, Sem.run_bind, Sem.run_pure, Result.andThen_ok]
  have e1 := hen (#[] ++ args ++ #[]) w
  simp only [Array.empty_append, Array.append_empty] at e1 ⊢
  exact e1
/-- The operation behind which S need not hold: a store. -/
theorem linG_fin {eff : List Nat} {o : Oper} {r : List Nat} {a : Act} {w w' : World} (ho : ops[fin]? = some o) (he : eff.contains fin = true) (hw : Region.wanted o (yielded ops a.tmps) = true) (hy : (execOp a.eval o).run P w = .ok .skip w') (h : LinG P ops Q S fin eff fre r (a.put o.dst undef) w') : LinG P ops Q S fin eff fre (fin :: r) a w :=
  ⟨o, ho, fun h9 => (by rw [he] at h9; cases h9), fun _ => ⟨hw, .inl ⟨undef, w', .inr ⟨hy, rfl⟩, .inl rfl, h⟩⟩⟩
end
end Go.Proofs.YtikdgbmdepplgaaGreatDoor
namespace Go.Proofs.YtikdgbmdepplgaaGreatDoor
open Go.RowKit Go.Shelf
set_option linter.unusedVariables false
set_option maxRecDepth 100000
theorem elem_u89 : Tryz.prog.elem 30 = 5 := by simp [Program.elem, Tryz.underlying30]
/-- s[k:] of bytes. -/
def cutB (x lo : Value) : Sem Value := Instr.sliceAt 30 x (some lo) none none
theorem cutB_rule (x lo : Value) : Instr.sliceAt 30 x (some lo) none none = cutB x lo := rfl
theorem cutB_run {w : World} {a : Option Addr} {len cap : Nat} {l : List Nat} (hl : l.length = len) (hc : len ≤ cap) (hL : Lies w a l) (k : Nat) (hk : k ≤ len) :
    ∃ a', (∀ w2, (cutB (.slice a len cap) (.int .i64 (k : Int))).run Tryz.prog w2 = .ok (.slice a' (len - k) (cap - k)) w2) ∧ Lies w a' (l.drop k) := by
  refine ⟨if cap = k then a else a.map (·.add k), fun w2 => ?_, ?_⟩
  · unfold cutB
    have hu : Tryz.prog.underlying 30 = some (.slice (Tryz.prog.elem 30)) := by rw [elem_u89]; exact Tryz.underlying30
    rw [run_sliceAt_slice w2 30 _ _ _ _ hu, run_slice_l w2 30 a len cap hu .i64 (k : Int) (by omega) (by omega)]
    rw [elem_u89]
    go_simp
  · rcases Nat.eq_or_lt_of_le hk with e | h
    · left; rw [List.drop_eq_nil_iff]; omega
    · rw [if_neg (by omega)]
      rcases hL with rfl | ⟨b, off, rfl, hb, hc2⟩
      · simp at hl; omega
      · refine .inr ⟨b, off + k, by simp [Addr.add], hb, fun i hi => ?_⟩
        rw [Nat.add_assoc, hc2 (k + i) (by simp at hi; omega)]
        simp [List.getD_eq_getElem?_getD]
theorem Bys.drop9 {l : List Nat} (h : Bys l) (k : Nat) : Bys (l.drop k) := fun x hx => h x (List.mem_of_mem_drop hx)
theorem Lies.byte {w : World} {a : Option Addr} {l : List Nat} (h : Lies w a l) {i : Nat} (hi : i < l.length) : ∃ g o, a = some ⟨g, o, none⟩ ∧ ∀ j, j < l.length → w.cell? ⟨g, o + j, none⟩ = some (.int .u8 (l.getD j 0 : Nat)) := by
  rcases h with rfl | ⟨b, off, rfl, hb, hc⟩
  · simp at hi
  · exact ⟨b, off, rfl, fun j hj => hc j hj⟩

/-! ### What bytes say -/
/-- The row with whose bytes these begin, how many they are, or why there is none. -/
noncomputable def fE (l : List Nat) : Int := if decPE l = 151 then 190 else if decPE l ≠ 0 ∨ decPN l = l.length then 7 else 0
noncomputable def fR (l : List Nat) : Rt := if fE l = 0 then ⟨decPX l, (l.getD (decPN l) 0 : Nat)⟩ else Rt.zero
noncomputable def fN (l : List Nat) : Nat := if fE l = 0 then decPN l + 1 else 0
theorem f_bad {l : List Nat} (h : decPE l = 151) : fE l = 190 ∧ fR l = Rt.zero ∧ fN l = 0 := by
  have e : fE l = 190 := if_pos h
  exact ⟨e, if_neg (by rw [e]; omega), if_neg (by rw [e]; omega)⟩
theorem f_short {l : List Nat} (h : decPE l ≠ 151) (h2 : decPE l ≠ 0 ∨ decPN l = l.length) : fE l = 7 ∧ fR l = Rt.zero ∧ fN l = 0 := by
  have e : fE l = 7 := by unfold fE; rw [if_neg h, if_pos h2]
  exact ⟨e, if_neg (by rw [e]; omega), if_neg (by rw [e]; omega)⟩
theorem f_ok {l : List Nat} (hB : Bys l) (h : decPE l = 0) (h2 : decPN l ≠ l.length) : fE l = 0 ∧ fR l = ⟨decPX l, (l.getD (decPN l) 0 : Nat)⟩ ∧ fN l = decPN l + 1 ∧ decPN l < l.length := by
  have e : fE l = 0 := by unfold fE; rw [if_neg (by omega), if_neg (by rintro (h3 | h3); exact h3 h; exact h2 h3)]
  have := (enc_dec hB h).2.2
  exact ⟨e, if_pos e, if_pos e, by omega⟩
theorem f_three (l : List Nat) : fE l = 0 ∨ fE l = 7 ∨ fE l = 190 := by
  unfold fE
  split
  · simp
  · split <;> simp
theorem f_zero {l : List Nat} (hB : Bys l) (h : fE l = 0) : decPE l = 0 ∧ fN l = decPN l + 1 ∧ decPN l < l.length := by
  by_cases h1 : decPE l = 151
  · rw [(f_bad h1).1] at h; omega
  · by_cases h2 : decPE l ≠ 0 ∨ decPN l = l.length
    · rw [(f_short h1 h2).1] at h; omega
    · have h3 : decPE l = 0 := Classical.byContradiction fun h4 => h2 (.inl h4)
      have h4 : decPN l ≠ l.length := fun h5 => h2 (.inr h5)
      exact ⟨h3, (f_ok hB h3 h4).2.2⟩
/-- So many rows: them, what is left, or why not. -/
noncomputable def decR : Nat → List Nat → List Rt × List Nat × Int
  | 0, l => ([], l, 0)
  | k + 1, l => if fE l ≠ 0 then ([], l, fE l) else (fR l :: (decR k (l.drop (fN l))).1, (decR k (l.drop (fN l))).2)
theorem decR_stop {k : Nat} {l : List Nat} (h : fE l ≠ 0) : decR (k + 1) l = ([], l, fE l) := if_pos h
theorem decR_next {k : Nat} {l : List Nat} (h : fE l = 0) : decR (k + 1) l = (fR l :: (decR k (l.drop (fN l))).1, (decR k (l.drop (fN l))).2) := if_neg (fun h2 => h2 h)
theorem decR_three : ∀ (k : Nat) (l : List Nat), (decR k l).2.2 = 0 ∨ (decR k l).2.2 = 7 ∨ (decR k l).2.2 = 190
  | 0, l => .inl rfl
  | k + 1, l => by
    rcases f_three l with h | h | h
    · rw [decR_next h]; exact decR_three k _
    · rw [decR_stop (by rw [h]; omega), h]; simp
    · rw [decR_stop (by rw [h]; omega), h]; simp
noncomputable def dtE (L : List Nat) : Int := if L = [] then 7 else if (decR (L.getD 0 0) (L.drop 1)).2.2 ≠ 0 then (decR (L.getD 0 0) (L.drop 1)).2.2 else if (decR (L.getD 0 0) (L.drop 1)).2.1 ≠ [] ∨ ¬ okT (decR (L.getD 0 0) (L.drop 1)).1 then 190 else 0
noncomputable def dtR (L : List Nat) : List Rt := if dtE L = 0 then (decR (L.getD 0 0) (L.drop 1)).1 else []

attribute [local go_sem ↓] load_b16_rule store_b16_rule load_ad_rule store_ad_rule load_px_rule store_px_rule eq_b16_rule eq_ad_rule eq_px_rule load_rt_rule store_rt_rule build_ad_rule build_px_rule build_b16_rule build_rt_rule load_tab_rule build_tab_rule store_tab_rule tbuild_rule tapp_rule tcopy_rule eq_rt_rule cutB_rule
end Go.Proofs.YtikdgbmdepplgaaGreatDoor
namespace Go.Proofs.YtikdgbmdepplgaaGreatDoor
open Go.RowKit Go.Shelf
set_option linter.unusedVariables false
set_option maxRecDepth 100000
attribute [local go_sem ↓] load_b16_rule store_b16_rule load_ad_rule store_ad_rule load_px_rule store_px_rule eq_b16_rule eq_ad_rule eq_px_rule load_rt_rule store_rt_rule build_ad_rule build_px_rule build_b16_rule build_rt_rule load_tab_rule build_tab_rule store_tab_rule tbuild_rule tapp_rule tcopy_rule eq_rt_rule

end Go.Proofs.YtikdgbmdepplgaaGreatDoor
namespace Go.Proofs.YtikdgbmdepplgaaGreatDoor
open Go.RowKit Go.Shelf
set_option linter.unusedVariables false
set_option maxRecDepth 100000

def pxg (L : List Px) (i : Nat) : Px := L.getD i Px.zero
theorem pxg_get {L : List Px} {i : Nat} (h : i < L.length) : pxg L i = L[i] := by simp [pxg, h]
structure Pws (w : World) (g o : Nat) (L : List Px) : Prop where
  lt : g < w.heap.size
  row : ∀ i, i < L.length → ∀ j, j < 18 → w.cell? ⟨g, o + i * 18 + j, none⟩ = (pxg L i).cs[j]?
def PxsAt (w : World) (a : Option Addr) (L : List Px) : Prop := L = [] ∨ ∃ g o, a = some ⟨g, o, none⟩ ∧ Pws w g o L
theorem Pws.later {w w' : World} {g o : Nat} {L : List Px} (h : Pws w g o L) (k : Below w.heap.size w w') : Pws w' g o L :=
  ⟨Nat.lt_of_lt_of_le h.lt k.size, fun i hi j hj => (k.cell (p := ⟨g, o + i * 18 + j, none⟩) h.lt).trans (h.row i hi j hj)⟩
theorem PxsAt.later {w w' : World} {a : Option Addr} {L : List Px} (h : PxsAt w a L) (k : Below w.heap.size w w') : PxsAt w' a L := by
  rcases h with h | ⟨g, o, h1, h2⟩
  · exact .inl h
  · exact .inr ⟨g, o, h1, h2.later k⟩
theorem Pws.load {w : World} {g o : Nat} {L : List Px} (h : Pws w g o L) {i : Nat} (hi : i < L.length) : (loadSem 46 (.pointer (some ⟨g, o + i * 18, none⟩))).run Tryz.prog w = .ok (.agg (pxg L i).cs) w :=
  run_loadAt_mid (P := Tryz.prog) w g (o + i * 18) 46 (pxg L i).cs.toList _ (fun j v hj => by
    have hl : j < 18 := by rw [← (pxg L i).size]; simpa using (List.getElem?_eq_some_iff.1 hj).1
    rw [h.row i hi j hl]; simpa using hj) Tryz.underlying46 rfl (by simpa using s_px (pxg L i))
def pxcs (L : List Px) : List Value := L.flatMap (fun r => r.cs.toList)
theorem pxcs_nil : pxcs [] = [] := rfl
theorem pxcs_append (L M : List Px) : pxcs (L ++ M) = pxcs L ++ pxcs M := by simp [pxcs]
theorem pxcs_one (r : Px) : pxcs [r] = r.cs.toList := by simp [pxcs]
theorem pxcs_cons (r : Px) (L : List Px) : pxcs (r :: L) = r.cs.toList ++ pxcs L := by simp [pxcs]
theorem pxcs_len : ∀ L : List Px, (pxcs L).length = L.length * 18
  | [] => rfl
  | r :: L => by rw [pxcs_cons, List.length_append, pxcs_len L]; simp [r.size]; omega
theorem pxcs_all (L : List Px) : ∀ u ∈ pxcs L, u.oneCell' = true := fun u hu => by
  obtain ⟨r, _, h⟩ := List.mem_flatMap.1 hu
  exact Array.all_eq_true_iff_forall_mem.1 r.one u (by simpa using h)
theorem pxcs_get : ∀ (L : List Px) {i j : Nat}, i < L.length → j < 18 → (pxcs L)[i * 18 + j]? = (pxg L i).cs[j]?
  | [], i, j, h, _ => by simp at h
  | r :: L, 0, j, _, hj => by
    rw [pxcs_cons, Nat.zero_mul, Nat.zero_add, List.getElem?_append_left (by simp [r.size]; exact hj)]
    simp [pxg]
  | r :: L, i + 1, j, h, hj => by
    rw [pxcs_cons, List.getElem?_append_right (by simp [r.size]; omega)]
    rw [show (i + 1) * 18 + j - r.cs.toList.length = i * 18 + j by simp [r.size]; omega, pxcs_get L (by simpa using h) hj]
    simp [pxg]
theorem pxcs_take : ∀ (L : List Px) (i : Nat), (pxcs L).take (i * 18) = pxcs (L.take i)
  | [], i => by simp [pxcs]
  | r :: L, 0 => by simp [pxcs]
  | r :: L, i + 1 => by
    rw [pxcs_cons, List.take_succ_cons, pxcs_cons, List.take_append, List.take_of_length_le (by simp [r.size]; omega)]
    rw [show (i + 1) * 18 - r.cs.toList.length = i * 18 by simp [r.size]; omega, pxcs_take L i]
theorem pxcs_drop : ∀ (L : List Px) (i : Nat), (pxcs L).drop (i * 18) = pxcs (L.drop i)
  | [], i => by simp [pxcs]
  | r :: L, 0 => by simp [pxcs]
  | r :: L, i + 1 => by
    rw [pxcs_cons, List.drop_succ_cons, List.drop_append, List.drop_eq_nil_of_le (by simp [r.size]; omega), List.nil_append]
    rw [show (i + 1) * 18 - r.cs.toList.length = i * 18 by simp [r.size]; omega, pxcs_drop L i]
theorem pxw_cells (w : World) (g : Nat) (L : List Px) (o : Nat) (hg : g < w.heap.size) (h : ∀ k u, (pxcs L)[k]? = some u → w.cell? ⟨g, o + k, none⟩ = some u) : Pws w g o L := by
  refine ⟨hg, fun i hi j hj => ?_⟩
  have h1 := pxcs_get L hi hj
  have h2 : j < (pxg L i).cs.size := by rw [Px.size]; exact hj
  rw [Array.getElem?_eq_getElem h2] at h1 ⊢
  rw [Nat.add_assoc]
  exact h _ _ h1
theorem Pws.cells {w : World} {g o : Nat} {L : List Px} (h : Pws w g o L) : ∀ k u, (pxcs L)[k]? = some u → w.cell? ⟨g, o + k, none⟩ = some u := by
  intro k u hk
  have hl : k < L.length * 18 := by rw [← pxcs_len]; exact (List.getElem?_eq_some_iff.1 hk).1
  have e := pxcs_get L (i := k / 18) (j := k % 18) (by omega) (by omega)
  rw [show k / 18 * 18 + k % 18 = k by omega] at e
  have h1 := h.row (k / 18) (by omega) (k % 18) (by omega)
  rw [← e, hk, Nat.add_assoc, show k / 18 * 18 + k % 18 = k by omega] at h1
  exact h1

/-- Prefixes that a call owns, from block B on. -/
abbrev OwnP (w : World) (B : Nat) (v : Value) (L : List Px) : Prop := w.ownsRow B 46 18 v L.length (pxcs L)
theorem OwnP.lies {w : World} {B : Nat} {v : Value} {L : List Px} (h : OwnP w B v L) : ∃ a c, v = .slice a L.length c ∧ L.length ≤ c ∧ c ≤ maxLen ∧ PxsAt w a L ∧ ∀ x, a = some x → B ≤ x.block := by
  rcases h.2 with ⟨rfl, h0⟩ | ⟨g, cap, cur, rfl, hb, hg, hc, hm, hs, ht⟩
  · have : L = [] := List.eq_nil_of_length_eq_zero h0
    subst this
    exact ⟨none, 0, rfl, by simp, by unfold maxLen; omega, .inl rfl, fun x hx => by cases hx⟩
  · refine ⟨_, cap, rfl, hc, hm, .inr ⟨g, 0, rfl, pxw_cells w g L 0 (Array.getElem?_eq_some_iff.1 hg).1 fun k u hk => ?_⟩, fun x hx => by cases hx; exact hb⟩
    rw [Nat.zero_add, cell_of_row w g k cur _ _ hg, ← Array.getElem?_toList]
    have hl : k < L.length * 18 := by rw [← pxcs_len]; exact (List.getElem?_eq_some_iff.1 hk).1
    rw [← ht, List.getElem?_take, if_pos hl] at hk
    exact hk
theorem info_px9 : (Tryz.prog.info? 46).map (fun i => (i.zero, i.size, i.bytes)) = some (some (.agg Px.zero.cs), 18, 32) := by kernel_rfl

/-! ### Nothing built, appended to -/
end Go.Proofs.YtikdgbmdepplgaaGreatDoor
