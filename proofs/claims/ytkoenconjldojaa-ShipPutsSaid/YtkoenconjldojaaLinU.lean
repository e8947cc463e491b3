/-
  A region that draws its order, where several operations that wait for none of one another make memory (an append beside a slice that is built): what each of these gives is told by a property that all others keep; then a tail that waits for all but those of fre, which read nothing of the world. Nothing here is a statement of the document.
-/
import Derived.Test.YtkoenconjldojaaLinV
namespace Go.Proofs.Ytkoenconjldojaa
set_option linter.unusedVariables false

section
variable {P : Program} {ops : Array Oper} {Q : Exit → Act → World → Prop} {S : World → Prop} {Pre : Nat → World → Prop} {Φ : Nat → Value → World → Prop} {mk eff tail fre : List Nat}

/-- The operations ahead of the tail; those of mk make memory, and give what Φ says. -/
def LinU (P : Program) (ops : Array Oper) (Q : Exit → Act → World → Prop) (S : World → Prop) (Pre : Nat → World → Prop) (Φ : Nat → Value → World → Prop) (mk eff fre tail : List Nat) : List Nat → List (Nat × Value) → Act → Prop
  | [], F, a => ∀ w, S w → (∀ p ∈ F, Φ p.1 p.2 w) → LinX P ops Q (fun _ => True) eff tail a w
  | i :: r, F, a => ∃ o, ops[i]? = some o ∧ (mk.contains i = false → ∃ v, StillP P ops (fun w => fre.contains i = true ∨ S w) o v a ∧ LinU P ops Q S Pre Φ mk eff fre tail r F (a.put o.dst v)) ∧
      (mk.contains i = true → (∀ w, S w → Pre i w → (∀ p ∈ F, reach ops 14 i p.1 = true → Φ p.1 p.2 w) → Moves P ops (fun _ => True) o a w fun v w' => S w' ∧ (∀ d, d ≠ i → Pre d w → Pre d w') ∧ (∀ d u, d ≠ i → Φ d u w → Φ d u w') ∧ Φ i v w') ∧ ∀ v, (∃ w, Φ i v w) → LinU P ops Q S Pre Φ mk eff fre tail r ((i, v) :: F) (a.put o.dst v))

theorem LinU.facts : ∀ (r : List Nat) {F G : List (Nat × Value)} {a : Act}, (∀ p, p ∈ F ↔ p ∈ G) → LinU P ops Q S Pre Φ mk eff fre tail r F a → LinU P ops Q S Pre Φ mk eff fre tail r G a
  | [], F, G, a, h, k => fun w hS hG => k w hS (fun p hp => hG p ((h p).1 hp))
  | i :: r, F, G, a, h, ⟨o, ho, k1, k2⟩ => ⟨o, ho, fun hm => by
      obtain ⟨v, h1, h2⟩ := k1 hm
      exact ⟨v, h1, LinU.facts r h h2⟩, fun hm => by
      obtain ⟨h1, h2⟩ := k2 hm
      exact ⟨fun w hS hQ hG => h1 w hS hQ (fun p hp => hG p ((h p).1 hp)), fun v hv => LinU.facts r (fun p => by simp only [List.mem_cons, h p]) (h2 v hv)⟩⟩

theorem LinU.swap {i j : Nat} {x y : Oper} {r : List Nat} {F : List (Nat × Value)} {a : Act} (hi : ops[i]? = some x) (hj : ops[j]? = some y) (hx : ∀ cs b, x.op ≠ .select cs b) (hy : ∀ cs b, y.op ≠ .select cs b) (hap : x.apart ops y = true) (hij : i ≠ j) (hr1 : reach ops 14 j i = false) (hr2 : reach ops 14 i j = false) (w0 : World) (hS0 : S w0)
    (hne : ∀ i, mk.contains i = true → ∃ v w, Φ i v w)
    (h : LinU P ops Q S Pre Φ mk eff fre tail (i :: j :: r) F a) : LinU P ops Q S Pre Φ mk eff fre tail (j :: i :: r) F a := by
  obtain ⟨h1, h2, h3⟩ := Oper.apart_spec hap
  have ey : ∀ (v : Value), execOp (a.put x.dst v).eval y = execOp a.eval y := fun v => execOp_put y hy a x.dst v h1
  have wy : ∀ (v : Value), Region.wanted y (yielded ops (a.put x.dst v).tmps) = Region.wanted y (yielded ops a.tmps) := fun v => wanted_put y a x.dst v h1
  have ex : ∀ (v : Value), execOp (a.put y.dst v).eval x = execOp a.eval x := fun v => execOp_put x hx a y.dst v h3
  have wx : ∀ (v : Value), Region.wanted x (yielded ops (a.put y.dst v).tmps) = Region.wanted x (yielded ops a.tmps) := fun v => wanted_put x a y.dst v h3
  obtain ⟨x', hx', p1, p2⟩ := h
  obtain rfl : x' = x := Option.some.inj (hx'.symm.trans hi)
  refine ⟨y, hj, fun hmj => ?_, fun hmj => ?_⟩
  · cases hmi : mk.contains i with
    | false =>
      obtain ⟨vx, gx, y', hy', q1, _⟩ := p1 hmi
      obtain rfl : y' = y := Option.some.inj (hy'.symm.trans hj)
      obtain ⟨vy, gy, h4⟩ := q1 hmj
      refine ⟨vy, gy.of_same (ey vx).symm (wy vx).symm, _, hi, fun _ => ⟨vx, gx.of_same (ex vy) (wx vy), ?_⟩, fun h9 => by rw [hmi] at h9; cases h9⟩
      rw [← Act.put_comm a vx vy h2]
      exact h4
    | true =>
      obtain ⟨gx, hc⟩ := p2 hmi
      obtain ⟨v0, wz, hz⟩ := hne i hmi
      obtain ⟨y', hy', q1, _⟩ := hc v0 ⟨wz, hz⟩
      obtain rfl : y' = y := Option.some.inj (hy'.symm.trans hj)
      obtain ⟨vy, gy, _⟩ := q1 hmj
      have gy' := gy.of_same (ey v0).symm (wy v0).symm
      refine ⟨vy, gy', _, hi, (fun h9 => by rw [hmi] at h9; cases h9), fun _ => ⟨fun w hS hQ hG => Moves.of_same (gx w hS hQ hG) (ex vy) (wx vy), fun v hv => ?_⟩⟩
      obtain ⟨y'', hy'', q2, _⟩ := hc v hv
      obtain rfl : y'' = y' := Option.some.inj (hy''.symm.trans hj)
      obtain ⟨vy2, gy2, h5⟩ := q2 hmj
      have e : vy2 = vy := StillP.inj (gy2.of_same (ey v).symm (wy v).symm) gy' (Or.inr hS0)
      subst e
      rw [← Act.put_comm a v vy2 h2]
      exact h5
  · cases hmi : mk.contains i with
    | false =>
      obtain ⟨vx, gx, y', hy', _, q2⟩ := p1 hmi
      obtain rfl : y' = y := Option.some.inj (hy'.symm.trans hj)
      obtain ⟨gy, hc⟩ := q2 hmj
      refine ⟨fun w hS hQ hG => Moves.of_same (gy w hS hQ hG) (ey vx).symm (wy vx).symm, fun v hv => ⟨_, hi, fun _ => ⟨vx, gx.of_same (ex v) (wx v), ?_⟩, fun h9 => by rw [hmi] at h9; cases h9⟩⟩
      rw [← Act.put_comm a vx v h2]
      exact hc v hv
    | true =>
      obtain ⟨gx, hc⟩ := p2 hmi
      obtain ⟨v0, wz, hz⟩ := hne i hmi
      obtain ⟨y', hy', _, q2⟩ := hc v0 ⟨wz, hz⟩
      obtain rfl : y' = y := Option.some.inj (hy'.symm.trans hj)
      obtain ⟨gy, _⟩ := q2 hmj
      refine ⟨fun w hS hQ hG => Moves.of_same (gy w hS hQ (fun p hp hr => ?_)) (ey v0).symm (wy v0).symm, fun v hv => ⟨_, hi, (fun h9 => by rw [hmi] at h9; cases h9), fun _ => ⟨fun w hS hQ hG => Moves.of_same (gx w hS hQ (fun p hp hr => hG p (by simp [hp]) hr)) (ex v) (wx v), fun v2 hv2 => ?_⟩⟩⟩
      · rcases List.mem_cons.1 hp with rfl | hp
        · rw [hr1] at hr; cases hr
        · exact hG p hp hr
      · obtain ⟨y'', hy'', _, q3⟩ := hc v2 hv2
        obtain rfl : y'' = y' := Option.some.inj (hy''.symm.trans hj)
        have := (q3 hmj).2 v hv
        rw [Act.put_comm a v2 v h2] at this
        exact LinU.facts r (fun p => by simp only [List.mem_cons]; constructor <;> (rintro (h | h | h) <;> simp [h])) this

theorem LinU.under {i : Nat} {X Y : List Nat} {F : List (Nat × Value)} {a : Act} (h : ∀ F a, LinU P ops Q S Pre Φ mk eff fre tail X F a → LinU P ops Q S Pre Φ mk eff fre tail Y F a) (k : LinU P ops Q S Pre Φ mk eff fre tail (i :: X) F a) : LinU P ops Q S Pre Φ mk eff fre tail (i :: Y) F a := by
  obtain ⟨o, ho, k1, k2⟩ := k
  exact ⟨o, ho, fun hm => by
    obtain ⟨v, h1, h2⟩ := k1 hm
    exact ⟨v, h1, h _ _ h2⟩, fun hm => ⟨(k2 hm).1, fun v hv => h _ _ ((k2 hm).2 v hv)⟩⟩
theorem LinU.front {j : Nat} {y : Oper} {T2 : List Nat} (hj : ops[j]? = some y) (hy : ∀ cs b, y.op ≠ .select cs b) (w0 : World) (hS0 : S w0) (hne : ∀ i, mk.contains i = true → ∃ v w, Φ i v w) :
    ∀ (T1 : List Nat) (F : List (Nat × Value)) (a : Act), (∀ i ∈ T1, ∃ x, ops[i]? = some x ∧ (∀ cs b, x.op ≠ .select cs b) ∧ x.apart ops y = true ∧ i ≠ j ∧ reach ops 14 j i = false ∧ reach ops 14 i j = false) → LinU P ops Q S Pre Φ mk eff fre tail (T1 ++ j :: T2) F a → LinU P ops Q S Pre Φ mk eff fre tail (j :: (T1 ++ T2)) F a
  | [], _, _, _, h => h
  | i :: T1, F, a, hap, h => by
    obtain ⟨x, hi, hx, hxy, h1, h2, h3⟩ := hap i (by simp)
    have h5 := LinU.under (fun F a => LinU.front hj hy w0 hS0 hne T1 F a (fun k hk => hap k (by simp [hk]))) h
    exact LinU.swap hi hj hx hy hxy h1 h2 h3 w0 hS0 hne h5
def pairsU (ops : Array Oper) : List Nat → Bool
  | [] => true
  | i :: r => r.all (fun j => !reach ops 14 i j) && pairsU ops r
theorem pairsU_split : ∀ (L1 : List Nat) {j : Nat} {L2 : List Nat}, pairsU ops (L1 ++ j :: L2) = true → ∀ i ∈ L1, reach ops 14 i j = false
  | [], _, _, _ => by simp
  | k :: L1, j, L2, h => by
    simp only [List.cons_append, pairsU, Bool.and_eq_true] at h
    intro i hi
    rcases List.mem_cons.1 hi with rfl | hi
    · have := List.all_eq_true.1 h.1 j (by simp)
      simpa using this
    · exact pairsU_split L1 h.2 i hi
def ordOkU (ops : Array Oper) (mk eff fre pre tail : List Nat) : Bool :=
  ordOkY ops eff (pre ++ tail) && (pairsU ops pre && ((tail.all fun t => pre.all fun i => fre.contains i || reach ops 14 t i) && fre.all fun i => !mk.contains i && !eff.contains i))
theorem LinU.free (hfr : (fre.all fun i => !mk.contains i && !eff.contains i) = true) : ∀ (r : List Nat) (F : List (Nat × Value)) (a : Act) (w : World), (∀ i ∈ r, fre.contains i = true) → S w → (∀ p ∈ F, Φ p.1 p.2 w) → LinU P ops Q S Pre Φ mk eff fre tail r F a → LinX P ops Q (fun _ => True) eff (r ++ tail) a w
  | [], F, a, w, _, hS, hF, h => h w hS hF
  | i :: r, F, a, w, hr, hS, hF, h => by
    obtain ⟨o, ho, h1, _⟩ := h
    have hi := hr i (by simp)
    have hd := List.all_eq_true.1 hfr i (List.contains_iff_mem.1 hi)
    simp only [Bool.and_eq_true, Bool.not_eq_true'] at hd
    obtain ⟨v, hv, h2⟩ := h1 hd.1
    refine ⟨o, ho, fun _ => ⟨v, ?_, LinU.free hfr r F _ w (fun k hk => hr k (by simp [hk])) hS hF h2⟩, fun h9 => by rw [hd.2] at h9; cases h9⟩
    rcases hv with ⟨hw, hy⟩ | ⟨hw, rfl⟩
    · exact .inl ⟨hw, fun w _ => .inl (hy w (.inl hi))⟩
    · exact .inr ⟨hw, rfl⟩

theorem left_appU (listed : Array Bool) (L M : List Nat) : left listed (L ++ M) = left listed L ++ left listed M := by simp [left]
theorem linU_any {pre : List Nat} (hok : ordOkU ops mk eff fre pre tail = true) (hne : ∀ i, mk.contains i = true → ∃ v w, Φ i v w) : ∀ (fuel : Nat) (listed : Array Bool) (a : Act) (w : World) (F : List (Nat × Value)), listed.size = ops.size → ClosedL ops listed → (left listed (pre ++ tail)).length ≤ fuel → left listed tail = tail → S w → (∀ i ∈ left listed pre, Pre i w) → (∀ p ∈ F, Φ p.1 p.2 w ∧ listed.getD p.1 false = true) → LinU P ops Q S Pre Φ mk eff fre tail (left listed pre) F a → wpAny P .any ops Q fuel listed a w := by
  have hok2 := hok
  simp only [ordOkU, Bool.and_eq_true] at hok
  obtain ⟨hokY, hpv, htl, hfr⟩ := hok
  have hokY2 := hokY
  simp only [ordOkY, Bool.and_eq_true] at hokY
  obtain ⟨⟨hns, _⟩, hall0, hpairs⟩ := hokY
  have hsel : ∀ (j : Nat) (o : Oper), ops[j]? = some o → ∀ cs b, o.op ≠ .select cs b := fun j o ho cs b => Region.noSelect_spec hns j o cs b ho
  have hin : ∀ j oj, ops[j]? = some oj → j ∈ pre ++ tail := by
    intro j oj hoj
    have h1 := List.all_eq_true.1 hall0 j (List.mem_range.2 (Array.getElem?_eq_some_iff.1 hoj).1)
    simp only [hoj, Bool.and_eq_true] at h1
    exact List.contains_iff_mem.1 h1.1
  intro fuel
  induction fuel with
  | zero =>
    intro listed a w F hsz hcl hlen ht hS hP hF hL
    rw [left_appU, List.length_append] at hlen
    have h0 : left listed pre = [] := List.length_eq_zero_iff.1 (by omega)
    rw [h0] at hL
    refine linY_any (S := fun _ => True) hokY2 0 listed a w hsz hcl (by rw [left_appU, List.length_append]; omega) trivial ?_
    rw [left_appU, h0, ht]
    exact hL w hS (fun p hp => (hF p hp).1)
  | succ fuel ih =>
    intro listed a w F hsz hcl hlen ht hS hP hF hL
    by_cases h0 : ∀ i ∈ left listed pre, fre.contains i = true
    · refine linY_any (S := fun _ => True) hokY2 (fuel + 1) listed a w hsz hcl hlen trivial ?_
      rw [left_appU, ht]
      exact LinU.free hfr _ F a w h0 hS (fun p hp => (hF p hp).1) hL
    · obtain ⟨i0, hi0, hf0⟩ : ∃ i0, i0 ∈ left listed pre ∧ fre.contains i0 = false := by
        refine Classical.byContradiction fun hn => h0 fun i hi => ?_
        cases hb : fre.contains i with
        | true => rfl
        | false => exact absurd ⟨i, hi, hb⟩ hn
      have hi0m : i0 ∈ pre ∧ listed.getD i0 true = false := by
        have h1 := List.mem_filter.1 hi0
        exact ⟨h1.1, by simpa using h1.2⟩
      have nott : ∀ j ∈ Region.ready .any ops listed, j ∉ tail := by
        intro j hj hjt
        obtain ⟨_, oj, hoj, hall⟩ := mem_ready.1 hj
        have h1 := List.all_eq_true.1 (List.all_eq_true.1 htl j hjt) i0 hi0m.1
        rw [hf0, Bool.false_or] at h1
        have h2 := reach_spec hcl 14 j i0 hoj hall h1
        have h3 := hi0m.2
        by_cases h4 : i0 < listed.size
        · simp [h4] at h2 h3
          rw [h2] at h3; cases h3
        · simp [h4] at h3
      refine ⟨fun hr => ?_, fun j hj => ?_⟩
      · exfalso
        have := linY_any (P := P) (Q := fun _ _ _ => True) (S := fun _ => True) hokY2
        -- nothing is ready: all is listed
        have key : ∀ j, listed.getD j true = true := by
          intro j
          induction j using Nat.strongRecOn with
          | ind j ihj =>
            cases hb : listed.getD j true with
            | true => rfl
            | false =>
              have hj : j < ops.size := by
                rcases Nat.lt_or_ge j listed.size with h' | h'
                · omega
                · simp [Array.getElem?_eq_none h'] at hb
              have hoj : ops[j]? = some ops[j] := Array.getElem?_eq_getElem hj
              have hm : j ∈ Region.ready .any ops listed := mem_ready.2 ⟨hb, _, hoj, fun e he hbd => by
                have h1 := List.all_eq_true.1 hall0 j (List.mem_range.2 hj)
                simp only [hoj, Bool.and_eq_true, Array.all_eq_true_iff_forall_mem] at h1
                have h2 := h1.2 e he
                have hlt : e.on < j := by simpa [hbd] using h2
                have h9 := ihj e.on hlt
                have h8 : e.on < listed.size := by omega
                simp [h8] at h9 ⊢
                exact h9⟩
              rw [hr] at hm
              cases hm
        rw [key i0] at hi0m
        cases hi0m.2
      · obtain ⟨hun, oj, hoj, hall⟩ := mem_ready.1 hj
        have hjp : j ∈ pre := by
          rcases List.mem_append.1 (hin j oj hoj) with h | h
          · exact h
          · exact absurd h (nott j hj)
        obtain ⟨L1, L2, hord⟩ := List.append_of_mem hjp
        have hpairs2 := hpairs
        rw [hord, List.append_assoc, List.cons_append] at hpairs2
        obtain ⟨hn1, hn2, hp⟩ := pairsOkY_split L1 hpairs2
        have hn2' : j ∉ L2 := fun h => hn2 (by simp [h])
        have hnt : j ∉ tail := fun h => hn2 (by simp [h])
        have hpv2 := hpv
        rw [hord] at hpv2
        have hv := pairsU_split L1 hpv2
        have hlt : j < listed.size := by have := (Array.getElem?_eq_some_iff.1 hoj).1; omega
        have el : left listed pre = left listed L1 ++ j :: left listed L2 := by
          rw [hord, left_appU]
          unfold left
          rw [List.filter_cons, hun]
          simp
        have el2 : left (listed.setIfInBounds j true) pre = left listed L1 ++ left listed L2 := by
          rw [hord, left_appU, left_set _ _ _ hn1]
          congr 1
          have : left (listed.setIfInBounds j true) (j :: L2) = left (listed.setIfInBounds j true) L2 := by
            unfold left
            rw [List.filter_cons]
            simp [hlt]
          rw [this, left_set _ _ _ hn2']
        have et : left (listed.setIfInBounds j true) tail = tail := by rw [left_set _ _ _ hnt, ht]
        rw [el] at hL
        have hL2 := LinU.front hoj (hsel j oj hoj) w hS hne (left listed L1) F a (fun i hi => by
          have hi1 := List.mem_filter.1 hi
          obtain ⟨hil, hc⟩ := hp i hi1.1
          have hui : listed.getD i true = false := by simpa using hi1.2
          have hoi : ops[i]? = some ops[i] := Array.getElem?_eq_getElem hil
          have hrj : reach ops 14 j i = false := by
            cases hb : reach ops 14 j i with
            | false => rfl
            | true =>
              have h8 := reach_spec hcl 14 j i hoj hall hb
              have h7 : i < listed.size := by omega
              simp [h7] at h8 hui
              rw [hui] at h8
              cases h8
          rcases hc with h9 | h9
          · refine ⟨_, hoi, hsel i _ hoi, ?_, (fun e => hn1 (e ▸ hi1.1)), hrj, hv i hi1.1⟩
            have h7 := h9.1
            unfold pairApart at h7
            simp only [hoi, hoj] at h7
            exact h7
          · rw [hrj] at h9; cases h9) hL
        obtain ⟨oj', hoj', q1, q2⟩ := hL2
        obtain rfl : oj' = oj := Option.some.inj (hoj'.symm.trans hoj)
        have hlen2 : (left (listed.setIfInBounds j true) (pre ++ tail)).length ≤ fuel := by
          rw [left_appU, List.length_append, el2, et]
          rw [left_appU, List.length_append, el, ht] at hlen
          simp at hlen ⊢
          omega
        have hFl : ∀ p ∈ F, (listed.setIfInBounds j true).getD p.1 false = true := fun p hp9 => by
          have h1 := (hF p hp9).2
          by_cases e : p.1 = j
          · rw [e]; simp [hlt]
          · rw [getD_set_ne false (fun h => e h.symm)]; exact h1
        unfold wpOp
        simp only [hoj]
        cases hv9 : mk.contains j with
        | false =>
          obtain ⟨v, g, h5⟩ := q1 hv9
          have hnext := ih (listed.setIfInBounds j true) (a.put oj'.dst v) w F (by simp [hsz]) (closedL_set hcl hj) hlen2 et hS (fun i hi => hP i (by rw [el2] at hi; rw [el]; rcases List.mem_append.1 hi with h | h <;> simp [h])) (fun p hp9 => ⟨(hF p hp9).1, hFl p hp9⟩) (by rw [el2]; exact h5)
          rcases g with ⟨hw, hy⟩ | ⟨hw, rfl⟩
          · simp only [hw, if_true]
            refine .inl ?_
            unfold Oper.wp
            rw [hy w (.inr hS)]
            exact hnext
          · simp only [hw, Bool.false_eq_true, if_false]
            exact hnext
        | true =>
          obtain ⟨hm, hc⟩ := q2 hv9
          obtain ⟨hw, hmv⟩ := hm w hS (hP j (by rw [el]; simp)) (fun p hp9 _ => (hF p hp9).1)
          simp only [hw, if_true]
          refine .inl ?_
          have hnext : ∀ v w', (S w' ∧ (∀ d, d ≠ j → Pre d w → Pre d w') ∧ (∀ d u, d ≠ j → Φ d u w → Φ d u w') ∧ Φ j v w') → wpAny P .any ops Q fuel (listed.setIfInBounds j true) (a.put oj'.dst v) w' := fun v w' ⟨k1, k0, k2, k3⟩ =>
            ih (listed.setIfInBounds j true) (a.put oj'.dst v) w' ((j, v) :: F) (by simp [hsz]) (closedL_set hcl hj) hlen2 et k1 (fun i hi => by
              have hi2 := List.mem_filter.1 hi
              refine k0 i (fun e => ?_) (hP i (by rw [el2] at hi; rw [el]; rcases List.mem_append.1 hi with h | h <;> simp [h]))
              subst e
              simp [hlt] at hi2) (fun p hp9 => by
              rcases List.mem_cons.1 hp9 with rfl | hp9
              · exact ⟨k3, by simp [hlt]⟩
              · refine ⟨k2 _ _ (fun e => ?_) (hF p hp9).1, hFl p hp9⟩
                have h1 := (hF p hp9).2
                rw [e] at h1
                simp [hlt] at h1 hun
                rw [hun] at h1; cases h1) (by rw [el2]; exact hc v ⟨w', k3⟩)
          unfold Oper.wp
          rcases hmv with ⟨v, w', h6 | ⟨h6, rfl⟩, _, h8⟩ | ⟨f, args, w1, h6, h7⟩
          · rw [h6]
            exact hnext _ _ h8
          · rw [h6]
            exact hnext _ _ h8
          · rw [h6]
            refine Calls.mono h7 ?_
            rintro e w' ⟨v, rfl, _, h9⟩
            exact hnext _ _ h9

/-- THE BEGINNING. -/
theorem wp_region_linU {id : Nat} {a : Act} {w : World} (S : World → Prop) (Pre : Nat → World → Prop) (Φ : Nat → Value → World → Prop) (mk eff fre pre tail : List Nat) (hm : P.follows .mixedOrders = true) (hok : ordOkU ops mk eff fre pre tail = true) (hne : ∀ i, mk.contains i = true → ∃ v w, Φ i v w) (hS : S w.drew) (hP : ∀ i, Pre i w.drew) (h : LinU P ops Q S Pre Φ mk eff fre tail pre [] a) : (Code.region id ops true).wp P Q a w := by
  refine wp_region_any hm ?_
  have hok2 := hok
  simp only [ordOkU, ordOkY, Bool.and_eq_true] at hok
  have hlt : ∀ i ∈ pre ++ tail, i < ops.size := by
    intro i hi
    obtain ⟨L1, L2, hord⟩ := List.append_of_mem hi
    have h3 := hok.1.2.2
    rw [hord] at h3
    have : ∀ (L1 : List Nat), pairsOkY ops eff (L1 ++ i :: L2) = true → i < ops.size := by
      intro L1
      induction L1 with
      | nil => intro h; simp only [List.nil_append, pairsOkY, Bool.and_eq_true, decide_eq_true_eq] at h; exact h.1
      | cons k L1 ih => intro h; simp only [List.cons_append, pairsOkY, Bool.and_eq_true] at h; exact ih h.2.2.2
    exact this L1 h3
  have hu : ∀ L : List Nat, (∀ i ∈ L, i < ops.size) → left (Array.replicate ops.size false) L = L := by
    intro L hL
    unfold left
    rw [List.filter_eq_self]
    intro i hi
    have := hL i hi
    simp [this]
  refine linU_any (S := S) hok2 hne _ _ _ _ [] (by simp) (fun j oj _ h => by simp only [Array.getD_eq_getD_getElem?, Array.getElem?_replicate] at h; split at h <;> simp at h) ?_ (hu tail (fun i hi => hlt i (by simp [hi]))) hS (fun i _ => hP i) (by simp) ?_
  · rw [hu _ hlt]
    simpa using hok.1.1.2
  · rw [hu pre (fun i hi => hlt i (by simp [hi]))]; exact h
theorem linU_nil {F : List (Nat × Value)} {a : Act} (h : ∀ w, S w → (∀ p ∈ F, Φ p.1 p.2 w) → LinX P ops Q (fun _ => True) eff tail a w) : LinU P ops Q S Pre Φ mk eff fre tail [] F a := h
theorem linU_fre {i : Nat} {o : Oper} {r : List Nat} {F : List (Nat × Value)} {a : Act} {v : Value} (ho : ops[i]? = some o) (he : mk.contains i = false) (hw : Region.wanted o (yielded ops a.tmps) = true) (hy : ∀ w, (execOp a.eval o).run P w = .ok (.value v) w) (h : LinU P ops Q S Pre Φ mk eff fre tail r F (a.put o.dst v)) : LinU P ops Q S Pre Φ mk eff fre tail (i :: r) F a :=
  ⟨o, ho, fun _ => ⟨v, .inl ⟨hw, fun w _ => hy w⟩, h⟩, fun h9 => by rw [he] at h9; cases h9⟩
theorem linU_op {i : Nat} {o : Oper} {r : List Nat} {F : List (Nat × Value)} {a : Act} {v : Value} (ho : ops[i]? = some o) (he : mk.contains i = false) (hf : fre.contains i = false) (hw : Region.wanted o (yielded ops a.tmps) = true) (hy : ∀ w, S w → (execOp a.eval o).run P w = .ok (.value v) w) (h : LinU P ops Q S Pre Φ mk eff fre tail r F (a.put o.dst v)) : LinU P ops Q S Pre Φ mk eff fre tail (i :: r) F a :=
  ⟨o, ho, fun _ => ⟨v, .inl ⟨hw, fun w hS => hy w (hS.resolve_left (fun h => by rw [hf] at h; cases h))⟩, h⟩, fun h9 => by rw [he] at h9; cases h9⟩
theorem linU_off {i : Nat} {o : Oper} {r : List Nat} {F : List (Nat × Value)} {a : Act} (ho : ops[i]? = some o) (he : mk.contains i = false) (hw : Region.wanted o (yielded ops a.tmps) = false) (h : LinU P ops Q S Pre Φ mk eff fre tail r F (a.put o.dst undef)) : LinU P ops Q S Pre Φ mk eff fre tail (i :: r) F a :=
  ⟨o, ho, fun _ => ⟨undef, .inr ⟨hw, rfl⟩, h⟩, fun h9 => by rw [he] at h9; cases h9⟩
/-- An operation that makes memory. -/
theorem linU_do {i : Nat} {o : Oper} {r : List Nat} {F : List (Nat × Value)} {a : Act} (ho : ops[i]? = some o) (he : mk.contains i = true) (hw : Region.wanted o (yielded ops a.tmps) = true)
    (hy : ∀ w, S w → Pre i w → (∀ p ∈ F, reach ops 14 i p.1 = true → Φ p.1 p.2 w) → ∃ v w', (execOp a.eval o).run P w = .ok (.value v) w' ∧ S w' ∧ (∀ d, d ≠ i → Pre d w → Pre d w') ∧ (∀ d u, d ≠ i → Φ d u w → Φ d u w') ∧ Φ i v w') (h : ∀ v, (∃ w, Φ i v w) → LinU P ops Q S Pre Φ mk eff fre tail r ((i, v) :: F) (a.put o.dst v)) : LinU P ops Q S Pre Φ mk eff fre tail (i :: r) F a :=
  ⟨o, ho, fun h9 => (by rw [he] at h9; cases h9), fun _ => ⟨fun w hS hQ hF => by
    obtain ⟨v, w', h1, h2⟩ := hy w hS hQ hF
    exact ⟨hw, .inl ⟨v, w', .inl h1, trivial, h2⟩⟩, h⟩⟩
/-- A call that makes memory. -/
theorem linU_call {i : Nat} {o : Oper} {r : List Nat} {F : List (Nat × Value)} {a : Act} {f : Nat} {c : Call} {args : Array Value} (hi : ops[i]? = some o) (he : mk.contains i = true) (hw : Region.wanted o (yielded ops a.tmps) = true) (ho : o.op = .call c) (hc : c.callee = .value (.func f)) (hen : ∀ args w, (callFunc f args).run P w = .ok (.enter f args) w) (ha : c.args.map a.eval = args)
    (hy : ∀ w, S w → Pre i w → (∀ p ∈ F, reach ops 14 i p.1 = true → Φ p.1 p.2 w) → Calls P f args w fun e w' => ∃ v, e = .returned v ∧ S w' ∧ (∀ d, d ≠ i → Pre d w → Pre d w') ∧ (∀ d u, d ≠ i → Φ d u w → Φ d u w') ∧ Φ i v w') (h : ∀ v, (∃ w, Φ i v w) → LinU P ops Q S Pre Φ mk eff fre tail r ((i, v) :: F) (a.put o.dst v)) : LinU P ops Q S Pre Φ mk eff fre tail (i :: r) F a := by
  refine ⟨o, hi, fun h9 => (by rw [he] at h9; cases h9), fun _ => ⟨fun w hS hQ hF => ⟨hw, .inr ⟨f, args, w, ?_, (hy w hS hQ hF).mono fun e w' ⟨v, h1, h2⟩ => ⟨v, h1, trivial, h2⟩⟩⟩, h⟩⟩
  simp only [execOp, ho, resolve, hc, ha, Act.eval, Deferred.ofValue, invoke, Sem.run_bind, Sem.run_pure, Result.andThen_ok]
  have e1 := hen (#[] ++ args ++ #[]) w
  simp only [Array.empty_append, Array.append_empty] at e1 ⊢
  exact e1
end
end Go.Proofs.Ytkoenconjldojaa
