/-
  Only edges that bind where the order is drawn have to lead back. Where the texts of iterators of another kind are not to be imported (LinY without LinI): a region that draws its order, walked once in an order that the prover picks, where some operations change the world: each operation behind one of these waits for it, if only by way of others. Nothing here is a statement of the document.
-/
import Derived.Test.YtclkfmblogkakaaDoorRtU
import Derived.Test.YtclkfmblogkakaaDoorLinX
namespace Go.Proofs.YtclkfmblogkakaaDoor
open Go.RowKit Go.Shelf
set_option linter.unusedVariables false
set_option maxRecDepth 100000
theorem sorted_one {cf : Ro → Ro → Int} (hcm : Cm cf) {D S S' : List Ro} (h : Sorted cf D S) (h' : Sorted cf D S') (hD : ∀ x ∈ D, ∀ y ∈ D, cf x y = 0 → x = y) : S = S' := by
  have hp : ∀ {T : List Ro}, Sorted cf D T → T.Pairwise (fun a b => cf a b ≤ 0) := fun {T} k => List.pairwise_iff_getElem.2 fun i j hi hj hij => by
    have h1 := k.2 i j hij (by rw [← k.1.length_eq]; exact hj)
    rwa [rog_get hi, rog_get hj] at h1
  exact List.Perm.eq_of_pairwise (le := fun a b : Ro => cf a b ≤ 0) (fun a b ha hb h1 h2 => hD a (h.1.mem_iff.1 ha) b (h'.1.mem_iff.1 hb) (by have := hcm.flip a b; have h3 : cf a b ≤ 0 := h1; have h4 : cf b a ≤ 0 := h2; omega)) (hp h) (hp h') (h.1.trans h'.1.symm)
def u1 : Up := ⟨tenP, 2, false, 5, 7⟩
def u2 : Up := ⟨tenP, 1, false, 5, 9⟩
def u3 : Up := ⟨tenP, 1, true, 0, 0⟩
def x1 : Ro := ⟨tenP, 2, 5, 7⟩
def x2 : Ro := ⟨tenP, 1, 5, 9⟩
theorem ten_zero : cmpP tenP tenP = 0 := (cmpP_zero _ _).2 rfl
theorem r21 : cmpR x2 x1 = -1 := by rw [cmpR_eq, show cmpP x2.p x1.p = 0 from ten_zero, if_pos rfl]; decide
theorem b21 : cmpB1 x2 x1 = -1 := by rw [cmpB1_eq, show cmpP x2.p x1.p = 0 from ten_zero, if_pos rfl]; decide
theorem okRo_1 : okRo x1 := ⟨ten_okP, by decide, by decide, by decide⟩
theorem okRo_2 : okRo x2 := ⟨ten_okP, by decide, by decide, by decide⟩
theorem okRib_nil : okRib [] := ⟨fun j hj => by simp at hj, fun j hj => by simp at hj, by rw [show fstL [] = [] from rfl]; simp⟩
theorem okRib_1 : okRib [x1] := ⟨fun j hj => by
  obtain rfl : j = 0 := by simpa using hj
  exact okRo_1, fun j hj => by simp at hj, by have := fstL_len [x1]; simp at this; omega⟩
theorem okRib_2 : okRib [x2, x1] := ⟨fun j hj => by
  rcases (show j = 0 ∨ j = 1 by simp at hj; omega) with rfl | rfl
  · exact okRo_2
  · exact okRo_1, fun j hj => by
  obtain rfl : j = 0 := by simp at hj; omega
  show cmpR x2 x1 < 0
  rw [r21]; decide, by have := fstL_len [x2, x1]; simp at this; omega⟩
theorem ne_12 : ¬ spk u2 x1 := fun h => by have := h.2; revert this; decide
theorem okBat_12 : okBat [u1, u2] := ⟨by decide, fun j hj => by
  rcases (show j = 0 ∨ j = 1 by simp at hj; omega) with rfl | rfl
  · exact okRo_1
  · exact okRo_2, fun j hj i hi => by
  obtain ⟨rfl, rfl⟩ : j = 1 ∧ i = 0 := by simp at hj; omega
  exact ne_12⟩
theorem okBat_3 : okBat [u3] := ⟨by decide, fun j hj => by
  obtain rfl : j = 0 := by simpa using hj
  exact ⟨ten_okP, by decide, rfl, rfl⟩, fun j hj i hi => by simp at hj; omega⟩
theorem run_12 : runU [] [u1, u2] = some [x1, x2] := by
  have h1 : ¬ badU [] u1 := fun h => by have := h.1; cases this
  have h2 : ¬ badU [x1] u2 := fun h => by have := h.1; cases this
  have e1 : stepL [] u1 = [x1] := rfl
  have s2 : ¬ spotF u2 [x1] < [x1].length := spotF_none fun j hj => by
    obtain rfl : j = 0 := by simpa using hj
    exact ne_12
  have e2 : stepL [x1] u2 = [x1, x2] := by
    rw [stepL, if_neg (by decide), rest1, if_neg s2]; rfl
  rw [runU, if_neg h1, e1, runU, if_neg h2, e2, runU]
theorem run_3 : runU [x2, x1] [u3] = some [x1] := by
  have s3 : spotF u3 [x2, x1] = 0 := spotF_of (by simp) ⟨rfl, rfl⟩ (fun j hj => by omega)
  have h1 : ¬ badU [x2, x1] u3 := fun h => h.2 (by rw [s3]; simp)
  have e1 : stepL [x2, x1] u3 = [x1] := by
    rw [stepL, if_pos (by decide), rest1, if_pos (by rw [s3]; simp), s3]; rfl
  rw [runU, if_neg h1, e1, runU]
theorem apart_12 {cf : Ro → Ro → Int} (hcm : Cm cf) (h : cf x2 x1 = -1) : ∀ D : List Ro, D.Perm [x1, x2] → ∀ x ∈ D, ∀ y ∈ D, cf x y = 0 → x = y := fun D hD x hx y hy h0 => by
  have hx := hD.mem_iff.1 hx
  have hy := hD.mem_iff.1 hy
  have hf := hcm.flip x1 x2
  simp only [List.mem_cons, List.not_mem_nil, or_false] at hx hy
  rcases hx with rfl | rfl <;> rcases hy with rfl | rfl
  · rfl
  · omega
  · omega
  · rfl
theorem sort_12 {cf : Ro → Ro → Int} (hcm : Cm cf) (h : cf x2 x1 = -1) {D S : List Ro} (hD : D.Perm [x1, x2]) (hS : Sorted cf D S) : S = [x2, x1] :=
  sorted_one hcm hS ⟨(List.Perm.swap x1 x2 []).trans hD.symm, fun i j hij hj => by
    have hl := hD.length_eq
    obtain ⟨rfl, rfl⟩ : i = 0 ∧ j = 1 := by simp at hl; omega
    show cf x2 x1 ≤ 0
    rw [h]; decide⟩ (apart_12 hcm h D hD)
theorem wk_1 {M : List Ro} {er : Int} (h : AppR [] [u1, u2] M er) : M = [x2, x1] ∧ er = 0 := by
  cases h with
  | rib h => exact absurd okRib_nil h
  | bat _ h => exact absurd okBat_12 h
  | gone _ _ h => rw [run_12] at h; cases h
  | full _ _ h hS hl =>
    rw [run_12] at h; cases h
    have := Nat.le_trans (fstL_len _) (Nat.le_of_eq hS.1.length_eq)
    exact absurd (Nat.le_trans this (by simp)) hl
  | good _ _ h hS _ =>
    rw [run_12] at h; cases h
    exact ⟨sort_12 cm_r r21 (List.Perm.refl _) hS, rfl⟩
theorem wk_2 {T : List Rt} {er : Int} (h : BestR [x2, x1] T er) : T = [⟨tenP, 9⟩] ∧ er = 0 := by
  cases h with
  | rib h => exact absurd okRib_2 h
  | good _ hS =>
    obtain rfl := sort_12 cm_b b21 (List.Perm.swap x1 x2 []) hS
    refine ⟨?_, rfl⟩
    have : fstL [x2, x1] = [x2] := by
      show fstN [x2, x1] 2 = _
      rw [fstN_old (by decide) rfl, fstN_new (.inl rfl)]; rfl
    rw [this]; rfl
theorem wk_3 {M : List Ro} {er : Int} (h : AppR [x2, x1] [u3] M er) : M = [x1] ∧ er = 0 := by
  cases h with
  | rib h => exact absurd okRib_2 h
  | bat _ h => exact absurd okBat_3 h
  | gone _ _ h => rw [run_3] at h; cases h
  | full _ _ h hS hl =>
    rw [run_3] at h; cases h
    have := Nat.le_trans (fstL_len _) (Nat.le_of_eq hS.1.length_eq)
    exact absurd (Nat.le_trans this (by simp)) hl
  | good _ _ h hS _ =>
    rw [run_3] at h; cases h
    exact ⟨List.perm_singleton.1 hS.1, rfl⟩
theorem wk_4 {T : List Rt} {er : Int} (h : BestR [x1] T er) : T = [⟨tenP, 7⟩] ∧ er = 0 := by
  cases h with
  | rib h => exact absurd okRib_1 h
  | good _ hS =>
    obtain rfl := List.perm_singleton.1 hS.1
    refine ⟨?_, rfl⟩
    have : fstL [x1] = [x1] := by
      show fstN [x1] 1 = _
      rw [fstN_new (.inl rfl)]; rfl
    rw [this]; rfl
end Go.Proofs.YtclkfmblogkakaaDoor
namespace Go.Proofs.YtclkfmblogkakaaDoor
set_option linter.unusedVariables false

section
variable {P : Program} {ops : Array Oper} {Q : Exit → Act → World → Prop} {S : World → Prop}
def reach (ops : Array Oper) : Nat → Nat → Nat → Bool
  | 0, _, _ => false
  | f + 1, j, i => waits ops j i || (match ops[j]? with | none => false | some oj => oj.after.any fun e => Region.binds .any e && reach ops f e.on i)
def ClosedL (ops : Array Oper) (listed : Array Bool) : Prop := ∀ j oj, ops[j]? = some oj → listed.getD j false = true → ∀ e ∈ oj.after, Region.binds .any e = true → listed.getD e.on false = true
theorem reach_spec {listed : Array Bool} (hc : ClosedL ops listed) : ∀ (f j i : Nat) {oj : Oper}, ops[j]? = some oj → (∀ e ∈ oj.after, Region.binds .any e = true → listed.getD e.on false = true) → reach ops f j i = true → listed.getD i false = true
  | 0, _, _, _, _, _, h => by cases h
  | f + 1, j, i, oj, hj, ha, h => by
    simp only [reach, hj, Bool.or_eq_true] at h
    rcases h with h | h
    · obtain ⟨e, he, hb, rfl⟩ := waits_spec hj h
      exact ha e he hb
    · obtain ⟨e, he, hb⟩ := Array.any_eq_true'.1 h
      simp only [Bool.and_eq_true] at hb
      have h1 := ha e he hb.1
      cases ho : ops[e.on]? with
      | none =>
        exfalso
        have h2 := hb.2
        cases f with
        | zero => cases h2
        | succ f => simp [reach, waits, ho] at h2
      | some oe => exact reach_spec hc f e.on i ho (hc e.on oe ho h1) hb.2
theorem closedL_set {listed : Array Bool} {i : Nat} (hc : ClosedL ops listed) (hi : i ∈ Region.ready .any ops listed) : ClosedL ops (listed.setIfInBounds i true) := by
  obtain ⟨_, oi, hoi, hall⟩ := mem_ready.1 hi
  intro j oj hj hl e he hb
  by_cases hij : i = j
  · subst hij
    have : oj = oi := Option.some.inj (hj.symm.trans hoi)
    subst this
    exact getD_set_true (hall e he hb)
  · rw [getD_set_ne false hij] at hl
    exact getD_set_true (hc j oj hj hl e he hb)

def pairsOkY (ops : Array Oper) (eff : List Nat) : List Nat → Bool
  | [] => true
  | i :: r => decide (i < ops.size) && (!r.contains i && (r.all (fun j => (pairApart ops i j && !eff.contains i) || reach ops 14 j i) && pairsOkY ops eff r))
/-- The order that is picked has all operations, each once; where one does not wait for an earlier one, the two are apart and the earlier one leaves the world as it is. -/
def ordOkY (ops : Array Oper) (eff ord : List Nat) : Bool :=
  (Region.noSelect ops && decide (ord.length ≤ ops.size)) && ((List.range ops.size).all (fun j => ord.contains j && match ops[j]? with | none => true | some oj => oj.after.all (fun e => !Region.binds .any e || decide (e.on < j))) && pairsOkY ops eff ord)
theorem pairsOkY_split {eff : List Nat} : ∀ (L1 : List Nat) {j : Nat} {L2 : List Nat}, pairsOkY ops eff (L1 ++ j :: L2) = true → j ∉ L1 ∧ j ∉ L2 ∧ ∀ i ∈ L1, i < ops.size ∧ ((pairApart ops i j = true ∧ eff.contains i = false) ∨ reach ops 14 j i = true)
  | [], j, L2, h => by
    simp only [List.nil_append, pairsOkY, Bool.and_eq_true, Bool.not_eq_true'] at h
    refine ⟨by simp, ?_, by simp⟩
    intro hm
    have := h.2.1
    rw [List.contains_iff_mem.2 hm] at this
    cases this
  | k :: L1, j, L2, h => by
    simp only [List.cons_append, pairsOkY, Bool.and_eq_true, Bool.not_eq_true', decide_eq_true_eq] at h
    obtain ⟨h0, h1, h2, h3⟩ := h
    obtain ⟨i1, i2, i3⟩ := pairsOkY_split L1 h3
    have hkj : k ≠ j := by
      rintro rfl
      rw [List.contains_iff_mem.2 (by simp)] at h1
      cases h1
    refine ⟨by simp [i1]; exact fun e => hkj e.symm, i2, fun i hi => ?_⟩
    rcases List.mem_cons.1 hi with rfl | hi
    · refine ⟨h0, ?_⟩
      have h4 := List.all_eq_true.1 h2 j (by simp)
      simp only [Bool.or_eq_true, Bool.and_eq_true, Bool.not_eq_true'] at h4
      exact h4
    · exact i3 i hi

theorem linY_any {eff ord : List Nat} (hok : ordOkY ops eff ord = true) : ∀ (fuel : Nat) (listed : Array Bool) (a : Act) (w : World), listed.size = ops.size → ClosedL ops listed → (left listed ord).length ≤ fuel → S w → LinX P ops Q S eff (left listed ord) a w → wpAny P .any ops Q fuel listed a w := by
  simp only [ordOkY, Bool.and_eq_true] at hok
  obtain ⟨⟨hns, _⟩, hall0, hpairs⟩ := hok
  have hsel : ∀ (j : Nat) (o : Oper), ops[j]? = some o → ∀ cs b, o.op ≠ .select cs b := fun j o ho cs b => Region.noSelect_spec hns j o cs b ho
  have hback : ∀ j oj, ops[j]? = some oj → j ∈ ord ∧ ∀ e ∈ oj.after, Region.binds .any e = true → e.on < j := by
    intro j oj hoj
    have h1 := List.all_eq_true.1 hall0 j (List.mem_range.2 (Array.getElem?_eq_some_iff.1 hoj).1)
    simp only [hoj, Bool.and_eq_true, Array.all_eq_true_iff_forall_mem] at h1
    exact ⟨List.contains_iff_mem.1 h1.1, fun e he hb => by
      have h2 := h1.2 e he
      simpa [hb] using h2⟩
  have hnil : ∀ listed : Array Bool, listed.size = ops.size → Region.ready .any ops listed = [] → left listed ord = [] := by
    intro listed hsz hr
    have key : ∀ j, listed.getD j true = true := by
      intro j
      induction j using Nat.strongRecOn with
      | ind j ih =>
        cases hb : listed.getD j true with
        | true => rfl
        | false =>
          have hj : j < ops.size := by
            rcases Nat.lt_or_ge j listed.size with h' | h'
            · omega
            · simp [Array.getElem?_eq_none h'] at hb
          have hoj : ops[j]? = some ops[j] := Array.getElem?_eq_getElem hj
          have hm : j ∈ Region.ready .any ops listed := mem_ready.2 ⟨hb, _, hoj, fun e he hbd => by
            have hlt := (hback j _ hoj).2 e he hbd
            have h9 := ih e.on hlt
            have h8 : e.on < listed.size := by omega
            simp [h8] at h9 ⊢
            exact h9⟩
          rw [hr] at hm
          cases hm
    unfold left
    rw [List.filter_eq_nil_iff]
    intro i _
    rw [key i]
    simp
  have hpick : ∀ (listed : Array Bool) (j : Nat), listed.size = ops.size → ClosedL ops listed → j ∈ Region.ready .any ops listed → ∃ oj T1 T2, ops[j]? = some oj ∧ left listed ord = T1 ++ j :: T2 ∧ left (listed.setIfInBounds j true) ord = T1 ++ T2 ∧ ∀ i ∈ T1, ∃ x, ops[i]? = some x ∧ (∀ cs b, x.op ≠ .select cs b) ∧ x.apart ops oj = true ∧ eff.contains i = false := by
    intro listed j hsz hcl hj
    obtain ⟨hun, oj, hoj, hall⟩ := mem_ready.1 hj
    obtain ⟨L1, L2, hord⟩ := List.append_of_mem (hback j oj hoj).1
    rw [hord] at hpairs
    obtain ⟨hn1, hn2, hp⟩ := pairsOkY_split L1 hpairs
    have hlt : j < listed.size := by have := (Array.getElem?_eq_some_iff.1 hoj).1; omega
    refine ⟨oj, left listed L1, left listed L2, hoj, ?_, ?_, ?_⟩
    · rw [hord]
      unfold left
      rw [List.filter_append, List.filter_cons, hun]
      simp
    · have e : left (listed.setIfInBounds j true) (j :: L2) = left (listed.setIfInBounds j true) L2 := by
        unfold left
        rw [List.filter_cons]
        simp [hlt]
      have e2 : left (listed.setIfInBounds j true) (L1 ++ j :: L2) = left (listed.setIfInBounds j true) L1 ++ left (listed.setIfInBounds j true) (j :: L2) := by simp [left]
      rw [hord, e2, e, left_set _ _ _ hn1, left_set _ _ _ hn2]
    · intro i hi
      have hi1 := List.mem_filter.1 hi
      obtain ⟨hil, hc⟩ := hp i hi1.1
      have hui : listed.getD i true = false := by simpa using hi1.2
      have hoi : ops[i]? = some ops[i] := Array.getElem?_eq_getElem hil
      rcases hc with h9 | h9
      · refine ⟨_, hoi, hsel i _ hoi, ?_, h9.2⟩
        have h7 := h9.1
        unfold pairApart at h7
        simp only [hoi, hoj] at h7
        exact h7
      · have h8 := reach_spec hcl 14 j i hoj hall h9
        have h7 : i < listed.size := by omega
        simp [h7] at h8 hui
        rw [hui] at h8
        cases h8
  intro fuel
  induction fuel with
  | zero =>
    intro listed a w hsz hcl hlen hS hL
    have h0 : left listed ord = [] := List.length_eq_zero_iff.1 (by omega)
    rw [h0] at hL
    refine ⟨?_, hL⟩
    refine List.eq_nil_iff_forall_not_mem.2 (fun j hj => ?_)
    obtain ⟨oj, T1, T2, _, h1, _⟩ := hpick listed j hsz hcl hj
    rw [h0] at h1
    simp at h1
  | succ fuel ih =>
    intro listed a w hsz hcl hlen hS hL
    refine ⟨fun hr => ?_, fun j hj => ?_⟩
    · rw [hnil listed hsz hr] at hL
      exact hL
    · obtain ⟨oj, T1, T2, hoj, h1, h2, h3⟩ := hpick listed j hsz hcl hj
      rw [h1] at hL hlen
      obtain ⟨oj', hoj', q1, q2⟩ := LinX.front hoj (hsel j oj hoj) T1 a w h3 hL
      obtain rfl : oj' = oj := Option.some.inj (hoj'.symm.trans hoj)
      have hnext : ∀ a' w', S w' → LinX P ops Q S eff (T1 ++ T2) a' w' → wpAny P .any ops Q fuel (listed.setIfInBounds j true) a' w' := fun a' w' hS' h4 => by
        refine ih (listed.setIfInBounds j true) a' w' (by simp [hsz]) (closedL_set hcl hj) ?_ hS' (by rw [h2]; exact h4)
        rw [h2]
        simp at hlen ⊢
        omega
      unfold wpOp
      simp only [hoj]
      cases hv : eff.contains j with
      | false =>
        obtain ⟨v, g, h5⟩ := q1 hv
        rcases g with ⟨hw, hy⟩ | ⟨hw, rfl⟩
        · simp only [hw, if_true]
          refine .inl ?_
          unfold Oper.wp
          rcases hy w hS with h6 | ⟨f, args, h6, h7⟩
          · rw [h6]
            exact hnext _ _ hS h5
          · rw [h6]
            refine Calls.mono h7 ?_
            rintro e w' ⟨rfl, rfl⟩
            exact hnext _ _ hS h5
        · simp only [hw, Bool.false_eq_true, if_false]
          exact hnext _ _ hS h5
      | true =>
        obtain ⟨hw, hm⟩ := q2 hv
        simp only [hw, if_true]
        refine .inl ?_
        unfold Oper.wp
        rcases hm with ⟨v, w', h6 | ⟨h6, rfl⟩, h7, h8⟩ | ⟨f, args, w1, h6, h7⟩
        · rw [h6]
          exact hnext _ _ h7 h8
        · rw [h6]
          exact hnext _ _ h7 h8
        · rw [h6]
          refine Calls.mono h7 ?_
          rintro e w' ⟨v, rfl, h8, h9⟩
          exact hnext _ _ h8 h9

/-- THE BEGINNING: a region that draws its order, walked in the order that is picked; those of eff may change the world. -/
theorem wp_region_linY {id : Nat} {a : Act} {w : World} (S : World → Prop) (eff ord : List Nat) (hm : P.follows .mixedOrders = true) (hok : ordOkY ops eff ord = true) (hS : S w.drew) (h : LinX P ops Q S eff ord a w.drew) : (Code.region id ops true).wp P Q a w := by
  refine wp_region_any hm ?_
  have hok2 := hok
  simp only [ordOkY, Bool.and_eq_true] at hok
  have hlt : ∀ i ∈ ord, i < ops.size := by
    intro i hi
    obtain ⟨L1, L2, hord⟩ := List.append_of_mem hi
    have h3 := hok.2.2
    rw [hord] at h3
    have : ∀ (L1 : List Nat), pairsOkY ops eff (L1 ++ i :: L2) = true → i < ops.size := by
      intro L1
      induction L1 with
      | nil => intro h; simp only [List.nil_append, pairsOkY, Bool.and_eq_true, decide_eq_true_eq] at h; exact h.1
      | cons k L1 ih => intro h; simp only [List.cons_append, pairsOkY, Bool.and_eq_true] at h; exact ih h.2.2.2
    exact this L1 h3
  have hu : left (Array.replicate ops.size false) ord = ord := by
    unfold left
    rw [List.filter_eq_self]
    intro i hi
    have := hlt i hi
    simp [this]
  refine linY_any hok2 _ _ _ _ (by simp) (fun j oj _ h => by simp only [Array.getD_eq_getD_getElem?, Array.getElem?_replicate] at h; split at h <;> simp at h) ?_ hS ?_
  · rw [hu]
    simpa using hok.1.2
  · rw [hu]; exact h
end
end Go.Proofs.YtclkfmblogkakaaDoor
