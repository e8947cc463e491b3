/-
  A region that draws its order, where several operations that wait for none of one another make memory (an append beside a slice that is built): what each of these gives is told by a property that all others keep; then a tail that waits for all. Nothing here is a statement of the document.
-/
import Derived.Test.YtclkfmblogkakaaGreatDoorLinF
import Derived.Test.YtclkfmblogkakaaGreatDoorPfxV
namespace Go.Proofs.YtclkfmblogkakaaGreatDoor
open Go.RowKit
section
variable {P : Program} {ops : Array Oper} {Q : Exit → Act → World → Prop}
/-- Those of safe may come ahead of the call, and nothing else. -/
def dieOk (ops : Array Oper) (die : Nat) (safe : List Nat) : Bool :=
  (decide (die < ops.size) && !safe.contains die) && (List.range ops.size).all fun j => match ops[j]? with
    | none => false
    | some o => o.after.all (fun e => !Region.binds .any e || decide (e.on < j)) && (safe.contains j || j == die || o.after.any (fun e => Region.binds .any e && !safe.contains e.on))
theorem dieOk_spec {die : Nat} {safe : List Nat} (hok : dieOk ops die safe = true) : die < ops.size ∧ die ∉ safe ∧ ∀ j o, ops[j]? = some o → (∀ e ∈ o.after, Region.binds .any e = true → e.on < j) ∧ (j ∈ safe ∨ j = die ∨ ∃ e ∈ o.after, Region.binds .any e = true ∧ e.on ∉ safe) := by
  simp only [dieOk, Bool.and_eq_true, decide_eq_true_eq, Bool.not_eq_true'] at hok
  refine ⟨hok.1.1, fun hm => ?_, fun j o hj => ?_⟩
  · have := hok.1.2
    rw [List.contains_iff_mem.2 hm] at this
    cases this
  · have h1 := List.all_eq_true.1 hok.2 j (List.mem_range.2 (Array.getElem?_eq_some_iff.1 hj).1)
    simp only [hj, Bool.and_eq_true, Array.all_eq_true_iff_forall_mem, Bool.or_eq_true, Bool.not_eq_true', decide_eq_true_eq, beq_iff_eq] at h1
    refine ⟨fun e he hb => (h1.1 e he).resolve_left (by rw [hb]; simp), ?_⟩
    rcases h1.2 with (h2 | h2) | h2
    · exact .inl (List.contains_iff_mem.1 h2)
    · exact .inr (.inl h2)
    · obtain ⟨e, he, hb⟩ := Array.any_eq_true'.1 h2
      simp only [Bool.and_eq_true, Bool.not_eq_true'] at hb
      exact .inr (.inr ⟨e, he, hb.1, fun hm => by rw [List.contains_iff_mem.2 hm] at hb; cases hb.2⟩)
theorem die_any {die : Nat} {safe : List Nat} (hok : dieOk ops die safe = true) (Inv : Array Bool → Act → Prop) (w : World)
    (hstep : ∀ listed a i, i ∈ safe → listed.size = ops.size → Inv listed a → wpOp P ops Q i (fun a' w' => Inv (listed.setIfInBounds i true) a' ∧ w' = w) a w)
    (hdie : ∀ listed a, (∀ i, waits ops die i = true → listed.getD i false = true) → Inv listed a → wpOp P ops Q die (fun _ _ => False) a w) :
    ∀ (fuel : Nat) (listed : Array Bool) (a : Act), listed.size = ops.size → (∀ j, listed.getD j false = true → j ∈ safe) → (safe.filter fun i => !listed.getD i true).length < fuel → Inv listed a → wpAny P .any ops Q fuel listed a w := by
  obtain ⟨hlt, hds, hj0⟩ := dieOk_spec hok
  intro fuel
  induction fuel with
  | zero => intro _ _ _ _ h _; omega
  | succ fuel ih =>
    intro listed a hsz hsafe hlen hI
    refine ⟨fun hr => ?_, fun i hi => ?_⟩
    · exfalso
      have key : ∀ j, listed.getD j true = true := by
        intro j
        induction j using Nat.strongRecOn with
        | ind j ih =>
          cases hb : listed.getD j true with
          | true => rfl
          | false =>
            have hj : j < ops.size := by
              rcases Nat.lt_or_ge j listed.size with h' | h'
              · omega
              · simp [Array.getElem?_eq_none h'] at hb
            have hoj : ops[j]? = some ops[j] := Array.getElem?_eq_getElem hj
            have hm : j ∈ Region.ready .any ops listed := mem_ready.2 ⟨hb, _, hoj, fun e he hbd => by
              have hlt := (hj0 j _ hoj).1 e he hbd
              have h9 := ih e.on hlt
              have h8 : e.on < listed.size := by omega
              simp [h8] at h9 ⊢
              exact h9⟩
            rw [hr] at hm
            cases hm
      have h1 := key die
      refine hds (hsafe die ?_)
      have h8 : die < listed.size := by omega
      simp [h8] at h1 ⊢
      exact h1
    · obtain ⟨hun, o, ho, hall⟩ := mem_ready.1 hi
      rcases (hj0 i o ho).2 with hs | rfl | ⟨e, he, hb, hn⟩
      · refine wpOp_mono (fun a' w' h => ?_) (hstep listed a i hs hsz hI)
        obtain ⟨h1, rfl⟩ := h
        refine ih _ _ (by simp [hsz]) (fun j hj => ?_) ?_ h1
        · by_cases hji : i = j
          · rw [← hji]; exact hs
          · rw [getD_set_ne false hji] at hj; exact hsafe j hj
        · have hlt9 : (safe.filter fun k => !(listed.setIfInBounds i true).getD k true).length < (safe.filter fun k => !listed.getD k true).length := by
            have e1 : (safe.filter fun k => !(listed.setIfInBounds i true).getD k true) = (safe.filter fun k => !listed.getD k true).filter (fun k => decide (k ≠ i)) := by
              rw [List.filter_filter]
              refine List.filter_congr fun k _ => ?_
              by_cases hki : i = k
              · subst hki
                have h8 : i < listed.size := by have := (Array.getElem?_eq_some_iff.1 ho).1; omega
                simp [h8]
              · rw [getD_set_ne true hki]
                simp [Ne.symm hki]
            rw [e1]
            exact List.length_filter_lt_length_iff_exists.2 ⟨i, List.mem_filter.2 ⟨hs, by rw [hun]; rfl⟩, by simp⟩
          omega
      · refine wpOp_mono (fun _ _ h => h.elim) (hdie listed a (fun k hk => ?_) hI)
        obtain ⟨e, he, hb, rfl⟩ := waits_spec ho hk
        exact hall e he hb
      · exact absurd (hsafe _ (hall e he hb)) hn
theorem wp_region_die {id : Nat} {a : Act} {w : World} (die : Nat) (safe : List Nat) (hm : P.follows .mixedOrders = true) (hok : dieOk ops die safe = true) (Inv : Array Bool → Act → Prop) (hlen : safe.length < ops.size) (hI : Inv (Array.replicate ops.size false) a)
    (hstep : ∀ listed a i, i ∈ safe → listed.size = ops.size → Inv listed a → wpOp P ops Q i (fun a' w' => Inv (listed.setIfInBounds i true) a' ∧ w' = w.drew) a w.drew)
    (hdie : ∀ listed a, (∀ i, waits ops die i = true → listed.getD i false = true) → Inv listed a → wpOp P ops Q die (fun _ _ => False) a w.drew) : (Code.region id ops true).wp P Q a w := by
  refine wp_region_any hm ?_
  refine die_any hok Inv w.drew hstep hdie _ _ _ (by simp) (fun j h => ?_) (Nat.lt_of_le_of_lt (List.length_filter_le _ _) hlen) hI
  simp only [Array.getD_eq_getD_getElem?, Array.getElem?_replicate] at h
  split at h <;> simp at h
/-- A call of a function value that panics. -/
theorem die_fv {i : Nat} {o : Oper} {a : Act} {w : World} {f : Nat} {c : Call} {s : Operand} {args : Array Value} (hi : ops[i]? = some o) (hw : Region.wanted o (yielded ops a.tmps) = true) (ho : o.op = .call c) (hc : c.callee = .value s) (hs : a.eval s = .func (.func f) #[] #[]) (hen : ∀ args w, (callFunc f args).run P w = .ok (.enter f args) w) (ha : c.args.map a.eval = args)
    (h : Calls P f args w fun e w' => ∃ ch, e = .panicked ch ∧ Q (.panic ch) a w') : wpOp P ops Q i (fun _ _ => False) a w := by
  unfold wpOp
  simp only [hi, hw, if_true]
  refine .inl ?_
  unfold Oper.wp
  have h1 : (execOp a.eval o).run P w = .ok (.enter f args) w := by
    simp only [execOp, ho, resolve, hc, ha, hs, Deferred.ofValue, invoke, Sem.run_bind, Sem.run_pure, Result.andThen_ok]
    have e1 := hen (#[] ++ args ++ #[]) w
    simp only [Array.empty_append, Array.append_empty] at e1 ⊢
    exact e1
  rw [h1]
  refine Calls.mono h ?_
  rintro e w' ⟨ch, rfl, h⟩
  exact h
/-- An operation that only reads. -/
theorem die_op {i : Nat} {o : Oper} {a : Act} {w : World} {v : Value} {K : Act → World → Prop} (hi : ops[i]? = some o) (hw : Region.wanted o (yielded ops a.tmps) = true) (hy : (execOp a.eval o).run P w = .ok (.value v) w) (h : K (a.put o.dst v) w) : wpOp P ops Q i K a w := by
  unfold wpOp
  simp only [hi, hw, if_true]
  refine .inl ?_
  unfold Oper.wp
  rw [hy]
  exact h
theorem put_ne {a : Act} {d j : Nat} {v : Value} (h : d ≠ j) : (a.put (some d) v).tmps[j]?.getD undef = a.tmps[j]?.getD undef := by simp [Act.put, Array.getElem?_setIfInBounds, h]
theorem put_eq {a : Act} {d : Nat} {v : Value} (h : d < a.tmps.size) : (a.put (some d) v).tmps[d]?.getD undef = v := by simp [Act.put, h]
theorem put_size {a : Act} {d : Option Nat} {v : Value} : (a.put d v).tmps.size = a.tmps.size := by cases d <;> simp [Act.put]
theorem put_defers {a : Act} {d : Option Nat} {v : Value} : (a.put d v).defers = a.defers := by cases d <;> rfl
end
end Go.Proofs.YtclkfmblogkakaaGreatDoor
namespace Go.Proofs.YtclkfmblogkakaaGreatDoor
open Go.RowKit Go.Shelf
set_option linter.unusedVariables false
set_option maxRecDepth 100000
theorem sorted_one {cf : Ro → Ro → Int} (hcm : Cm cf) {D S S' : List Ro} (h : Sorted cf D S) (h' : Sorted cf D S') (hD : ∀ x ∈ D, ∀ y ∈ D, cf x y = 0 → x = y) : S = S' := by
  have hp : ∀ {T : List Ro}, Sorted cf D T → T.Pairwise (fun a b => cf a b ≤ 0) := fun {T} k => List.pairwise_iff_getElem.2 fun i j hi hj hij => by
    have h1 := k.2 i j hij (by rw [← k.1.length_eq]; exact hj)
    rwa [rog_get hi, rog_get hj] at h1
  exact List.Perm.eq_of_pairwise (le := fun a b : Ro => cf a b ≤ 0) (fun a b ha hb h1 h2 => hD a (h.1.mem_iff.1 ha) b (h'.1.mem_iff.1 hb) (by have := hcm.flip a b; have h3 : cf a b ≤ 0 := h1; have h4 : cf b a ≤ 0 := h2; omega)) (hp h) (hp h') (h.1.trans h'.1.symm)
def u1 : Up := ⟨tenP, 2, false, 5, 7⟩
def u2 : Up := ⟨tenP, 1, false, 5, 9⟩
def u3 : Up := ⟨tenP, 1, true, 0, 0⟩
def x1 : Ro := ⟨tenP, 2, 5, 7⟩
def x2 : Ro := ⟨tenP, 1, 5, 9⟩
theorem ten_zero : cmpP tenP tenP = 0 := (cmpP_zero _ _).2 rfl
theorem r21 : cmpR x2 x1 = -1 := by rw [cmpR_eq, show cmpP x2.p x1.p = 0 from ten_zero, if_pos rfl]; decide
theorem b21 : cmpB1 x2 x1 = -1 := by rw [cmpB1_eq, show cmpP x2.p x1.p = 0 from ten_zero, if_pos rfl]; decide
theorem okRo_1 : okRo x1 := ⟨ten_okP, by decide, by decide, by decide⟩
theorem okRo_2 : okRo x2 := ⟨ten_okP, by decide, by decide, by decide⟩
theorem okRib_nil : okRib [] := ⟨fun j hj => by simp at hj, fun j hj => by simp at hj, by rw [show fstL [] = [] from rfl]; simp⟩
theorem okRib_1 : okRib [x1] := ⟨fun j hj => by
  obtain rfl : j = 0 := by simpa using hj
  exact okRo_1, fun j hj => by simp at hj, by have := fstL_len [x1]; simp at this; omega⟩
theorem okRib_2 : okRib [x2, x1] := ⟨fun j hj => by
  rcases (show j = 0 ∨ j = 1 by simp at hj; omega) with rfl | rfl
  · exact okRo_2
  · exact okRo_1, fun j hj => by
  obtain rfl : j = 0 := by simp at hj; omega
  show cmpR x2 x1 < 0
  rw [r21]; decide, by have := fstL_len [x2, x1]; simp at this; omega⟩
theorem ne_12 : ¬ spk u2 x1 := fun h => by have := h.2; revert this; decide
theorem okBat_12 : okBat [u1, u2] := ⟨by decide, fun j hj => by
  rcases (show j = 0 ∨ j = 1 by simp at hj; omega) with rfl | rfl
  · exact okRo_1
  · exact okRo_2, fun j hj i hi => by
  obtain ⟨rfl, rfl⟩ : j = 1 ∧ i = 0 := by simp at hj; omega
  exact ne_12⟩
theorem okBat_3 : okBat [u3] := ⟨by decide, fun j hj => by
  obtain rfl : j = 0 := by simpa using hj
  exact ⟨ten_okP, by decide, rfl, rfl⟩, fun j hj i hi => by simp at hj; omega⟩
theorem run_12 : runU [] [u1, u2] = some [x1, x2] := by
  have h1 : ¬ badU [] u1 := fun h => by have := h.1; cases this
  have h2 : ¬ badU [x1] u2 := fun h => by have := h.1; cases this
  have e1 : stepL [] u1 = [x1] := rfl
  have s2 : ¬ spotF u2 [x1] < [x1].length := spotF_none fun j hj => by
    obtain rfl : j = 0 := by simpa using hj
    exact ne_12
  have e2 : stepL [x1] u2 = [x1, x2] := by
    rw [stepL, if_neg (by decide), rest1, if_neg s2]; rfl
  rw [runU, if_neg h1, e1, runU, if_neg h2, e2, runU]
theorem run_3 : runU [x2, x1] [u3] = some [x1] := by
  have s3 : spotF u3 [x2, x1] = 0 := spotF_of (by simp) ⟨rfl, rfl⟩ (fun j hj => by omega)
  have h1 : ¬ badU [x2, x1] u3 := fun h => h.2 (by rw [s3]; simp)
  have e1 : stepL [x2, x1] u3 = [x1] := by
    rw [stepL, if_pos (by decide), rest1, if_pos (by rw [s3]; simp), s3]; rfl
  rw [runU, if_neg h1, e1, runU]
theorem apart_12 {cf : Ro → Ro → Int} (hcm : Cm cf) (h : cf x2 x1 = -1) : ∀ D : List Ro, D.Perm [x1, x2] → ∀ x ∈ D, ∀ y ∈ D, cf x y = 0 → x = y := fun D hD x hx y hy h0 => by
  have hx := hD.mem_iff.1 hx
  have hy := hD.mem_iff.1 hy
  have hf := hcm.flip x1 x2
  simp only [List.mem_cons, List.not_mem_nil, or_false] at hx hy
  rcases hx with rfl | rfl <;> rcases hy with rfl | rfl
  · rfl
  · omega
  · omega
  · rfl
theorem sort_12 {cf : Ro → Ro → Int} (hcm : Cm cf) (h : cf x2 x1 = -1) {D S : List Ro} (hD : D.Perm [x1, x2]) (hS : Sorted cf D S) : S = [x2, x1] :=
  sorted_one hcm hS ⟨(List.Perm.swap x1 x2 []).trans hD.symm, fun i j hij hj => by
    have hl := hD.length_eq
    obtain ⟨rfl, rfl⟩ : i = 0 ∧ j = 1 := by simp at hl; omega
    show cf x2 x1 ≤ 0
    rw [h]; decide⟩ (apart_12 hcm h D hD)
theorem wk_1 {M : List Ro} {er : Int} (h : AppR [] [u1, u2] M er) : M = [x2, x1] ∧ er = 0 := by
  cases h with
  | rib h => exact absurd okRib_nil h
  | bat _ h => exact absurd okBat_12 h
  | gone _ _ h => rw [run_12] at h; cases h
  | full _ _ h hS hl =>
    rw [run_12] at h; cases h
    have := Nat.le_trans (fstL_len _) (Nat.le_of_eq hS.1.length_eq)
    exact absurd (Nat.le_trans this (by simp)) hl
  | good _ _ h hS _ =>
    rw [run_12] at h; cases h
    exact ⟨sort_12 cm_r r21 (List.Perm.refl _) hS, rfl⟩
theorem wk_2 {T : List Rt} {er : Int} (h : BestR [x2, x1] T er) : T = [⟨tenP, 9⟩] ∧ er = 0 := by
  cases h with
  | rib h => exact absurd okRib_2 h
  | good _ hS =>
    obtain rfl := sort_12 cm_b b21 (List.Perm.swap x1 x2 []) hS
    refine ⟨?_, rfl⟩
    have : fstL [x2, x1] = [x2] := by
      show fstN [x2, x1] 2 = _
      rw [fstN_old (by decide) rfl, fstN_new (.inl rfl)]; rfl
    rw [this]; rfl
theorem wk_3 {M : List Ro} {er : Int} (h : AppR [x2, x1] [u3] M er) : M = [x1] ∧ er = 0 := by
  cases h with
  | rib h => exact absurd okRib_2 h
  | bat _ h => exact absurd okBat_3 h
  | gone _ _ h => rw [run_3] at h; cases h
  | full _ _ h hS hl =>
    rw [run_3] at h; cases h
    have := Nat.le_trans (fstL_len _) (Nat.le_of_eq hS.1.length_eq)
    exact absurd (Nat.le_trans this (by simp)) hl
  | good _ _ h hS _ =>
    rw [run_3] at h; cases h
    exact ⟨List.perm_singleton.1 hS.1, rfl⟩
theorem wk_4 {T : List Rt} {er : Int} (h : BestR [x1] T er) : T = [⟨tenP, 7⟩] ∧ er = 0 := by
  cases h with
  | rib h => exact absurd okRib_1 h
  | good _ hS =>
    obtain rfl := List.perm_singleton.1 hS.1
    refine ⟨?_, rfl⟩
    have : fstL [x1] = [x1] := by
      show fstN [x1] 1 = _
      rw [fstN_new (.inl rfl)]; rfl
    rw [this]; rfl
end Go.Proofs.YtclkfmblogkakaaGreatDoor
namespace Go.Proofs.YtclkfmblogkakaaGreatDoor
set_option linter.unusedVariables false

section
variable {P : Program} {ops : Array Oper} {Q : Exit → Act → World → Prop} {S : World → Prop} {Pre : Nat → World → Prop} {Φ : Nat → Value → World → Prop} {mk eff tail : List Nat}

/-- In every world that meets S the operation gives v, and leaves the world as it is; it calls nothing. -/
def StillP (P : Program) (ops : Array Oper) (S : World → Prop) (o : Oper) (v : Value) (a : Act) : Prop :=
  (Region.wanted o (yielded ops a.tmps) = true ∧ ∀ w, S w → (execOp a.eval o).run P w = .ok (.value v) w) ∨
  (Region.wanted o (yielded ops a.tmps) = false ∧ v = undef)
theorem StillP.of_same {o : Oper} {v : Value} {a a' : Act} (hy : StillP P ops S o v a) (he : execOp a'.eval o = execOp a.eval o)
    (hw : Region.wanted o (yielded ops a'.tmps) = Region.wanted o (yielded ops a.tmps)) : StillP P ops S o v a' := by
  unfold StillP at *
  rw [he, hw]
  exact hy
theorem StillP.inj {o : Oper} {v u : Value} {a : Act} {w : World} (h : StillP P ops S o v a) (k : StillP P ops S o u a) (hS : S w) : v = u := by
  rcases h with ⟨h1, h2⟩ | ⟨h1, rfl⟩
  · rcases k with ⟨k1, k2⟩ | ⟨k1, rfl⟩
    · have := (h2 w hS).symm.trans (k2 w hS)
      injection this with e1
      injection e1
    · rw [h1] at k1; cases k1
  · rcases k with ⟨k1, k2⟩ | ⟨k1, rfl⟩
    · rw [h1] at k1; cases k1
    · rfl
/-- The operations ahead of the tail; those of mk make memory, and give what Φ says. -/
def LinV (P : Program) (ops : Array Oper) (Q : Exit → Act → World → Prop) (S : World → Prop) (Pre : Nat → World → Prop) (Φ : Nat → Value → World → Prop) (mk eff tail : List Nat) : List Nat → List (Nat × Value) → Act → Prop
  | [], F, a => ∀ w, S w → (∀ p ∈ F, Φ p.1 p.2 w) → LinX P ops Q (fun _ => True) eff tail a w
  | i :: r, F, a => ∃ o, ops[i]? = some o ∧ (mk.contains i = false → ∃ v, StillP P ops S o v a ∧ LinV P ops Q S Pre Φ mk eff tail r F (a.put o.dst v)) ∧
      (mk.contains i = true → (∀ w, S w → Pre i w → (∀ p ∈ F, reach ops 14 i p.1 = true → Φ p.1 p.2 w) → Moves P ops (fun _ => True) o a w fun v w' => S w' ∧ (∀ d, d ≠ i → Pre d w → Pre d w') ∧ (∀ d u, d ≠ i → Φ d u w → Φ d u w') ∧ Φ i v w') ∧ ∀ v, (∃ w, Φ i v w) → LinV P ops Q S Pre Φ mk eff tail r ((i, v) :: F) (a.put o.dst v))

theorem LinV.facts : ∀ (r : List Nat) {F G : List (Nat × Value)} {a : Act}, (∀ p, p ∈ F ↔ p ∈ G) → LinV P ops Q S Pre Φ mk eff tail r F a → LinV P ops Q S Pre Φ mk eff tail r G a
  | [], F, G, a, h, k => fun w hS hG => k w hS (fun p hp => hG p ((h p).1 hp))
  | i :: r, F, G, a, h, ⟨o, ho, k1, k2⟩ => ⟨o, ho, fun hm => by
      obtain ⟨v, h1, h2⟩ := k1 hm
      exact ⟨v, h1, LinV.facts r h h2⟩, fun hm => by
      obtain ⟨h1, h2⟩ := k2 hm
      exact ⟨fun w hS hQ hG => h1 w hS hQ (fun p hp => hG p ((h p).1 hp)), fun v hv => LinV.facts r (fun p => by simp only [List.mem_cons, h p]) (h2 v hv)⟩⟩

theorem LinV.swap {i j : Nat} {x y : Oper} {r : List Nat} {F : List (Nat × Value)} {a : Act} (hi : ops[i]? = some x) (hj : ops[j]? = some y) (hx : ∀ cs b, x.op ≠ .select cs b) (hy : ∀ cs b, y.op ≠ .select cs b) (hap : x.apart ops y = true) (hij : i ≠ j) (hr1 : reach ops 14 j i = false) (hr2 : reach ops 14 i j = false) (w0 : World) (hS0 : S w0)
    (hne : ∀ i, mk.contains i = true → ∃ v w, Φ i v w)
    (h : LinV P ops Q S Pre Φ mk eff tail (i :: j :: r) F a) : LinV P ops Q S Pre Φ mk eff tail (j :: i :: r) F a := by
  obtain ⟨h1, h2, h3⟩ := Oper.apart_spec hap
  have ey : ∀ (v : Value), execOp (a.put x.dst v).eval y = execOp a.eval y := fun v => execOp_put y hy a x.dst v h1
  have wy : ∀ (v : Value), Region.wanted y (yielded ops (a.put x.dst v).tmps) = Region.wanted y (yielded ops a.tmps) := fun v => wanted_put y a x.dst v h1
  have ex : ∀ (v : Value), execOp (a.put y.dst v).eval x = execOp a.eval x := fun v => execOp_put x hx a y.dst v h3
  have wx : ∀ (v : Value), Region.wanted x (yielded ops (a.put y.dst v).tmps) = Region.wanted x (yielded ops a.tmps) := fun v => wanted_put x a y.dst v h3
  obtain ⟨x', hx', p1, p2⟩ := h
  obtain rfl : x' = x := Option.some.inj (hx'.symm.trans hi)
  refine ⟨y, hj, fun hmj => ?_, fun hmj => ?_⟩
  · cases hmi : mk.contains i with
    | false =>
      obtain ⟨vx, gx, y', hy', q1, _⟩ := p1 hmi
      obtain rfl : y' = y := Option.some.inj (hy'.symm.trans hj)
      obtain ⟨vy, gy, h4⟩ := q1 hmj
      refine ⟨vy, gy.of_same (ey vx).symm (wy vx).symm, _, hi, fun _ => ⟨vx, gx.of_same (ex vy) (wx vy), ?_⟩, fun h9 => by rw [hmi] at h9; cases h9⟩
      rw [← Act.put_comm a vx vy h2]
      exact h4
    | true =>
      obtain ⟨gx, hc⟩ := p2 hmi
      obtain ⟨v0, wz, hz⟩ := hne i hmi
      obtain ⟨y', hy', q1, _⟩ := hc v0 ⟨wz, hz⟩
      obtain rfl : y' = y := Option.some.inj (hy'.symm.trans hj)
      obtain ⟨vy, gy, _⟩ := q1 hmj
      have gy' := gy.of_same (ey v0).symm (wy v0).symm
      refine ⟨vy, gy', _, hi, (fun h9 => by rw [hmi] at h9; cases h9), fun _ => ⟨fun w hS hQ hG => Moves.of_same (gx w hS hQ hG) (ex vy) (wx vy), fun v hv => ?_⟩⟩
      obtain ⟨y'', hy'', q2, _⟩ := hc v hv
      obtain rfl : y'' = y' := Option.some.inj (hy''.symm.trans hj)
      obtain ⟨vy2, gy2, h5⟩ := q2 hmj
      have e : vy2 = vy := StillP.inj (gy2.of_same (ey v).symm (wy v).symm) gy' hS0
      subst e
      rw [← Act.put_comm a v vy2 h2]
      exact h5
  · cases hmi : mk.contains i with
    | false =>
      obtain ⟨vx, gx, y', hy', _, q2⟩ := p1 hmi
      obtain rfl : y' = y := Option.some.inj (hy'.symm.trans hj)
      obtain ⟨gy, hc⟩ := q2 hmj
      refine ⟨fun w hS hQ hG => Moves.of_same (gy w hS hQ hG) (ey vx).symm (wy vx).symm, fun v hv => ⟨_, hi, fun _ => ⟨vx, gx.of_same (ex v) (wx v), ?_⟩, fun h9 => by rw [hmi] at h9; cases h9⟩⟩
      rw [← Act.put_comm a vx v h2]
      exact hc v hv
    | true =>
      obtain ⟨gx, hc⟩ := p2 hmi
      obtain ⟨v0, wz, hz⟩ := hne i hmi
      obtain ⟨y', hy', _, q2⟩ := hc v0 ⟨wz, hz⟩
      obtain rfl : y' = y := Option.some.inj (hy'.symm.trans hj)
      obtain ⟨gy, _⟩ := q2 hmj
      refine ⟨fun w hS hQ hG => Moves.of_same (gy w hS hQ (fun p hp hr => ?_)) (ey v0).symm (wy v0).symm, fun v hv => ⟨_, hi, (fun h9 => by rw [hmi] at h9; cases h9), fun _ => ⟨fun w hS hQ hG => Moves.of_same (gx w hS hQ (fun p hp hr => hG p (by simp [hp]) hr)) (ex v) (wx v), fun v2 hv2 => ?_⟩⟩⟩
      · rcases List.mem_cons.1 hp with rfl | hp
        · rw [hr1] at hr; cases hr
        · exact hG p hp hr
      · obtain ⟨y'', hy'', _, q3⟩ := hc v2 hv2
        obtain rfl : y'' = y' := Option.some.inj (hy''.symm.trans hj)
        have := (q3 hmj).2 v hv
        rw [Act.put_comm a v2 v h2] at this
        exact LinV.facts r (fun p => by simp only [List.mem_cons]; constructor <;> (rintro (h | h | h) <;> simp [h])) this

theorem LinV.under {i : Nat} {X Y : List Nat} {F : List (Nat × Value)} {a : Act} (h : ∀ F a, LinV P ops Q S Pre Φ mk eff tail X F a → LinV P ops Q S Pre Φ mk eff tail Y F a) (k : LinV P ops Q S Pre Φ mk eff tail (i :: X) F a) : LinV P ops Q S Pre Φ mk eff tail (i :: Y) F a := by
  obtain ⟨o, ho, k1, k2⟩ := k
  exact ⟨o, ho, fun hm => by
    obtain ⟨v, h1, h2⟩ := k1 hm
    exact ⟨v, h1, h _ _ h2⟩, fun hm => ⟨(k2 hm).1, fun v hv => h _ _ ((k2 hm).2 v hv)⟩⟩
theorem LinV.front {j : Nat} {y : Oper} {T2 : List Nat} (hj : ops[j]? = some y) (hy : ∀ cs b, y.op ≠ .select cs b) (w0 : World) (hS0 : S w0) (hne : ∀ i, mk.contains i = true → ∃ v w, Φ i v w) :
    ∀ (T1 : List Nat) (F : List (Nat × Value)) (a : Act), (∀ i ∈ T1, ∃ x, ops[i]? = some x ∧ (∀ cs b, x.op ≠ .select cs b) ∧ x.apart ops y = true ∧ i ≠ j ∧ reach ops 14 j i = false ∧ reach ops 14 i j = false) → LinV P ops Q S Pre Φ mk eff tail (T1 ++ j :: T2) F a → LinV P ops Q S Pre Φ mk eff tail (j :: (T1 ++ T2)) F a
  | [], _, _, _, h => h
  | i :: T1, F, a, hap, h => by
    obtain ⟨x, hi, hx, hxy, h1, h2, h3⟩ := hap i (by simp)
    have h5 := LinV.under (fun F a => LinV.front hj hy w0 hS0 hne T1 F a (fun k hk => hap k (by simp [hk]))) h
    exact LinV.swap hi hj hx hy hxy h1 h2 h3 w0 hS0 hne h5
def pairsV (ops : Array Oper) : List Nat → Bool
  | [] => true
  | i :: r => r.all (fun j => !reach ops 14 i j) && pairsV ops r
theorem pairsV_split : ∀ (L1 : List Nat) {j : Nat} {L2 : List Nat}, pairsV ops (L1 ++ j :: L2) = true → ∀ i ∈ L1, reach ops 14 i j = false
  | [], _, _, _ => by simp
  | k :: L1, j, L2, h => by
    simp only [List.cons_append, pairsV, Bool.and_eq_true] at h
    intro i hi
    rcases List.mem_cons.1 hi with rfl | hi
    · have := List.all_eq_true.1 h.1 j (by simp)
      simpa using this
    · exact pairsV_split L1 h.2 i hi
def ordOkV (ops : Array Oper) (eff pre tail : List Nat) : Bool :=
  ordOkY ops eff (pre ++ tail) && (pairsV ops pre && (tail.all fun t => pre.all fun i => reach ops 14 t i))

theorem left_app (listed : Array Bool) (L M : List Nat) : left listed (L ++ M) = left listed L ++ left listed M := by simp [left]
theorem linV_any {pre : List Nat} (hok : ordOkV ops eff pre tail = true) (hne : ∀ i, mk.contains i = true → ∃ v w, Φ i v w) : ∀ (fuel : Nat) (listed : Array Bool) (a : Act) (w : World) (F : List (Nat × Value)), listed.size = ops.size → ClosedL ops listed → (left listed (pre ++ tail)).length ≤ fuel → left listed tail = tail → S w → (∀ i ∈ left listed pre, Pre i w) → (∀ p ∈ F, Φ p.1 p.2 w ∧ listed.getD p.1 false = true) → LinV P ops Q S Pre Φ mk eff tail (left listed pre) F a → wpAny P .any ops Q fuel listed a w := by
  have hok2 := hok
  simp only [ordOkV, Bool.and_eq_true] at hok
  obtain ⟨hokY, hpv, htl⟩ := hok
  have hokY2 := hokY
  simp only [ordOkY, Bool.and_eq_true] at hokY
  obtain ⟨⟨hns, _⟩, hall0, hpairs⟩ := hokY
  have hsel : ∀ (j : Nat) (o : Oper), ops[j]? = some o → ∀ cs b, o.op ≠ .select cs b := fun j o ho cs b => Region.noSelect_spec hns j o cs b ho
  have hin : ∀ j oj, ops[j]? = some oj → j ∈ pre ++ tail := by
    intro j oj hoj
    have h1 := List.all_eq_true.1 hall0 j (List.mem_range.2 (Array.getElem?_eq_some_iff.1 hoj).1)
    simp only [hoj, Bool.and_eq_true] at h1
    exact List.contains_iff_mem.1 h1.1
  intro fuel
  induction fuel with
  | zero =>
    intro listed a w F hsz hcl hlen ht hS hP hF hL
    rw [left_app, List.length_append] at hlen
    have h0 : left listed pre = [] := List.length_eq_zero_iff.1 (by omega)
    rw [h0] at hL
    refine linY_any (S := fun _ => True) hokY2 0 listed a w hsz hcl (by rw [left_app, List.length_append]; omega) trivial ?_
    rw [left_app, h0, ht]
    exact hL w hS (fun p hp => (hF p hp).1)
  | succ fuel ih =>
    intro listed a w F hsz hcl hlen ht hS hP hF hL
    by_cases h0 : left listed pre = []
    · rw [h0] at hL
      refine linY_any (S := fun _ => True) hokY2 (fuel + 1) listed a w hsz hcl hlen trivial ?_
      rw [left_app, h0, ht]
      exact hL w hS (fun p hp => (hF p hp).1)
    · obtain ⟨i0, r0, hi0⟩ := List.exists_cons_of_ne_nil h0
      have hi0m : i0 ∈ pre ∧ listed.getD i0 true = false := by
        have : i0 ∈ left listed pre := by rw [hi0]; simp
        have h1 := List.mem_filter.1 this
        exact ⟨h1.1, by simpa using h1.2⟩
      have nott : ∀ j ∈ Region.ready .any ops listed, j ∉ tail := by
        intro j hj hjt
        obtain ⟨_, oj, hoj, hall⟩ := mem_ready.1 hj
        have h1 := List.all_eq_true.1 (List.all_eq_true.1 htl j hjt) i0 hi0m.1
        have h2 := reach_spec hcl 14 j i0 hoj hall h1
        have h3 := hi0m.2
        by_cases h4 : i0 < listed.size
        · simp [h4] at h2 h3
          rw [h2] at h3; cases h3
        · simp [h4] at h3
      refine ⟨fun hr => ?_, fun j hj => ?_⟩
      · exfalso
        have := linY_any (P := P) (Q := fun _ _ _ => True) (S := fun _ => True) hokY2
        -- nothing is ready: all is listed
        have key : ∀ j, listed.getD j true = true := by
          intro j
          induction j using Nat.strongRecOn with
          | ind j ihj =>
            cases hb : listed.getD j true with
            | true => rfl
            | false =>
              have hj : j < ops.size := by
                rcases Nat.lt_or_ge j listed.size with h' | h'
                · omega
                · simp [Array.getElem?_eq_none h'] at hb
              have hoj : ops[j]? = some ops[j] := Array.getElem?_eq_getElem hj
              have hm : j ∈ Region.ready .any ops listed := mem_ready.2 ⟨hb, _, hoj, fun e he hbd => by
                have h1 := List.all_eq_true.1 hall0 j (List.mem_range.2 hj)
                simp only [hoj, Bool.and_eq_true, Array.all_eq_true_iff_forall_mem] at h1
                have h2 := h1.2 e he
                have hlt : e.on < j := by simpa [hbd] using h2
                have h9 := ihj e.on hlt
                have h8 : e.on < listed.size := by omega
                simp [h8] at h9 ⊢
                exact h9⟩
              rw [hr] at hm
              cases hm
        rw [key i0] at hi0m
        cases hi0m.2
      · obtain ⟨hun, oj, hoj, hall⟩ := mem_ready.1 hj
        have hjp : j ∈ pre := by
          rcases List.mem_append.1 (hin j oj hoj) with h | h
          · exact h
          · exact absurd h (nott j hj)
        obtain ⟨L1, L2, hord⟩ := List.append_of_mem hjp
        have hpairs2 := hpairs
        rw [hord, List.append_assoc, List.cons_append] at hpairs2
        obtain ⟨hn1, hn2, hp⟩ := pairsOkY_split L1 hpairs2
        have hn2' : j ∉ L2 := fun h => hn2 (by simp [h])
        have hnt : j ∉ tail := fun h => hn2 (by simp [h])
        have hpv2 := hpv
        rw [hord] at hpv2
        have hv := pairsV_split L1 hpv2
        have hlt : j < listed.size := by have := (Array.getElem?_eq_some_iff.1 hoj).1; omega
        have el : left listed pre = left listed L1 ++ j :: left listed L2 := by
          rw [hord, left_app]
          unfold left
          rw [List.filter_cons, hun]
          simp
        have el2 : left (listed.setIfInBounds j true) pre = left listed L1 ++ left listed L2 := by
          rw [hord, left_app, left_set _ _ _ hn1]
          congr 1
          have : left (listed.setIfInBounds j true) (j :: L2) = left (listed.setIfInBounds j true) L2 := by
            unfold left
            rw [List.filter_cons]
            simp [hlt]
          rw [this, left_set _ _ _ hn2']
        have et : left (listed.setIfInBounds j true) tail = tail := by rw [left_set _ _ _ hnt, ht]
        rw [el] at hL
        have hL2 := LinV.front hoj (hsel j oj hoj) w hS hne (left listed L1) F a (fun i hi => by
          have hi1 := List.mem_filter.1 hi
          obtain ⟨hil, hc⟩ := hp i hi1.1
          have hui : listed.getD i true = false := by simpa using hi1.2
          have hoi : ops[i]? = some ops[i] := Array.getElem?_eq_getElem hil
          have hrj : reach ops 14 j i = false := by
            cases hb : reach ops 14 j i with
            | false => rfl
            | true =>
              have h8 := reach_spec hcl 14 j i hoj hall hb
              have h7 : i < listed.size := by omega
              simp [h7] at h8 hui
              rw [hui] at h8
              cases h8
          rcases hc with h9 | h9
          · refine ⟨_, hoi, hsel i _ hoi, ?_, (fun e => hn1 (e ▸ hi1.1)), hrj, hv i hi1.1⟩
            have h7 := h9.1
            unfold pairApart at h7
            simp only [hoi, hoj] at h7
            exact h7
          · rw [hrj] at h9; cases h9) hL
        obtain ⟨oj', hoj', q1, q2⟩ := hL2
        obtain rfl : oj' = oj := Option.some.inj (hoj'.symm.trans hoj)
        have hlen2 : (left (listed.setIfInBounds j true) (pre ++ tail)).length ≤ fuel := by
          rw [left_app, List.length_append, el2, et]
          rw [left_app, List.length_append, el, ht] at hlen
          simp at hlen ⊢
          omega
        have hFl : ∀ p ∈ F, (listed.setIfInBounds j true).getD p.1 false = true := fun p hp9 => by
          have h1 := (hF p hp9).2
          by_cases e : p.1 = j
          · rw [e]; simp [hlt]
          · rw [getD_set_ne false (fun h => e h.symm)]; exact h1
        unfold wpOp
        simp only [hoj]
        cases hv9 : mk.contains j with
        | false =>
          obtain ⟨v, g, h5⟩ := q1 hv9
          have hnext := ih (listed.setIfInBounds j true) (a.put oj'.dst v) w F (by simp [hsz]) (closedL_set hcl hj) hlen2 et hS (fun i hi => hP i (by rw [el2] at hi; rw [el]; rcases List.mem_append.1 hi with h | h <;> simp [h])) (fun p hp9 => ⟨(hF p hp9).1, hFl p hp9⟩) (by rw [el2]; exact h5)
          rcases g with ⟨hw, hy⟩ | ⟨hw, rfl⟩
          · simp only [hw, if_true]
            refine .inl ?_
            unfold Oper.wp
            rw [hy w hS]
            exact hnext
          · simp only [hw, Bool.false_eq_true, if_false]
            exact hnext
        | true =>
          obtain ⟨hm, hc⟩ := q2 hv9
          obtain ⟨hw, hmv⟩ := hm w hS (hP j (by rw [el]; simp)) (fun p hp9 _ => (hF p hp9).1)
          simp only [hw, if_true]
          refine .inl ?_
          have hnext : ∀ v w', (S w' ∧ (∀ d, d ≠ j → Pre d w → Pre d w') ∧ (∀ d u, d ≠ j → Φ d u w → Φ d u w') ∧ Φ j v w') → wpAny P .any ops Q fuel (listed.setIfInBounds j true) (a.put oj'.dst v) w' := fun v w' ⟨k1, k0, k2, k3⟩ =>
            ih (listed.setIfInBounds j true) (a.put oj'.dst v) w' ((j, v) :: F) (by simp [hsz]) (closedL_set hcl hj) hlen2 et k1 (fun i hi => by
              have hi2 := List.mem_filter.1 hi
              refine k0 i (fun e => ?_) (hP i (by rw [el2] at hi; rw [el]; rcases List.mem_append.1 hi with h | h <;> simp [h]))
              subst e
              simp [hlt] at hi2) (fun p hp9 => by
              rcases List.mem_cons.1 hp9 with rfl | hp9
              · exact ⟨k3, by simp [hlt]⟩
              · refine ⟨k2 _ _ (fun e => ?_) (hF p hp9).1, hFl p hp9⟩
                have h1 := (hF p hp9).2
                rw [e] at h1
                simp [hlt] at h1 hun
                rw [hun] at h1; cases h1) (by rw [el2]; exact hc v ⟨w', k3⟩)
          unfold Oper.wp
          rcases hmv with ⟨v, w', h6 | ⟨h6, rfl⟩, _, h8⟩ | ⟨f, args, w1, h6, h7⟩
          · rw [h6]
            exact hnext _ _ h8
          · rw [h6]
            exact hnext _ _ h8
          · rw [h6]
            refine Calls.mono h7 ?_
            rintro e w' ⟨v, rfl, _, h9⟩
            exact hnext _ _ h9

/-- THE BEGINNING. -/
theorem wp_region_linV {id : Nat} {a : Act} {w : World} (S : World → Prop) (Pre : Nat → World → Prop) (Φ : Nat → Value → World → Prop) (mk eff pre tail : List Nat) (hm : P.follows .mixedOrders = true) (hok : ordOkV ops eff pre tail = true) (hne : ∀ i, mk.contains i = true → ∃ v w, Φ i v w) (hS : S w.drew) (hP : ∀ i, Pre i w.drew) (h : LinV P ops Q S Pre Φ mk eff tail pre [] a) : (Code.region id ops true).wp P Q a w := by
  refine wp_region_any hm ?_
  have hok2 := hok
  simp only [ordOkV, ordOkY, Bool.and_eq_true] at hok
  have hlt : ∀ i ∈ pre ++ tail, i < ops.size := by
    intro i hi
    obtain ⟨L1, L2, hord⟩ := List.append_of_mem hi
    have h3 := hok.1.2.2
    rw [hord] at h3
    have : ∀ (L1 : List Nat), pairsOkY ops eff (L1 ++ i :: L2) = true → i < ops.size := by
      intro L1
      induction L1 with
      | nil => intro h; simp only [List.nil_append, pairsOkY, Bool.and_eq_true, decide_eq_true_eq] at h; exact h.1
      | cons k L1 ih => intro h; simp only [List.cons_append, pairsOkY, Bool.and_eq_true] at h; exact ih h.2.2.2
    exact this L1 h3
  have hu : ∀ L : List Nat, (∀ i ∈ L, i < ops.size) → left (Array.replicate ops.size false) L = L := by
    intro L hL
    unfold left
    rw [List.filter_eq_self]
    intro i hi
    have := hL i hi
    simp [this]
  refine linV_any (S := S) hok2 hne _ _ _ _ [] (by simp) (fun j oj _ h => by simp only [Array.getD_eq_getD_getElem?, Array.getElem?_replicate] at h; split at h <;> simp at h) ?_ (hu tail (fun i hi => hlt i (by simp [hi]))) hS (fun i _ => hP i) (by simp) ?_
  · rw [hu _ hlt]
    simpa using hok.1.1.2
  · rw [hu pre (fun i hi => hlt i (by simp [hi]))]; exact h
theorem linV_nil {F : List (Nat × Value)} {a : Act} (h : ∀ w, S w → (∀ p ∈ F, Φ p.1 p.2 w) → LinX P ops Q (fun _ => True) eff tail a w) : LinV P ops Q S Pre Φ mk eff tail [] F a := h
theorem linV_op {i : Nat} {o : Oper} {r : List Nat} {F : List (Nat × Value)} {a : Act} {v : Value} (ho : ops[i]? = some o) (he : mk.contains i = false) (hw : Region.wanted o (yielded ops a.tmps) = true) (hy : ∀ w, S w → (execOp a.eval o).run P w = .ok (.value v) w) (h : LinV P ops Q S Pre Φ mk eff tail r F (a.put o.dst v)) : LinV P ops Q S Pre Φ mk eff tail (i :: r) F a :=
  ⟨o, ho, fun _ => ⟨v, .inl ⟨hw, hy⟩, h⟩, fun h9 => by rw [he] at h9; cases h9⟩
theorem linV_off {i : Nat} {o : Oper} {r : List Nat} {F : List (Nat × Value)} {a : Act} (ho : ops[i]? = some o) (he : mk.contains i = false) (hw : Region.wanted o (yielded ops a.tmps) = false) (h : LinV P ops Q S Pre Φ mk eff tail r F (a.put o.dst undef)) : LinV P ops Q S Pre Φ mk eff tail (i :: r) F a :=
  ⟨o, ho, fun _ => ⟨undef, .inr ⟨hw, rfl⟩, h⟩, fun h9 => by rw [he] at h9; cases h9⟩
/-- An operation that makes memory. -/
theorem linV_do {i : Nat} {o : Oper} {r : List Nat} {F : List (Nat × Value)} {a : Act} (ho : ops[i]? = some o) (he : mk.contains i = true) (hw : Region.wanted o (yielded ops a.tmps) = true)
    (hy : ∀ w, S w → Pre i w → (∀ p ∈ F, reach ops 14 i p.1 = true → Φ p.1 p.2 w) → ∃ v w', (execOp a.eval o).run P w = .ok (.value v) w' ∧ S w' ∧ (∀ d, d ≠ i → Pre d w → Pre d w') ∧ (∀ d u, d ≠ i → Φ d u w → Φ d u w') ∧ Φ i v w') (h : ∀ v, (∃ w, Φ i v w) → LinV P ops Q S Pre Φ mk eff tail r ((i, v) :: F) (a.put o.dst v)) : LinV P ops Q S Pre Φ mk eff tail (i :: r) F a :=
  ⟨o, ho, fun h9 => (by rw [he] at h9; cases h9), fun _ => ⟨fun w hS hQ hF => by
    obtain ⟨v, w', h1, h2⟩ := hy w hS hQ hF
    exact ⟨hw, .inl ⟨v, w', .inl h1, trivial, h2⟩⟩, h⟩⟩
/-- A call that makes memory. -/
theorem linV_call {i : Nat} {o : Oper} {r : List Nat} {F : List (Nat × Value)} {a : Act} {f : Nat} {c : Call} {args : Array Value} (hi : ops[i]? = some o) (he : mk.contains i = true) (hw : Region.wanted o (yielded ops a.tmps) = true) (ho : o.op = .call c) (hc : c.callee = .value (.func f)) (hen : ∀ args w, (callFunc f args).run P w = .ok (.enter f args) w) (ha : c.args.map a.eval = args)
    (hy : ∀ w, S w → Pre i w → (∀ p ∈ F, reach ops 14 i p.1 = true → Φ p.1 p.2 w) → Calls P f args w fun e w' => ∃ v, e = .returned v ∧ S w' ∧ (∀ d, d ≠ i → Pre d w → Pre d w') ∧ (∀ d u, d ≠ i → Φ d u w → Φ d u w') ∧ Φ i v w') (h : ∀ v, (∃ w, Φ i v w) → LinV P ops Q S Pre Φ mk eff tail r ((i, v) :: F) (a.put o.dst v)) : LinV P ops Q S Pre Φ mk eff tail (i :: r) F a := by
  refine ⟨o, hi, fun h9 => (by rw [he] at h9; cases h9), fun _ => ⟨fun w hS hQ hF => ⟨hw, .inr ⟨f, args, w, ?_, (hy w hS hQ hF).mono fun e w' ⟨v, h1, h2⟩ => ⟨v, h1, trivial, h2⟩⟩⟩, h⟩⟩
  simp only [execOp, ho, resolve, hc, ha, Act.eval, Deferred.ofValue, invoke, Sem.run_bind, Sem.run_pure, Result.andThen_ok]
  have e1 := hen (#[] ++ args ++ #[]) w
  simp only [Array.empty_append, Array.append_empty] at e1 ⊢
  exact e1
end
end Go.Proofs.YtclkfmblogkakaaGreatDoor
