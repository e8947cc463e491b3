/-
  The document's arena: a word stored. Nothing here is a statement of the document.
-/
import Derived.Test.YtgnpoehcmlmajaaRfJ
import Derived.Test.YtgnpoehcmlmajaaRgC
namespace Go.Proofs.Ytgnpoehcmlmajaa
open Go.RowKit Go.Shelf
set_option linter.unusedVariables false
theorem own_has {w : World} {B : Nat} {e : TypeId} {z : Nat} {g n c : Nat} {xs : List Value} (h : w.ownsRow B e z (.slice (some ⟨g, 0, none⟩) n c) n xs) : ∃ C, Blk w g e C := by
  rcases h.2 with ⟨h9, _⟩ | ⟨g', cap, cur, h9, _, hg, _⟩
  · cases h9
  · injection h9 with h9 _ _
    injection h9 with h9
    injection h9 with e1 _
    subst e1
    exact ⟨cur, hg⟩
theorem wvl_set (l : List Nat) (i y : Nat) : (wvl l).set i (.int .u32 (y : Int)) = wvl (l.set i y) := by
  simp [wvl, List.map_set]
theorem set_same {α : Type} {l : List α} {i j : Nat} {x y : α} (h : (l.set i x)[j]? = some y) : (i = j ∧ y = x ∧ i < l.length) ∨ (i ≠ j ∧ l[j]? = some y) := by
  rw [List.getElem?_set] at h
  split at h
  · rename_i e
    split at h
    · exact .inl ⟨e, by simpa using h.symm, by assumption⟩
    · cases h
  · exact .inr ⟨by assumption, h⟩
/-- What must hold of the document's arena whatever it lies in. -/
structure Mok (M : Mo) : Prop where
  ok : ∀ b ∈ M.R, b.c ≤ 5 ∧ b.ws.length = 2 ^ b.c ∧ b.x ≤ 20000
  uq : ∀ (i j : Nat) (b b' : Rb), M.R[i]? = some b → M.R[j]? = some b' → b.x = b'.x → i = j
  few : M.R.length ≤ 20000
  fewl : ∀ c, c ≤ 5 → (M.L c).length ≤ 20000
  small : M.N ≤ 16384
section
variable {w W W' : World} {g z lo : Nat} {bv : Value} {ls : Nat → Value} {vs : List Value} {M : Mo}
theorem Rfa.mok (h : Rfa w lo bv ls vs M) : Mok M := ⟨h.ok, h.uq, h.few, h.fewl, h.small⟩
theorem Mok.set (h : Mok M) {k : Nat} {b b' : Rb} (hb : M.R[k]? = some b) (hx : b'.x = b.x) (hc : b'.c = b.c) (hl : b'.ws.length = b.ws.length) : Mok { M with R := M.R.set k b' } := by
  have hok := h.ok b (List.mem_of_getElem? hb)
  have key : ∀ (i : Nat) (c : Rb), (M.R.set k b')[i]? = some c → ∃ d, M.R[i]? = some d ∧ d.x = c.x := fun i c hi => by
    rcases set_same hi with ⟨rfl, rfl, _⟩ | ⟨_, h9⟩
    · exact ⟨b, hb, hx.symm⟩
    · exact ⟨c, h9, rfl⟩
  refine ⟨fun c hc9 => ?_, fun i j c c' hi hj he => ?_, by simpa using h.few, h.fewl, h.small⟩
  · rcases List.mem_or_eq_of_mem_set hc9 with h9 | rfl
    · exact h.ok c h9
    · rw [hx, hc, hl]; exact hok
  · obtain ⟨d, hd, e1⟩ := key i c hi
    obtain ⟨d', hd', e2⟩ := key j c' hj
    exact h.uq i j d d' hd hd' (by omega)
/-- A word of a block. -/
theorem Rfa.store (h : Rfa w lo bv ls vs M) {k gw cw : Nat} {b : Rb} (hb : M.R[k]? = some b) (hv : vs[k]? = some (.slice (some ⟨gw, 0, none⟩) (2 ^ b.c) cw)) (i y : Nat) : Rfa (w.setCell ⟨gw, i, none⟩ (.int .u32 (y : Int))) lo bv ls vs { M with R := M.R.set k { b with ws := b.ws.set i y } } := by
  have hwd := h.wds k b _ hb hv
  obtain ⟨C, hC⟩ := own_has hwd
  have hm := h.mok.set (b' := { b with ws := b.ws.set i y }) hb rfl rfl (by simp)
  have hk : Kept [gw] w (w.setCell ⟨gw, i, none⟩ (.int .u32 (y : Int))) := (Kept.refl _ _).setCell (p := ⟨gw, i, none⟩) (.inl (by simp)) _
  refine ⟨?_, by simpa using h.len, fun j c v hj hvj => ?_, h.apart, hm.ok, hm.uq, fun c hc => (h.lst c hc).far hC (by decide) _ _, hm.few, hm.fewl, hm.small⟩
  · show World.ownsRow _ _ _ _ _ (M.R.set k _).length (rbs (M.R.set k _) vs)
    rw [rbs_setW hb h.len, List.length_set]
    refine ownk h.row hk (fun j hj h9 => ?_)
    obtain rfl : j = gw := by simpa using h9
    exact own_ne_blk h.row hC (by decide) hj.symm
  · rcases set_same hj with ⟨rfl, rfl, _⟩ | ⟨hne, h9⟩
    · rw [hv] at hvj
      cases hvj
      have := (hwd.stored i (.int .u32 (y : Int))).1
      rw [wvl_set] at this
      exact this
    · refine ownk (h.wds j c v h9 hvj) hk (fun q hq h8 => ?_)
      obtain rfl : q = gw := by simpa using h8
      exact h.apart j k v _ hvj hv (Ne.symm hne) (by rw [hq]; rfl)
/-- A block's mark. -/
theorem Rfa.mark (h : Rfa w lo bv ls vs M) {k gb c n : Nat} {b : Rb} (hb : M.R[k]? = some b) (hbv : bv = .slice (some ⟨gb, 0, none⟩) n c) (t : Bool) : Rfa (w.setCell ⟨gb, k * 4 + 2, none⟩ (.bool t)) lo bv ls vs { M with R := M.R.set k { b with t := t } } := by
  have hrow := h.row
  obtain ⟨a9, c9, hv9⟩ := owns_sl h.row
  rw [hbv] at hv9
  injection hv9 with _ hn _
  subst hn
  rw [hbv] at hrow
  obtain ⟨C, hC⟩ := own_has hrow
  have hm := h.mok.set (b' := { b with t := t }) hb rfl rfl rfl
  have hk : Kept [gb] w (w.setCell ⟨gb, k * 4 + 2, none⟩ (.bool t)) := (Kept.refl _ _).setCell (p := ⟨gb, k * 4 + 2, none⟩) (.inl (by simp)) _
  refine ⟨?_, by simpa using h.len, fun j d v hj hvj => ?_, h.apart, hm.ok, hm.uq, fun c hc => (h.lst c hc).far hC (by decide) _ _, hm.few, hm.fewl, hm.small⟩
  · have := (hrow.stored (k * 4 + 2) (.bool t)).1
    rw [rbs_setT h.len hb] at this
    show World.ownsRow _ _ _ _ _ (M.R.set k _).length (rbs (M.R.set k _) vs)
    rw [List.length_set, hbv]
    exact this
  · obtain ⟨d', hd', e1, e2⟩ : ∃ d', M.R[j]? = some d' ∧ d'.c = d.c ∧ d'.ws = d.ws := by
      rcases set_same hj with ⟨rfl, rfl, _⟩ | ⟨hne, h9⟩
      · exact ⟨b, hb, rfl, rfl⟩
      · exact ⟨d, h9, rfl, rfl⟩
    have hw9 := h.wds j d' v hd' hvj
    rw [e1, e2] at hw9
    refine ownk hw9 hk (fun q hq h8 => ?_)
    obtain rfl : q = gb := by simpa using h8
    exact own_ne_blk hw9 hC (by decide) hq.symm
/-- Other words for a block: a row that lies behind. -/
theorem Rfa.fill (h : Rfa w lo bv ls vs M) {k gb c n : Nat} {b : Rb} (hb : M.R[k]? = some b) (hbv : bv = .slice (some ⟨gb, 0, none⟩) n c) {v' : Value} {l : List Nat} (hl : l.length = b.ws.length) (hw : w.ownsRow lo 53 1 v' (2 ^ b.c) (wvl l)) (hfr : ∀ v ∈ vs, v.ownBlock ≠ v'.ownBlock) :
    Rfa (w.setCell ⟨gb, k * 4 + 3, none⟩ v') lo bv ls (vs.set k v') { M with R := M.R.set k { b with ws := l } } := by
  have hrow := h.row
  obtain ⟨a9, c9, hv9⟩ := owns_sl h.row
  rw [hbv] at hv9
  injection hv9 with _ hn _
  subst hn
  rw [hbv] at hrow
  obtain ⟨C, hC⟩ := own_has hrow
  have hm := h.mok.set (b' := { b with ws := l }) hb rfl rfl hl
  have hk : Kept [gb] w (w.setCell ⟨gb, k * 4 + 3, none⟩ v') := (Kept.refl _ _).setCell (p := ⟨gb, k * 4 + 3, none⟩) (.inl (by simp)) _
  refine ⟨?_, by simpa using h.len, fun j d v hj hvj => ?_, fun i j v v'' hi hj hij => ?_, hm.ok, hm.uq, fun c hc => (h.lst c hc).far hC (by decide) _ _, hm.few, hm.fewl, hm.small⟩
  · have := (hrow.stored (k * 4 + 3) v').1
    rw [rbs_setV h.len hb l] at this
    show World.ownsRow _ _ _ _ _ (M.R.set k _).length (rbs (M.R.set k _) (vs.set k v'))
    rw [List.length_set, hbv]
    exact this
  · have far : ∀ {n : Nat} {v : Value} {xs : List Value}, w.ownsRow lo 53 1 v n xs → (w.setCell ⟨gb, k * 4 + 3, none⟩ v').ownsRow lo 53 1 v n xs := fun {n v xs} h9 => ownk h9 hk (fun q hq h8 => by
      obtain rfl : q = gb := by simpa using h8
      exact own_ne_blk h9 hC (by decide) hq.symm)
    rcases set_same hj with ⟨rfl, rfl, _⟩ | ⟨hne, h9⟩
    · rcases set_same hvj with ⟨_, rfl, _⟩ | ⟨hne, _⟩
      · exact far hw
      · exact absurd rfl hne
    · rcases set_same hvj with ⟨e9, _, _⟩ | ⟨_, h8⟩
      · exact absurd e9 hne
      · exact far (h.wds j d v h9 h8)
  · rcases set_same hi with ⟨rfl, rfl, _⟩ | ⟨hne, h9⟩ <;> rcases set_same hj with ⟨e2, rfl, _⟩ | ⟨hne2, h8⟩
    · exact absurd e2 hij
    · exact (hfr v'' (List.mem_of_getElem? h8)).symm
    · exact hfr v (List.mem_of_getElem? h9)
    · exact h.apart i j v v'' h9 h8 hij
end
end Go.Proofs.Ytgnpoehcmlmajaa
namespace Go.Proofs.Ytgnpoehcmlmajaa
set_option linter.unusedVariables false

section
variable {P : Program} {ops : Array Oper} {Q : Exit → Act → World → Prop} {S : World → Prop}

def LinB (P : Program) (ops : Array Oper) (Q : Exit → Act → World → Prop) (S : World → Prop) (eff : List Nat) : List Nat → Act → Prop
  | [], a => ∀ w, S w → Q .normal a w
  | i :: r, a => ∃ o, ops[i]? = some o ∧ (eff.contains i = false → ∃ v, GivesIf P ops S o v a ∧ LinB P ops Q S eff r (a.put o.dst v)) ∧ (eff.contains i = true → r = [] ∧ ∀ w, S w → Moves P ops (fun _ => True) o a w fun v w' => Q .normal (a.put o.dst v) w')

theorem LinB.swap {eff : List Nat} {i j : Nat} {x y : Oper} {r : List Nat} {a : Act} (hi : ops[i]? = some x) (hj : ops[j]? = some y) (hx : ∀ cs b, x.op ≠ .select cs b) (hy : ∀ cs b, y.op ≠ .select cs b) (hap : x.apart ops y = true) (hq : eff.contains i = false) (hq2 : eff.contains j = false)
    (h : LinB P ops Q S eff (i :: j :: r) a) : LinB P ops Q S eff (j :: i :: r) a := by
  obtain ⟨h1, h2, h3⟩ := Oper.apart_spec hap
  obtain ⟨x', hx', q1, _⟩ := h
  obtain rfl : x' = x := Option.some.inj (hx'.symm.trans hi)
  obtain ⟨vx, gx, y', hy', q2, _⟩ := q1 hq
  obtain rfl : y' = y := Option.some.inj (hy'.symm.trans hj)
  obtain ⟨vy, gy, h4⟩ := q2 hq2
  refine ⟨_, hj, fun _ => ⟨vy, gy.of_same (execOp_put _ hy a x'.dst vx h1).symm (wanted_put _ a x'.dst vx h1).symm, _, hi, fun _ => ⟨vx, gx.of_same (execOp_put _ hx a y'.dst vy h3) (wanted_put _ a y'.dst vy h3), ?_⟩, fun h9 => by rw [hq] at h9; cases h9⟩, fun h9 => by rw [hq2] at h9; cases h9⟩
  rw [← Act.put_comm a vx vy h2]
  exact h4
theorem LinB.front {eff : List Nat} {j : Nat} {y : Oper} {T2 : List Nat} (hj : ops[j]? = some y) (hy : ∀ cs b, y.op ≠ .select cs b) (hq2 : eff.contains j = false) : ∀ (T1 : List Nat) (a : Act), (∀ i ∈ T1, ∃ x, ops[i]? = some x ∧ (∀ cs b, x.op ≠ .select cs b) ∧ x.apart ops y = true ∧ eff.contains i = false) → LinB P ops Q S eff (T1 ++ j :: T2) a → LinB P ops Q S eff (j :: (T1 ++ T2)) a
  | [], _, _, h => h
  | i :: T1, a, hap, h => by
    obtain ⟨x, hi, hx, hxy, hq⟩ := hap i (by simp)
    obtain ⟨x', hx', q1, _⟩ := h
    obtain rfl : x' = x := Option.some.inj (hx'.symm.trans hi)
    obtain ⟨vx, gx, h4⟩ := q1 hq
    have h5 := LinB.front hj hy hq2 T1 _ (fun k hk => hap k (by simp [hk])) h4
    exact LinB.swap hi hj hx hy hxy hq hq2 ⟨_, hi, fun _ => ⟨vx, gx, h5⟩, fun h9 => by rw [hq] at h9; cases h9⟩

def pairsOkB (ops : Array Oper) (eff : List Nat) : List Nat → Bool
  | [] => true
  | i :: r => decide (i < ops.size) && (!r.contains i && (r.all (fun j => reach ops 9 j i || (pairApart ops i j && (!eff.contains i && !eff.contains j))) && pairsOkB ops eff r))
def ordOkB (ops : Array Oper) (eff ord : List Nat) : Bool :=
  (Region.noSelect ops && decide (ord.length ≤ ops.size)) && ((List.range ops.size).all (fun j => ord.contains j && match ops[j]? with | none => true | some oj => oj.after.all (fun e => decide (e.on < j))) && pairsOkB ops eff ord)
theorem pairsOkB_split {eff : List Nat} : ∀ (L1 : List Nat) {j : Nat} {L2 : List Nat}, pairsOkB ops eff (L1 ++ j :: L2) = true → j ∉ L1 ∧ j ∉ L2 ∧ ∀ i ∈ L1, i < ops.size ∧ (reach ops 9 j i = true ∨ (pairApart ops i j = true ∧ eff.contains i = false ∧ eff.contains j = false))
  | [], j, L2, h => by
    simp only [List.nil_append, pairsOkB, Bool.and_eq_true, Bool.not_eq_true'] at h
    refine ⟨by simp, ?_, by simp⟩
    intro hm
    have := h.2.1
    rw [List.contains_iff_mem.2 hm] at this
    cases this
  | k :: L1, j, L2, h => by
    simp only [List.cons_append, pairsOkB, Bool.and_eq_true, Bool.not_eq_true', decide_eq_true_eq] at h
    obtain ⟨h0, h1, h2, h3⟩ := h
    obtain ⟨i1, i2, i3⟩ := pairsOkB_split L1 h3
    have hkj : k ≠ j := by
      rintro rfl
      rw [List.contains_iff_mem.2 (by simp)] at h1
      cases h1
    refine ⟨by simp [i1]; exact fun e => hkj e.symm, i2, fun i hi => ?_⟩
    rcases List.mem_cons.1 hi with rfl | hi
    · refine ⟨h0, ?_⟩
      have h4 := List.all_eq_true.1 h2 j (by simp)
      simp only [Bool.or_eq_true, Bool.and_eq_true, Bool.not_eq_true'] at h4
      rcases h4 with h4 | h4
      · exact .inl h4
      · exact .inr ⟨h4.1, h4.2.1, h4.2.2⟩
    · exact i3 i hi

theorem linB_any {eff ord : List Nat} (hok : ordOkB ops eff ord = true) : ∀ (fuel : Nat) (listed : Array Bool) (a : Act) (w : World), listed.size = ops.size → ClosedL ops listed → (left listed ord).length ≤ fuel → S w → LinB P ops Q S eff (left listed ord) a → wpAny P .any ops Q fuel listed a w := by
  simp only [ordOkB, Bool.and_eq_true] at hok
  obtain ⟨⟨hns, _⟩, hall0, hpairs⟩ := hok
  have hsel : ∀ (j : Nat) (o : Oper), ops[j]? = some o → ∀ cs b, o.op ≠ .select cs b := fun j o ho cs b => Region.noSelect_spec hns j o cs b ho
  have hback : ∀ j oj, ops[j]? = some oj → j ∈ ord ∧ ∀ e ∈ oj.after, e.on < j := by
    intro j oj hoj
    have h1 := List.all_eq_true.1 hall0 j (List.mem_range.2 (Array.getElem?_eq_some_iff.1 hoj).1)
    simp only [hoj, Bool.and_eq_true, Array.all_eq_true_iff_forall_mem, decide_eq_true_eq] at h1
    exact ⟨List.contains_iff_mem.1 h1.1, h1.2⟩
  have hnil : ∀ listed : Array Bool, listed.size = ops.size → Region.ready .any ops listed = [] → left listed ord = [] := by
    intro listed hsz hr
    have key : ∀ j, listed.getD j true = true := by
      intro j
      induction j using Nat.strongRecOn with
      | ind j ih =>
        cases hb : listed.getD j true with
        | true => rfl
        | false =>
          have hj : j < ops.size := by
            rcases Nat.lt_or_ge j listed.size with h' | h'
            · omega
            · simp [Array.getElem?_eq_none h'] at hb
          have hoj : ops[j]? = some ops[j] := Array.getElem?_eq_getElem hj
          have hm : j ∈ Region.ready .any ops listed := mem_ready.2 ⟨hb, _, hoj, fun e he _ => by
            have hlt := (hback j _ hoj).2 e he
            have h9 := ih e.on hlt
            have h8 : e.on < listed.size := by omega
            simp [h8] at h9 ⊢
            exact h9⟩
          rw [hr] at hm
          cases hm
    unfold left
    rw [List.filter_eq_nil_iff]
    intro i _
    rw [key i]
    simp
  have hpick : ∀ (listed : Array Bool) (j : Nat), listed.size = ops.size → ClosedL ops listed → j ∈ Region.ready .any ops listed → ∃ oj T1 T2, ops[j]? = some oj ∧ left listed ord = T1 ++ j :: T2 ∧ left (listed.setIfInBounds j true) ord = T1 ++ T2 ∧ ∀ i ∈ T1, ∃ x, ops[i]? = some x ∧ (∀ cs b, x.op ≠ .select cs b) ∧ x.apart ops oj = true ∧ eff.contains i = false ∧ eff.contains j = false := by
    intro listed j hsz hcl hj
    obtain ⟨hun, oj, hoj, hall⟩ := mem_ready.1 hj
    obtain ⟨L1, L2, hord⟩ := List.append_of_mem (hback j oj hoj).1
    rw [hord] at hpairs
    obtain ⟨hn1, hn2, hp⟩ := pairsOkB_split L1 hpairs
    have hlt : j < listed.size := by have := (Array.getElem?_eq_some_iff.1 hoj).1; omega
    refine ⟨oj, left listed L1, left listed L2, hoj, ?_, ?_, ?_⟩
    · rw [hord]
      unfold left
      rw [List.filter_append, List.filter_cons, hun]
      simp
    · have e : left (listed.setIfInBounds j true) (j :: L2) = left (listed.setIfInBounds j true) L2 := by
        unfold left
        rw [List.filter_cons]
        simp [hlt]
      have e2 : left (listed.setIfInBounds j true) (L1 ++ j :: L2) = left (listed.setIfInBounds j true) L1 ++ left (listed.setIfInBounds j true) (j :: L2) := by simp [left]
      rw [hord, e2, e, left_set _ _ _ hn1, left_set _ _ _ hn2]
    · intro i hi
      have hi1 := List.mem_filter.1 hi
      obtain ⟨hil, hc⟩ := hp i hi1.1
      have hui : listed.getD i true = false := by simpa using hi1.2
      have hoi : ops[i]? = some ops[i] := Array.getElem?_eq_getElem hil
      rcases hc with h9 | h9
      · have h8 := reach_spec hcl 9 j i hoj hall h9
        have h7 : i < listed.size := by omega
        simp [h7] at h8 hui
        rw [hui] at h8
        cases h8
      · refine ⟨_, hoi, hsel i _ hoi, ?_, h9.2⟩
        have h7 := h9.1
        unfold pairApart at h7
        simp only [hoi, hoj] at h7
        exact h7
  intro fuel
  induction fuel with
  | zero =>
    intro listed a w hsz hcl hlen hS hL
    have h0 : left listed ord = [] := List.length_eq_zero_iff.1 (by omega)
    rw [h0] at hL
    refine ⟨?_, hL w hS⟩
    refine List.eq_nil_iff_forall_not_mem.2 (fun j hj => ?_)
    obtain ⟨oj, T1, T2, _, h1, _⟩ := hpick listed j hsz hcl hj
    rw [h0] at h1
    simp at h1
  | succ fuel ih =>
    intro listed a w hsz hcl hlen hS hL
    refine ⟨fun hr => ?_, fun j hj => ?_⟩
    · rw [hnil listed hsz hr] at hL
      exact hL w hS
    · obtain ⟨oj, T1, T2, hoj, h1, h2, h3⟩ := hpick listed j hsz hcl hj
      rw [h1] at hL hlen
      cases hv : eff.contains j with
      | false =>
        obtain ⟨oj', hoj', q1, q2⟩ := LinB.front hoj (hsel j oj hoj) hv T1 a (fun i hi => by obtain ⟨x, e1, e2, e3, e4, _⟩ := h3 i hi; exact ⟨x, e1, e2, e3, e4⟩) hL
        obtain rfl : oj' = oj := Option.some.inj (hoj'.symm.trans hoj)
        obtain ⟨v, g, h5⟩ := q1 hv
        refine g.wpOp hoj hS (fun w' hS' => ih (listed.setIfInBounds j true) _ w' (by simp [hsz]) (closedL_set hcl hj) ?_ hS' ?_)
        · rw [h2]
          simp at hlen ⊢
          omega
        · rw [h2]
          exact h5
      | true =>
        have hT1 : T1 = [] := by
          cases T1 with
          | nil => rfl
          | cons i T1 =>
            obtain ⟨x, _, _, _, _, e5⟩ := h3 i (by simp)
            rw [hv] at e5; cases e5
        subst hT1
        obtain ⟨oj', hoj', q1, q2⟩ := hL
        obtain rfl : oj' = oj := Option.some.inj (hoj'.symm.trans hoj)
        obtain ⟨hT2, hm0⟩ := q2 hv
        subst hT2
        obtain ⟨hw, hm⟩ := hm0 w hS
        have hnext : ∀ a' w', Q .normal a' w' → wpAny P .any ops Q fuel (listed.setIfInBounds j true) a' w' := fun a' w' h4 => by
          have hcl2 := closedL_set hcl hj
          have hnone : Region.ready .any ops (listed.setIfInBounds j true) = [] := by
            refine List.eq_nil_iff_forall_not_mem.2 (fun j2 hj2 => ?_)
            obtain ⟨_, U1, U2, _, u1, _⟩ := hpick _ j2 (by simp [hsz]) hcl2 hj2
            rw [h2] at u1
            simp at u1
          cases fuel with
          | zero => exact ⟨hnone, h4⟩
          | succ fuel => exact ⟨fun _ => h4, fun i hi => by rw [hnone] at hi; cases hi⟩
        unfold wpOp
        simp only [hoj, hw, if_true]
        refine .inl ?_
        unfold Oper.wp
        rcases hm with ⟨v, w', h6 | ⟨h6, rfl⟩, h7, h8⟩ | ⟨f, args, w1, h6, h7⟩
        · rw [h6]
          exact hnext _ _ h8
        · rw [h6]
          exact hnext _ _ h8
        · rw [h6]
          refine Calls.mono h7 ?_
          rintro e w' ⟨v, rfl, h8, h9⟩
          exact hnext _ _ h9

/-- THE BEGINNING. -/
theorem wp_region_linB {id : Nat} {a : Act} {w : World} (S : World → Prop) (eff ord : List Nat) (hm : P.follows .mixedOrders = true) (hok : ordOkB ops eff ord = true) (hS : S w.drew) (h : LinB P ops Q S eff ord a) : (Code.region id ops true).wp P Q a w := by
  refine wp_region_any hm ?_
  have hok2 := hok
  simp only [ordOkB, Bool.and_eq_true] at hok
  have hlt : ∀ i ∈ ord, i < ops.size := by
    intro i hi
    obtain ⟨L1, L2, hord⟩ := List.append_of_mem hi
    have h3 := hok.2.2
    rw [hord] at h3
    have : ∀ (L1 : List Nat), pairsOkB ops eff (L1 ++ i :: L2) = true → i < ops.size := by
      intro L1
      induction L1 with
      | nil => intro h; simp only [List.nil_append, pairsOkB, Bool.and_eq_true, decide_eq_true_eq] at h; exact h.1
      | cons k L1 ih => intro h; simp only [List.cons_append, pairsOkB, Bool.and_eq_true] at h; exact ih h.2.2.2
    exact this L1 h3
  have hu : left (Array.replicate ops.size false) ord = ord := by
    unfold left
    rw [List.filter_eq_self]
    intro i hi
    have := hlt i hi
    simp [this]
  refine linB_any hok2 _ _ _ _ (by simp) (fun j oj _ h => by rw [getD_replicate_false] at h; cases h) ?_ hS ?_
  · rw [hu]
    simpa using hok.1.2
  · rw [hu]; exact h

theorem linB_nil {eff : List Nat} {a : Act} (h : ∀ w, S w → Q .normal a w) : LinB P ops Q S eff [] a := h
theorem linB_op {eff : List Nat} {i : Nat} {o : Oper} {r : List Nat} {a : Act} {v : Value} (ho : ops[i]? = some o) (he : eff.contains i = false) (hw : Region.wanted o (yielded ops a.tmps) = true) (hy : ∀ w, S w → (execOp a.eval o).run P w = .ok (.value v) w) (h : LinB P ops Q S eff r (a.put o.dst v)) : LinB P ops Q S eff (i :: r) a :=
  ⟨o, ho, fun _ => ⟨v, .inl ⟨hw, fun w hS => .inl ⟨w, hy w hS, hS⟩⟩, h⟩, fun h9 => by rw [he] at h9; cases h9⟩
theorem linB_off {eff : List Nat} {i : Nat} {o : Oper} {r : List Nat} {a : Act} (ho : ops[i]? = some o) (he : eff.contains i = false) (hw : Region.wanted o (yielded ops a.tmps) = false) (h : LinB P ops Q S eff r (a.put o.dst undef)) : LinB P ops Q S eff (i :: r) a :=
  ⟨o, ho, fun _ => ⟨undef, .inr ⟨hw, rfl⟩, h⟩, fun h9 => by rw [he] at h9; cases h9⟩
theorem linB_fn {eff : List Nat} {i : Nat} {o : Oper} {r : List Nat} {a : Act} {v : Value} {f : Nat} {c : Call} {args : Array Value} (hi : ops[i]? = some o) (he : eff.contains i = false) (hw : Region.wanted o (yielded ops a.tmps) = true) (ho : o.op = .call c) (hc : c.callee = .value (.func f)) (hen : ∀ args w, (callFunc f args).run P w = .ok (.enter f args) w)
    (hcl : ∀ w, S w → Calls P f args w fun e w' => e = .returned v ∧ S w') (ha : c.args.map a.eval = args) (h : LinB P ops Q S eff r (a.put o.dst v)) : LinB P ops Q S eff (i :: r) a := by
  refine ⟨o, hi, fun _ => ⟨v, .inl ⟨hw, fun w hS => .inr ⟨f, args, ?_, hcl w hS⟩⟩, h⟩, fun h9 => by rw [he] at h9; cases h9⟩
  simp only [execOp, ho, resolve, hc, ha, Act.eval, Deferred.ofValue, invoke, Sem.run_bind, Sem.run_pure, Result.andThen_ok]
  have e1 := hen (#[] ++ args ++ #[]) w
  simp only [Array.empty_append, Array.append_empty] at e1 ⊢
  exact e1
/-- The last one, a call. -/
theorem linB_last {eff : List Nat} {i : Nat} {o : Oper} {a : Act} {f : Nat} {c : Call} {args : Array Value} (hi : ops[i]? = some o) (he : eff.contains i = true) (hw : Region.wanted o (yielded ops a.tmps) = true) (ho : o.op = .call c) (hc : c.callee = .value (.func f)) (hen : ∀ args w, (callFunc f args).run P w = .ok (.enter f args) w) (ha : c.args.map a.eval = args)
    (h : ∀ w, S w → Calls P f args w fun e w' => ∃ v, e = .returned v ∧ Q .normal (a.put o.dst v) w') : LinB P ops Q S eff [i] a := by
  refine ⟨o, hi, fun h9 => (by rw [he] at h9; cases h9), fun _ => ⟨rfl, fun w hS => ⟨hw, .inr ⟨f, args, w, ?_, (h w hS).mono fun e w' ⟨v, h1, h2⟩ => ⟨v, h1, trivial, h2⟩⟩⟩⟩⟩
  simp only [execOp, ho, resolve, hc, ha, Act.eval, Deferred.ofValue, invoke, Sem.run_bind, Sem.run_pure, Result.andThen_ok]
  have e1 := hen (#[] ++ args ++ #[]) w
  simp only [Array.empty_append, Array.append_empty] at e1 ⊢
  exact e1
/-- The last one, a store. -/
theorem linB_store {eff : List Nat} {i : Nat} {o : Oper} {a : Act} (hi : ops[i]? = some o) (he : eff.contains i = true) (hw : Region.wanted o (yielded ops a.tmps) = true)
    (h : ∀ w, S w → ∃ w', (execOp a.eval o).run P w = .ok .skip w' ∧ Q .normal (a.put o.dst undef) w') : LinB P ops Q S eff [i] a :=
  ⟨o, hi, fun h9 => (by rw [he] at h9; cases h9), fun _ => ⟨rfl, fun w hS => by
    obtain ⟨w', h1, h2⟩ := h w hS
    exact ⟨hw, .inl ⟨undef, w', .inr ⟨h1, rfl⟩, trivial, h2⟩⟩⟩⟩
end
end Go.Proofs.Ytgnpoehcmlmajaa
namespace Go.Proofs.Ytgnpoehcmlmajaa
open Go.RowKit Go.Shelf
set_option linter.unusedVariables false
attribute [local go_sem ↓] load_ra_rule store_ra_rule load_rb_rule store_rb_rule
section
variable {w W W' : World} {g z lo : Nat} {bv : Value} {ls : Nat → Value} {vs : List Value} {M : Mo}
set_option maxRecDepth 100000 in
set_option maxHeartbeats 1000000 in
theorem rstore_err (h : Rfa w lo bv ls vs M) (x i y : Int) (er : Nat) (her : er = 2 ∨ er = 4) (hld : ∀ {W : World}, Rfa W lo bv ls vs M → Calls Try.prog 24 #[.agg (M.vals bv ls), .int .i64 x, .int .i64 i] W fun e w' => e = .returned (.tuple #[.int .u32 0, .int .i64 (er : Int)]) ∧ Below W.heap.size W w') :
    Calls Try.prog 25 #[.agg (M.vals bv ls), .int .i64 x, .int .i64 i, .int .u32 y] w fun e w' => e = .returned (.tuple #[.agg (M.vals bv ls), .int .i64 (er : Int)]) ∧ Below w.heap.size w w' := by
  obtain ⟨W, hW, F⟩ := fr_new h
  have hl := F.bx.ld
  have hlw := hld F.bx.rf
  have HF := Lib.hid (And.intro F (M.vals_size bv ls))
  clear F h hld
  have hne : ¬ ((er : Int) = 0) := by omega
  generalize (er : Int) = ei at *
  obtain ⟨V, hV⟩ : ∃ V, M.vals bv ls = V := ⟨_, rfl⟩
  rw [hV] at hW hl hlw ⊢
  have HV := Lib.hid hV
  clear hV
  go_enter Try.func25, Try.ntmps25
  go_wp2_with fail
  refine hlw.mono ?_
  rintro e W2 ⟨rfl, hb2⟩
  have F2 := HF.out.1.lat hb2
  have hl2 := F2.bx.ld
  obtain ⟨hs, hbk, hbe⟩ := F2.st
  rw [HV.out] at hl2 hs hbk hbe
  have HX := Lib.hid (And.intro hbk hbe)
  clear hlw hl hb2 F2 hbk hbe hW
  have h13 : V.size = 13 := by rw [← HV.out]; exact HF.out.2
  have H13 := Lib.hid h13
  clear h13
  go_wp2_with fail
  refine bodyPost_ret (results_ra2 rfl _ _ (w.heap.size + 1) V rfl HX.out.1 H13.out) rfl ?_
  exact ⟨rfl, HX.out.2⟩
set_option maxRecDepth 100000 in
set_option maxHeartbeats 2000000 in
theorem rstore_yes (h : Rfa w lo bv ls vs M) {k : Nat} {b : Rb} (hb : M.R[k]? = some b) (ht : b.t = true) (i : Nat) (hi : i < 2 ^ b.c) (y : Nat) :
    Calls Try.prog 25 #[.agg (M.vals bv ls), .int .i64 (b.x : Int), .int .i64 (i : Int), .int .u32 (y : Int)] w fun e w' => ∃ u, e = .returned (.tuple #[u, .int .i64 0]) ∧ Ans w w' u { M with R := M.R.set k { b with ws := b.ws.set i y } } := by
  obtain ⟨W, hW, F⟩ := fr_new h
  have hl := F.bx.ld
  have hlw := rload_yes F.bx.rf hb ht i hi
  have hok := h.ok b (List.mem_of_getElem? hb)
  have hfew := h.few
  have HF := Lib.hid F
  clear F h
  generalize b.ws.getD i 0 = y0 at *
  obtain ⟨V, hV⟩ : ∃ V, M.vals bv ls = V := ⟨_, rfl⟩
  rw [hV] at hW hl hlw ⊢
  have HV := Lib.hid hV
  clear hV
  go_enter Try.func25, Try.ntmps25
  go_wp2_with fail
  refine hlw.mono ?_
  rintro e W2 ⟨rfl, hb2⟩
  have F2 := HF.out.lat hb2
  have hl2 := F2.bx.ld
  have hcp := rcopy_any F2.bx.rf
  rw [HV.out] at hl2 hcp
  have HF2 := Lib.hid F2
  clear hlw hl hb2 F2 hW
  go_wp2_with fail
  refine hcp.mono ?_
  rintro e9 W' ⟨bv', ls', vs', rfl, hR, hb3⟩
  have hst := sra_new W' (M.vals_size bv' ls') hR.vals_one
  obtain ⟨W6, hW6⟩ : ∃ W6, W'.alloc (.cells (M.vals bv' ls') 36) = W6 := ⟨_, rfl⟩
  have B6 : Bx W' W6 W'.heap.size W2.heap.size bv' ls' vs' M := by rw [← hW6]; exact bx_new hR
  rw [hW6] at hst
  obtain ⟨gb, c, gw, cw, hbv, hvk, c1, _, _, _, c3, hcl, hk⟩ := B6.blk hb
  have hsz6 : W6.heap.size = W'.heap.size + 1 := by rw [← hW6]; simp
  clear hcp hl2
  have HR := Lib.hid (And.intro hbv (And.intro hvk (And.intro B6 (And.intro hb3 (And.intro hb ht)))))
  have hrow6 := B6.rf.row
  rw [hbv] at hrow6
  have hgb : gb < W6.heap.size := (hrow6.lt gb rfl).2
  have hwd6 := B6.rf.wds k b _ hb hvk
  have hgw : gw < W6.heap.size := (hwd6.lt gw rfl).2
  obtain ⟨C6, hC6⟩ := own_has hwd6
  have ci := hcl i _ (wvl_get (l := b.ws) (j := i) (by omega))
  obtain ⟨S, hS⟩ : ∃ S : World → Prop, S = fun w' => Below W6.heap.size W6 w' := ⟨_, rfl⟩
  have hSb : ∀ w', S w' → Below W6.heap.size W6 w' := fun w' h' => by rw [hS] at h'; exact h'
  have hSs : ∀ w', Below W6.heap.size W6 w' → S w' := fun w' h' => by rw [hS]; exact h'
  have q1 : ∀ w', S w' → w'.cell? ⟨W'.heap.size, 1, none⟩ = some (.slice (some ⟨gb, 0, none⟩) M.R.length c) := fun w' h' => (World.cell?_of_block ((hSb w' h').block _ (by show W'.heap.size < _; omega))).trans c1
  have q3 : ∀ w', S w' → w'.cell? ⟨gb, k * 4 + 3, none⟩ = some (.slice (some ⟨gw, 0, none⟩) (2 ^ b.c) cw) := fun w' h' => (World.cell?_of_block ((hSb w' h').block _ (by show gb < _; omega))).trans c3
  have qi : ∀ w', S w' → w'.cell? ⟨gw, i, none⟩ = some (.int .u32 ((b.ws.getD i 0 : Nat) : Int)) := fun w' h' => (World.cell?_of_block ((hSb w' h').block _ (by show gw < _; omega))).trans ci
  have qf : ∀ w', S w' → w'.frozen? ⟨gw, i, none⟩ = false := fun w' h' => (hC6.kept (Kept.of_below [] (hSb w' h')) (by simp)).free i
  have ql : ∀ w', S w' → (loadSem 36 (.pointer (some ⟨W'.heap.size, 0, none⟩))).run Try.prog w' = .ok (.agg (M.vals bv' ls')) w' := fun w' h' => (B6.later (hSb w' h')).ld
  have qt : ∀ w', S w' → Calls Try.prog 36 #[.agg (M.vals bv' ls'), .int .i64 (b.x : Int)] w' fun e w'' => e = .returned (.int .i64 (k : Int)) ∧ S w'' := fun w' h' => (rtk_yes (B6.later (hSb w' h')).rf hb ht).mono fun e w'' ⟨h1, h2⟩ => ⟨h1, hSs _ (bel_later (hSb w' h') h2)⟩
  have hS0 : S W6.drew := hSs _ ⟨rfl, rfl, rfl, Nat.le_refl _, fun _ _ => rfl⟩
  have HS := Lib.hid hSb
  clear hS hSs hSb c1 c3 ci hcl hC6 hR hb3 B6 hrow6 hwd6 hbv hvk hgb hgw
  obtain ⟨V3, hV3⟩ : ∃ V3, M.vals bv' ls' = V3 := ⟨_, rfl⟩
  rw [hV3] at hst hW6 ql qt ⊢
  have HV3 := Lib.hid hV3
  clear hV3
  generalize M.R.length = n at *
  have hp := (pow5 hok.1).2
  generalize b.ws.getD i 0 = y1 at *
  generalize hzz : 2 ^ b.c = zz at *
  have hki : (k : Int) < (n : Int) := by omega
  have hi1 : (i : Int) < (zz : Int) := by omega
  go_wp2_with fail
  refine wp_region_linB S [11] [0, 1, 2, 3, 4, 5, 6, 7, 8, 9, 10, 11] (by kernel_rfl) (by kernel_rfl) hS0 ?_
  (repeat (first | (refine linB_off rfl rfl (by rfl) ?_; (try simp only [Act.put, List.getElem_toArray, List.getElem_cons_zero, List.getElem_cons_succ, List.setIfInBounds_toArray, List.set_cons_zero, List.set_cons_succ])) | (refine linB_op (v := ?_) rfl rfl (by rfl) (fun w9 hS9 => ?_) ?_; rotate_left; (focus ((have k0 := q1 w9 hS9; have k1 := q3 w9 hS9; have k2 := ql w9 hS9; (try dsimp only at hS9); go_simp; (try go_bits)) <;> with_reducible rfl)); (try simp only [Act.put, List.getElem_toArray, List.getElem_cons_zero, List.getElem_cons_succ, List.setIfInBounds_toArray, List.set_cons_zero, List.set_cons_succ])) | (refine linB_fn (f := 36) rfl rfl (by rfl) rfl rfl (enters_of Try.func36 (by kernel_rfl) rfl) (fun w9 hS9 => qt w9 hS9) ?_ ?_; (focus (simp [Act.eval]; done)); (try simp only [Act.put, List.getElem_toArray, List.getElem_cons_zero, List.getElem_cons_succ, List.setIfInBounds_toArray, List.set_cons_zero, List.set_cons_succ]))))
  refine linB_store rfl rfl (by rfl) (fun w9 hS9 => ?_)
  have F9 := HS.out w9 hS9
  have k0 := qi w9 hS9
  have k1 := qf w9 hS9
  refine ⟨w9.setCell ⟨gw, i, none⟩ (.int .u32 (y : Int)), by go_simp, ?_⟩
  have B9 := HR.out.2.2.1.later F9
  have hvk9 : vs'[k]? = some (.slice (some ⟨gw, 0, none⟩) (2 ^ b.c) cw) := by rw [hzz]; exact HR.out.2.1
  have R9 := B9.rf.store HR.out.2.2.2.2.1 hvk9 i y
  have hwd9 := B9.rf.wds k b _ HR.out.2.2.2.2.1 hvk9
  obtain ⟨C9, hC9⟩ := own_has hwd9
  have hl9 := lra (B9.bx.far (p := ⟨gw, i, none⟩) (B9.bx.ne hC9 (by decide)) (.int .u32 (y : Int))) rfl
  have hb9 : Below W2.heap.size W2 (w9.setCell ⟨gw, i, none⟩ (.int .u32 (y : Int))) := (bel_later HR.out.2.2.2.1 B9.hb).setCell ((hwd9.lt gw rfl).1) _
  obtain ⟨hs4, hbk, hans⟩ := HF2.out.ans R9 hb9
  have e9 : ({ M with R := M.R.set k { b with ws := b.ws.set i y } } : Mo).vals bv' ls' = V3 := HV3.out
  rw [e9] at hs4 hbk hans
  rw [HV3.out] at hl9
  have HX := Lib.hid (And.intro hbk hans)
  have h13 : V3.size = 13 := by rw [← HV3.out]; rfl
  have H13 := Lib.hid h13
  clear B9 R9 hvk9 hwd9 hC9 hb9 hbk hans h13 q1 q3 qi qf ql qt k0 k1 F9 hst hW6
  generalize w9.setCell ⟨gw, i, none⟩ (.int .u32 (y : Int)) = W9 at *
  go_wp2_with fail
  refine bodyPost_ret (results_ra2 rfl _ _ (w.heap.size + 1) V3 rfl HX.out.1 H13.out) rfl ?_
  exact ⟨_, rfl, HX.out.2⟩
end
end Go.Proofs.Ytgnpoehcmlmajaa
