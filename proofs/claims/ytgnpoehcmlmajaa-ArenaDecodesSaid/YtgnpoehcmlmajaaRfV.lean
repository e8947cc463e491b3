/-
  The document's arena and the program's: one call of each. Nothing here is a statement of the document.
-/
import Derived.Test.YtgnpoehcmlmajaaRhC
import Derived.Test.YtgnpoehcmlmajaaRfS
import Derived.Test.YtgnpoehcmlmajaaRgE
import Derived.Test.YtgnpoehcmlmajaaRgC
import Derived.Test.YtgnpoehcmlmajaaArpH
import Derived.Test.YtgnpoehcmlmajaaRfQ
namespace Go.Proofs.Ytgnpoehcmlmajaa
open Go.RowKit Go.Shelf
set_option linter.unusedVariables false
/-- A free block of a class has this place. -/
def GoodB (B : List Bl) (c x : Nat) : Prop := ∃ b ∈ B, b.x = x ∧ b.c = c ∧ b.t = false
section
variable {ws : List Nat} {B B' : List Bl} {L L' : Nat → List Nat}
theorem chain_det : ∀ {B B' : List Bl} {a0 : Nat}, Chain ws a0 B → Chain ws a0 B' → B = B'
  | [], [], _, _, _ => rfl
  | [], b :: r, a0, h, k => by
    have h1 : a0 = ws.getD 15 0 := h
    obtain ⟨_, _, _, h4, _⟩ := k
    generalize 2 ^ b.c = z at *
    omega
  | b :: r, [], a0, h, k => by
    have h1 : a0 = ws.getD 15 0 := k
    obtain ⟨_, _, _, h4, _⟩ := h
    generalize 2 ^ b.c = z at *
    omega
  | b :: r, b' :: r', a0, h, k => by
    obtain ⟨h1, h2, h3, h4, h5⟩ := h
    obtain ⟨k1, k2, k3, k4, k5⟩ := k
    obtain ⟨e1, e2⟩ := hdN_both h2 k2 (h3.symm.trans k3)
    have hb : b = b' := by
      obtain ⟨x, c, t⟩ := b
      obtain ⟨x', c', t'⟩ := b'
      dsimp only at *
      rw [h1, k1, e1, e2]
    subst hb
    rw [chain_det h5 k5]
theorem chain_upl : ∀ {B : List Bl} {a0 : Nat}, Chain ws a0 B → (∀ b ∈ B, a0 < b.x) ∧ B.Pairwise (fun a b => a.x < b.x)
  | [], _, _ => ⟨fun b hb => by simp at hb, List.Pairwise.nil⟩
  | c :: r, a0, h => by
    obtain ⟨h1, h2, h3, h4, h5⟩ := h
    obtain ⟨g1, g2⟩ := chain_upl h5
    have hp : 1 ≤ 2 ^ c.c := (pow5 h2).1
    refine ⟨fun b hb => ?_, List.Pairwise.cons (fun b hb => ?_) g2⟩
    · rcases List.mem_cons.1 hb with rfl | hb
      · omega
      · have := g1 b hb; omega
    · have := g1 b hb; omega
theorem chain_up2 {a0 : Nat} (h : Chain ws a0 B) : B.Pairwise (fun a b => a.x < b.x) := (chain_upl h).2
theorem lst_uniq : ∀ {L L' : List Nat} {s : Nat}, Lst ws s L → Lst ws s L' → L = L'
  | [], [], _, _, _ => rfl
  | [], x :: r, s, h, k => by
    have h1 : s = 0 := h
    obtain ⟨k1, k2, _⟩ := k
    omega
  | x :: r, [], s, h, k => by
    have h1 : s = 0 := k
    obtain ⟨k1, k2, _⟩ := h
    omega
  | x :: r, x' :: r', s, h, k => by
    obtain ⟨h1, h2, h3⟩ := h
    obtain ⟨k1, k2, k3⟩ := k
    have : x = x' := h1.symm.trans k1
    subst this
    rw [lst_uniq h3 k3]
theorem lstx_pre : ∀ {l L : List Nat} {s p : Nat}, LstX ws s l p → Lst ws s L → p ≠ 0 → ∃ r, L = l ++ p :: r
  | [], L, s, p, h, k, hp => by
    have h1 : s = p := h
    cases L with
    | nil => exact absurd (show s = 0 from k) (by omega)
    | cons x r => exact ⟨r, by rw [← h1, show s = x from k.1]; rfl⟩
  | y :: l, L, s, p, h, k, hp => by
    obtain ⟨h1, h2, h3⟩ := h
    cases L with
    | nil => exact absurd (show s = 0 from k) (by omega)
    | cons x r =>
      obtain ⟨k1, k2, k3⟩ := k
      have : x = y := k1.symm.trans h1
      subst this
      obtain ⟨r', hr⟩ := lstx_pre h3 k3 hp
      exact ⟨r', by rw [hr]; rfl⟩
theorem lstx_snoc : ∀ {l : List Nat} {s p : Nat}, LstX ws s l p → 17 ≤ p → LstX ws s (l ++ [p]) (ws.getD p 0)
  | [], s, p, h, hp => ⟨h, hp, rfl⟩
  | y :: l, s, p, h, hp => ⟨h.1, h.2.1, lstx_snoc h.2.2 hp⟩
theorem lstx_zero : ∀ {l : List Nat} {s : Nat}, LstX ws s l 0 → Lst ws s l
  | [], s, h => h
  | y :: l, s, h => ⟨h.1, h.2.1, lstx_zero h.2.2⟩
theorem lst_tail : ∀ {l1 : List Nat} {s x : Nat} {r : List Nat}, Lst ws s (l1 ++ x :: r) → Lst ws (ws.getD x 0) r
  | [], s, x, r, h => h.2.2
  | y :: l1, s, x, r, h => lst_tail h.2.2
theorem lst_nodup : ∀ {L : List Nat} {s : Nat}, Lst ws s L → L.Nodup
  | [], s, h => List.nodup_nil
  | x :: r, s, h => by
    refine List.nodup_cons.2 ⟨fun hm => ?_, lst_nodup h.2.2⟩
    obtain ⟨l1, r2, hr⟩ := List.append_of_mem hm
    have h1 := h.2.2
    rw [hr] at h1
    have h2 := lst_tail h1
    have := lst_uniq h.2.2 h2
    rw [this] at hr
    have := congrArg List.length hr
    simp at this
    omega
theorem good_same (hC : Chain ws 16 B) {b : Bl} (hb : b ∈ B) {c x : Nat} (hx : b.x = x) : GoodB B c x ↔ b.c = c ∧ b.t = false := by
  constructor
  · rintro ⟨b', hb', h1, h2, h3⟩
    have := chain_same hC (Nat.le_refl _) hb hb' (hx.trans h1.symm)
    subst this
    exact ⟨h2, h3⟩
  · rintro ⟨h1, h2⟩
    exact ⟨b, hb, hx, h1, h2⟩
/-- What the places of the first lists are. -/
theorem cat_nodup (hC : Chain ws 16 B) : ∀ c, (∀ d, d < c → (L d).Nodup ∧ ∀ x ∈ L d, GoodB B d x) → (catL L c).Nodup
  | 0, _ => by simp [catL]
  | c + 1, h => by
    rw [catL_succ]
    refine List.nodup_append.2 ⟨cat_nodup hC c fun d hd => h d (by omega), (h c (by omega)).1, fun x hx y hy e => ?_⟩
    subst e
    obtain ⟨d, hd, hxd⟩ := mem_catL.1 hx
    obtain ⟨b, hb, h1, h2, h3⟩ := (h d (by omega)).2 x hxd
    have := (good_same hC hb h1).1 ((h c (by omega)).2 x hy)
    omega
theorem cat_sub (h : ∀ d, d < 6 → ∀ x ∈ L d, GoodB B d x) {c : Nat} (hc : c ≤ 6) : catL L c ⊆ (ofT false B).map Bl.x := by
  intro x hx
  obtain ⟨d, hd, hxd⟩ := mem_catL.1 hx
  obtain ⟨b, hb, h1, h2, h3⟩ := h d (by omega) x hxd
  exact List.mem_map.2 ⟨b, List.mem_filter.2 ⟨hb, by simp [h3]⟩, h1⟩
theorem Dec.inv (h : Dec ws B L) : Inv ws (begK B ws.length B.length) B L := inv_of h.chain h.edge h.fl h.free
theorem Dec.good (h : Dec ws B L) {c : Nat} (hc : c ≤ 5) {x : Nat} (hx : x ∈ L c) : GoodB B c x := (h.inv.mem c hc x).1 hx
theorem no_dec1 (hC : Chain ws 16 B) {c p : Nat} {l : List Nat} (hc : c ≤ 5) (hl : LstX ws (ws.getD (9 + c) 0) l p) (hp : p ≠ 0) (hg : ¬ GoodB B c p) : ¬ ∃ B L, Dec ws B L := by
  rintro ⟨B', L', h⟩
  have := chain_det hC h.chain
  subst this
  obtain ⟨r, hr⟩ := lstx_pre hl (h.fl.lst c hc) hp
  exact hg (h.good hc (by rw [hr]; simp))
theorem no_dec2 (hC : Chain ws 16 B) {c p : Nat} {l : List Nat} (hc : c ≤ 5) (hL : ∀ d, d < c → Lst ws (ws.getD (9 + d) 0) (L d)) (hl : LstX ws (ws.getD (9 + c) 0) l p) (hp : p ≠ 0) (hm : (catL L c).length + l.length = B.length) : ¬ ∃ B L, Dec ws B L := by
  rintro ⟨B', L', h⟩
  have := chain_det hC h.chain
  subst this
  obtain ⟨r, hr⟩ := lstx_pre hl (h.fl.lst c hc) hp
  have hLL : ∀ k, k ≤ c → catL L k = catL L' k := by
    intro k
    induction k with
    | zero => intro _; simp [catL]
    | succ k ih =>
      intro hk
      rw [catL_succ, catL_succ, ih (by omega), lst_uniq (hL k (by omega)) (h.fl.lst k (by omega))]
  have hnd : (catL L' (c + 1)).Nodup := cat_nodup hC (c + 1) fun d hd => ⟨h.fl.nodup d (by omega), fun x hx => h.good (by omega) hx⟩
  have hsb : catL L' (c + 1) ⊆ (ofT false B).map Bl.x := cat_sub (fun d hd x hx => h.good (by omega) hx) (by omega)
  have h1 := hnd.length_le_of_subset hsb
  have h2 : ((ofT false B).map Bl.x).length ≤ B.length := by rw [List.length_map]; exact List.length_filter_le _ _
  rw [catL_succ, List.length_append, hr, List.length_append, List.length_cons, ← hLL c (Nat.le_refl _)] at h1
  omega
/-- A good place that has not been met: fewer have been met than there are blocks. -/
theorem met_lt (hC : Chain ws 16 B) {c p : Nat} {l : List Nat} (hL : ∀ d, d < c → (L d).Nodup ∧ ∀ x ∈ L d, GoodB B d x) (hl : (l ++ [p]).Nodup) (hg : ∀ x ∈ l ++ [p], GoodB B c x) : (catL L c).length + l.length < B.length := by
  have hu : ∀ d, d < c + 1 → (upd L c (l ++ [p]) d).Nodup ∧ ∀ x ∈ upd L c (l ++ [p]) d, GoodB B d x := by
    intro d hd
    unfold upd
    split
    · rename_i e; subst e; exact ⟨hl, hg⟩
    · exact hL d (by omega)
  have hnd := cat_nodup hC (c + 1) hu
  have hsb : catL (upd L c (l ++ [p])) (c + 1) ⊆ B.map Bl.x := by
    intro x hx
    obtain ⟨d, hd, hxd⟩ := mem_catL.1 hx
    obtain ⟨b, hb, h1, _⟩ := (hu d hd).2 x hxd
    exact List.mem_map.2 ⟨b, hb, h1⟩
  have h1 := hnd.length_le_of_subset hsb
  have hk : ∀ k, k ≤ c → catL (upd L c (l ++ [p])) k = catL L k := by
    intro k
    induction k with
    | zero => intro _; simp [catL]
    | succ k ih =>
      intro hk
      rw [catL_succ, catL_succ, ih (by omega)]
      unfold upd
      rw [if_neg (by omega)]
  rw [catL_succ, hk c (Nat.le_refl _), List.length_append, List.length_map] at h1
  have e : upd L c (l ++ [p]) c = l ++ [p] := by unfold upd; rw [if_pos rfl]
  rw [e, List.length_append, List.length_singleton] at h1
  omega
/-- All lists are walked: what they are, and whether each free block has been met. -/
theorem fl_of (hC : Chain ws 16 B) (he : ws.getD 15 0 ≤ ws.length) (hL : ∀ c, c ≤ 5 → Lst ws (ws.getD (9 + c) 0) (L c) ∧ ∀ x ∈ L c, GoodB B c x) : Fl ws (begK B ws.length B.length) L := by
  refine ⟨fun c hc => (hL c hc).1, fun c hc x hx => ?_, fun c hc => lst_nodup (hL c hc).1⟩
  obtain ⟨b, hb, rfl, rfl, ht⟩ := (hL c hc).2 x hx
  obtain ⟨h1, h2, h3, h4⟩ := chain_mem hC (Nat.le_refl _) hb
  have := (pow5 h1).1
  exact ⟨by omega, by omega, (beg_of hC he _).2 ⟨b, hb, rfl⟩, by rw [h3, ht]⟩
theorem free_of (hC : Chain ws 16 B) (hL : ∀ c, c ≤ 5 → Lst ws (ws.getD (9 + c) 0) (L c) ∧ ∀ x ∈ L c, GoodB B c x) (hm : (catL L 6).length = (ofT false B).length) : ∀ b ∈ B, b.t = false → b.x ∈ L b.c := by
  intro b hb ht
  have hnd := cat_nodup (L := L) hC 6 fun d hd => ⟨lst_nodup (hL d (by omega)).1, (hL d (by omega)).2⟩
  have hsb : catL L 6 ⊆ (ofT false B).map Bl.x := cat_sub (fun d hd => (hL d (by omega)).2) (Nat.le_refl _)
  have hbm : b.x ∈ (ofT false B).map Bl.x := List.mem_map.2 ⟨b, List.mem_filter.2 ⟨hb, by simp [ht]⟩, rfl⟩
  by_cases hin : b.x ∈ catL L 6
  · obtain ⟨d, hd, hx⟩ := mem_catL.1 hin
    have := (good_same hC hb rfl).1 ((hL d (by omega)).2 _ hx)
    rw [this.1]; exact hx
  · exfalso
    have h1 := (List.nodup_cons.2 ⟨hin, hnd⟩).length_le_of_subset (l₂ := (ofT false B).map Bl.x) (fun x hx => by
      rcases List.mem_cons.1 hx with rfl | h9
      · exact hbm
      · exact hsb h9)
    rw [List.length_cons, List.length_map] at h1
    omega
theorem no_dec3 (hC : Chain ws 16 B) (hL : ∀ c, c ≤ 5 → Lst ws (ws.getD (9 + c) 0) (L c) ∧ ∀ x ∈ L c, GoodB B c x) (hm : (catL L 6).length ≠ (ofT false B).length) : ¬ ∃ B L, Dec ws B L := by
  rintro ⟨B', L', h⟩
  have := chain_det hC h.chain
  subst this
  have hLL : ∀ k, k ≤ 6 → catL L k = catL L' k := by
    intro k
    induction k with
    | zero => intro _; simp [catL]
    | succ k ih =>
      intro hk
      rw [catL_succ, catL_succ, ih (by omega), lst_uniq (hL k (by omega)).1 (h.fl.lst k (by omega))]
  refine hm (Nat.le_antisymm ?_ ?_)
  · have hnd := cat_nodup (L := L) hC 6 fun d hd => ⟨lst_nodup (hL d (by omega)).1, (hL d (by omega)).2⟩
    have := hnd.length_le_of_subset (cat_sub (B := B) (fun d hd => (hL d (by omega)).2) (Nat.le_refl _))
    rwa [List.length_map] at this
  · have hnd : ((ofT false B).map Bl.x).Nodup := by
      have hp := (chain_up2 hC).sublist (show (ofT false B).Sublist B from List.filter_sublist)
      exact (List.pairwise_map.2 (hp.imp fun {a b} h9 => by omega))
    have := hnd.length_le_of_subset (l₂ := catL L 6) (fun x hx => by
      obtain ⟨b, hb, rfl⟩ := List.mem_map.1 hx
      have hb2 := List.mem_filter.1 hb
      have h1 := (h.inv.at hb2.1).1
      rw [hLL 6 (Nat.le_refl _)]
      exact mem_catL.2 ⟨b.c, by omega, h.free b hb2.1 (by simpa using hb2.2)⟩)
    rwa [List.length_map] at this
end
end Go.Proofs.Ytgnpoehcmlmajaa
namespace Go.Proofs.Ytgnpoehcmlmajaa
set_option linter.unusedVariables false

section
variable {P : Program} {ops : Array Oper} {Q : Exit → Act → World → Prop} {S : World → Prop}
def pairsOkY (ops : Array Oper) (eff : List Nat) : List Nat → Bool
  | [] => true
  | i :: r => decide (i < ops.size) && (!r.contains i && (r.all (fun j => (pairApart ops i j && !eff.contains i) || reach ops 14 j i) && pairsOkY ops eff r))
/-- The order that is picked has all operations, each once; where one does not wait for an earlier one, the two are apart and the earlier one leaves the world as it is. -/
def ordOkY (ops : Array Oper) (eff ord : List Nat) : Bool :=
  (Region.noSelect ops && decide (ord.length ≤ ops.size)) && ((List.range ops.size).all (fun j => ord.contains j && match ops[j]? with | none => true | some oj => oj.after.all (fun e => decide (e.on < j))) && pairsOkY ops eff ord)
theorem pairsOkY_split {eff : List Nat} : ∀ (L1 : List Nat) {j : Nat} {L2 : List Nat}, pairsOkY ops eff (L1 ++ j :: L2) = true → j ∉ L1 ∧ j ∉ L2 ∧ ∀ i ∈ L1, i < ops.size ∧ ((pairApart ops i j = true ∧ eff.contains i = false) ∨ reach ops 14 j i = true)
  | [], j, L2, h => by
    simp only [List.nil_append, pairsOkY, Bool.and_eq_true, Bool.not_eq_true'] at h
    refine ⟨by simp, ?_, by simp⟩
    intro hm
    have := h.2.1
    rw [List.contains_iff_mem.2 hm] at this
    cases this
  | k :: L1, j, L2, h => by
    simp only [List.cons_append, pairsOkY, Bool.and_eq_true, Bool.not_eq_true', decide_eq_true_eq] at h
    obtain ⟨h0, h1, h2, h3⟩ := h
    obtain ⟨i1, i2, i3⟩ := pairsOkY_split L1 h3
    have hkj : k ≠ j := by
      rintro rfl
      rw [List.contains_iff_mem.2 (by simp)] at h1
      cases h1
    refine ⟨by simp [i1]; exact fun e => hkj e.symm, i2, fun i hi => ?_⟩
    rcases List.mem_cons.1 hi with rfl | hi
    · refine ⟨h0, ?_⟩
      have h4 := List.all_eq_true.1 h2 j (by simp)
      simp only [Bool.or_eq_true, Bool.and_eq_true, Bool.not_eq_true'] at h4
      exact h4
    · exact i3 i hi

theorem linY_any {eff ord : List Nat} (hok : ordOkY ops eff ord = true) : ∀ (fuel : Nat) (listed : Array Bool) (a : Act) (w : World), listed.size = ops.size → ClosedL ops listed → (left listed ord).length ≤ fuel → S w → LinX P ops Q S eff (left listed ord) a w → wpAny P .any ops Q fuel listed a w := by
  simp only [ordOkY, Bool.and_eq_true] at hok
  obtain ⟨⟨hns, _⟩, hall0, hpairs⟩ := hok
  have hsel : ∀ (j : Nat) (o : Oper), ops[j]? = some o → ∀ cs b, o.op ≠ .select cs b := fun j o ho cs b => Region.noSelect_spec hns j o cs b ho
  have hback : ∀ j oj, ops[j]? = some oj → j ∈ ord ∧ ∀ e ∈ oj.after, e.on < j := by
    intro j oj hoj
    have h1 := List.all_eq_true.1 hall0 j (List.mem_range.2 (Array.getElem?_eq_some_iff.1 hoj).1)
    simp only [hoj, Bool.and_eq_true, Array.all_eq_true_iff_forall_mem, decide_eq_true_eq] at h1
    exact ⟨List.contains_iff_mem.1 h1.1, h1.2⟩
  have hnil : ∀ listed : Array Bool, listed.size = ops.size → Region.ready .any ops listed = [] → left listed ord = [] := by
    intro listed hsz hr
    have key : ∀ j, listed.getD j true = true := by
      intro j
      induction j using Nat.strongRecOn with
      | ind j ih =>
        cases hb : listed.getD j true with
        | true => rfl
        | false =>
          have hj : j < ops.size := by
            rcases Nat.lt_or_ge j listed.size with h' | h'
            · omega
            · simp [Array.getElem?_eq_none h'] at hb
          have hoj : ops[j]? = some ops[j] := Array.getElem?_eq_getElem hj
          have hm : j ∈ Region.ready .any ops listed := mem_ready.2 ⟨hb, _, hoj, fun e he _ => by
            have hlt := (hback j _ hoj).2 e he
            have h9 := ih e.on hlt
            have h8 : e.on < listed.size := by omega
            simp [h8] at h9 ⊢
            exact h9⟩
          rw [hr] at hm
          cases hm
    unfold left
    rw [List.filter_eq_nil_iff]
    intro i _
    rw [key i]
    simp
  have hpick : ∀ (listed : Array Bool) (j : Nat), listed.size = ops.size → ClosedL ops listed → j ∈ Region.ready .any ops listed → ∃ oj T1 T2, ops[j]? = some oj ∧ left listed ord = T1 ++ j :: T2 ∧ left (listed.setIfInBounds j true) ord = T1 ++ T2 ∧ ∀ i ∈ T1, ∃ x, ops[i]? = some x ∧ (∀ cs b, x.op ≠ .select cs b) ∧ x.apart ops oj = true ∧ eff.contains i = false := by
    intro listed j hsz hcl hj
    obtain ⟨hun, oj, hoj, hall⟩ := mem_ready.1 hj
    obtain ⟨L1, L2, hord⟩ := List.append_of_mem (hback j oj hoj).1
    rw [hord] at hpairs
    obtain ⟨hn1, hn2, hp⟩ := pairsOkY_split L1 hpairs
    have hlt : j < listed.size := by have := (Array.getElem?_eq_some_iff.1 hoj).1; omega
    refine ⟨oj, left listed L1, left listed L2, hoj, ?_, ?_, ?_⟩
    · rw [hord]
      unfold left
      rw [List.filter_append, List.filter_cons, hun]
      simp
    · have e : left (listed.setIfInBounds j true) (j :: L2) = left (listed.setIfInBounds j true) L2 := by
        unfold left
        rw [List.filter_cons]
        simp [hlt]
      have e2 : left (listed.setIfInBounds j true) (L1 ++ j :: L2) = left (listed.setIfInBounds j true) L1 ++ left (listed.setIfInBounds j true) (j :: L2) := by simp [left]
      rw [hord, e2, e, left_set _ _ _ hn1, left_set _ _ _ hn2]
    · intro i hi
      have hi1 := List.mem_filter.1 hi
      obtain ⟨hil, hc⟩ := hp i hi1.1
      have hui : listed.getD i true = false := by simpa using hi1.2
      have hoi : ops[i]? = some ops[i] := Array.getElem?_eq_getElem hil
      rcases hc with h9 | h9
      · refine ⟨_, hoi, hsel i _ hoi, ?_, h9.2⟩
        have h7 := h9.1
        unfold pairApart at h7
        simp only [hoi, hoj] at h7
        exact h7
      · have h8 := reach_spec hcl 14 j i hoj hall h9
        have h7 : i < listed.size := by omega
        simp [h7] at h8 hui
        rw [hui] at h8
        cases h8
  intro fuel
  induction fuel with
  | zero =>
    intro listed a w hsz hcl hlen hS hL
    have h0 : left listed ord = [] := List.length_eq_zero_iff.1 (by omega)
    rw [h0] at hL
    refine ⟨?_, hL⟩
    refine List.eq_nil_iff_forall_not_mem.2 (fun j hj => ?_)
    obtain ⟨oj, T1, T2, _, h1, _⟩ := hpick listed j hsz hcl hj
    rw [h0] at h1
    simp at h1
  | succ fuel ih =>
    intro listed a w hsz hcl hlen hS hL
    refine ⟨fun hr => ?_, fun j hj => ?_⟩
    · rw [hnil listed hsz hr] at hL
      exact hL
    · obtain ⟨oj, T1, T2, hoj, h1, h2, h3⟩ := hpick listed j hsz hcl hj
      rw [h1] at hL hlen
      obtain ⟨oj', hoj', q1, q2⟩ := LinX.front hoj (hsel j oj hoj) T1 a w h3 hL
      obtain rfl : oj' = oj := Option.some.inj (hoj'.symm.trans hoj)
      have hnext : ∀ a' w', S w' → LinX P ops Q S eff (T1 ++ T2) a' w' → wpAny P .any ops Q fuel (listed.setIfInBounds j true) a' w' := fun a' w' hS' h4 => by
        refine ih (listed.setIfInBounds j true) a' w' (by simp [hsz]) (closedL_set hcl hj) ?_ hS' (by rw [h2]; exact h4)
        rw [h2]
        simp at hlen ⊢
        omega
      unfold wpOp
      simp only [hoj]
      cases hv : eff.contains j with
      | false =>
        obtain ⟨v, g, h5⟩ := q1 hv
        rcases g with ⟨hw, hy⟩ | ⟨hw, rfl⟩
        · simp only [hw, if_true]
          refine .inl ?_
          unfold Oper.wp
          rcases hy w hS with h6 | ⟨f, args, h6, h7⟩
          · rw [h6]
            exact hnext _ _ hS h5
          · rw [h6]
            refine Calls.mono h7 ?_
            rintro e w' ⟨rfl, rfl⟩
            exact hnext _ _ hS h5
        · simp only [hw, Bool.false_eq_true, if_false]
          exact hnext _ _ hS h5
      | true =>
        obtain ⟨hw, hm⟩ := q2 hv
        simp only [hw, if_true]
        refine .inl ?_
        unfold Oper.wp
        rcases hm with ⟨v, w', h6 | ⟨h6, rfl⟩, h7, h8⟩ | ⟨f, args, w1, h6, h7⟩
        · rw [h6]
          exact hnext _ _ h7 h8
        · rw [h6]
          exact hnext _ _ h7 h8
        · rw [h6]
          refine Calls.mono h7 ?_
          rintro e w' ⟨v, rfl, h8, h9⟩
          exact hnext _ _ h8 h9

/-- THE BEGINNING: a region that draws its order, walked in the order that is picked; those of eff may change the world. -/
theorem wp_region_linY {id : Nat} {a : Act} {w : World} (S : World → Prop) (eff ord : List Nat) (hm : P.follows .mixedOrders = true) (hok : ordOkY ops eff ord = true) (hS : S w.drew) (h : LinX P ops Q S eff ord a w.drew) : (Code.region id ops true).wp P Q a w := by
  refine wp_region_any hm ?_
  have hok2 := hok
  simp only [ordOkY, Bool.and_eq_true] at hok
  have hlt : ∀ i ∈ ord, i < ops.size := by
    intro i hi
    obtain ⟨L1, L2, hord⟩ := List.append_of_mem hi
    have h3 := hok.2.2
    rw [hord] at h3
    have : ∀ (L1 : List Nat), pairsOkY ops eff (L1 ++ i :: L2) = true → i < ops.size := by
      intro L1
      induction L1 with
      | nil => intro h; simp only [List.nil_append, pairsOkY, Bool.and_eq_true, decide_eq_true_eq] at h; exact h.1
      | cons k L1 ih => intro h; simp only [List.cons_append, pairsOkY, Bool.and_eq_true] at h; exact ih h.2.2.2
    exact this L1 h3
  have hu : left (Array.replicate ops.size false) ord = ord := by
    unfold left
    rw [List.filter_eq_self]
    intro i hi
    have := hlt i hi
    simp [this]
  refine linY_any hok2 _ _ _ _ (by simp) (fun j oj _ h => by rw [getD_replicate_false] at h; cases h) ?_ hS ?_
  · rw [hu]
    simpa using hok.1.2
  · rw [hu]; exact h
end
end Go.Proofs.Ytgnpoehcmlmajaa
namespace Go.Proofs.Ytgnpoehcmlmajaa
open Go.RowKit Go.Shelf
set_option linter.unusedVariables false
/-- What is answered of the document's arena, changed or not. -/
def An (W W' : World) (lo : Nat) (v : Value) (M' : Mo) : Prop := ∃ bv' ls' vs' lo', v = .agg (M'.vals bv' ls') ∧ Rfa W' lo' bv' ls' vs' M' ∧ lo ≤ lo' ∧ lo' ≤ W'.heap.size ∧ Below W.heap.size W W'
theorem An.of_ans {W W' : World} {lo : Nat} {v : Value} {M' : Mo} (h : Ans W W' v M') (hlo : lo ≤ W.heap.size) : An W W' lo v M' := by
  obtain ⟨bv', ls', vs', h1, h2, h3⟩ := h
  exact ⟨bv', ls', vs', W.heap.size, h1, h2, hlo, h3.size, h3⟩
theorem An.same {W W' : World} {lo : Nat} {bv : Value} {ls : Nat → Value} {vs : List Value} {M : Mo} (h : Rfa W lo bv ls vs M) (hb : Below W.heap.size W W') (hlo : lo ≤ W.heap.size) : An W W' lo (.agg (M.vals bv ls)) M :=
  ⟨bv, ls, vs, lo, rfl, h.later hb, Nat.le_refl _, Nat.le_trans hlo hb.size, hb⟩
/-- What holds of both. -/
structure Pur (ws : List Nat) (bs : List Bool) (M : Mo) : Prop where
  inv : Inv ws bs M.B M.L
  nice : Nice ws M.B
  same : Same ws M
section
variable {g p q : Nat} {ws : List Nat} {bs : List Bool} {M : Mo}
theorem kept_drewN (w : World) (n : Nat) (S : List Nat) : Kept S w (w.drewN n) := (Kept.refl S w).drewN n
/-- A place: a block that is taken is there, or none, in both. -/
theorem Pur.cases (h : Pur ws bs M) (x : Int) : (∃ (k : Nat) (b : Rb), M.R[k]? = some b ∧ b.t = true ∧ x = (b.x : Int) ∧ Yes ws bs b.x b.c) ∨ (No ws bs x ∧ ∀ b ∈ M.R, b.t = true → (b.x : Int) ≠ x) := by
  rcases h.inv.cases x with ⟨d, hd, ht, rfl⟩ | ⟨hn, hx⟩
  · obtain ⟨b, hb, rfl⟩ := List.mem_map.1 hd
    obtain ⟨k, hk⟩ := List.mem_iff_getElem?.1 hb
    exact .inl ⟨k, b, hk, ht, rfl, h.inv.yes hd ht⟩
  · exact .inr ⟨hn, fun b hb ht => hx b.bl (mem_bl hb) ht⟩
theorem alloc_both (h : Pur ws bs M) (hbl : bs.length = ws.length) (hlo : 64 ≤ ws.length) (hhi : ws.length ≤ 16384) (hwl : ∀ b ∈ M.R, b.ws.length = 2 ^ b.c) (c : Int) : ∃ (ws' : List Nat) (bs' : List Bool) (M' : Mo) (x er : Int),
    (∀ W, Ar W g p q ws bs → Calls Try.prog 11 #[.pointer (some ⟨g, 0, none⟩), .int .i64 c] W fun e W' => e = .returned (.tuple #[.int .i64 x, .int .i64 er]) ∧ Ar W' g p q ws' bs' ∧ Kept [p, q] W W') ∧
    (∀ W lo bv ls vs, Rfa W lo bv ls vs M → lo ≤ W.heap.size → Calls Try.prog 22 #[.agg (M.vals bv ls), .int .i64 c] W fun e W' => ∃ v, e = .returned (.tuple #[v, .int .i64 x, .int .i64 er]) ∧ An W W' lo v M') ∧ Pur ws' bs' M' := by
  by_cases hc : c < 0 ∨ 5 < c
  · exact ⟨ws, bs, M, 0, 2, fun W hA => (alloc_arg c hc ⟨g, 0, none⟩ W).mono fun e W' ⟨h1, h2⟩ => ⟨h1, h2 ▸ hA, h2 ▸ Kept.refl _ _⟩, fun W lo bv ls vs hR hl => (ralloc_arg hR c hc).mono fun e W' ⟨h1, h2⟩ => ⟨_, h1, An.same hR h2 hl⟩, h⟩
  · obtain ⟨n, rfl⟩ := Int.eq_ofNat_of_zero_le (show 0 ≤ c by omega)
    have hn : n ≤ 5 := by omega
    have hls := h.inv.lst n hn
    cases hL : M.L n with
    | nil =>
      rw [hL] at hls
      have h0 : ws.getD (9 + n) 0 = 0 := hls
      by_cases hf : ws.getD 15 0 + 1 + 2 ^ n ≤ ws.length
      · have hI' := h.inv.grow hbl hn hf
        have hS' := same_grow h.same h.inv h.nice hn hf
        have hed := edge_eq h.inv
        have hp : Pur (growW ws n) (bs.set (ws.getD 15 0 + 1) true) { M with R := M.R ++ [⟨ws.getD 15 0 + 1, n, true, List.replicate (2 ^ n) 0⟩] } := by
          have e : Mo.B { M with R := M.R ++ [⟨ws.getD 15 0 + 1, n, true, List.replicate (2 ^ n) 0⟩] } = M.B ++ [⟨ws.getD 15 0 + 1, n, true⟩] := by simp [Mo.B, Rb.bl]
          exact ⟨by rw [e]; exact hI', by rw [e]; exact (h.inv.step_grow hn hf (fun _ => False)).nice h.nice, hS'⟩
        have hM : Mok { M with R := M.R ++ [⟨M.edge + 1, n, true, List.replicate (2 ^ n) 0⟩] } := by
          rw [hed]
          exact mok_of hp.inv (by rw [growW_len]; exact hhi) hp.same.n (fun b hb => by
            rcases List.mem_append.1 hb with hb | hb
            · exact hwl b hb
            · obtain rfl : b = _ := by simpa using hb
              simp)
        refine ⟨_, _, _, ((ws.getD 15 0 + 1 : Nat) : Int), 0, fun W hA => alloc_grow hA n hn h0 h.inv.edge16 hf, fun W lo bv ls vs hR hl => (ralloc_grow hR n hn hL (by rw [hed, h.same.n]; exact hf) hM).mono fun e W' ⟨u, h1, h2⟩ => ?_, hp⟩
        rw [hed] at h1 h2
        exact ⟨u, h1, An.of_ans h2 hl⟩
      · have hed := edge_eq h.inv
        have hE := h.inv.edge
        exact ⟨ws, bs, M, 0, 6, fun W hA => (alloc_full hA n hn h0 h.inv.edge16 hE (by omega)).mono fun e W' ⟨h1, h2⟩ => ⟨h1, h2 ▸ hA, h2 ▸ Kept.refl _ _⟩, fun W lo bv ls vs hR hl => (ralloc_full hR n hn hL (by rw [hed, h.same.n]; omega) (by rw [hed]; omega)).mono fun e W' ⟨h1, h2⟩ => ⟨_, h1, An.same hR h2 hl⟩, h⟩
    | cons y r =>
      rw [hL] at hls
      obtain ⟨hl1, hl2, hl3, hI'⟩ := h.inv.list hn hL
      obtain ⟨d, hd, hdx, hdc, hdt⟩ := h.inv.free_of hn (show y ∈ M.L n by rw [hL]; simp)
      obtain ⟨b, hb, rfl⟩ := List.mem_map.1 hd
      obtain ⟨k, hk⟩ := List.mem_iff_getElem?.1 hb
      have hbx : b.x = y := hdx
      have hbc : b.c = n := hdc
      subst hbx
      have e : Mo.B { M with R := M.R.set k { b with t := true, ws := List.replicate (2 ^ n) 0 }, L := upd M.L n r } = marked M.B b.x true := marked_set h.inv hk rfl
      refine ⟨listW ws n b.x, bs, { M with R := M.R.set k { b with t := true, ws := List.replicate (2 ^ n) 0 }, L := upd M.L n r }, (b.x : Int), 0, fun W hA => (alloc_list hA n b.x hn hl1 hl2 hl3).mono fun e W' ⟨h1, h2, h3⟩ => ⟨h1, h2, h3.more (by simp)⟩, fun W lo bv ls vs hR hl => (ralloc_list hR n hn hL hk hbc).mono fun e W' ⟨u, h1, h2⟩ => ⟨u, h1, An.of_ans h2 hl⟩, ⟨by rw [e]; exact hI', by rw [e]; exact (h.inv.step_list hn hL (fun _ => False)).nice h.nice, same_list h.same h.inv h.nice hn hL hk hbc⟩⟩
theorem free_both (h : Pur ws bs M) (hhi : ws.length ≤ 16384) (x : Int) : ∃ (ws' : List Nat) (M' : Mo) (er : Int),
    (∀ W, Ar W g p q ws bs → Calls Try.prog 16 #[.pointer (some ⟨g, 0, none⟩), .int .i64 x] W fun e W' => e = .returned (.int .i64 er) ∧ Ar W' g p q ws' bs ∧ Kept [p, q] W W') ∧
    (∀ W lo bv ls vs, Rfa W lo bv ls vs M → lo ≤ W.heap.size → Calls Try.prog 23 #[.agg (M.vals bv ls), .int .i64 x] W fun e W' => ∃ v, e = .returned (.tuple #[v, .int .i64 er]) ∧ An W W' lo v M') ∧ Pur ws' bs M' := by
  rcases h.cases x with ⟨k, b, hk, ht, rfl, hy⟩ | ⟨hn, hx⟩
  · by_cases hx5 : ws.getD 5 0 = b.x ∨ ws.getD 6 0 = b.x
    · exact ⟨ws, M, 2, fun W hA => (free_arg hA hy hx5).mono fun e W' ⟨h1, h2⟩ => ⟨h1, hA.later h2, Kept.of_below _ h2⟩, fun W lo bv ls vs hR hl => (rfree_arg hR hk ht (by rw [h.same.four, h.same.six]; omega)).mono fun e W' ⟨h1, h2⟩ => ⟨_, h1, An.same hR h2 hl⟩, h⟩
    · have h5 : ws.getD 5 0 ≠ b.x := fun e => hx5 (.inl e)
      have h6 : ws.getD 6 0 ≠ b.x := fun e => hx5 (.inr e)
      have hm := mem_bl (List.mem_of_getElem? hk)
      have h17 : 17 ≤ b.x := (h.inv.at hm).2.1
      have e : Mo.B { M with R := M.R.set k { b with t := false }, L := upd M.L b.c (b.x :: M.L b.c) } = marked M.B b.x false := marked_set h.inv hk rfl
      refine ⟨freeW ws b.x b.c, { M with R := M.R.set k { b with t := false }, L := upd M.L b.c (b.x :: M.L b.c) }, 0, fun W hA => (free_yes hA hy h17 h5 h6).mono fun e W' ⟨h1, h2, h3⟩ => ⟨h1, h2, h3.more (by simp)⟩, fun W lo bv ls vs hR hl => (rfree_yes hR hk ht (by rw [h.same.four]; omega) (by rw [h.same.six]; omega) (lists_len h.inv hhi (h.inv.at hm).1)).mono fun e W' ⟨u, h1, h2⟩ => ⟨u, h1, An.of_ans h2 hl⟩, ⟨by rw [e]; exact h.inv.free hm ht, by rw [e]; exact (h.inv.step_free hm ht h5 h6).nice h.nice, same_free h.same h.inv hk ht h5 h6⟩⟩
  · exact ⟨ws, M, 4, fun W hA => (free_no hA x hn).mono fun e W' ⟨h1, h2⟩ => ⟨h1, h2 ▸ hA, h2 ▸ Kept.refl _ _⟩, fun W lo bv ls vs hR hl => (rfree_no hR x hx).mono fun e W' ⟨h1, h2⟩ => ⟨_, h1, An.same hR h2 hl⟩, h⟩
theorem load_both (h : Pur ws bs M) (x i : Int) : ∃ (y er : Int),
    (∀ W, Ar W g p q ws bs → Calls Try.prog 14 #[.pointer (some ⟨g, 0, none⟩), .int .i64 x, .int .i64 i] W fun e W' => e = .returned (.tuple #[.int .u32 y, .int .i64 er]) ∧ Ar W' g p q ws bs ∧ Kept [p, q] W W') ∧
    (∀ W lo bv ls vs, Rfa W lo bv ls vs M → Calls Try.prog 24 #[.agg (M.vals bv ls), .int .i64 x, .int .i64 i] W fun e W' => e = .returned (.tuple #[.int .u32 y, .int .i64 er]) ∧ Below W.heap.size W W') ∧ ((er = 0 ∧ ∃ (k : Nat) (b : Rb) (j : Nat), M.R[k]? = some b ∧ b.t = true ∧ x = (b.x : Int) ∧ i = (j : Int) ∧ j < 2 ^ b.c ∧ Yes ws bs b.x b.c) ∨ ((er = 2 ∨ er = 4) ∧ y = 0 ∧ ∀ W (z : Int), Ar W g p q ws bs → Calls Try.prog 13 #[.pointer (some ⟨g, 0, none⟩), .int .i64 x, .int .i64 i, .int .u32 z] W fun e W' => e = .returned (.int .i64 er) ∧ Ar W' g p q ws bs ∧ Kept [p, q] W W')) := by
  have dr : ∀ {W W' : World}, Ar W g p q ws bs → (∃ n, W' = W.drewN n) → Ar W' g p q ws bs ∧ Kept [p, q] W W' := fun hA hn => by
    obtain ⟨n, rfl⟩ := hn
    exact ⟨hA.drewN n, kept_drewN _ n _⟩
  rcases h.cases x with ⟨k, b, hk, ht, rfl, hy⟩ | ⟨hn, hx⟩
  · by_cases hi : i < 0 ∨ ((2 ^ b.c : Nat) : Int) ≤ i
    · exact ⟨0, 2, fun W hA => (load_out hA hy i hi).mono fun e W' ⟨h1, h2⟩ => ⟨h1, dr hA h2⟩, fun W lo bv ls vs hR => rload_out hR hk ht i hi, .inr ⟨.inl rfl, rfl, fun W z hA => (store_out hA hy i z hi).mono fun e W' ⟨h1, h2⟩ => ⟨h1, dr hA h2⟩⟩⟩
    · obtain ⟨j, rfl⟩ := Int.eq_ofNat_of_zero_le (show 0 ≤ i by omega)
      have hj : j < 2 ^ b.c := by
        generalize 2 ^ b.c = z at *
        omega
      refine ⟨((ws.getD (b.x + j) 0 : Nat) : Int), 0, fun W hA => (load_yes hA hy hj).mono fun e W' ⟨h1, h2⟩ => ⟨h1, dr hA h2⟩, fun W lo bv ls vs hR => ?_, .inl ⟨rfl, k, b, j, hk, ht, rfl, rfl, hj, hy⟩⟩
      have := rload_yes hR hk ht j hj
      rw [h.same.words b (List.mem_of_getElem? hk) ht j hj] at this
      exact this
  · exact ⟨0, 4, fun W hA => (load_no hA x i hn).mono fun e W' ⟨h1, h2⟩ => ⟨h1, h2 ▸ hA, h2 ▸ Kept.refl _ _⟩, fun W lo bv ls vs hR => rload_no hR x i hx, .inr ⟨.inr rfl, rfl, fun W z hA => (store_no hA x i z hn).mono fun e W' ⟨h1, h2⟩ => ⟨h1, h2 ▸ hA, h2 ▸ Kept.refl _ _⟩⟩⟩
theorem store_both (h : Pur ws bs M) (hwl : ∀ b ∈ M.R, b.ws.length = 2 ^ b.c) (x i : Int) (z : Nat) (hz : z < 4294967296) : ∃ (ws' : List Nat) (M' : Mo) (er : Int),
    (∀ W, Ar W g p q ws bs → Calls Try.prog 13 #[.pointer (some ⟨g, 0, none⟩), .int .i64 x, .int .i64 i, .int .u32 (z : Int)] W fun e W' => e = .returned (.int .i64 er) ∧ Ar W' g p q ws' bs ∧ Kept [p, q] W W') ∧
    (∀ W lo bv ls vs, Rfa W lo bv ls vs M → lo ≤ W.heap.size → Calls Try.prog 25 #[.agg (M.vals bv ls), .int .i64 x, .int .i64 i, .int .u32 (z : Int)] W fun e W' => ∃ v, e = .returned (.tuple #[v, .int .i64 er]) ∧ An W W' lo v M') ∧ Pur ws' bs M' := by
  obtain ⟨y, er, _, hld, ⟨_, k, b, j, hk, ht, rfl, rfl, hj, hy⟩ | ⟨her, rfl, hst⟩⟩ := load_both (g := g) (p := p) (q := q) h x i
  · have hm := mem_bl (List.mem_of_getElem? hk)
    have e : Mo.B { M with R := M.R.set k { b with ws := b.ws.set j z } } = M.B := by
      apply List.ext_getElem?
      intro i
      unfold Mo.B
      rw [List.getElem?_map, List.getElem?_map, List.getElem?_set]
      split
      · rename_i hki
        subst hki
        rw [if_pos (List.getElem?_eq_some_iff.1 hk).1, hk]; rfl
      · rfl
    refine ⟨ws.set (b.x + j) z, { M with R := M.R.set k { b with ws := b.ws.set j z } }, 0, fun W hA => (store_yes hA hy hj z hz).mono fun e W' hh => ?_, fun W lo bv ls vs hR hl => (rstore_yes hR hk ht j hj z).mono fun e W' ⟨u, h1, h2⟩ => ⟨u, h1, An.of_ans h2 hl⟩, ⟨by rw [e]; exact h.inv.store hm ht hj z, by rw [e]; exact (h.inv.step_store hm ht hj z).nice h.nice, same_store h.same h.inv hk ht (hwl b (List.mem_of_getElem? hk)) hj z⟩⟩
    exact ⟨hh.1, hh.2.1, hh.2.2.more (by simp)⟩
  · have hnn : ∃ ern : Nat, (ern : Int) = er ∧ (ern = 2 ∨ ern = 4) := by
      rcases her with rfl | rfl
      · exact ⟨2, rfl, .inl rfl⟩
      · exact ⟨4, rfl, .inr rfl⟩
    obtain ⟨ern, rfl, hern⟩ := hnn
    exact ⟨ws, M, ern, fun W hA => hst W z hA, fun W lo bv ls vs hR hl => (rstore_err hR x i z ern hern (fun hR' => hld _ _ _ _ _ hR')).mono fun e W' ⟨h1, h2⟩ => ⟨_, h1, An.same hR h2 hl⟩, h⟩
end
end Go.Proofs.Ytgnpoehcmlmajaa
