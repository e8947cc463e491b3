/-
  The best of each prefix, in whatever order it is put together. Nothing here is a statement of the document.
-/
import Derived.Test.YtclkfmblogkakaaDoorRtU
import Derived.Test.YtclkfmblogkakaaDoorTbS
namespace Go.Proofs.YtclkfmblogkakaaDoor
open Go.RowKit Go.Shelf
set_option linter.unusedVariables false
set_option maxRecDepth 100000
/-- How many of the first ones are of a prefix that none ahead of them has. -/
noncomputable def disN (L : List Ro) : Nat → Nat
  | 0 => 0
  | m + 1 => open Classical in if ∃ i, i < m ∧ (rog L i).p = (rog L m).p then disN L m else disN L m + 1
theorem disN_old {L : List Ro} {m : Nat} (h : ∃ i, i < m ∧ (rog L i).p = (rog L m).p) : disN L (m + 1) = disN L m := by rw [disN, if_pos h]
theorem disN_new {L : List Ro} {m : Nat} (h : ¬ ∃ i, i < m ∧ (rog L i).p = (rog L m).p) : disN L (m + 1) = disN L m + 1 := by rw [disN, if_neg h]
theorem disN_le (L : List Ro) : ∀ m, disN L m ≤ m
  | 0 => Nat.le_refl _
  | m + 1 => by
    have := disN_le L m
    rw [disN]
    split <;> omega
/-- Strictly in order. -/
def Up2 (L : List Ro) : Prop := ∀ j, j + 1 < L.length → cmpR (rog L j) (rog L (j + 1)) < 0
theorem Up2.lt {L : List Ro} (h : Up2 L) {i : Nat} : ∀ {j}, i < j → j < L.length → cmpR (rog L i) (rog L j) < 0
  | 0, h1, _ => absurd h1 (Nat.not_lt_zero _)
  | j + 1, h1, h2 => by
    by_cases e : i = j
    · rw [e]; exact h j h2
    · exact cm_r.lt _ _ _ (h.lt (j := j) (by omega) (by omega)) (h j h2)
theorem cmpR_le {x y : Ro} (h : cmpR x y < 0) : cmpP x.p y.p ≤ 0 := by
  rw [cmpR_eq] at h
  by_cases e : cmpP x.p y.p = 0
  · omega
  · rw [if_neg e] at h; omega
theorem Up2.one {L : List Ro} (h : Up2 L) {i j : Nat} (hij : i < j) (hj : j < L.length) (e : (rog L i).p = (rog L j).p) : (rog L j).p = (rog L (j - 1)).p := by
  by_cases k : i = j - 1
  · rw [← k]; exact e.symm
  · have h1 := cmpR_le (h.lt (i := i) (j := j - 1) (by omega) (by omega))
    have h2 := cmpR_le (h (j - 1) (by omega))
    rw [show j - 1 + 1 = j by omega] at h2
    rw [e] at h1
    have h3 := cmpP_neg (rog L j).p (rog L (j - 1)).p
    exact (cmpP_zero _ _).1 (by omega)
theorem Up2.count {L : List Ro} (h : Up2 L) : ∀ m, m ≤ L.length → disN L m = (fstN L m).length
  | 0, _ => rfl
  | m + 1, hm => by
    have ih := h.count m (by omega)
    by_cases k : m = 0 ∨ (rog L m).p ≠ (rog L (m - 1)).p
    · rw [fstN_new k, List.length_append, ← ih, disN_new]
      · rfl
      · rintro ⟨i, h1, h2⟩
        rcases k with k | k
        · omega
        · exact k (h.one h1 (by omega) h2)
    · have k1 : m ≠ 0 := fun e => k (.inl e)
      have k2 : (rog L m).p = (rog L (m - 1)).p := Classical.not_not.1 fun e => k (.inr e)
      rw [fstN_old k1 k2, ← ih, disN_old ⟨m - 1, by omega, k2.symm⟩]
theorem Up2.many {L : List Ro} (h : Up2 L) (ho : ∀ j, j < L.length → okRo (rog L j)) : ∀ m, m + 1 ≤ L.length → ((m + 1 : Nat) : Int) ≤ 4 * ((fstN L (m + 1)).length - 1 : Int) + (rog L m).s
  | 0, hm => by
    rw [fstN_new (.inl rfl)]
    have := (ho 0 (by omega)).2.1.1
    show (1 : Int) ≤ 4 * ((([] ++ [rog L 0] : List Ro).length : Int) - 1) + _
    simp
    omega
  | m + 1, hm => by
    have ih := h.many ho m (by omega)
    have h1 := (ho m (by omega)).2.1
    have h2 := (ho (m + 1) (by omega)).2.1
    by_cases k : (rog L (m + 1)).p = (rog L m).p
    · rw [fstN_old (m := m + 1) (by omega) k]
      have h3 := h m (by omega)
      rw [cmpR_eq, k, if_pos ((cmpP_zero _ _).2 rfl)] at h3
      have h4 : (rog L m).s < (rog L (m + 1)).s := by
        rcases cmpI_cases (rog L m).s (rog L (m + 1)).s with g | g | g <;> omega
      omega
    · rw [fstN_new (m := m + 1) (.inr k), List.length_append]
      simp
      omega
theorem okRib_len {L : List Ro} (h : okRib L) : L.length ≤ 160 := by
  by_cases e : L.length = 0
  · omega
  · have h1 := Up2.many h.2.1 h.1 (L.length - 1) (by omega)
    rw [show L.length - 1 + 1 = L.length by omega] at h1
    have h2 := (h.1 (L.length - 1) (by omega)).2.1.2
    have h3 := h.2.2
    unfold fstL at h3
    omega
theorem okRib_iff (L : List Ro) : okRib L ↔ L.length ≤ 160 ∧ (∀ j, j < L.length → okRo (rog L j)) ∧ Up2 L ∧ disN L L.length ≤ 40 := by
  constructor
  · intro h
    exact ⟨okRib_len h, h.1, h.2.1, by rw [Up2.count h.2.1 _ (Nat.le_refl _)]; exact h.2.2⟩
  · rintro ⟨_, h1, h2, h3⟩
    exact ⟨h1, h2, by rw [Up2.count h2 _ (Nat.le_refl _)] at h3; exact h3⟩
attribute [local go_sem ↓] load_b16_rule store_b16_rule load_ad_rule store_ad_rule load_px_rule store_px_rule eq_b16_rule eq_ad_rule eq_px_rule load_ro_rule store_ro_rule
set_option maxHeartbeats 4000000 in
theorem rprefixes_any (a : Option Addr) (n c : Nat) (L : List Ro) (w : World) (hn : L.length = n) (hs : n ≤ 1000000) (hR : RoAt w a L) :
    Calls Tryd.prog 44 #[.slice a n c] w fun e w' => e = .returned (.int .i64 (disN L n : Nat)) ∧ Below w.heap.size w w' := by
  have HR := Lib.hid (And.intro (fun (w' : World) (h : Below w.heap.size w w') => hR.later h) hn)
  clear hR hn
  go_enter Tryd.func44, Tryd.ntmps44
  go_wp2_with fail
  go_loopw [3, 4] (fun q i wr => ∃ k : Nat, k ≤ n ∧ i = .int .i64 (k : Int) ∧ q = .int .i64 (disN L k : Nat) ∧ Below w.heap.size w wr) (fun _ i _ => n - (intOf i).toNat)
  case atStart => exact ⟨0, Nat.zero_le _, rfl, rfl, Below.refl _ _⟩
  case round =>
    obtain ⟨k, hk, rfl, rfl, hkb⟩ := hrel
    obtain ⟨wo, hwo⟩ : ∃ wo, wo = wr := ⟨_, rfl⟩
    subst hwo
    have hdl : disN L k ≤ 1000000 := Nat.le_trans (disN_le L k) (by omega)
    by_cases hlt : k < n
    · have hkl : k < L.length := by have := HR.out.2; omega
      have HK := Lib.hid hkb
      clear hkb
      go_wp2_with fail
      go_loopw [5, 6] (fun f i wr => ∃ j : Nat, j ≤ k ∧ i = .int .i64 (j : Int) ∧ (∃ b : Bool, f = .bool b ∧ (b = true ↔ ∀ m, m < j → (rog L m).p ≠ (rog L k).p)) ∧ Below wo.heap.size wo wr) (fun _ i _ => k - (intOf i).toNat)
      case atStart => exact ⟨0, Nat.zero_le _, rfl, ⟨true, rfl, by simp⟩, Below.refl _ _⟩
      case round =>
        obtain ⟨j, hj, rfl, ⟨b, rfl, hb⟩, hjb⟩ := hrel
        have hb14 : Below w.heap.size w wr := bel_trans HK.out hjb
        by_cases hjk : j < k
        · obtain ⟨g, o, hao, hrow⟩ := (HR.out.1 wr hb14).spot hkl
          have L1 : ∀ w', Below wr.heap.size wr w' → (loadSem 65 (.pointer (some ⟨g, o + k * 21, none⟩))).run Tryd.prog w' = .ok (.agg (rog L k).p.cs) w' := fun w' h => (hrow.later h).loadp hkl
          have L2 : ∀ w', Below wr.heap.size wr w' → (loadSem 65 (.pointer (some ⟨g, o + j * 21, none⟩))).run Tryd.prog w' = .ok (.agg (rog L j).p.cs) w' := fun w' h => (hrow.later h).loadp (by omega)
          have h02 : Below wr.heap.size wr wr := Below.refl _ _
          have EQ := eqP (rog L j).p (rog L k).p
          have i1 : (j : Int) < (n : Int) := by omega
          have HJ := Lib.hid (And.intro hb hjb)
          clear hrow hb hjb hb14
          subst hao
          by_cases he : (rog L j).p = (rog L k).p
          · rw [decide_eq_true he] at EQ
            have HE := Lib.hid he
            clear he
            go_upto_region 9 with fail
            refine wp_region_lin (fun w' => Below wr.heap.size wr w') (by kernel_rfl) (by kernel_rfl) (bel_drew (by assumption)) ?_
            (repeat (first | (refine lin_off (by rfl) ?_; (try simp only [Act.put, List.setIfInBounds_toArray, List.set_cons_zero, List.set_cons_succ])) | (refine lin_op (v := ?_) (by rfl) (fun w9 hS9 => ?_) ?_; rotate_left; (focus (((try dsimp only at hS9); go_simp; (try go_bits)) <;> with_reducible rfl)); (try simp only [Act.put, List.setIfInBounds_toArray, List.set_cons_zero, List.set_cons_succ]))))
            refine lin_nil (fun w7 hb7 => ?_)
            go_wp2
            go_roundw
            case rel => exact ⟨j + 1, by omega, by go_num, ⟨false, rfl, ⟨fun h => (by cases h), fun h => absurd HE.out (h j (by omega))⟩⟩, bel_trans HJ.out.2 hb7⟩
            case measure => simp [intOf]; omega
          · rw [decide_eq_false he] at EQ
            go_upto_region 9 with fail
            refine wp_region_lin (fun w' => Below wr.heap.size wr w') (by kernel_rfl) (by kernel_rfl) (bel_drew (by assumption)) ?_
            (repeat (first | (refine lin_off (by rfl) ?_; (try simp only [Act.put, List.setIfInBounds_toArray, List.set_cons_zero, List.set_cons_succ])) | (refine lin_op (v := ?_) (by rfl) (fun w9 hS9 => ?_) ?_; rotate_left; (focus (((try dsimp only at hS9); go_simp; (try go_bits)) <;> with_reducible rfl)); (try simp only [Act.put, List.setIfInBounds_toArray, List.set_cons_zero, List.set_cons_succ]))))
            refine lin_nil (fun w7 hb7 => ?_)
            go_wp2
            go_roundw
            case rel => exact ⟨j + 1, by omega, by go_num, ⟨b, rfl, HJ.out.1.trans ⟨fun h m hm => by
              by_cases e : m = j
              · rw [e]; exact he
              · exact h m (by omega), fun h m hm => h m (by omega)⟩⟩, bel_trans HJ.out.2 hb7⟩
            case measure => simp [intOf]; omega
        · have hjk2 : j = k := by omega
          have i1 : ¬ ((j : Int) < (k : Int)) := by omega
          have HJ := Lib.hid (And.intro hb (And.intro hb14 hjk2))
          clear hb hjb hb14 hjk2
          cases b
          · have hd : disN L (k + 1) = disN L k := disN_old (Classical.byContradiction fun h => by
              have := HJ.out.1.2 (fun m hm e => h ⟨m, by rw [← HJ.out.2.2]; exact hm, e⟩)
              cases this)
            have HD := Lib.hid hd
            clear hd
            go_wp2
            go_roundw
            case rel => exact ⟨k + 1, by omega, by go_num, by rw [HD.out], HJ.out.2.1⟩
            case measure => simp [intOf]; omega
          · have hd : disN L (k + 1) = disN L k + 1 := disN_new (by
              rintro ⟨m, h1, h2⟩
              exact HJ.out.1.1 rfl m (by rw [HJ.out.2.2]; exact h1) h2)
            have HD := Lib.hid hd
            clear hd
            go_wp2
            go_roundw
            case rel => exact ⟨k + 1, by omega, by go_num, by rw [HD.out]; go_num, HJ.out.2.1⟩
            case measure => simp [intOf]; omega
    · have hkn : k = n := by omega
      have i1 : ¬ ((k : Int) < (n : Int)) := by omega
      have HK := Lib.hid (And.intro hkb hkn)
      clear hkb hkn
      go_wp2
      go_ret
      exact ⟨by rw [← HK.out.2]; rfl, HK.out.1⟩
end Go.Proofs.YtclkfmblogkakaaDoor
namespace Go.Proofs.YtclkfmblogkakaaDoor
open Go.RowKit Go.Shelf
set_option linter.unusedVariables false
set_option maxRecDepth 100000
/-- The one is as good as the other. -/
def asGood (x y : Ro) : Prop := y.f < x.f ∨ (y.f = x.f ∧ x.s ≤ y.s)
theorem asGood.refl (x : Ro) : asGood x x := .inr ⟨rfl, Int.le_refl _⟩
/-- The rows are the best of each prefix, of those that Q tells. -/
structure BI (L : List Ro) (T : List Rt) (Q : Nat → Prop) : Prop where
  rise : T.Pairwise ltR
  mem : ∀ x, x ∈ T ↔ ∃ j, j < L.length ∧ Q j ∧ x = roRow (rog L j) ∧ ∀ i, i < L.length → Q i → (rog L i).p = (rog L j).p → asGood (rog L j) (rog L i)
/-- No two are of one prefix and one source. -/
def One (L : List Ro) : Prop := ∀ i j, i < L.length → j < L.length → (rog L i).p = (rog L j).p → (rog L i).s = (rog L j).s → i = j
theorem cmpR_same {x y : Ro} (hp : x.p = y.p) (hs : x.s = y.s) : cmpR x y = 0 := by
  rw [cmpR_eq, hp, hs, if_pos ((cmpP_zero _ _).2 rfl)]
  rcases cmpI_cases y.s y.s with h | h | h
  · omega
  · exact h.2
  · omega
theorem Up2.uniq {L : List Ro} (h : Up2 L) : One L := fun i j hi hj hp hs => by
  rcases Nat.lt_trichotomy i j with k | k | k
  · have := h.lt k hj; rw [cmpR_same hp hs] at this; omega
  · exact k
  · have := h.lt k hi; rw [cmpR_same hp.symm hs.symm] at this; omega
theorem BI.none (L : List Ro) {Q : Nat → Prop} (h : ∀ j, j < L.length → ¬ Q j) : BI L [] Q :=
  ⟨List.Pairwise.nil, fun x => ⟨fun hx => (by simp at hx), fun ⟨j, hj, hq, _⟩ => absurd hq (h j hj)⟩⟩
theorem BI.congr {L : List Ro} {T : List Rt} {Q Q' : Nat → Prop} (h : BI L T Q) (k : ∀ j, j < L.length → (Q j ↔ Q' j)) : BI L T Q' :=
  ⟨h.rise, fun x => (h.mem x).trans ⟨fun ⟨j, hj, hq, e, hb⟩ => ⟨j, hj, (k j hj).1 hq, e, fun i hi qi => hb i hi ((k i hi).2 qi)⟩, fun ⟨j, hj, hq, e, hb⟩ => ⟨j, hj, (k j hj).2 hq, e, fun i hi qi => hb i hi ((k i hi).1 qi)⟩⟩⟩
theorem BI.eq {L : List Ro} {T U : List Rt} {Q : Nat → Prop} (h : BI L T Q) (k : BI L U Q) : T = U :=
  rise_eq h.rise k.rise fun x => (h.mem x).trans (k.mem x).symm
theorem BI.put {L : List Ro} {T : List Rt} {Q : Nat → Prop} (h : BI L T Q) (hL : One L) {k : Nat} (hk : k < L.length) (hb : ∀ i, i < L.length → Q i → asGood (rog L k) (rog L i)) (hh : (rog L k).h ≠ 0) :
    BI L (putL T (rog L k).p (rog L k).h) (fun i => Q i ∨ i = k) := by
  obtain ⟨q1, q2⟩ := putL_spec h.rise (rog L k).p (rog L k).h
  refine ⟨q1, fun x => ?_⟩
  rw [q2, h.mem]
  constructor
  · rintro (⟨⟨j, hj, hq, rfl, hg⟩, hp⟩ | ⟨_, rfl⟩)
    · refine ⟨j, hj, .inl hq, rfl, fun i hi qi e => ?_⟩
      rcases qi with qi | rfl
      · exact hg i hi qi e
      · exact absurd e.symm hp
    · refine ⟨k, hk, .inr rfl, rfl, fun i hi qi e => ?_⟩
      rcases qi with qi | rfl
      · exact hb i hi qi
      · exact asGood.refl _
  · rintro ⟨j, hj, hq, rfl, hg⟩
    by_cases hjk : j = k
    · subst hjk; exact .inr ⟨hh, rfl⟩
    · have hqj : Q j := hq.resolve_right hjk
      refine .inl ⟨⟨j, hj, hqj, rfl, fun i hi qi e => hg i hi (.inl qi) e⟩, fun (e : (rog L j).p = (rog L k).p) => hjk ?_⟩
      have h1 := hg k hk (.inr rfl) e.symm
      have h2 := hb j hj hqj
      refine hL j k hj hk e ?_
      unfold asGood at h1 h2
      omega
theorem nodup_len : ∀ (A B : List Px), A.Nodup → (∀ x ∈ A, x ∈ B) → A.length ≤ B.length
  | [], B, _, _ => Nat.zero_le _
  | a :: A, B, h, k => by
    obtain ⟨s, t, rfl⟩ := List.append_of_mem (k a (by simp))
    have h2 := List.nodup_cons.1 h
    have := nodup_len A (s ++ t) h2.2 fun x hx => by
      have := k x (List.mem_cons_of_mem _ hx)
      simp only [List.mem_append, List.mem_cons] at this ⊢
      rcases this with q | q | q
      · exact .inl q
      · exact absurd (q ▸ hx) h2.1
      · exact .inr q
    simp only [List.length_append, List.length_cons] at this ⊢
    omega
theorem fstN_mem {L : List Ro} : ∀ m, m ≤ L.length → ∀ j, j < m → ∃ x ∈ fstN L m, x.p = (rog L j).p
  | 0, _, j, hj => absurd hj (Nat.not_lt_zero _)
  | m + 1, hm, j, hj => by
    by_cases k : m = 0 ∨ (rog L m).p ≠ (rog L (m - 1)).p
    · rw [fstN_new k]
      by_cases e : j = m
      · exact ⟨rog L m, by simp, by rw [e]⟩
      · obtain ⟨x, hx, h⟩ := fstN_mem (L := L) m (by omega) j (by omega)
        exact ⟨x, by simp [hx], h⟩
    · have k1 : m ≠ 0 := fun e => k (.inl e)
      have k2 : (rog L m).p = (rog L (m - 1)).p := Classical.not_not.1 fun e => k (.inr e)
      rw [fstN_old k1 k2]
      by_cases e : j = m
      · rw [e, k2]; exact fstN_mem (L := L) m (by omega) (m - 1) (by omega)
      · exact fstN_mem (L := L) m (by omega) j (by omega)
theorem ltR_ne {x y : Rt} (h : ltR x y) : x.p ≠ y.p := fun e => by
  unfold ltR at h
  rw [e, (cmpP_zero _ _).2 rfl] at h
  omega
theorem BI.len {L : List Ro} {T : List Rt} {Q : Nat → Prop} (h : BI L T Q) : T.length ≤ (fstL L).length := by
  have := nodup_len (T.map Rt.p) ((fstL L).map Ro.p) (by
    rw [List.nodup_iff_pairwise_ne, List.pairwise_map]
    exact h.rise.imp ltR_ne) fun x hx => by
    obtain ⟨r, hr, rfl⟩ := List.mem_map.1 hx
    obtain ⟨j, hj, _, rfl, _⟩ := (h.mem r).1 hr
    obtain ⟨y, hy, e⟩ := fstN_mem L.length (Nat.le_refl _) j hj
    exact List.mem_map.2 ⟨y, hy, e⟩
  simpa using this

/-! ### The first ones of candidates, the best ahead -/
theorem fstN_at {L : List Ro} : ∀ m, m ≤ L.length → ∀ x, x ∈ fstN L m ↔ ∃ j, j < m ∧ x = rog L j ∧ (j = 0 ∨ (rog L j).p ≠ (rog L (j - 1)).p)
  | 0, _, x => by simp [fstN]
  | m + 1, hm, x => by
    have ih := fstN_at (L := L) m (by omega) x
    by_cases k : m = 0 ∨ (rog L m).p ≠ (rog L (m - 1)).p
    · rw [fstN_new k, List.mem_append, ih, List.mem_singleton]
      constructor
      · rintro (⟨j, h1, h2⟩ | h)
        · exact ⟨j, by omega, h2⟩
        · exact ⟨m, by omega, h, k⟩
      · rintro ⟨j, h1, h2⟩
        by_cases e : j = m
        · subst e; exact .inr h2.1
        · exact .inl ⟨j, by omega, h2⟩
    · have k1 : m ≠ 0 := fun e => k (.inl e)
      have k2 : (rog L m).p = (rog L (m - 1)).p := Classical.not_not.1 fun e => k (.inr e)
      rw [fstN_old k1 k2, ih]
      constructor
      · rintro ⟨j, h1, h2⟩
        exact ⟨j, by omega, h2⟩
      · rintro ⟨j, h1, h2⟩
        refine ⟨j, ?_, h2⟩
        by_cases e : j = m
        · subst e; exact absurd h2.2 k
        · omega
theorem cmpB_le1 {x y : Ro} (h : cmpB1 x y ≤ 0) : cmpP x.p y.p ≤ 0 := by
  rw [cmpB1_eq] at h
  by_cases e : cmpP x.p y.p = 0
  · omega
  · rw [if_neg e] at h; omega
theorem cmpB_good {x y : Ro} (hp : x.p = y.p) : cmpB1 x y ≤ 0 ↔ asGood x y := by
  rw [cmpB1_eq, hp, if_pos ((cmpP_zero _ _).2 rfl)]
  unfold asGood
  rcases cmpI_cases y.f x.f with h | h | h
  · rw [if_neg (by omega)]; omega
  · rw [if_pos h.2]
    rcases cmpI_cases x.s y.s with k | k | k <;> omega
  · rw [if_neg (by omega)]; omega
/-- In order by that comparison. -/
def Ord (cf : Ro → Ro → Int) (S : List Ro) : Prop := ∀ i j, i < j → j < S.length → cf (rog S i) (rog S j) ≤ 0
theorem ord_run {S : List Ro} (h : Ord cmpB1 S) {i j : Nat} (hij : i < j) (hj : j < S.length) (e : (rog S i).p = (rog S j).p) : (rog S j).p = (rog S (j - 1)).p := by
  by_cases k : i = j - 1
  · rw [← k]; exact e.symm
  · have h1 := cmpB_le1 (h i (j - 1) (by omega) (by omega))
    have h2 := cmpB_le1 (h (j - 1) j (by omega) (by omega))
    rw [e] at h1
    have h3 := cmpP_neg (rog S j).p (rog S (j - 1)).p
    exact (cmpP_zero _ _).1 (by omega)
theorem ord_first {S : List Ro} (h : Ord cmpB1 S) {j : Nat} (hj : j < S.length) : (j = 0 ∨ (rog S j).p ≠ (rog S (j - 1)).p) ↔ ∀ i, i < j → (rog S i).p ≠ (rog S j).p := by
  constructor
  · rintro (h1 | h1) i hi e
    · omega
    · exact h1 (ord_run h hi hj e)
  · intro k
    by_cases e : j = 0
    · exact .inl e
    · exact .inr fun e2 => k (j - 1) (by omega) e2.symm
theorem ord_rise {S : List Ro} (h : Ord cmpB1 S) : ∀ m, m ≤ S.length → ((fstN S m).map roRow).Pairwise ltR
  | 0, _ => List.Pairwise.nil
  | m + 1, hm => by
    have ih := ord_rise h m (by omega)
    by_cases k : m = 0 ∨ (rog S m).p ≠ (rog S (m - 1)).p
    · rw [fstN_new k, List.map_append, List.pairwise_append]
      refine ⟨ih, by simp, fun x hx y hy => ?_⟩
      obtain ⟨r, hr, rfl⟩ := List.mem_map.1 hx
      obtain ⟨j, hj, rfl, _⟩ := (fstN_at m (by omega) r).1 hr
      have hy2 : y = roRow (rog S m) := by simpa using hy
      subst hy2
      have h1 := (ord_first h (by omega)).1 k j hj
      have h2 := cmpB_le1 (h j m hj (by omega))
      have h3 : cmpP (rog S j).p (rog S m).p ≠ 0 := fun e => h1 ((cmpP_zero _ _).1 e)
      show cmpP (rog S j).p (rog S m).p < 0
      omega
    · have k1 : m ≠ 0 := fun e => k (.inl e)
      have k2 : (rog S m).p = (rog S (m - 1)).p := Classical.not_not.1 fun e => k (.inr e)
      rw [fstN_old k1 k2]; exact ih
theorem mem_rog {L : List Ro} {x : Ro} (h : x ∈ L) : ∃ i, i < L.length ∧ rog L i = x := by
  obtain ⟨i, hi, e⟩ := List.getElem_of_mem h
  exact ⟨i, hi, by rw [rog_get hi]; exact e⟩
theorem BI.best {L S : List Ro} (hL : One L) (hS : Sorted cmpB1 L S) : BI L ((fstL S).map roRow) (fun _ => True) := by
  have hl : S.length = L.length := hS.1.length_eq
  have hO : Ord cmpB1 S := fun i j hi hj => hS.2 i j hi (by omega)
  refine ⟨ord_rise hO _ (Nat.le_refl _), fun x => ?_⟩
  rw [List.mem_map]
  constructor
  · rintro ⟨r, hr, rfl⟩
    obtain ⟨j, hj, rfl, hf⟩ := (fstN_at S.length (Nat.le_refl _) r).1 hr
    obtain ⟨q, hq, e⟩ := mem_rog (hS.1.mem_iff.1 (rog_mem hj))
    refine ⟨q, hq, trivial, by rw [e], fun i hi _ hp => ?_⟩
    obtain ⟨m, hm, e2⟩ := mem_rog (hS.1.mem_iff.2 (rog_mem hi))
    rw [e, ← e2] at hp ⊢
    by_cases hmj : m < j
    · exact absurd hp ((ord_first hO hj).1 hf m hmj)
    · by_cases e3 : m = j
      · rw [e3]; exact asGood.refl _
      · exact (cmpB_good hp.symm).1 (hO j m (by omega) hm)
  · rintro ⟨q, hq, _, rfl, hg⟩
    obtain ⟨m, hm, e⟩ := mem_rog (hS.1.mem_iff.2 (rog_mem hq))
    obtain ⟨r, hr, hp⟩ := fstN_mem S.length (Nat.le_refl _) m hm
    obtain ⟨j, hj, rfl, hf⟩ := (fstN_at S.length (Nat.le_refl _) r).1 hr
    refine ⟨rog S j, hr, ?_⟩
    obtain ⟨i, hi, e2⟩ := mem_rog (hS.1.mem_iff.1 (rog_mem hj))
    have h1 := hg i hi trivial (by rw [e2, hp, e])
    rw [e2, ← e] at h1
    by_cases e3 : m = j
    · rw [← e3, e]
    · have hjm : j < m := by
        rcases Nat.lt_or_ge m j with k | k
        · exact absurd hp.symm ((ord_first hO hj).1 hf m k)
        · omega
      have h2 := hO j m hjm hm
      have h3 : cmpB1 (rog S m) (rog S j) ≤ 0 := (cmpB_good hp.symm).2 h1
      have h4 := (cmpB_good hp).1 h2
      have h5 : (rog S j).s = (rog S m).s := by unfold asGood at h1 h4; omega
      have h6 := hL i q hi hq (by rw [e2, ← e]; exact hp) (by rw [e2, ← e]; exact h5)
      subst h6
      rw [e2]
end Go.Proofs.YtclkfmblogkakaaDoor
