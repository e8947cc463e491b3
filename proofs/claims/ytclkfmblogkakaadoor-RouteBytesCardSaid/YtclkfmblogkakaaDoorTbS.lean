/-
  The contract of the reference's Put. Nothing here is a statement of the document.
-/
import Derived.Test.YtclkfmblogkakaaDoorTbP
namespace Go.Proofs.YtclkfmblogkakaaDoor
open Go.RowKit Go.Shelf
set_option linter.unusedVariables false
set_option maxRecDepth 100000
attribute [local go_sem ↓] load_b16_rule store_b16_rule load_ad_rule store_ad_rule load_px_rule store_px_rule eq_b16_rule eq_ad_rule eq_px_rule load_rt_rule store_rt_rule build_ad_rule build_px_rule build_b16_rule build_rt_rule load_tab_rule build_tab_rule store_tab_rule tbuild_rule tapp_rule tcopy_rule eq_rt_rule

theorem same_all9 {L M : List Rt} (h : L.length = M.length) (ha : ∀ j, j < L.length → rt L j = rt M j) : L = M := by
  apply List.ext_getElem h
  intro i h1 h2
  have := ha i h1
  rwa [rt_get h1, rt_get h2] at this
set_option maxHeartbeats 4000000 in
theorem rsame_any (a a2 : Option Addr) (n c n2 c2 : Nat) (L M : List Rt) (w : World) (hn : L.length = n) (hm : n ≤ 9223372036854775807) (hR : RowsAt w a L) (hn2 : M.length = n2) (hm2 : n2 ≤ 9223372036854775807) (hR2 : RowsAt w a2 M) :
    Calls Tryd.prog 22 #[.agg #[.slice a n c], .agg #[.slice a2 n2 c2]] w fun e w' => e = .returned (.bool (decide (L = M))) ∧ Below w.heap.size w w' := by
  obtain ⟨W1, hW1⟩ : ∃ W1, (w.alloc (.cells #[.slice a n c] 41)).alloc (.cells #[.slice a2 n2 c2] 41) = W1 := ⟨_, rfl⟩
  have hb1 : Below w.heap.size w W1 := by rw [← hW1]; exact (((Below.refl w.heap.size w).alloc (Nat.le_refl _) _).alloc (by simp) _)
  have b1 : Blk W1 w.heap.size 41 #[.slice a n c] := by
    have h9 := (Blk.new w 41 #[.slice a n c]).alloc (.cells #[.slice a2 n2 c2] 41)
    rwa [hW1] at h9
  have b2 : Blk W1 (w.heap.size + 1) 41 #[.slice a2 n2 c2] := by
    have h9 := Blk.new (w.alloc (.cells #[.slice a n c] 41)) 41 #[.slice a2 n2 c2]
    rwa [World.size_alloc, hW1] at h9
  have CT := tab_c b1
  have CU := tab_c b2
  have HR : ∀ w', Below W1.heap.size W1 w' → RowsAt w' a L := fun w' h => (hR.later hb1).later h
  have HR2 : ∀ w', Below W1.heap.size W1 w' → RowsAt w' a2 M := fun w' h => (hR2.later hb1).later h
  have h0 : Below W1.heap.size W1 W1 := Below.refl _ _
  have CT0 := CT W1 h0
  have CU0 := CU W1 h0
  have HB := Lib.hid hb1
  clear hR hR2 b1 b2 hb1
  by_cases hnn : n = n2
  · subst hnn
    have dn : ((n : Int) != (n : Int)) = false := by simp
    go_enter Tryd.func22, Tryd.ntmps22
    go_wp2_with fail
    go_loopw [5] (fun i wr => ∃ k : Nat, k ≤ n ∧ i = .int .i64 k ∧ (∀ j, j < k → rt L j = rt M j) ∧ Below W1.heap.size W1 wr) (fun i _ => n - (intOf i).toNat)
    case atStart => exact ⟨0, Nat.zero_le _, rfl, fun j hj => by omega, h0⟩
    case round =>
      obtain ⟨k, hk, rfl, hok, hkb⟩ := hrel
      have CTr := CT wr hkb
      by_cases hlt : k < n
      · have hkl : k < L.length := by omega
        have hkl2 : k < M.length := by omega
        obtain ⟨g, o, rfl, hrow⟩ := (HR wr hkb).spot hkl
        obtain ⟨g2, o2, rfl, hrow2⟩ := (HR2 wr hkb).spot hkl2
        have h02 : Below wr.heap.size wr wr := Below.refl _ _
        have CT2 : ∀ w', Below wr.heap.size wr w' → w'.cell? ⟨w.heap.size, 0, none⟩ = some (.slice (some ⟨g, o, none⟩) n c) := fun w' h => CT w' (bel_trans hkb h)
        have CU2 : ∀ w', Below wr.heap.size wr w' → w'.cell? ⟨w.heap.size + 1, 0, none⟩ = some (.slice (some ⟨g2, o2, none⟩) n c2) := fun w' h => CU w' (bel_trans hkb h)
        have LR2 : ∀ w', Below wr.heap.size wr w' → (loadSem 74 (.pointer (some ⟨g, o + k * 19, none⟩))).run Tryd.prog w' = .ok (.agg (rt L k).cs) w' := fun w' h => (hrow.later h).load hkl
        have LS2 : ∀ w', Below wr.heap.size wr w' → (loadSem 74 (.pointer (some ⟨g2, o2 + k * 19, none⟩))).run Tryd.prog w' = .ok (.agg (rt M k).cs) w' := fun w' h => (hrow2.later h).load hkl2
        have EQ := eqR (rt L k) (rt M k)
        have HK := Lib.hid (And.intro hok hkb)
        by_cases he : rt L k = rt M k
        · rw [decide_eq_true he] at EQ
          have HE := Lib.hid he
          clear hok hkb he CT CU HR HR2 hrow hrow2 CTr
          go_wp2_with (first  | (refine wp_region_lin (fun w' => Below wr.heap.size wr w') (by kernel_rfl) (by kernel_rfl) (bel_drew (by assumption)) ?_; (repeat (first | (refine lin_off (by rfl) ?_; (try simp only [Act.put, List.setIfInBounds_toArray, List.set_cons_zero, List.set_cons_succ])) | (refine lin_op (v := ?_) (by rfl) (fun w9 hS9 => ?_) ?_; rotate_left; (focus (((try dsimp only at hS9); go_simp; (try go_bits)) <;> with_reducible rfl)); (try simp only [Act.put, List.setIfInBounds_toArray, List.set_cons_zero, List.set_cons_succ])) )); refine lin_nil (fun w8 hS8 => ?_)))
          go_roundw
          case rel => exact ⟨k + 1, by omega, by go_num, fun j hj => by
            by_cases e : j = k
            · rw [e]; exact HE.out
            · exact HK.out.1 j (by omega), bel_trans HK.out.2 (by assumption)⟩
          case measure => simp [intOf]; omega
        · rw [decide_eq_false he] at EQ
          have HE := Lib.hid (decide_eq_false (fun h : L = M => he (by rw [h])))
          clear hok hkb he CT CU HR HR2 hrow hrow2 CTr
          go_wp2_with (first  | (refine wp_region_lin (fun w' => Below wr.heap.size wr w') (by kernel_rfl) (by kernel_rfl) (bel_drew (by assumption)) ?_; (repeat (first | (refine lin_off (by rfl) ?_; (try simp only [Act.put, List.setIfInBounds_toArray, List.set_cons_zero, List.set_cons_succ])) | (refine lin_op (v := ?_) (by rfl) (fun w9 hS9 => ?_) ?_; rotate_left; (focus (((try dsimp only at hS9); go_simp; (try go_bits)) <;> with_reducible rfl)); (try simp only [Act.put, List.setIfInBounds_toArray, List.set_cons_zero, List.set_cons_succ])) )); refine lin_nil (fun w8 hS8 => ?_)))
          all_goals go_ret
          all_goals exact ⟨by rw [HE.out]; rfl, bel_trans HB.out (bel_trans HK.out.2 (by assumption))⟩
      · obtain rfl : n = k := by omega
        have HE := Lib.hid (decide_eq_true (same_all9 (hn.trans hn2.symm) (fun j hj => hok j (by omega))))
        clear hok CT CU HR HR2
        go_wp2
        go_ret
        exact ⟨by rw [HE.out]; rfl, bel_trans HB.out hkb⟩
  · have dn : ((n : Int) != (n2 : Int)) = true := by simp; omega
    have HE := Lib.hid (decide_eq_false (fun h : L = M => hnn (by rw [← hn, ← hn2, h])))
    clear hnn HR HR2 CT CU
    go_enter Tryd.func22, Tryd.ntmps22
    go_wp2
    go_ret
    exact ⟨by rw [HE.out]; rfl, HB.out⟩

noncomputable def rgetV (L : List Rt) (p : Px) : Int := if ixM L p = -1 then 0 else (rt L (ixM L p).toNat).h
theorem ix_hit {L : List Rt} {p : Px} {k : Nat} (hL : L.Pairwise ltR) (hk : k < L.length) (h : (rt L k).p = p) : ixM L p = (k : Int) := by
  rcases ix_spec L p with ⟨i, i1, i2, i3, _⟩ | ⟨_, i2⟩
  · rw [i2, same_at hL i1 hk (i3.trans h.symm)]
  · exact absurd h (i2 _ (rt_mem hk))
theorem ix_miss {L : List Rt} {p : Px} (h : ∀ j, j < L.length → (rt L j).p ≠ p) : ixM L p = -1 := by
  rcases ix_spec L p with ⟨i, i1, i2, i3, _⟩ | ⟨i1, _⟩
  · exact absurd i3 (h i i1)
  · exact i1
end Go.Proofs.YtclkfmblogkakaaDoor
namespace Go.Proofs.YtclkfmblogkakaaDoor
open Go.RowKit Go.Shelf
set_option linter.unusedVariables false
set_option maxRecDepth 100000

/-- What Put has put together behind the first k rows, and whether the prefix stands in it. -/
noncomputable def putK (L : List Rt) (p : Px) (h : Int) : Nat → List Rt × Bool
  | 0 => ([], decide (h = 0))
  | k + 1 => if (rt L k).p = p then putK L p h k else if (putK L p h k).2 = false ∧ cmpP p (rt L k).p < 0 then ((putK L p h k).1 ++ [⟨p, h⟩] ++ [rt L k], true) else ((putK L p h k).1 ++ [rt L k], (putK L p h k).2)
noncomputable def putL (L : List Rt) (p : Px) (h : Int) : List Rt := if (putK L p h L.length).2 = false then (putK L p h L.length).1 ++ [⟨p, h⟩] else (putK L p h L.length).1
theorem putK_len (L : List Rt) (p : Px) (h : Int) : ∀ k, (putK L p h k).1.length ≤ 2 * k
  | 0 => by simp [putK]
  | k + 1 => by
    have := putK_len L p h k
    unfold putK
    split
    · omega
    · split
      · simp; omega
      · simp; omega
structure PutOk (L : List Rt) (p : Px) (h : Int) (k : Nat) : Prop where
  rise : (putK L p h k).1.Pairwise ltR
  mem : ∀ x, x ∈ (putK L p h k).1 ↔ ((∃ j, j < k ∧ rt L j = x) ∧ x.p ≠ p) ∨ ((putK L p h k).2 = true ∧ h ≠ 0 ∧ x = ⟨p, h⟩)
  low : (putK L p h k).2 = false → ∀ x ∈ (putK L p h k).1, cmpP x.p p < 0
  next : ∀ x ∈ (putK L p h k).1, ∀ j, k ≤ j → j < L.length → ltR x (rt L j)
  some : (putK L p h k).2 = false → h ≠ 0
theorem put_ok {L : List Rt} (hL : L.Pairwise ltR) (p : Px) (h : Int) : ∀ k, k ≤ L.length → PutOk L p h k
  | 0, _ => by
    refine ⟨List.Pairwise.nil, fun x => ?_, fun _ x hx => by simp [putK] at hx, fun x hx => by simp [putK] at hx, fun e => by simpa [putK] using e⟩
    simp [putK]
    intro e1 e2
    exact absurd e1 e2
  | k + 1, hk => by
    have ih := put_ok hL p h k (by omega)
    have hkl : k < L.length := by omega
    by_cases h1 : (rt L k).p = p
    · have e : putK L p h (k + 1) = putK L p h k := by rw [putK, if_pos h1]
      refine ⟨by rw [e]; exact ih.rise, fun x => ?_, by rw [e]; exact ih.low, fun x hx j hj hjl => ih.next x (by rw [e] at hx; exact hx) j (by omega) hjl, by rw [e]; exact ih.some⟩
      rw [e, ih.mem]
      constructor
      · rintro (⟨⟨j, hj, hx⟩, hp⟩ | h2)
        · exact .inl ⟨⟨j, by omega, hx⟩, hp⟩
        · exact .inr h2
      · rintro (⟨⟨j, hj, hx⟩, hp⟩ | h2)
        · refine .inl ⟨⟨j, ?_, hx⟩, hp⟩
          by_cases ej : j = k
          · rw [ej] at hx; rw [← hx] at hp; exact absurd h1 hp
          · omega
        · exact .inr h2
    · have hlater : ∀ j, k + 1 ≤ j → j < L.length → ltR (rt L k) (rt L j) := fun j hj hjl => rise_at hL (by omega) hjl
      by_cases h2 : (putK L p h k).2 = false ∧ cmpP p (rt L k).p < 0
      · have e : putK L p h (k + 1) = ((putK L p h k).1 ++ [⟨p, h⟩] ++ [rt L k], true) := by rw [putK, if_neg h1, if_pos h2]
        have hP : ltR ⟨p, h⟩ (rt L k) := h2.2
        refine ⟨?_, fun x => ?_, fun h9 => (by rw [e] at h9; cases h9), fun x hx j hj hjl => ?_, fun h9 => (by rw [e] at h9; cases h9)⟩
        · rw [e]
          simp only [List.append_assoc, List.pairwise_append, List.pairwise_cons, List.cons_append, List.nil_append]
          refine ⟨ih.rise, ⟨by simpa using hP, by simp, List.Pairwise.nil⟩, fun x hx y hy => ?_⟩
          rcases List.mem_cons.1 hy with e9 | hy
          · rw [e9]; exact ih.low h2.1 x hx
          · have e9 : y = rt L k := by simpa using hy
            rw [e9]; exact ih.next x hx k (Nat.le_refl _) hkl
        · rw [e]
          simp only [List.append_assoc, List.mem_append, List.mem_cons, List.cons_append, List.nil_append, List.not_mem_nil, or_false, true_and]
          rw [ih.mem]
          constructor
          · rintro ((⟨⟨j, hj, hx⟩, hp⟩ | ⟨_, q2, q3⟩) | hx | hx)
            · exact .inl ⟨⟨j, by omega, hx⟩, hp⟩
            · exact .inr ⟨q2, q3⟩
            · exact .inr ⟨ih.some h2.1, hx⟩
            · exact .inl ⟨⟨k, by omega, hx.symm⟩, by rw [hx]; exact h1⟩
          · rintro (⟨⟨j, hj, hx⟩, hp⟩ | ⟨q2, q3⟩)
            · by_cases ej : j = k
              · exact .inr (.inr (by rw [← hx, ej]))
              · exact .inl (.inl ⟨⟨j, by omega, hx⟩, hp⟩)
            · exact .inr (.inl q3)
        · rw [e] at hx
          simp only [List.append_assoc, List.mem_append, List.mem_cons, List.cons_append, List.nil_append, List.not_mem_nil, or_false] at hx
          rcases hx with hx | hx | hx
          · exact ih.next x hx j (by omega) hjl
          · rw [hx]; exact ltR_trans hP (hlater j hj hjl)
          · rw [hx]; exact hlater j hj hjl
      · have e : putK L p h (k + 1) = ((putK L p h k).1 ++ [rt L k], (putK L p h k).2) := by rw [putK, if_neg h1, if_neg h2]
        refine ⟨?_, fun x => ?_, fun h9 x hx => ?_, fun x hx j hj hjl => ?_, fun h9 => ih.some (by rw [e] at h9; exact h9)⟩
        · rw [e]
          simp only [List.pairwise_append, List.pairwise_cons]
          exact ⟨ih.rise, ⟨by simp, List.Pairwise.nil⟩, fun x hx y hy => by
            have e9 : y = rt L k := by simpa using hy
            rw [e9]; exact ih.next x hx k (Nat.le_refl _) hkl⟩
        · rw [e]
          simp only [List.mem_append, List.mem_singleton]
          rw [ih.mem]
          constructor
          · rintro ((⟨⟨j, hj, hx⟩, hp⟩ | q) | hx)
            · exact .inl ⟨⟨j, by omega, hx⟩, hp⟩
            · exact .inr q
            · exact .inl ⟨⟨k, by omega, hx.symm⟩, by rw [hx]; exact h1⟩
          · rintro (⟨⟨j, hj, hx⟩, hp⟩ | q)
            · by_cases ej : j = k
              · exact .inr (by rw [← hx, ej])
              · exact .inl (.inl ⟨⟨j, by omega, hx⟩, hp⟩)
            · exact .inl (.inr q)
        · rw [e] at hx h9
          simp only [List.mem_append, List.mem_singleton] at hx
          rcases hx with hx | hx
          · exact ih.low h9 x hx
          · rw [hx]
            rcases cmp_ways (rt L k).p p with c | c | c
            · exact c
            · exact absurd c h1
            · exact absurd ⟨h9, c⟩ h2
        · rw [e] at hx
          simp only [List.mem_append, List.mem_singleton] at hx
          rcases hx with hx | hx
          · exact ih.next x hx j (by omega) hjl
          · rw [hx]; exact hlater j hj hjl
theorem putL_spec {L : List Rt} (hL : L.Pairwise ltR) (p : Px) (h : Int) : (putL L p h).Pairwise ltR ∧ ∀ x, x ∈ putL L p h ↔ (x ∈ L ∧ x.p ≠ p) ∨ (h ≠ 0 ∧ x = ⟨p, h⟩) := by
  have ih := put_ok hL p h L.length (Nat.le_refl _)
  have hm : ∀ x, (∃ j, j < L.length ∧ rt L j = x) ↔ x ∈ L := fun x => ⟨fun ⟨j, hj, hx⟩ => by rw [← hx]; exact rt_mem hj, mem_rt⟩
  unfold putL
  by_cases h1 : (putK L p h L.length).2 = false
  · rw [if_pos h1]
    refine ⟨?_, fun x => ?_⟩
    · simp only [List.pairwise_append, List.pairwise_cons]
      exact ⟨ih.rise, ⟨by simp, List.Pairwise.nil⟩, fun x hx y hy => by
        have e9 : y = ⟨p, h⟩ := by simpa using hy
        rw [e9]; exact ih.low h1 x hx⟩
    · simp only [List.mem_append, List.mem_singleton]
      rw [ih.mem, hm, h1]
      constructor
      · rintro ((q | ⟨q, _⟩) | q)
        · exact .inl q
        · cases q
        · exact .inr ⟨ih.some h1, q⟩
      · rintro (q | ⟨_, q⟩)
        · exact .inl (.inl q)
        · exact .inr q
  · have h2 : (putK L p h L.length).2 = true := by simpa using h1
    rw [if_neg h1]
    refine ⟨ih.rise, fun x => ?_⟩
    rw [ih.mem, hm, h2]
    simp
theorem put_set {L : List Rt} (hL : L.Pairwise ltR) (p : Px) {h : Int} (h0 : h ≠ 0) : putL L p h = setL L p h := by
  obtain ⟨q1, q2⟩ := putL_spec hL p h
  refine rise_eq q1 (setL_rise hL p h) fun x => ?_
  rw [q2, setL_mem hL]
  constructor
  · rintro (q | ⟨_, q⟩)
    · exact .inr q
    · exact .inl q
  · rintro (q | q)
    · exact .inr ⟨h0, q⟩
    · exact .inl q
theorem put_drop {L : List Rt} (hL : L.Pairwise ltR) {p : Px} {i : Nat} (hi : i < L.length) (hp : (rt L i).p = p) : putL L p 0 = L.eraseIdx i := by
  obtain ⟨q1, q2⟩ := putL_spec hL p 0
  refine rise_eq q1 (hL.sublist (List.eraseIdx_sublist L i)) fun x => ?_
  rw [q2, List.mem_eraseIdx_iff_getElem]
  constructor
  · rintro (⟨hx, hne⟩ | ⟨q, _⟩)
    · obtain ⟨j, hj, rfl⟩ := mem_rt hx
      exact ⟨j, hj, fun e => hne (by rw [e]; exact hp), (rt_get hj).symm⟩
    · exact absurd rfl q
  · rintro ⟨j, hj, hne, e⟩
    rw [← rt_get hj] at e
    refine .inl ⟨by rw [← e]; exact rt_mem hj, fun h9 => hne ?_⟩
    rw [← e] at h9
    exact same_at hL hj hi (h9.trans hp.symm)
end Go.Proofs.YtclkfmblogkakaaDoor
namespace Go.Proofs.YtclkfmblogkakaaDoor
open Go.RowKit Go.Shelf
set_option linter.unusedVariables false
set_option maxRecDepth 100000

/-- One row is appended to the rows that a box holds. -/
theorem app_store {w : World} {B ob m c : Nat} {a : Option Addr} {O : List Rt} (hb : Blk w ob 41 #[.slice a m c]) (ho : OwnT w B (.slice a m c) O) (hs : O.length ≤ 1000) (hB : B ≤ w.heap.size) (hob : ob < B) (r : Rt) :
    ∃ a' c' w2, (∀ ty : TypeId, (tappSem ty #[.slice a m c, .slice (some ⟨w.heap.size, 0, none⟩) 1 1]).run Tryd.prog (w.alloc (.cells r.cs 74)) = .ok (.slice a' (m + 1) c') w2) ∧ (∃ u, w2.cell? ⟨ob, 0, none⟩ = some u) ∧ w2.frozen? ⟨ob, 0, none⟩ = false ∧
      Blk (w2.setCell ⟨ob, 0, none⟩ (.slice a' (m + 1) c')) ob 41 #[.slice a' (m + 1) c'] ∧ OwnT (w2.setCell ⟨ob, 0, none⟩ (.slice a' (m + 1) c')) B (.slice a' (m + 1) c') (O ++ [r]) ∧ Below ob w (w2.setCell ⟨ob, 0, none⟩ (.slice a' (m + 1) c')) ∧ Below B w w2 ∧ (∀ g ty cs, g < w.heap.size → g ≠ ob → (Value.slice a m c).ownBlock ≠ some g → Blk w g ty cs → Blk (w2.setCell ⟨ob, 0, none⟩ (.slice a' (m + 1) c')) g ty cs) := by
  obtain ⟨_, hml, _⟩ := ho.tbl2
  have k1 : Below w.heap.size w (w.alloc (.cells r.cs 74)) := (Below.refl _ _).alloc (Nat.le_refl _) _
  have hq : RowsAt (w.alloc (.cells r.cs 74)) (some ⟨w.heap.size, 0, none⟩) [r] := by
    have hb9 := Blk.new w 74 r.cs
    exact .inr ⟨w.heap.size, 0, rfl, row_cells _ _ [r] 0 hb9.lt (fun k u hk => by rw [Nat.zero_add, hb9.cell]; simpa [rtcs] using hk)⟩
  obtain ⟨v', w2, q1, q2, q3, _⟩ := tapp_run (c := 1) 39 (ho.later k1) (m := 1) rfl hq (by omega) (by simp; omega)
  obtain ⟨a', c', rfl, _⟩ := q2.tbl
  have hl : (O ++ [r]).length = m + 1 := by simp [hml]
  rw [hl] at q1 q2
  have hB2 : Below B w w2 := (k1.mono hB).grown q3 (by simp; omega) (fun k hk => ((ho.later k1).lt k hk).1)
  have b2 : Blk w2 ob 41 #[.slice a m c] := (hB2.block ob hob).trans hb
  have hset := b2.set 0 (.slice a' (m + 1) c')
  refine ⟨a', c', w2, fun ty => q1, ⟨_, b2.cell 0⟩, b2.free 0, by simpa using hset, ?_, ?_, hB2, ?_⟩
  · have K9 : Kept [ob] w2 (w2.setCell ⟨ob, 0, none⟩ (.slice a' (m + 1) c')) := (Kept.refl [ob] w2).setCell (p := ⟨ob, 0, none⟩) (.inl (by simp)) _
    refine ⟨q2.1, ?_⟩
    rcases q2.2 with h9 | ⟨g, cap, cur, e1, e2, e3, e4⟩
    · exact .inl h9
    · exact .inr ⟨g, cap, cur, e1, e2, (K9.block g (Array.getElem?_eq_some_iff.1 e3).1 (by simp; omega)).trans e3, e4⟩
  · exact (hB2.mono (Nat.le_of_lt hob)).trans (((Kept.refl [ob] w2).setCell (p := ⟨ob, 0, none⟩) (.inl (by simp)) _).below (by simp) (by have := b2.lt; omega))
  · intro g ty cs hg hne hrow hbg
    exact (Below.heap_setCell _ _ _ _ hne).trans ((q3.block g (by simp; omega) (fun e => hrow e.symm)).trans ((k1.block g hg).trans hbg))
attribute [local go_sem ↓] load_b16_rule store_b16_rule load_ad_rule store_ad_rule load_px_rule store_px_rule eq_b16_rule eq_ad_rule eq_px_rule load_rt_rule store_rt_rule build_ad_rule build_px_rule build_b16_rule build_rt_rule load_tab_rule build_tab_rule store_tab_rule tbuild_rule tapp_rule tcopy_rule eq_rt_rule

set_option maxHeartbeats 4000000 in
theorem rput_any (a : Option Addr) (n c : Nat) (L : List Rt) (p : Px) (hop : Int) (w : World) (hn : L.length = n) (hs : n ≤ 100) (hW : Wid w) (hT : Tbl w a c L) :
    Calls Tryd.prog 51 #[.agg #[.slice a n c], .agg p.cs, .int .i64 hop] w fun e w' => ∃ a' c', e = .returned (.agg #[.slice a' (putL L p hop).length c']) ∧ Tbl w' a' c' (putL L p hop) ∧ (∀ x, a' = some x → w.heap.size ≤ x.block) ∧ Below w.heap.size w w' := by
  have hR := hT.at'
  have hm : n ≤ 9223372036854775807 := by omega
  obtain ⟨W0, hW0⟩ : ∃ W0, (w.alloc (.cells #[.slice a n c] 41)).alloc (.cells p.cs 65) = W0 := ⟨_, rfl⟩
  obtain ⟨W1, hW1⟩ : ∃ W1, W0.alloc (.cells #[.slice none 0 0] 41) = W1 := ⟨_, rfl⟩
  have sz0 : W0.heap.size = w.heap.size + 2 := by rw [← hW0]; simp
  have hb0 : Below w.heap.size w W0 := by rw [← hW0]; exact (((Below.refl w.heap.size w).alloc (Nat.le_refl _) _).alloc (by simp) _)
  have hb01 : Below W0.heap.size W0 W1 := by rw [← hW1]; exact (Below.refl _ _).alloc (Nat.le_refl _) _
  have hb1 : Below w.heap.size w W1 := bel_trans hb0 hb01
  have b3 : Blk W1 W0.heap.size 41 #[.slice none 0 0] := by rw [← hW1]; exact Blk.new _ _ _
  have b1 : Blk W1 w.heap.size 41 #[.slice a n c] := by
    have h9 := (Blk.new w 41 #[.slice a n c]).alloc (.cells p.cs 65)
    rw [hW0] at h9
    exact h9.later hb01
  have b2 : Blk W1 (w.heap.size + 1) 65 p.cs := by
    have h9 := Blk.new (w.alloc (.cells #[.slice a n c] 41)) 65 p.cs
    rw [World.size_alloc, hW0] at h9
    exact h9.later hb01
  have LT := tab_t b1
  have CT := tab_c b1
  have LX := px_p b2
  have HR : ∀ w', Below W1.heap.size W1 w' → RowsAt w' a L := fun w' h => (hR.later hb1).later h
  have HW : ∀ w', Below W1.heap.size W1 w' → Wid w' := fun w' h => (hW.later hb1).later h
  have h0 : Below W1.heap.size W1 W1 := Below.refl _ _
  have HB := Lib.hid (And.intro hb1 (And.intro b3 sz0))
  obtain ⟨W2, hW2⟩ : ∃ W2, W1.alloc (.cells #[.slice none 0 0] 41) = W2 := ⟨_, rfl⟩
  have k12 : Below W1.heap.size W1 W2 := by rw [← hW2]; exact (Below.refl _ _).alloc (Nat.le_refl _) _
  have bo : Blk W2 W1.heap.size 41 #[.slice none 0 0] := by rw [← hW2]; exact Blk.new _ _ _
  have s2 : W2.heap.size = W1.heap.size + 1 := by rw [← hW2]; simp
  have CT2 := CT W2 k12
  have HX := Lib.hid (And.intro k12 (And.intro bo (And.intro s2 (And.intro hn (And.intro hs b3)))))
  have d0 : ((hop == 0) : Bool) = (putK L p hop 0).2 := by unfold putK; by_cases h : hop = 0 <;> simp [h]
  have LQ := px_p b2
  have HRR := Lib.hid (And.intro HR (And.intro CT LQ))
  clear hR hW b1 b2 b3 hb0 hb01 sz0 hb1 k12 bo s2 hs HW HR CT LT LX LQ hT
  go_enter Tryd.func51, Tryd.ntmps51
  go_wp2_with (with_reducible refine wpList_alloc_z rfl 41 rfl #[.slice none 0 0] 1 z_tab ?_)
  go_loopw [8, 9] (fun pt i wr => ∃ (k : Nat) (v : Value), k ≤ n ∧ i = .int .i64 (k : Nat) ∧ pt = .bool (putK L p hop k).2 ∧ Blk wr W1.heap.size 41 #[v] ∧ OwnT wr W2.heap.size v (putK L p hop k).1 ∧ Below W1.heap.size W1 wr) (fun pt i _ => n - (intOf i).toNat)
  case atStart => exact ⟨0, _, Nat.zero_le _, rfl, rfl, HX.out.2.1, ⟨rfl, .inl ⟨rfl, rfl⟩⟩, HX.out.1⟩
  case round =>
    obtain ⟨k, v, hk, rfl, rfl, hbo, hown, hkb⟩ := hrel
    have CTr := HRR.out.2.1 wr hkb
    by_cases hlt : k < n
    · have hkl : k < L.length := by have := HX.out.2.2.2.1; omega
      obtain ⟨g, o, rfl, hrow⟩ := (HRR.out.1 wr hkb).spot hkl
      obtain ⟨av, cv, rfl, _⟩ := hown.tbl
      obtain ⟨m, hm9⟩ : ∃ m, (putK L p hop k).1.length = m := ⟨_, rfl⟩
      have hsz : (putK L p hop k).1.length ≤ 200 := by have := putK_len L p hop k; have := HX.out.2.2.2.2.1; omega
      rw [hm9] at hbo hown
      have LRw := hrow.load hkl
      obtain ⟨W3, hW3⟩ : ∃ W3, wr.alloc (.cells (rt L k).cs 74) = W3 := ⟨_, rfl⟩
      have S3 := st_rt (q := rt L k) (Blk.new wr 74 Rt.zero.cs)
      rw [World.setRow_alloc_new, hW3] at S3
      have b3 : Blk W3 wr.heap.size 74 (rt L k).cs := by rw [← hW3]; exact Blk.new _ _ _
      have hb3 : Below wr.heap.size wr W3 := by rw [← hW3]; exact (Below.refl _ _).alloc (Nat.le_refl _) _
      have hb13 : Below W1.heap.size W1 W3 := bel_trans hkb hb3
      have LP3 := rt_p b3
      have LX3 : ∀ w', Below W3.heap.size W3 w' → (loadSem 65 (.pointer (some ⟨w.heap.size + 1, 0, none⟩))).run Tryd.prog w' = .ok (.agg p.cs) w' := fun w' h => HRR.out.2.2 w' (bel_trans hb13 h)
      have EQ := eqP (rt L k).p p
      have HCM := refcompare_any p (rt L k).p
      have h03 : Below W3.heap.size W3 W3 := Below.refl _ _
      have hgo : (Value.slice av m cv).ownBlock ≠ some wr.heap.size := fun e => by have := (hown.lt _ e).2; omega
      have HK := Lib.hid (And.intro hb13 (And.intro (hbo.later hb3) (And.intro (hown.later hb3) (And.intro hsz (And.intro b3 (And.intro hkl (And.intro hgo hbo.lt)))))))
      clear hbo hown hkb hb13 hb3 b3 hrow hsz hm9 hgo
      by_cases he : (rt L k).p = p
      · rw [decide_eq_true he] at EQ
        have e9 : putK L p hop (k + 1) = putK L p hop k := by rw [putK, if_pos he]
        have HE := Lib.hid e9
        clear he e9 HCM
        go_wp2_with (first | (with_reducible refine wpList_alloc_z rfl 74 rfl Rt.zero.cs 19 z_rt ?_)  | (refine wp_region_lin (fun w' => Below W3.heap.size W3 w') (by kernel_rfl) (by kernel_rfl) (bel_drew (by assumption)) ?_; (repeat (first | (refine lin_off (by rfl) ?_; (try simp only [Act.put, List.setIfInBounds_toArray, List.set_cons_zero, List.set_cons_succ])) | (refine lin_op (v := ?_) (by rfl) (fun w9 hS9 => ?_) ?_; rotate_left; (focus (((try dsimp only at hS9); go_simp; (try go_bits)) <;> with_reducible rfl)); (try simp only [Act.put, List.setIfInBounds_toArray, List.set_cons_zero, List.set_cons_succ])) )); refine lin_nil (fun w8 hS8 => ?_)))
        go_roundw
        case rel => exact ⟨k + 1, _, by omega, by go_num, by rw [HE.out], HK.out.2.1.later (by assumption), by rw [HE.out]; exact HK.out.2.2.1.later (by assumption), bel_trans HK.out.1 (by assumption)⟩
        case measure => simp [intOf]; omega
      · rw [decide_eq_false he] at EQ
        obtain ⟨pk, hpk⟩ : ∃ pk, (putK L p hop k).2 = pk := ⟨_, rfl⟩
        have LRr := rt_r HK.out.2.2.2.2.1
        rw [hpk]
        cases pk with
        | true =>
          have e9 : putK L p hop (k + 1) = ((putK L p hop k).1 ++ [rt L k], true) := by rw [putK, if_neg he, if_neg (by rw [hpk]; rintro ⟨h, _⟩; cases h), hpk]
          have HE := Lib.hid e9
          clear he hpk HCM e9
          go_upto_region 11 with (with_reducible refine wpList_alloc_z rfl 74 rfl Rt.zero.cs 19 z_rt ?_)
          have q1 : Below W3.heap.size W3 W3 := h03
          have bo := HK.out.2.1.later q1
          have ow := HK.out.2.2.1.later q1
          have sz9 : W2.heap.size = W1.heap.size + 1 := HX.out.2.2.1
          have sz8 : W2.heap.size ≤ W3.heap.size := by have := HK.out.2.1.lt; have := q1.size; omega
          obtain ⟨a4, c4, w4, r4, ⟨u4, cell4⟩, f4, b4, o4, k4, _, _⟩ := app_store bo ow (by have := HK.out.2.2.2.1; omega) sz8 (by omega) (rt L k)
          have BS4 := tbuild1_run (rt L k) W3
          have CO4 : W3.cell? ⟨W1.heap.size, 0, none⟩ = some (.slice av m cv) := bo.cell 0
          have LR4 := LRr W3 q1
          have HF := Lib.hid (And.intro b4 (And.intro o4 (bel_trans HK.out.1 q1 |>.trans k4)))
          clear bo ow sz8 sz9 b4 o4 k4 q1
          go_wp2
          go_roundw
          case rel => exact ⟨k + 1, _, by omega, by go_num, by rw [HE.out], HF.out.1, by rw [HE.out]; exact HF.out.2.1, HF.out.2.2⟩
          case measure => simp [intOf]; omega
        | false =>
          by_cases hc : cmpP p (rt L k).p < 0
          · have dc : decide (cmpP p (rt L k).p < 0) = true := decide_eq_true hc
            have e9 : putK L p hop (k + 1) = ((putK L p hop k).1 ++ [⟨p, hop⟩] ++ [rt L k], true) := by rw [putK, if_neg he, if_pos ⟨hpk, hc⟩]
            have HE := Lib.hid e9
            clear he hpk e9 hc
            go_upto_region 9 with (first | (go_at_call 71; refine (HCM _).mono ?_; rintro e w2 ⟨rfl, hb2⟩; have hk2 : Below W3.heap.size W3 w2 := bel_trans (by assumption) hb2; clear hb2) | (with_reducible refine wpList_alloc_z rfl 74 rfl Rt.zero.cs 19 z_rt ?_))
            have q1 : Below W3.heap.size W3 w2 := hk2
            have bo := HK.out.2.1.later q1
            have ow := HK.out.2.2.1.later q1
            have sz9 : W2.heap.size = W1.heap.size + 1 := HX.out.2.2.1
            have sz8 : W2.heap.size ≤ w2.heap.size := by have := HK.out.2.1.lt; have := q1.size; omega
            have hm9 : (putK L p hop k).1.length = m := ow.tbl2.2.1.symm
            obtain ⟨a4, c4, w4, r4, ⟨u4, cell4⟩, f4, b4, o4, k4, k5, k6⟩ := app_store bo ow (by have := HK.out.2.2.2.1; omega) sz8 (by omega) (Rt.mk p hop)
            have BR := build_rt p hop w2
            have BS4 := tbuild1_run ⟨p, hop⟩ w2
            have CO4 : w2.cell? ⟨W1.heap.size, 0, none⟩ = some (.slice av m cv) := bo.cell 0
            have LX4 := LX3 w2 q1
            obtain ⟨w5, hw5⟩ : ∃ w5, w4.setCell ⟨W1.heap.size, 0, none⟩ (.slice a4 (m + 1) c4) = w5 := ⟨_, rfl⟩
            rw [hw5] at b4 o4 k4 k6
            have sw5 : w2.heap.size ≤ w5.heap.size := by have := k4.size; omega
            have b6 := k6 wr.heap.size _ _ (by have := HK.out.2.2.2.2.1.lt; have := q1.size; omega) (by have := HK.out.2.2.2.2.2.2.2; omega) HK.out.2.2.2.2.2.2.1 (HK.out.2.2.2.2.1.later q1)
            have LR5 := rt_r b6 w5 (Below.refl _ _)
            obtain ⟨a7, c7, w7, r7, ⟨u7, cell7⟩, f7, b7, o7, k7, _, _⟩ := app_store b4 o4 (by have := HK.out.2.2.2.1; simp; omega) (by omega) (by omega) (rt L k)
            have BS7 := tbuild1_run (rt L k) w5
            have CO7 : w5.cell? ⟨W1.heap.size, 0, none⟩ = some (.slice a4 (m + 1) c4) := b4.cell 0
            have HF := Lib.hid (And.intro b7 (And.intro o7 (((bel_trans HK.out.1 q1).trans k4).trans k7)))
            clear bo ow sz8 sz9 b4 o4 k4 k5 k6 q1 b6 b7 o7 k7 hm9 sw5
            go_wp2
            go_roundw
            case rel => exact ⟨k + 1, _, by omega, by go_num, by rw [HE.out], HF.out.1, by rw [HE.out]; exact HF.out.2.1, HF.out.2.2⟩
            case measure => simp [intOf]; omega
          · have dc : decide (cmpP p (rt L k).p < 0) = false := decide_eq_false hc
            have e9 : putK L p hop (k + 1) = ((putK L p hop k).1 ++ [rt L k], false) := by rw [putK, if_neg he, if_neg (fun h => hc h.2), hpk]
            have HE := Lib.hid e9
            clear he hpk e9 hc
            go_upto_region 11 with (first | (go_at_call 71; refine (HCM _).mono ?_; rintro e w2 ⟨rfl, hb2⟩; have hk2 : Below W3.heap.size W3 w2 := bel_trans (by assumption) hb2; clear hb2) | (with_reducible refine wpList_alloc_z rfl 74 rfl Rt.zero.cs 19 z_rt ?_))
            have q1 : Below W3.heap.size W3 w2 := hk2
            have bo := HK.out.2.1.later q1
            have ow := HK.out.2.2.1.later q1
            have sz9 : W2.heap.size = W1.heap.size + 1 := HX.out.2.2.1
            have sz8 : W2.heap.size ≤ w2.heap.size := by have := HK.out.2.1.lt; have := q1.size; omega
            obtain ⟨a4, c4, w4, r4, ⟨u4, cell4⟩, f4, b4, o4, k4, _, _⟩ := app_store bo ow (by have := HK.out.2.2.2.1; omega) sz8 (by omega) (rt L k)
            have BS4 := tbuild1_run (rt L k) w2
            have CO4 : w2.cell? ⟨W1.heap.size, 0, none⟩ = some (.slice av m cv) := bo.cell 0
            have LR4 := LRr w2 q1
            have HF := Lib.hid (And.intro b4 (And.intro o4 (bel_trans HK.out.1 q1 |>.trans k4)))
            clear bo ow sz8 sz9 b4 o4 k4 q1
            go_wp2
            go_roundw
            case rel => exact ⟨k + 1, _, by omega, by go_num, by rw [HE.out], HF.out.1, by rw [HE.out]; exact HF.out.2.1, HF.out.2.2⟩
            case measure => simp [intOf]; omega
    · obtain rfl : k = n := by omega
      obtain ⟨av, cv, rfl, _⟩ := hown.tbl
      obtain ⟨m, hm9⟩ : ∃ m, (putK L p hop k).1.length = m := ⟨_, rfl⟩
      have hLk : L.length = k := HX.out.2.2.2.1
      rw [hm9] at hbo hown
      obtain ⟨pk, hpk⟩ : ∃ pk, (putK L p hop k).2 = pk := ⟨_, rfl⟩
      rw [hpk]
      cases pk with
      | true =>
        have e9 : putL L p hop = (putK L p hop k).1 := by unfold putL; rw [hLk, if_neg (by rw [hpk]; simp)]
        have LO := tab_t hbo wr (Below.refl _ _)
        have SO := st_tab (a2 := av) (n2 := m) (c2 := cv) (HX.out.2.2.2.2.2.later hkb)
        have HF := Lib.hid (And.intro e9 (And.intro hm9 (And.intro hown (And.intro (HX.out.2.2.2.2.2.later hkb) hkb))))
        clear hbo hown hkb e9 hm9 hLk hpk
        go_wp2
        refine bodyPost_ret (results_cell_row rfl _ _ W0.heap.size 41 _ (0, 0) _ rfl (HF.out.2.2.2.1.row _) Tryd.underlying41 rfl s_tab1) rfl ?_
        exact ⟨_, _, by rw [HF.out.1, HF.out.2.1], by rw [HF.out.1]; exact HF.out.2.2.1.tbl2.1.kept ((Kept.refl [W0.heap.size] _).setRow (.inl (by simp)) _) (fun x hx => by have := HF.out.2.2.1.tbl2.2.2 x hx; have := HX.out.2.2.1; have := HX.out.2.2.2.2.2.lt; simp; omega), (fun x hx => by have := HF.out.2.2.1.tbl2.2.2 x hx; have := HX.out.2.2.1; have := HX.out.2.2.2.2.2.lt; have := HB.out.2.2; omega), below_setRow (bel_trans HB.out.1 HF.out.2.2.2.2) (by have := HB.out.2.2; omega) _⟩
      | false =>
        have e9 : putL L p hop = (putK L p hop k).1 ++ [Rt.mk p hop] := by unfold putL; rw [hLk, if_pos hpk]
        have sz9 : W2.heap.size = W1.heap.size + 1 := HX.out.2.2.1
        have sz8 : W2.heap.size ≤ wr.heap.size := by have := hbo.lt; omega
        obtain ⟨a4, c4, w4, r4, ⟨u4, cell4⟩, f4, b4, o4, k4, _, _⟩ := app_store hbo hown (by have := putK_len L p hop k; have := HX.out.2.2.2.2.1; omega) sz8 (by omega) (Rt.mk p hop)
        have BR := build_rt p hop wr
        have BS4 := tbuild1_run (Rt.mk p hop) wr
        have CO4 : wr.cell? ⟨W1.heap.size, 0, none⟩ = some (.slice av m cv) := hbo.cell 0
        have LX4 := HRR.out.2.2 wr hkb
        have hm8 : ((putK L p hop k).1 ++ [Rt.mk p hop]).length = m + 1 := by simp [hm9]
        have LO := tab_t b4 _ (Below.refl _ _)
        have bR := HX.out.2.2.2.2.2.later (hkb.trans k4)
        have SO := st_tab (a2 := a4) (n2 := m + 1) (c2 := c4) bR
        have HF := Lib.hid (And.intro e9 (And.intro hm8 (And.intro o4 (And.intro bR (hkb.trans k4)))))
        clear hbo hown hkb e9 hm9 hLk hpk hm8 bR o4 b4 k4 sz8 sz9
        go_wp2
        refine bodyPost_ret (results_cell_row rfl _ _ W0.heap.size 41 _ (0, 0) _ rfl (HF.out.2.2.2.1.row _) Tryd.underlying41 rfl s_tab1) rfl ?_
        exact ⟨_, _, by rw [HF.out.1, HF.out.2.1], by rw [HF.out.1]; exact HF.out.2.2.1.tbl2.1.kept ((Kept.refl [W0.heap.size] _).setRow (.inl (by simp)) _) (fun x hx => by have := HF.out.2.2.1.tbl2.2.2 x hx; have := HX.out.2.2.1; have := HX.out.2.2.2.2.2.lt; simp; omega), (fun x hx => by have := HF.out.2.2.1.tbl2.2.2 x hx; have := HX.out.2.2.1; have := HX.out.2.2.2.2.2.lt; have := HB.out.2.2; omega), below_setRow (bel_trans HB.out.1 HF.out.2.2.2.2) (by have := HB.out.2.2; omega) _⟩
end Go.Proofs.YtclkfmblogkakaaDoor
