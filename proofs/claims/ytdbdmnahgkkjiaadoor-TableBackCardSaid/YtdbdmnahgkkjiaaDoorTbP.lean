/-
  The contracts of table.Drop and Get. Nothing here is a statement of the document.
-/
import Derived.Test.YtdbdmnahgkkjiaaDoorTbL
namespace Go.Proofs.YtdbdmnahgkkjiaaDoor
open Go.RowKit Go.Shelf
set_option linter.unusedVariables false
set_option maxRecDepth 100000

def tclearSem (ty : TypeId) (args : Array Value) : Sem Value := Builtin.clear_ #[22] ty args
theorem tclear_rule (ty : TypeId) (args : Array Value) : Builtin.clear_ #[22] ty args = tclearSem ty args := rfl
theorem zero_once : (Builtin.zeroCells (Value.agg Rt.zero.cs).cells 1).toList = Rt.zero.cs.toList := by kernel_rfl
theorem tclear_run {w : World} {g o k : Nat} {cur : Array Value} (ty : TypeId) (cc : Nat) (hk : k = 1) (hg : Blk w g 48 cur) (hcur : o + 19 ≤ cur.size) :
    (tclearSem ty #[.slice (some ⟨g, o, none⟩) k cc]).run Tryd.prog w = .ok (.tuple #[]) (w.setRow g (layC o Rt.zero.cs.toList cur.toList).toArray) := by
  subst hk
  have h19 : Rt.zero.cs.toList.length = 19 := by simp [Rt.size]
  have hst := run_storeCells_at Tryd.prog g o 48 Rt.zero.cs.toList 0 cur w hg (by omega) (fun u hu => Array.all_eq_true_iff_forall_mem.1 Rt.zero.one u (by simpa using hu))
  have hz := (zero_of_info z_rt).1 w
  rw [Nat.add_zero] at hst
  unfold tclearSem layC
  simp [Builtin.clear_, run_underlying Tryd.underlying22, hz, zero_once, hst]
attribute [local go_sem ↓] tbuild_rule tapp_rule tcopy_rule tclear_rule
set_option maxHeartbeats 4000000 in
theorem del_walk {w W1 W2 : World} {g c i n m : Nat} {A : Addr} (hin : i < n) (hin2 : i ≤ n) (h1 : (0 : Int) ≤ (i : Int) + 1) (h3 : (i : Int) + 1 ≤ (n : Int)) (h4 : n ≤ c) (hm63 : c ≤ 9223372036854775807) (hne : ¬ ((i : Int) = (i : Int) + 1)) (e1 : ((i : Int) + 1).toNat = i + 1) (hic : i ≤ c) (hi1 : i + 1 ≤ n) (hi3 : (i : Int) ≤ (i : Int) + 1)
    (hA : (if c = i + 1 then (some ⟨g, 0, none⟩ : Option Addr) else some ⟨g, (i + 1) * 19, none⟩) = some A)
    (hap : ∀ ty : TypeId, (tappSem ty #[.slice (some ⟨g, 0, none⟩) i c, .slice (some A) (n - (i + 1)) (c - (i + 1))]).run Tryd.prog w.drew = .ok (.slice (some ⟨g, 0, none⟩) m c) W1)
    (hmc : ¬ (c = m)) (hmn : m ≤ n) (hmn2 : (m : Int) ≤ (n : Int)) (hnm : m ≤ c) (hcl : ∀ ty : TypeId, (tclearSem ty #[.slice (some ⟨g, m * 19, none⟩) (n - m) (c - m)]).run Tryd.prog W1 = .ok (.tuple #[]) W2) :
    Calls Tryd.prog 44 #[.slice (some ⟨g, 0, none⟩) n c, .int .i64 (i : Int), .int .i64 ((i : Int) + 1)] w fun e w' => e = .returned (.slice (some ⟨g, 0, none⟩) m c) ∧ w' = W2 := by
  go_enter Tryd.func44, Tryd.ntmps44
  have hap2 : ∀ ty : TypeId, (Builtin.append_ #[22, 22] ty #[.slice (some ⟨g, 0, none⟩) i c, .slice (some A) (n - (i + 1)) (c - (i + 1))]).run Tryd.prog w.drew = .ok (.slice (some ⟨g, 0, none⟩) m c) W1 := hap
  go_wp2_with fail
  refine wp_region_linX (fun _ => True) [6] [0, 1, 2, 3, 4, 5, 6, 7] (by kernel_rfl) (by kernel_rfl) trivial ?_
  (repeat (first | (refine linX_off rfl rfl (by rfl) ?_; (try simp only [Act.put, List.getElem_toArray, List.getElem_cons_zero, List.getElem_cons_succ, List.setIfInBounds_toArray, List.set_cons_zero, List.set_cons_succ])) | (refine linX_op (v := ?_) rfl rfl (by rfl) (fun w9 hS9 => ?_) ?_; rotate_left; (focus (((try dsimp only at hS9); go_simp; (try go_bits)) <;> with_reducible rfl)); (try simp only [Act.put, List.getElem_toArray, List.getElem_cons_zero, List.getElem_cons_succ, List.setIfInBounds_toArray, List.set_cons_zero, List.set_cons_succ])) ))
  refine linX_do (v := .slice (some ⟨g, 0, none⟩) m c) (w' := W1) rfl rfl (by rfl) ?_ trivial ?_; (focus (simp [execOp, resolve, invoke, builtin, Act.eval, hap2, Result.andThen]; done))
  (try simp only [Act.put, List.getElem_toArray, List.getElem_cons_zero, List.getElem_cons_succ, List.setIfInBounds_toArray, List.set_cons_zero, List.set_cons_succ])
  (repeat (first | (refine linX_off rfl rfl (by rfl) ?_; (try simp only [Act.put, List.getElem_toArray, List.getElem_cons_zero, List.getElem_cons_succ, List.setIfInBounds_toArray, List.set_cons_zero, List.set_cons_succ])) | (refine linX_op (v := ?_) rfl rfl (by rfl) (fun w9 hS9 => ?_) ?_; rotate_left; (focus (((try dsimp only at hS9); go_simp; (try go_bits)) <;> with_reducible rfl)); (try simp only [Act.put, List.getElem_toArray, List.getElem_cons_zero, List.getElem_cons_succ, List.setIfInBounds_toArray, List.set_cons_zero, List.set_cons_succ])) ))
  refine linX_nil ?_
  clear hap hap2 hA
  go_wp2
  go_ret
  exact ⟨rfl, rfl⟩
theorem delete_any {w : World} {B g c i : Nat} {L : List Rt} (h : OwnT w B (.slice (some ⟨g, 0, none⟩) L.length c) L) (hi : i < L.length) (hs : L.length ≤ 1000) (hB : B ≤ w.heap.size) :
    Calls Tryd.prog 44 #[.slice (some ⟨g, 0, none⟩) L.length c, .int .i64 (i : Int), .int .i64 ((i : Int) + 1)] w fun e w' => ∃ m, m = (L.eraseIdx i).length ∧ e = .returned (.slice (some ⟨g, 0, none⟩) m c) ∧ OwnT w' B (.slice (some ⟨g, 0, none⟩) m c) (L.eraseIdx i) ∧ Below B w w' := by
  rcases h.2 with ⟨h9, _⟩ | ⟨g', cap, cur, h9, hb, hg, hc, hm, hcs, ht⟩
  · cases h9
  · cases h9
    have hg1 : Blk w.drew g 48 cur := hg
    have hcells := own_cells (w := w.drew) hg1 ht
    obtain ⟨i0, hi0, hz0, hz1, hz2⟩ := info_parts info_rt
    obtain ⟨A, hA, hsrc⟩ : ∃ A : Addr, (if c = i + 1 then (some ⟨g, 0, none⟩ : Option Addr) else some ⟨g, (i + 1) * 19, none⟩) = some A ∧ ∀ j u, (rtcs (L.drop (i + 1)))[j]? = some u → w.drew.cell? (A.add j) = some u := by
      by_cases hci : c = i + 1
      · refine ⟨⟨g, 0, none⟩, if_pos hci, fun j u hj => ?_⟩
        rw [List.drop_eq_nil_of_le (by omega)] at hj
        simp [rtcs] at hj
      · refine ⟨⟨g, (i + 1) * 19, none⟩, if_neg hci, fun j u hj => ?_⟩
        rw [Addr.add_lit]
        rw [← rtcs_drop, List.getElem?_drop] at hj
        exact hcells _ _ hj
    have hpre : w.drew.ownsRow B 48 19 (.slice (some ⟨g, 0, none⟩) i c) i (rtcs (L.take i)) := by
      refine ⟨by rw [rtcs_len, List.length_take]; congr 1; omega, .inr ⟨g, c, cur, rfl, hb, hg, by omega, hm, hcs, ?_⟩⟩
      rw [← rtcs_take, ← ht, List.take_take]
      congr 1
      omega
    obtain ⟨m, hmm⟩ : ∃ m, i + (L.length - (i + 1)) = m := ⟨_, rfl⟩
    have hel : L.eraseIdx i = L.take i ++ L.drop (i + 1) := List.eraseIdx_eq_take_drop_succ L i
    have hlen : (L.eraseIdx i).length = m := by rw [List.length_eraseIdx]; split <;> omega
    have hap : ∃ W1, (∀ ty : TypeId, (tappSem ty #[.slice (some ⟨g, 0, none⟩) i c, .slice (some A) (L.length - (i + 1)) (c - (i + 1))]).run Tryd.prog w.drew = .ok (.slice (some ⟨g, 0, none⟩) m c) W1) ∧ W1.ownsRow B 48 19 (.slice (some ⟨g, 0, none⟩) m c) m (rtcs (L.eraseIdx i)) ∧ w.drew.grownBy W1 (some g) := by
      have hdl : (rtcs (L.drop (i + 1))).length = (L.length - (i + 1)) * 19 := by rw [rtcs_len, List.length_drop]
      obtain ⟨W1, q1, q2, q3⟩ := run_append_fits (P := Tryd.prog) w.drew B 22 22 48 i0 19 Tryd.underlying22 hi0 hz1 g i c (rtcs (L.take i)) hpre A (L.length - (i + 1)) (c - (i + 1)) (rtcs (L.drop (i + 1))) hdl hsrc (rtcs_all _) (by omega)
      rw [hmm] at q1 q2
      refine ⟨W1, fun ty => ?_, ?_, q3⟩
      · exact q1
      · rw [hel, rtcs_append]; exact q2
    obtain ⟨W1, hap, hown, hgr⟩ := hap
    have hown2 : OwnT W1 B (.slice (some ⟨g, 0, none⟩) m c) (L.eraseIdx i) := by
      show W1.ownsRow B _ 19 _ (L.eraseIdx i).length _
      rw [hlen]; exact hown
    rcases hown.2 with ⟨h8, _⟩ | ⟨g2, cap2, cur2, h8, hb2, hg2, hc2, hm2, hcs2, ht2⟩
    · cases h8
    · cases h8
      obtain ⟨W2, hW2⟩ : ∃ W2, W1.setRow g (layC (m * 19) Rt.zero.cs.toList cur2.toList).toArray = W2 := ⟨_, rfl⟩
      have hz19 : Rt.zero.cs.toList.length = 19 := by simp [Rt.size]
      have hcl : ∀ ty : TypeId, (tclearSem ty #[.slice (some ⟨g, m * 19, none⟩) (L.length - m) (c - m)]).run Tryd.prog W1 = .ok (.tuple #[]) W2 := fun ty => by
        rw [← hW2]
        exact tclear_run ty _ (by omega) hg2 (by rw [hcs2]; omega)
      have hfin : OwnT W2 B (.slice (some ⟨g, 0, none⟩) m c) (L.eraseIdx i) := by
        have hb3 : Blk W2 g 48 (layC (m * 19) Rt.zero.cs.toList cur2.toList).toArray := by rw [← hW2]; exact Blk.row (w := W1) hg2 _
        have hll : (layC (m * 19) Rt.zero.cs.toList cur2.toList).length = cur2.size := by rw [layC_len]; simp; rw [hz19]; simp [hcs2]; omega
        rw [← hlen]
        refine own_of hb hb3 (by omega) hm (by rw [hll, hcs2]) ?_
        rw [hlen, ← ht2]
        unfold layC
        rw [List.append_assoc, List.take_append_of_le_length (by simp; omega), List.take_take, Nat.min_self]
      have hbel : Below B w W2 := by
        rw [← hW2]
        have k1 : Below B w w.drew := ⟨rfl, rfl, rfl, Nat.le_refl _, fun _ _ => rfl⟩
        exact below_setRow (k1.grown hgr hB (fun k hk => by cases hk; exact hb)) hb _
      have hm63 : c ≤ 9223372036854775807 := by unfold maxLen at hm; omega
      refine (del_walk (m := m) (by omega) (by omega) (by omega) (by omega) hc hm63 (by omega) (by omega) (by omega) (by omega) (by omega) hA hap (by omega) (by omega) (by omega) (by omega) hcl).mono ?_
      rintro e w' ⟨rfl, rfl⟩
      exact ⟨m, hlen.symm, rfl, hfin, hbel⟩
end Go.Proofs.YtdbdmnahgkkjiaaDoor
namespace Go.Proofs.YtdbdmnahgkkjiaaDoor
open Go.RowKit Go.Shelf
set_option linter.unusedVariables false
set_option maxRecDepth 100000
attribute [local go_sem ↓] load_b16_rule store_b16_rule load_ad_rule store_ad_rule load_px_rule store_px_rule eq_b16_rule eq_ad_rule eq_px_rule load_rt_rule store_rt_rule build_ad_rule build_px_rule build_b16_rule build_rt_rule load_tab_rule build_tab_rule store_tab_rule tbuild_rule tapp_rule tcopy_rule eq_rt_rule tclear_rule

set_option maxHeartbeats 4000000 in
theorem drop_any (a : Option Addr) (n c : Nat) (L : List Rt) (p : Px) (w : World) (hW : Wid w) (hn : L.length = n) (hT : Tbl w a c L) :
    Calls Tryd.prog 20 #[.agg #[.slice a n c], .agg p.cs] w fun e w' => ∃ a' c', e = .returned (.tuple #[.agg #[.slice a' (dropM L p).length c'], .int .i64 (dropE L p)]) ∧ Tbl w' a' c' (dropM L p) ∧ (∀ x, a' = some x → w.heap.size ≤ x.block) ∧ Below w.heap.size w w' := by
  have hR := hT.at'
  have hm : n ≤ 9223372036854775807 := by have := hT.le; have := hT.cap; unfold maxLen at this; omega
  obtain ⟨W0, hW0⟩ : ∃ W0, (w.alloc (.cells #[.slice a n c] 24)).alloc (.cells p.cs 38) = W0 := ⟨_, rfl⟩
  obtain ⟨W1, hW1⟩ : ∃ W1, W0.alloc (.cells #[.slice none 0 0] 24) = W1 := ⟨_, rfl⟩
  have sz0 : W0.heap.size = w.heap.size + 2 := by rw [← hW0]; simp
  have hb0 : Below w.heap.size w W0 := by rw [← hW0]; exact (((Below.refl w.heap.size w).alloc (Nat.le_refl _) _).alloc (by simp) _)
  have hb01 : Below W0.heap.size W0 W1 := by rw [← hW1]; exact (Below.refl _ _).alloc (Nat.le_refl _) _
  have hb1 : Below w.heap.size w W1 := bel_trans hb0 hb01
  have b3 : Blk W1 W0.heap.size 24 #[.slice none 0 0] := by rw [← hW1]; exact Blk.new _ _ _
  have b1 : Blk W1 w.heap.size 24 #[.slice a n c] := by
    have h9 := (Blk.new w 24 #[.slice a n c]).alloc (.cells p.cs 38)
    rw [hW0] at h9
    exact h9.later hb01
  have b2 : Blk W1 (w.heap.size + 1) 38 p.cs := by
    have h9 := Blk.new (w.alloc (.cells #[.slice a n c] 24)) 38 p.cs
    rw [World.size_alloc, hW0] at h9
    exact h9.later hb01
  have LT := tab_t b1
  have CT := tab_c b1
  have LX := px_p b2
  have HR : ∀ w', Below W1.heap.size W1 w' → RowsAt w' a L := fun w' h => (hR.later hb1).later h
  have HW : ∀ w', Below W1.heap.size W1 w' → Wid w' := fun w' h => (hW.later hb1).later h
  have h0 : Below W1.heap.size W1 W1 := Below.refl _ _
  have HB := Lib.hid (And.intro hb1 (And.intro b3 sz0))
  have HCK := fun w' h => tcheck_any a n c L w' (HW w' h) hn hm (HR w' h)
  have BZ := build_tab0
  have ST0 := fun w' (h : Below W1.heap.size W1 w') => st_tab (a2 := none) (n2 := 0) (c2 := 0) (b3.later h)
  by_cases h1 : okT L
  · rw [eT_ok h1] at HCK
    have HCL := fun w' (h : Below W1.heap.size W1 w') => tclone_any a n c L w' hn (by have := h1.1; omega) (HR w' h) hT.nil
    have HLI := fun w' h => last_is a n c L p w' hn hm (HR w' h)
    have e3 : lastM (isQ p) L n = ixM L p := by unfold ixM; rw [hn]
    rw [e3] at HLI
    have HX := Lib.hid (And.intro h1 (And.intro hn b3))
    rcases ix_spec L p with ⟨i, i1, i2, i3, i4⟩ | ⟨i1, i2⟩
    · rw [i2] at HLI
      have di : ((i : Int) == -1) = false := by simp
      have HY := Lib.hid (And.intro i2 i1)
      have wi : wrap64 ((i : Int) + 1) = (i : Int) + 1 := wrap_next (by have := h1.1; omega)
      clear hR hW b1 b2 b3 h1 sz0 hb0 hb01 hb1 hT i1 i2 i3 i4 e3 ST0 BZ HW HR
      go_enter Tryd.func20, Tryd.ntmps20
      go_wp2_with (first | (with_reducible refine wpList_alloc_z rfl 24 rfl #[.slice none 0 0] 1 z_tab ?_) | (go_at_call 25; refine (HCK _ (by assumption)).mono ?_; rintro e w2 ⟨rfl, hb2⟩; have hk2 : Below W1.heap.size W1 w2 := (by first | exact bel_trans (by assumption) hb2 | (subst hb2; assumption)); clear hb2) | (go_at_call 40; refine (HLI _ (by assumption)).mono ?_; rintro e w2 ⟨rfl, hb2⟩; have hk2 : Below W1.heap.size W1 w2 := (by first | exact bel_trans (by assumption) hb2 | (subst hb2; assumption)); clear hb2))
      refine (HCL _ (by assumption)).mono ?_
      rintro e w2 ⟨v, rfl, hown0, hbc0⟩
      obtain ⟨wp, hkp, hbc, hown⟩ : ∃ wp, Below W1.heap.size W1 wp ∧ Below wp.heap.size wp w2 ∧ OwnT w2 wp.heap.size v L := ⟨_, by assumption, hbc0, hown0⟩
      have hk2 : Below W1.heap.size W1 w2 := bel_trans hkp hbc
      have hsp : W1.heap.size ≤ wp.heap.size ∧ wp.heap.size ≤ w2.heap.size := ⟨hkp.size, hbc.size⟩
      obtain ⟨g2, c2, rfl⟩ : ∃ g2 c2, v = .slice (some ⟨g2, 0, none⟩) L.length c2 := by
        rcases hown.2 with ⟨_, h0⟩ | ⟨g', cap, cur, h9, _⟩
        · have := HY.out.2; omega
        · exact ⟨g', cap, h9⟩
      have HDE := delete_any hown HY.out.2 (by have := HX.out.1.1; omega) hsp.2
      rw [hn] at HDE ⊢
      have HS := Lib.hid (And.intro hk2 hsp)
      clear hown0 hbc0 hkp hbc hown hk2 hsp HCL HLI HCK
      go_wp2_with fail
      refine HDE.mono ?_
      rintro e w3 ⟨m, hm9, rfl, hown3, hb3⟩
      have hk3 : Below W1.heap.size W1 w3 := HS.out.1.trans (hb3.mono HS.out.2.1)
      obtain ⟨t3, hx9, hbk⟩ := hown3.tbl2
      clear hx9
      have BT := build_tab1 (some ⟨g2, 0, none⟩) m c2
      have ST3 := st_tab (a2 := some ⟨g2, 0, none⟩) (n2 := m) (c2 := c2) (HB.out.2.1.later hk3)
      have HZ := Lib.hid (And.intro t3 (And.intro hk3 (And.intro hbk hm9)))
      clear t3 hk3 hbk hm9 hown3 hb3 HDE LT LX CT
      go_wp2
      refine bodyPost_ret (results_blk rfl _ _ W0.heap.size _ _ rfl ((HB.out.2.1.later HZ.out.2.1).row _) Tryd.underlying24 rfl s_tab1) rfl ?_
      have e0 : dropE L p = 0 := by unfold dropE; rw [if_neg (by simpa using HX.out.1), if_neg (by rw [HY.out.1]; omega)]
      have e1 : dropM L p = L.eraseIdx i := by
        unfold dropM
        rw [if_pos e0, HY.out.1, Int.toNat_natCast]
      have hW0 := HB.out.2.1.lt
      have hsp1 := HS.out.2.1
      exact ⟨some ⟨g2, 0, none⟩, c2, by rw [e0, e1, ← HZ.out.2.2.2]; rfl, by rw [e1]; exact HZ.out.1.kept ((Kept.refl [W0.heap.size] w3).setRow (.inl (by simp)) _) (fun x hx => by have := HZ.out.2.2.1 x hx; simp; omega), (fun x hx => by have := HZ.out.2.2.1 x hx; have := HB.out.2.2; omega), below_setRow (bel_trans HB.out.1 HZ.out.2.1) (by have := HB.out.2.2; omega) _⟩
    · rw [i1] at HLI
      have di : ((-1 : Int) == -1) = true := by simp
      have e0 : dropE L p = 4 := by unfold dropE; rw [if_neg (by simpa using h1), if_pos i1]
      have e1 : dropM L p = [] := if_neg (by rw [e0]; omega)
      have HE := Lib.hid (And.intro e0 e1)
      clear hR hW b1 b2 b3 h1 sz0 hb0 hb01 hb1 hT i1 i2 e0 e1 e3 HCL HW HR
      go_enter Tryd.func20, Tryd.ntmps20
      go_wp2_with (first | (with_reducible refine wpList_alloc_z rfl 24 rfl #[.slice none 0 0] 1 z_tab ?_) | (go_at_call 25; refine (HCK _ (by assumption)).mono ?_; rintro e w2 ⟨rfl, hb2⟩; have hk2 : Below W1.heap.size W1 w2 := (by first | exact bel_trans (by assumption) hb2 | (subst hb2; assumption)); clear hb2) | (go_at_call 40; refine (HLI _ (by assumption)).mono ?_; rintro e w2 ⟨rfl, hb2⟩; have hk2 : Below W1.heap.size W1 w2 := (by first | exact bel_trans (by assumption) hb2 | (subst hb2; assumption)); clear hb2) | (refine wp_region_lin (fun w' => Below W1.heap.size W1 w') (by kernel_rfl) (by kernel_rfl) (bel_drew (by assumption)) ?_; (repeat (first | (refine lin_off (by rfl) ?_; (try simp only [Act.put, List.setIfInBounds_toArray, List.set_cons_zero, List.set_cons_succ])) | (refine lin_op (v := ?_) (by rfl) (fun w9 hS9 => ?_) ?_; rotate_left; (focus (((try dsimp only at hS9); go_simp; (try go_bits)) <;> with_reducible rfl)); (try simp only [Act.put, List.setIfInBounds_toArray, List.set_cons_zero, List.set_cons_succ])) | (refine lin_fn (f := 25) (by rfl) rfl rfl (enters_of Tryd.func25 (by kernel_rfl) rfl) (fun w9 hS9 => (HCK w9 hS9).mono (fun e w' h => ⟨h.1, (by first | exact bel_trans hS9 h.2 | (rw [← h.2]; exact hS9))⟩)) ?_ ?_; (focus (simp [Act.eval]; done)); (try simp only [Act.put, List.setIfInBounds_toArray, List.set_cons_zero, List.set_cons_succ])) | (refine lin_fn (f := 40) (by rfl) rfl rfl (enters_of Tryd.func40 (by kernel_rfl) rfl) (fun w9 hS9 => (HLI w9 hS9).mono (fun e w' h => ⟨h.1, (by first | exact bel_trans hS9 h.2 | (rw [← h.2]; exact hS9))⟩)) ?_ ?_; (focus (simp [Act.eval]; done)); (try simp only [Act.put, List.setIfInBounds_toArray, List.set_cons_zero, List.set_cons_succ])))); refine lin_nil (fun w8 hS8 => ?_)))
      all_goals refine bodyPost_ret (results_blk rfl _ _ W0.heap.size _ _ rfl ((HB.out.2.1.later (by assumption)).row _) Tryd.underlying24 rfl s_tab1) rfl ?_
      all_goals exact ⟨none, 0, by rw [HE.out.1, HE.out.2]; rfl, by rw [HE.out.2]; exact Tbl.none _, (fun x hx => by cases hx), below_setRow (bel_trans HB.out.1 (by assumption)) (by have := HB.out.2.2; omega) _⟩
  · rw [eT_no h1] at HCK
    have e0 : dropE L p = 190 := by unfold dropE; rw [if_pos h1]
    have e1 : dropM L p = [] := if_neg (by rw [e0]; omega)
    have HE := Lib.hid (And.intro e0 e1)
    clear e0 e1 h1 hR hW HR HW hb1 b1 b2 b3 hb0 hb01 sz0 hT
    go_enter Tryd.func20, Tryd.ntmps20
    go_wp2_with (first | (with_reducible refine wpList_alloc_z rfl 24 rfl #[.slice none 0 0] 1 z_tab ?_) | (go_at_call 25; refine (HCK _ (by assumption)).mono ?_; rintro e w2 ⟨rfl, hb2⟩; have hk2 : Below W1.heap.size W1 w2 := (by first | exact bel_trans (by assumption) hb2 | (subst hb2; assumption)); clear hb2) | (refine wp_region_lin (fun w' => Below W1.heap.size W1 w') (by kernel_rfl) (by kernel_rfl) (bel_drew (by assumption)) ?_; (repeat (first | (refine lin_off (by rfl) ?_; (try simp only [Act.put, List.setIfInBounds_toArray, List.set_cons_zero, List.set_cons_succ])) | (refine lin_op (v := ?_) (by rfl) (fun w9 hS9 => ?_) ?_; rotate_left; (focus (((try dsimp only at hS9); go_simp; (try go_bits)) <;> with_reducible rfl)); (try simp only [Act.put, List.setIfInBounds_toArray, List.set_cons_zero, List.set_cons_succ])) | (refine lin_fn (f := 25) (by rfl) rfl rfl (enters_of Tryd.func25 (by kernel_rfl) rfl) (fun w9 hS9 => (HCK w9 hS9).mono (fun e w' h => ⟨h.1, (by first | exact bel_trans hS9 h.2 | (rw [← h.2]; exact hS9))⟩)) ?_ ?_; (focus (simp [Act.eval]; done)); (try simp only [Act.put, List.setIfInBounds_toArray, List.set_cons_zero, List.set_cons_succ])))); refine lin_nil (fun w8 hS8 => ?_)))
    all_goals refine bodyPost_ret (results_blk rfl _ _ W0.heap.size _ _ rfl ((HB.out.2.1.later (by assumption)).row _) Tryd.underlying24 rfl s_tab1) rfl ?_
    all_goals exact ⟨none, 0, by rw [HE.out.1, HE.out.2]; rfl, by rw [HE.out.2]; exact Tbl.none _, (fun x hx => by cases hx), below_setRow (bel_trans HB.out.1 (by assumption)) (by have := HB.out.2.2; omega) _⟩

noncomputable def getB (L : List Rt) (p : Px) : Bool := decide (okT L) && decide (ixM L p ≠ -1)
noncomputable def getV (L : List Rt) (p : Px) : Int := if okT L then (if ixM L p = -1 then 0 else (rt L (ixM L p).toNat).h) else 0
set_option maxHeartbeats 4000000 in
theorem get_any (a : Option Addr) (n c : Nat) (L : List Rt) (p : Px) (w : World) (hW : Wid w) (hn : L.length = n) (hT : Tbl w a c L) :
    Calls Tryd.prog 19 #[.agg #[.slice a n c], .agg p.cs] w fun e w' => e = .returned (.tuple #[.int .i64 (getV L p), .bool (getB L p)]) ∧ Below w.heap.size w w' := by
  have hR := hT.at'
  have hm : n ≤ 9223372036854775807 := by have := hT.le; have := hT.cap; unfold maxLen at this; omega
  obtain ⟨W1, hW1⟩ : ∃ W1, (w.alloc (.cells #[.slice a n c] 24)).alloc (.cells p.cs 38) = W1 := ⟨_, rfl⟩
  have hb1 : Below w.heap.size w W1 := by rw [← hW1]; exact (((Below.refl w.heap.size w).alloc (Nat.le_refl _) _).alloc (by simp) _)
  have b1 : Blk W1 w.heap.size 24 #[.slice a n c] := by
    have h9 := (Blk.new w 24 #[.slice a n c]).alloc (.cells p.cs 38)
    rwa [hW1] at h9
  have b2 : Blk W1 (w.heap.size + 1) 38 p.cs := by
    have h9 := Blk.new (w.alloc (.cells #[.slice a n c] 24)) 38 p.cs
    rwa [World.size_alloc, hW1] at h9
  have LT := tab_t b1
  have CT := tab_c b1
  have LX := px_p b2
  have HR : ∀ w', Below W1.heap.size W1 w' → RowsAt w' a L := fun w' h => (hR.later hb1).later h
  have HW : ∀ w', Below W1.heap.size W1 w' → Wid w' := fun w' h => (hW.later hb1).later h
  have hTW : ∀ w', Below W1.heap.size W1 w' → Tbl w' a c L := fun w' h => (hT.later hb1).later h
  have h0 : Below W1.heap.size W1 W1 := Below.refl _ _
  have HB := Lib.hid hb1
  have HCK := fun w' h => tcheck_any a n c L w' (HW w' h) hn hm (HR w' h)
  by_cases h1 : okT L
  · rw [eT_ok h1] at HCK
    have HLI := fun w' h => last_is a n c L p w' hn hm (HR w' h)
    have e3 : lastM (isQ p) L n = ixM L p := by unfold ixM; rw [hn]
    rw [e3] at HLI
    rcases ix_spec L p with ⟨i, i1, i2, i3, i4⟩ | ⟨i1, i2⟩
    · rw [i2] at HLI
      have di : ((i : Int) == -1) = false := by simp
      have e0 : getV L p = (rt L i).h := by unfold getV; rw [if_pos h1, i2, if_neg (by omega), Int.toNat_natCast]
      have e1 : getB L p = true := by unfold getB; rw [i2, decide_eq_true h1]; simp
      have HE := Lib.hid (And.intro e0 e1)
      obtain ⟨g, o, rfl, _⟩ := (HR W1 h0).spot i1
      have LH : ∀ w', Below W1.heap.size W1 w' → w'.cell? ⟨g, o + i * 19 + 18, none⟩ = some (.int .i64 (rt L i).h) := fun w' h => by
        obtain ⟨g2, o2, e, hr⟩ := (HR w' h).spot i1
        cases e
        exact hr.hop i1
      have hil : i < n := by omega
      clear hR hW b1 b2 h1 hb1 hT i1 i2 i3 i4 e3 e0 e1 HW HR hTW
      go_enter Tryd.func19, Tryd.ntmps19
      go_wp2_with (first | (go_at_call 25; refine (HCK _ (by assumption)).mono ?_; rintro e w2 ⟨rfl, hb2⟩; have hk2 : Below W1.heap.size W1 w2 := (by first | exact bel_trans (by assumption) hb2 | (subst hb2; assumption)); clear hb2) | (go_at_call 40; refine (HLI _ (by assumption)).mono ?_; rintro e w2 ⟨rfl, hb2⟩; have hk2 : Below W1.heap.size W1 w2 := (by first | exact bel_trans (by assumption) hb2 | (subst hb2; assumption)); clear hb2) | (refine wp_region_lin (fun w' => Below W1.heap.size W1 w') (by kernel_rfl) (by kernel_rfl) (bel_drew (by assumption)) ?_; (repeat (first | (refine lin_off (by rfl) ?_; (try simp only [Act.put, List.setIfInBounds_toArray, List.set_cons_zero, List.set_cons_succ])) | (refine lin_op (v := ?_) (by rfl) (fun w9 hS9 => ?_) ?_; rotate_left; (focus (((try dsimp only at hS9); go_simp; (try go_bits)) <;> with_reducible rfl)); (try simp only [Act.put, List.setIfInBounds_toArray, List.set_cons_zero, List.set_cons_succ])) | (refine lin_fn (f := 25) (by rfl) rfl rfl (enters_of Tryd.func25 (by kernel_rfl) rfl) (fun w9 hS9 => (HCK w9 hS9).mono (fun e w' h => ⟨h.1, (by first | exact bel_trans hS9 h.2 | (rw [← h.2]; exact hS9))⟩)) ?_ ?_; (focus (simp [Act.eval]; done)); (try simp only [Act.put, List.setIfInBounds_toArray, List.set_cons_zero, List.set_cons_succ])) | (refine lin_fn (f := 40) (by rfl) rfl rfl (enters_of Tryd.func40 (by kernel_rfl) rfl) (fun w9 hS9 => (HLI w9 hS9).mono (fun e w' h => ⟨h.1, (by first | exact bel_trans hS9 h.2 | (rw [← h.2]; exact hS9))⟩)) ?_ ?_; (focus (simp [Act.eval]; done)); (try simp only [Act.put, List.setIfInBounds_toArray, List.set_cons_zero, List.set_cons_succ])))); refine lin_nil (fun w8 hS8 => ?_)))
      all_goals refine bodyPost_ret (results_tmp2 rfl _ _ _) rfl ?_
      all_goals exact ⟨by rw [HE.out.1, HE.out.2]; rfl, bel_trans HB.out (by assumption)⟩
    · rw [i1] at HLI
      have di : ((-1 : Int) == -1) = true := by simp
      have e0 : getV L p = 0 := by unfold getV; rw [if_pos h1, if_pos i1]
      have e1 : getB L p = false := by unfold getB; rw [i1]; simp
      have HE := Lib.hid (And.intro e0 e1)
      clear hR hW b1 b2 h1 hb1 hT i1 i2 e3 e0 e1 HW HR hTW
      go_enter Tryd.func19, Tryd.ntmps19
      go_wp2_with (first | (go_at_call 25; refine (HCK _ (by assumption)).mono ?_; rintro e w2 ⟨rfl, hb2⟩; have hk2 : Below W1.heap.size W1 w2 := (by first | exact bel_trans (by assumption) hb2 | (subst hb2; assumption)); clear hb2) | (go_at_call 40; refine (HLI _ (by assumption)).mono ?_; rintro e w2 ⟨rfl, hb2⟩; have hk2 : Below W1.heap.size W1 w2 := (by first | exact bel_trans (by assumption) hb2 | (subst hb2; assumption)); clear hb2) | (refine wp_region_lin (fun w' => Below W1.heap.size W1 w') (by kernel_rfl) (by kernel_rfl) (bel_drew (by assumption)) ?_; (repeat (first | (refine lin_off (by rfl) ?_; (try simp only [Act.put, List.setIfInBounds_toArray, List.set_cons_zero, List.set_cons_succ])) | (refine lin_op (v := ?_) (by rfl) (fun w9 hS9 => ?_) ?_; rotate_left; (focus (((try dsimp only at hS9); go_simp; (try go_bits)) <;> with_reducible rfl)); (try simp only [Act.put, List.setIfInBounds_toArray, List.set_cons_zero, List.set_cons_succ])) | (refine lin_fn (f := 25) (by rfl) rfl rfl (enters_of Tryd.func25 (by kernel_rfl) rfl) (fun w9 hS9 => (HCK w9 hS9).mono (fun e w' h => ⟨h.1, (by first | exact bel_trans hS9 h.2 | (rw [← h.2]; exact hS9))⟩)) ?_ ?_; (focus (simp [Act.eval]; done)); (try simp only [Act.put, List.setIfInBounds_toArray, List.set_cons_zero, List.set_cons_succ])) | (refine lin_fn (f := 40) (by rfl) rfl rfl (enters_of Tryd.func40 (by kernel_rfl) rfl) (fun w9 hS9 => (HLI w9 hS9).mono (fun e w' h => ⟨h.1, (by first | exact bel_trans hS9 h.2 | (rw [← h.2]; exact hS9))⟩)) ?_ ?_; (focus (simp [Act.eval]; done)); (try simp only [Act.put, List.setIfInBounds_toArray, List.set_cons_zero, List.set_cons_succ])))); refine lin_nil (fun w8 hS8 => ?_)))
      all_goals refine bodyPost_ret (results_tmp2 rfl _ _ _) rfl ?_
      all_goals exact ⟨by rw [HE.out.1, HE.out.2]; rfl, bel_trans HB.out (by assumption)⟩
  · rw [eT_no h1] at HCK
    have e0 : getV L p = 0 := if_neg h1
    have e1 : getB L p = false := by unfold getB; rw [decide_eq_false h1]; rfl
    have HE := Lib.hid (And.intro e0 e1)
    clear hR hW b1 b2 h1 hb1 hT e0 e1 HW HR hTW
    go_enter Tryd.func19, Tryd.ntmps19
    go_wp2_with (first | (go_at_call 25; refine (HCK _ (by assumption)).mono ?_; rintro e w2 ⟨rfl, hb2⟩; have hk2 : Below W1.heap.size W1 w2 := (by first | exact bel_trans (by assumption) hb2 | (subst hb2; assumption)); clear hb2) | (refine wp_region_lin (fun w' => Below W1.heap.size W1 w') (by kernel_rfl) (by kernel_rfl) (bel_drew (by assumption)) ?_; (repeat (first | (refine lin_off (by rfl) ?_; (try simp only [Act.put, List.setIfInBounds_toArray, List.set_cons_zero, List.set_cons_succ])) | (refine lin_op (v := ?_) (by rfl) (fun w9 hS9 => ?_) ?_; rotate_left; (focus (((try dsimp only at hS9); go_simp; (try go_bits)) <;> with_reducible rfl)); (try simp only [Act.put, List.setIfInBounds_toArray, List.set_cons_zero, List.set_cons_succ])) | (refine lin_fn (f := 25) (by rfl) rfl rfl (enters_of Tryd.func25 (by kernel_rfl) rfl) (fun w9 hS9 => (HCK w9 hS9).mono (fun e w' h => ⟨h.1, (by first | exact bel_trans hS9 h.2 | (rw [← h.2]; exact hS9))⟩)) ?_ ?_; (focus (simp [Act.eval]; done)); (try simp only [Act.put, List.setIfInBounds_toArray, List.set_cons_zero, List.set_cons_succ])))); refine lin_nil (fun w8 hS8 => ?_)))
    all_goals refine bodyPost_ret (results_tmp2 rfl _ _ _) rfl ?_
    all_goals exact ⟨by rw [HE.out.1, HE.out.2]; rfl, bel_trans HB.out (by assumption)⟩
end Go.Proofs.YtdbdmnahgkkjiaaDoor
