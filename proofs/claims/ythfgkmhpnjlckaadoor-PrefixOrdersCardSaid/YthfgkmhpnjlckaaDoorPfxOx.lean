/-
  The walk of PrefixOrders. Nothing here is a statement of the document.
-/
import Derived.Test.YthfgkmhpnjlckaaDoorPfxOr
import Derived.Deep.DeepCutAuto
namespace Go.Proofs.YthfgkmhpnjlckaaDoor
open Go.RowKit Go.Shelf
set_option linter.unusedVariables false
attribute [local go_sem ↓] load_b16_rule store_b16_rule load_ad_rule store_ad_rule load_px_rule store_px_rule eq_b16_rule eq_ad_rule eq_px_rule build_ad_rule build_px_rule build_b16_rule

set_option maxRecDepth 100000 in
set_option maxHeartbeats 8000000 in
theorem orders_walk (p : Px) (_fp : (Lit.int .i64 p.n).wf = true) (_gp : (Lit.int .i64 p.a.v).wf = true) (q : Px) (_fq : (Lit.int .i64 q.n).wf = true) (_gq : (Lit.int .i64 q.a.v).wf = true) (r : Px) (_fr : (Lit.int .i64 r.n).wf = true) (_gr : (Lit.int .i64 r.a.v).wf = true) (w : World) (hW : Wid w) :
    Calls Tryd.prog 8 #[.agg p.cs, .agg q.cs, .agg r.cs] w fun e w' => e = .returned (.bool true) ∧ Below w.heap.size w w' := by
  clear _fp _gp _fq _gq _fr _gr
  obtain ⟨W1, hW1⟩ : ∃ W1, ((w.alloc (.cells p.cs 26)).alloc (.cells q.cs 26)).alloc (.cells r.cs 26) = W1 := ⟨_, rfl⟩
  have hb1 : Below w.heap.size w W1 := by rw [← hW1]; exact ((((Below.refl w.heap.size w).alloc (Nat.le_refl _) _).alloc (by simp) _).alloc (by simp; omega) _)
  have b1 : Blk W1 (w.heap.size) 26 p.cs := by
    have h9 := Blk.new w 26 p.cs
    rw [← hW1]; exact ((h9.alloc _).alloc _)
  have b2 : Blk W1 (w.heap.size + 1) 26 q.cs := by
    have h9 := Blk.new (w.alloc (.cells p.cs 26)) 26 q.cs
    rw [World.size_alloc] at h9
    rw [← hW1]; exact (h9.alloc _)
  have b3 : Blk W1 (w.heap.size + 1 + 1) 26 r.cs := by
    have h9 := Blk.new ((w.alloc (.cells p.cs 26)).alloc (.cells q.cs 26)) 26 r.cs
    rw [World.size_alloc, World.size_alloc] at h9
    rw [← hW1]; exact h9
  have LPp := px_p b1
  have LAp := px_a b1
  have LBp := px_b b1
  have LVp := px_v b1
  have LNp := px_n b1
  have LPq := px_p b2
  have LAq := px_a b2
  have LBq := px_b b2
  have LVq := px_v b2
  have LNq := px_n b2
  have LPr := px_p b3
  have LAr := px_a b3
  have LBr := px_b b3
  have LVr := px_v b3
  have LNr := px_n b3
  have HW : ∀ w', Below W1.heap.size W1 w' → Wid w' := fun w' h => (hW.later hb1).later h
  have HWK := fun w' h => wakes_any w' (HW w' h)
  have h0 : Below W1.heap.size W1 W1 := Below.refl _ _
  have HB := Lib.hid hb1
  clear hb1 b1 b2 b3
  have KP := fun w' h => check_any p w' (HW w' h)
  have KQ := fun w' h => check_any q w' (HW w' h)
  have KR := fun w' h => check_any r w' (HW w' h)
  have HPP := fun w' h => holds_any p p w' (HW w' h)
  have HPQ := fun w' h => holds_any p q w' (HW w' h)
  have HQP := fun w' h => holds_any q p w' (HW w' h)
  have HQR := fun w' h => holds_any q r w' (HW w' h)
  have HPR := fun w' h => holds_any p r w' (HW w' h)
  have AP := fun w' h => has_any p r.a w' (HW w' h)
  have AQ := fun w' h => has_any q r.a w' (HW w' h)
  have CPQ := compare_any p q
  have CQP := compare_any q p
  have CQR := compare_any q r
  have CPR := compare_any p r
  have EQ := eqP p q
  clear HW
  by_cases hok : okP p ∧ okP q ∧ okP r
  · obtain ⟨h1, h2, h3⟩ := hok
    rw [eP_ok h1] at KP
    rw [eP_ok h2] at KQ
    rw [eP_ok h3] at KR
    rw [decide_eq_true (holds_refl h1)] at HPP
    have K1 : (decide (holdsM p q) = false ∧ decide (p = q) = false ∧ ((cmpP p q = -1 ∧ cmpP q p = 1) ∨ (cmpP p q = 1 ∧ cmpP q p = -1))) ∨ (decide (holdsM p q) = true ∧ ((decide (holdsM q p) = true ∧ decide (p = q) = true ∧ cmpP p q = 0 ∧ cmpP q p = 0) ∨ (decide (holdsM q p) = false ∧ decide (p = q) = false ∧ cmpP p q = -1 ∧ cmpP q p = 1))) := by
      have hz := cmpP_zero p q
      have hn := cmpP_neg p q
      have h3 := cmpP_three p q
      by_cases a : holdsM p q
      · right
        refine ⟨decide_eq_true a, ?_⟩
        have hc := holds_cmp a
        by_cases b : holdsM q p
        · have e := holds_same a b
          exact .inl ⟨decide_eq_true b, decide_eq_true e, hz.2 e, by have := hz.2 e; omega⟩
        · have e : ¬ p = q := fun e => b (e ▸ a)
          have c : cmpP p q ≠ 0 := fun c => e (hz.1 c)
          exact .inr ⟨decide_eq_false b, decide_eq_false e, by omega, by omega⟩
      · left
        have e : ¬ p = q := fun e => a (e ▸ holds_refl h1)
        have c : cmpP p q ≠ 0 := fun c => e (hz.1 c)
        refine ⟨decide_eq_false a, decide_eq_false e, ?_⟩
        rcases h3 with h3 | h3 | h3
        · exact .inl ⟨h3, by omega⟩
        · exact absurd h3 c
        · exact .inr ⟨h3, by omega⟩
    have K2 : decide (holdsM p q) = false ∨ (decide (holdsM q r) = false ∨ (decide (holdsM q r) = true ∧ decide (holdsM p r) = true)) := by
      by_cases a : holdsM p q
      · by_cases b : holdsM q r
        · exact .inr (.inr ⟨decide_eq_true b, decide_eq_true (holds_trans a b)⟩)
        · exact .inr (.inl (decide_eq_false b))
      · exact .inl (decide_eq_false a)
    have K5 : (cmpP p q = 0 ∨ cmpP p q = 1) ∨ (decide (cmpP q r < 0) = false ∨ (decide (cmpP q r < 0) = true ∧ decide (0 ≤ cmpP p r) = false)) := by
      rcases cmpP_three p q with a | a | a
      · right
        by_cases b : cmpP q r < 0
        · exact .inr ⟨decide_eq_true b, decide_eq_false (by have := cmpP_lt p q r (by omega) b; omega)⟩
        · exact .inl (decide_eq_false b)
      · exact .inl (.inl a)
      · exact .inl (.inr a)
    have K6 : decide (hasM p r.a) = false ∨ (decide (hasM p r.a) = true ∧ decide (hasM q r.a) = false) ∨ (decide (hasM p r.a) = true ∧ decide (hasM q r.a) = true ∧ (decide (holdsM p q) = true ∨ (decide (holdsM p q) = false ∧ decide (holdsM q p) = true))) := by
      by_cases a : hasM p r.a
      · by_cases b : hasM q r.a
        · refine .inr (.inr ⟨decide_eq_true a, decide_eq_true b, ?_⟩)
          by_cases c : holdsM p q
          · exact .inl (decide_eq_true c)
          · exact .inr ⟨decide_eq_false c, decide_eq_true ((has_both a b).resolve_left c)⟩
        · exact .inr (.inl ⟨decide_eq_true a, decide_eq_false b⟩)
      · exact .inl (decide_eq_false a)
    clear h1 h2 h3
    generalize decide (holdsM p q) = xpq at *
    generalize decide (holdsM q p) = xqp at *
    generalize decide (holdsM q r) = xqr at *
    generalize decide (holdsM p r) = xpr at *
    generalize decide (hasM p r.a) = xp at *
    generalize decide (hasM q r.a) = xq at *
    generalize decide (p = q) = xe at *
    generalize cmpP p q = c at *
    generalize cmpP q p = d at *
    generalize cmpP q r = cqr at *
    generalize cmpP p r = cpr at *
    have HK := Lib.hid (And.intro K1 (And.intro K2 (And.intro K5 K6)))
    clear K1 K2 K5 K6
    go_enter Tryd.func8, Tryd.ntmps8
    go_upto_region 5 with (first | (go_at_call 10; with_reducible refine (HWK _ (by assumption)).mono ?_; rintro e w2 ⟨rfl, hb2⟩; have hk2 : Below W1.heap.size W1 w2 := bel_trans (by assumption) hb2; clear hb2) | (go_at_call 12; with_reducible refine (KP _ (by assumption)).mono ?_; rintro e w2 ⟨rfl, hb2⟩; have hk2 : Below W1.heap.size W1 w2 := bel_trans (by assumption) hb2; clear hb2) | (go_at_call 12; with_reducible refine (KQ _ (by assumption)).mono ?_; rintro e w2 ⟨rfl, hb2⟩; have hk2 : Below W1.heap.size W1 w2 := bel_trans (by assumption) hb2; clear hb2) | (go_at_call 12; with_reducible refine (KR _ (by assumption)).mono ?_; rintro e w2 ⟨rfl, hb2⟩; have hk2 : Below W1.heap.size W1 w2 := bel_trans (by assumption) hb2; clear hb2))
    go_cut [32] from 7 (fun c wc => c = .bool false ∧ Below W1.heap.size W1 wc)
    case first =>
      have h9 : xpq = false ∨ (xpq = true ∧ xqp = false) ∨ (xpq = true ∧ xqp = true ∧ xe = true) := by
        rcases HK.out.1 with ⟨a, _⟩ | ⟨a, ⟨b, c, _⟩ | ⟨b, _⟩⟩
        · exact .inl a
        · exact .inr (.inr ⟨a, b, c⟩)
        · exact .inr (.inl ⟨a, b⟩)
      clear HK
      rcases h9 with rfl | ⟨rfl, rfl⟩ | ⟨rfl, rfl, rfl⟩
      all_goals
        go_wp2_with (first | (go_at_call 25; with_reducible refine (HPP _ (by assumption)).mono ?_; rintro e w2 ⟨rfl, hb2⟩; have hk2 : Below W1.heap.size W1 w2 := bel_trans (by assumption) hb2; clear hb2) | (go_at_call 25; with_reducible refine (HPQ _ (by assumption)).mono ?_; rintro e w2 ⟨rfl, hb2⟩; have hk2 : Below W1.heap.size W1 w2 := bel_trans (by assumption) hb2; clear hb2) | (go_at_call 25; with_reducible refine (HQP _ (by assumption)).mono ?_; rintro e w2 ⟨rfl, hb2⟩; have hk2 : Below W1.heap.size W1 w2 := bel_trans (by assumption) hb2; clear hb2))
        go_meet
        exact ⟨rfl, by assumption⟩
    case rest =>
    obtain ⟨rfl, hk5⟩ := hcut
    go_upto_region 7 with fail
    go_cut [52] from 7 (fun c wc => c = .bool false ∧ Below W1.heap.size W1 wc)
    case first =>
      have h9 := HK.out.2.1
      clear HK
      rcases h9 with rfl | h9
      rotate_left
      · cases xpq
        rotate_left
        · rcases h9 with rfl | ⟨rfl, rfl⟩
          all_goals
            go_wp2_with (first | (go_at_call 25; with_reducible refine (HPQ _ (by assumption)).mono ?_; rintro e w2 ⟨rfl, hb2⟩; have hk2 : Below W1.heap.size W1 w2 := bel_trans (by assumption) hb2; clear hb2) | (go_at_call 25; with_reducible refine (HQR _ (by assumption)).mono ?_; rintro e w2 ⟨rfl, hb2⟩; have hk2 : Below W1.heap.size W1 w2 := bel_trans (by assumption) hb2; clear hb2) | (go_at_call 25; with_reducible refine (HPR _ (by assumption)).mono ?_; rintro e w2 ⟨rfl, hb2⟩; have hk2 : Below W1.heap.size W1 w2 := bel_trans (by assumption) hb2; clear hb2))
            go_meet
            exact ⟨rfl, by assumption⟩
        · clear h9
          go_wp2_with (first | (go_at_call 25; with_reducible refine (HPQ _ (by assumption)).mono ?_; rintro e w2 ⟨rfl, hb2⟩; have hk2 : Below W1.heap.size W1 w2 := bel_trans (by assumption) hb2; clear hb2))
          go_meet
          exact ⟨rfl, by assumption⟩
      · go_wp2_with (first | (go_at_call 25; with_reducible refine (HPQ _ (by assumption)).mono ?_; rintro e w2 ⟨rfl, hb2⟩; have hk2 : Below W1.heap.size W1 w2 := bel_trans (by assumption) hb2; clear hb2))
        go_meet
        exact ⟨rfl, by assumption⟩
    case rest =>
    obtain ⟨rfl, hk7⟩ := hcut
    go_upto_region 9 with fail
    go_cut [67] from 7 (fun c wc => c = .bool false ∧ Below W1.heap.size W1 wc)
    case first =>
      have h9 : xpq = false ∨ (xpq = true ∧ decide (0 < c) = false) := by
        rcases HK.out.1 with ⟨a, _⟩ | ⟨a, ⟨_, _, e, _⟩ | ⟨_, _, e, _⟩⟩
        · exact .inl a
        · exact .inr ⟨a, by rw [e]; rfl⟩
        · exact .inr ⟨a, by rw [e]; rfl⟩
      clear HK
      rcases h9 with rfl | ⟨rfl, d1⟩
      all_goals
        go_wp2_with (first | (go_at_call 25; with_reducible refine (HPQ _ (by assumption)).mono ?_; rintro e w2 ⟨rfl, hb2⟩; have hk2 : Below W1.heap.size W1 w2 := bel_trans (by assumption) hb2; clear hb2) | (go_at_call 27; with_reducible refine (CPQ _).mono ?_; rintro e w2 ⟨rfl, hb2⟩; have hk2 : Below W1.heap.size W1 w2 := bel_trans (by assumption) hb2; clear hb2))
        go_meet
        exact ⟨rfl, by assumption⟩
    case rest =>
    obtain ⟨rfl, hk9⟩ := hcut
    go_upto_region 11 with fail
    go_cut [77] from 7 (fun c wc => c = .bool false ∧ Below W1.heap.size W1 wc)
    case first =>
      have h9 : (c = -1 ∧ d = 1 ∧ xe = false) ∨ (c = 0 ∧ d = 0 ∧ xe = true) ∨ (c = 1 ∧ d = -1 ∧ xe = false) := by
        rcases HK.out.1 with ⟨_, b, ⟨e, f⟩ | ⟨e, f⟩⟩ | ⟨_, ⟨_, b, e, f⟩ | ⟨_, b, e, f⟩⟩
        · exact .inl ⟨e, f, b⟩
        · exact .inr (.inr ⟨e, f, b⟩)
        · exact .inr (.inl ⟨e, f, b⟩)
        · exact .inl ⟨e, f, b⟩
      clear HK
      rcases h9 with ⟨rfl, rfl, rfl⟩ | ⟨rfl, rfl, rfl⟩ | ⟨rfl, rfl, rfl⟩
      all_goals
        go_wp2_with (first | (go_at_call 27; with_reducible refine (CPQ _).mono ?_; rintro e w2 ⟨rfl, hb2⟩; have hk2 : Below W1.heap.size W1 w2 := bel_trans (by assumption) hb2; clear hb2) | (go_at_call 27; with_reducible refine (CQP _).mono ?_; rintro e w2 ⟨rfl, hb2⟩; have hk2 : Below W1.heap.size W1 w2 := bel_trans (by assumption) hb2; clear hb2)  | (refine wp_region_lin (fun w' => Below W1.heap.size W1 w') (by kernel_rfl) (by kernel_rfl) (bel_drew (by assumption)) ?_; (repeat (first | (refine lin_off (by rfl) ?_; (try simp only [Act.put, List.setIfInBounds_toArray, List.set_cons_zero, List.set_cons_succ])) | (refine lin_op (v := ?_) (by rfl) (fun w9 hS9 => ?_) ?_; rotate_left; (focus (((try dsimp only at hS9); go_simp; (try go_bits)) <;> with_reducible rfl)); (try simp only [Act.put, List.setIfInBounds_toArray, List.set_cons_zero, List.set_cons_succ])) | (refine lin_fn (f := 27) (by rfl) rfl rfl (enters_of Tryd.func27 (by kernel_rfl) rfl) (fun w9 hS9 => (CPQ w9).mono (fun e w' h => ⟨h.1, bel_trans hS9 h.2⟩)) ?_ ?_; (focus (simp [Act.eval]; done)); (try simp only [Act.put, List.setIfInBounds_toArray, List.set_cons_zero, List.set_cons_succ])) | (refine lin_fn (f := 27) (by rfl) rfl rfl (enters_of Tryd.func27 (by kernel_rfl) rfl) (fun w9 hS9 => (CQP w9).mono (fun e w' h => ⟨h.1, bel_trans hS9 h.2⟩)) ?_ ?_; (focus (simp [Act.eval]; done)); (try simp only [Act.put, List.setIfInBounds_toArray, List.set_cons_zero, List.set_cons_succ])))); refine lin_nil (fun w8 hS8 => ?_)))
        go_meet
        exact ⟨rfl, by assumption⟩
    case rest =>
    obtain ⟨rfl, hk11⟩ := hcut
    go_upto_region 13 with fail
    go_cut [96] from 7 (fun c wc => c = .bool false ∧ Below W1.heap.size W1 wc)
    case first =>
      have h9 : decide (c < 0) = false ∨ (decide (c < 0) = true ∧ decide (cqr < 0) = false) ∨ (decide (c < 0) = true ∧ decide (cqr < 0) = true ∧ decide (0 ≤ cpr) = false) := by
        by_cases h8 : c < 0
        · rcases HK.out.2.2.1 with (a | a) | a | ⟨a, b⟩
          · omega
          · omega
          · exact .inr (.inl ⟨decide_eq_true h8, a⟩)
          · exact .inr (.inr ⟨decide_eq_true h8, a, b⟩)
        · exact .inl (decide_eq_false h8)
      clear HK
      rcases h9 with d1 | ⟨d1, d2⟩ | ⟨d1, d2, d3⟩
      all_goals
        go_wp2_with (first | (go_at_call 27; with_reducible refine (CPQ _).mono ?_; rintro e w2 ⟨rfl, hb2⟩; have hk2 : Below W1.heap.size W1 w2 := bel_trans (by assumption) hb2; clear hb2) | (go_at_call 27; with_reducible refine (CQR _).mono ?_; rintro e w2 ⟨rfl, hb2⟩; have hk2 : Below W1.heap.size W1 w2 := bel_trans (by assumption) hb2; clear hb2) | (go_at_call 27; with_reducible refine (CPR _).mono ?_; rintro e w2 ⟨rfl, hb2⟩; have hk2 : Below W1.heap.size W1 w2 := bel_trans (by assumption) hb2; clear hb2))
        go_meet
        exact ⟨rfl, by assumption⟩
    case rest =>
    obtain ⟨rfl, hk13⟩ := hcut
    have h9 : xp = false ∨ (xp = true ∧ xq = false) ∨ (xp = true ∧ xq = true ∧ xpq = true) ∨ (xp = true ∧ xq = true ∧ xpq = false ∧ xqp = true) := by
      rcases HK.out.2.2.2 with a | ⟨a, b⟩ | ⟨a, b, c | ⟨c, d⟩⟩
      · exact .inl a
      · exact .inr (.inl ⟨a, b⟩)
      · exact .inr (.inr (.inl ⟨a, b, c⟩))
      · exact .inr (.inr (.inr ⟨a, b, c, d⟩))
    clear HK
    rcases h9 with rfl | ⟨rfl, rfl⟩ | ⟨rfl, rfl, rfl⟩ | ⟨rfl, rfl, rfl, rfl⟩
    all_goals
      go_wp2_with (first | (go_at_call 23; with_reducible refine (AP _ (by assumption)).mono ?_; rintro e w2 ⟨rfl, hb2⟩; have hk2 : Below W1.heap.size W1 w2 := bel_trans (by assumption) hb2; clear hb2) | (go_at_call 23; with_reducible refine (AQ _ (by assumption)).mono ?_; rintro e w2 ⟨rfl, hb2⟩; have hk2 : Below W1.heap.size W1 w2 := bel_trans (by assumption) hb2; clear hb2) | (go_at_call 25; with_reducible refine (HPQ _ (by assumption)).mono ?_; rintro e w2 ⟨rfl, hb2⟩; have hk2 : Below W1.heap.size W1 w2 := bel_trans (by assumption) hb2; clear hb2) | (go_at_call 25; with_reducible refine (HQP _ (by assumption)).mono ?_; rintro e w2 ⟨rfl, hb2⟩; have hk2 : Below W1.heap.size W1 w2 := bel_trans (by assumption) hb2; clear hb2))
      go_ret
      exact ⟨rfl, bel_trans HB.out (by assumption)⟩
  · have K : decide (holdsM p q) = false ∨ (decide (holdsM p q) = true ∧ decide (holdsM q r) = false) := by
      by_cases a : holdsM p q
      · exact .inr ⟨decide_eq_true a, decide_eq_false fun b => hok ⟨(holds_okP a).1, (holds_okP a).2, (holds_okP b).2⟩⟩
      · exact .inl (decide_eq_false a)
    have E : (eP p = 151) ∨ (eP p = 0 ∧ eP q = 151) ∨ (eP p = 0 ∧ eP q = 0 ∧ eP r = 151) := by
      by_cases a : okP p
      · by_cases b : okP q
        · exact .inr (.inr ⟨eP_ok a, eP_ok b, eP_no fun c => hok ⟨a, b, c⟩⟩)
        · exact .inr (.inl ⟨eP_ok a, eP_no b⟩)
      · exact .inl (eP_no a)
    clear hok HPP HQP HPR AP AQ CPQ CQP CQR CPR EQ
    generalize decide (holdsM p q) = xpq at *
    generalize decide (holdsM q r) = xqr at *
    generalize eP p = ep at *
    generalize eP q = eq at *
    generalize eP r = er at *
    rcases K with rfl | ⟨rfl, rfl⟩ <;> rcases E with rfl | ⟨rfl, rfl⟩ | ⟨rfl, rfl, rfl⟩
    all_goals
      go_enter Tryd.func8, Tryd.ntmps8
      go_wp2_with (first | (go_at_call 10; with_reducible refine (HWK _ (by assumption)).mono ?_; rintro e w2 ⟨rfl, hb2⟩; have hk2 : Below W1.heap.size W1 w2 := bel_trans (by assumption) hb2; clear hb2) | (go_at_call 12; with_reducible refine (KP _ (by assumption)).mono ?_; rintro e w2 ⟨rfl, hb2⟩; have hk2 : Below W1.heap.size W1 w2 := bel_trans (by assumption) hb2; clear hb2) | (go_at_call 12; with_reducible refine (KQ _ (by assumption)).mono ?_; rintro e w2 ⟨rfl, hb2⟩; have hk2 : Below W1.heap.size W1 w2 := bel_trans (by assumption) hb2; clear hb2) | (go_at_call 12; with_reducible refine (KR _ (by assumption)).mono ?_; rintro e w2 ⟨rfl, hb2⟩; have hk2 : Below W1.heap.size W1 w2 := bel_trans (by assumption) hb2; clear hb2) | (go_at_call 25; with_reducible refine (HPQ _ (by assumption)).mono ?_; rintro e w2 ⟨rfl, hb2⟩; have hk2 : Below W1.heap.size W1 w2 := bel_trans (by assumption) hb2; clear hb2) | (go_at_call 25; with_reducible refine (HQR _ (by assumption)).mono ?_; rintro e w2 ⟨rfl, hb2⟩; have hk2 : Below W1.heap.size W1 w2 := bel_trans (by assumption) hb2; clear hb2)  | (refine wp_region_lin (fun w' => Below W1.heap.size W1 w') (by kernel_rfl) (by kernel_rfl) (bel_drew (by assumption)) ?_; (repeat (first | (refine lin_off (by rfl) ?_; (try simp only [Act.put, List.setIfInBounds_toArray, List.set_cons_zero, List.set_cons_succ])) | (refine lin_op (v := ?_) (by rfl) (fun w9 hS9 => ?_) ?_; rotate_left; (focus (((try dsimp only at hS9); go_simp; (try go_bits)) <;> with_reducible rfl)); (try simp only [Act.put, List.setIfInBounds_toArray, List.set_cons_zero, List.set_cons_succ])) | (refine lin_fn (f := 10) (by rfl) rfl rfl (enters_of Tryd.func10 (by kernel_rfl) rfl) (fun w9 hS9 => (HWK w9 hS9).mono (fun e w' h => ⟨h.1, bel_trans hS9 h.2⟩)) ?_ ?_; (focus (simp [Act.eval]; done)); (try simp only [Act.put, List.setIfInBounds_toArray, List.set_cons_zero, List.set_cons_succ])) | (refine lin_fn (f := 12) (by rfl) rfl rfl (enters_of Tryd.func12 (by kernel_rfl) rfl) (fun w9 hS9 => (KP w9 hS9).mono (fun e w' h => ⟨h.1, bel_trans hS9 h.2⟩)) ?_ ?_; (focus (simp [Act.eval]; done)); (try simp only [Act.put, List.setIfInBounds_toArray, List.set_cons_zero, List.set_cons_succ])) | (refine lin_fn (f := 12) (by rfl) rfl rfl (enters_of Tryd.func12 (by kernel_rfl) rfl) (fun w9 hS9 => (KQ w9 hS9).mono (fun e w' h => ⟨h.1, bel_trans hS9 h.2⟩)) ?_ ?_; (focus (simp [Act.eval]; done)); (try simp only [Act.put, List.setIfInBounds_toArray, List.set_cons_zero, List.set_cons_succ])) | (refine lin_fn (f := 12) (by rfl) rfl rfl (enters_of Tryd.func12 (by kernel_rfl) rfl) (fun w9 hS9 => (KR w9 hS9).mono (fun e w' h => ⟨h.1, bel_trans hS9 h.2⟩)) ?_ ?_; (focus (simp [Act.eval]; done)); (try simp only [Act.put, List.setIfInBounds_toArray, List.set_cons_zero, List.set_cons_succ])) | (refine lin_fn (f := 25) (by rfl) rfl rfl (enters_of Tryd.func25 (by kernel_rfl) rfl) (fun w9 hS9 => (HPQ w9 hS9).mono (fun e w' h => ⟨h.1, bel_trans hS9 h.2⟩)) ?_ ?_; (focus (simp [Act.eval]; done)); (try simp only [Act.put, List.setIfInBounds_toArray, List.set_cons_zero, List.set_cons_succ])) | (refine lin_fn (f := 25) (by rfl) rfl rfl (enters_of Tryd.func25 (by kernel_rfl) rfl) (fun w9 hS9 => (HQR w9 hS9).mono (fun e w' h => ⟨h.1, bel_trans hS9 h.2⟩)) ?_ ?_; (focus (simp [Act.eval]; done)); (try simp only [Act.put, List.setIfInBounds_toArray, List.set_cons_zero, List.set_cons_succ])))); refine lin_nil (fun w8 hS8 => ?_)))
      all_goals go_ret
      all_goals exact ⟨rfl, bel_trans HB.out (by assumption)⟩
end Go.Proofs.YthfgkmhpnjlckaaDoor
