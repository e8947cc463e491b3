/-
  The walk of PrefixOf. Nothing here is a statement of the document.
-/
import Derived.Test.YthfgkmhpnjlckaaDoorPfxP
namespace Go.Proofs.YthfgkmhpnjlckaaDoor
open Go.RowKit Go.Shelf
set_option linter.unusedVariables false
attribute [local go_sem ↓] load_b16_rule store_b16_rule load_ad_rule store_ad_rule load_px_rule store_px_rule eq_b16_rule eq_ad_rule eq_px_rule build_ad_rule build_px_rule build_b16_rule

theorem of_okA {a : Ad} {n : Int} (h : okA a) (h0 : 0 ≤ n) (h1 : n ≤ (wid a.v : Int)) : ofE a n = 0 ∧ ofP a n = ⟨⟨a.v, keptB a.b n.toNat⟩, n⟩ := by
  unfold ofE ofP
  exact ⟨by rw [if_pos h, if_pos ⟨h0, h1⟩], if_pos ⟨h, h0, h1⟩⟩
theorem kept_okA {a : Ad} (h : okA a) (n : Nat) : okA ⟨a.v, keptB a.b n⟩ := ⟨h.1, fun i h1 h2 => by
  rw [bt_kept _ _ _ h2, h.2 i h1 h2, Bool.and_false]⟩
theorem of_okP {a : Ad} {n : Int} (h : okA a) (h0 : 0 ≤ n) (h1 : n ≤ (wid a.v : Int)) : okP ⟨⟨a.v, keptB a.b n.toNat⟩, n⟩ :=
  ⟨kept_okA h _, h0, h1, kept_clear _ _⟩
theorem of_has {a : Ad} {n : Int} (h : okA a) (h0 : 0 ≤ n) (h1 : n ≤ (wid a.v : Int)) : hasM ⟨⟨a.v, keptB a.b n.toNat⟩, n⟩ a := ⟨of_okP h h0 h1, h, rfl, rfl⟩
theorem of_bit {a : Ad} (h : okA a) (n : Nat) (i : Nat) (hi : i < wid a.v) : bitV ⟨a.v, keptB a.b n⟩ (i : Int) = if i < n then bitV a (i : Int) else 0 := by
  have hw := wid_le a.v
  have e1 : bitV ⟨a.v, keptB a.b n⟩ (i : Int) = btI (keptB a.b n) i := by
    unfold bitV
    rw [if_pos ⟨kept_okA h n, by omega, by exact_mod_cast hi⟩, Int.toNat_natCast]
  have e2 : bitV a (i : Int) = btI a.b i := by
    unfold bitV
    rw [if_pos ⟨h, by omega, by exact_mod_cast hi⟩, Int.toNat_natCast]
  rw [e1, e2]
  unfold btI
  rw [bt_kept _ _ _ (by omega)]
  by_cases hn : i < n
  · rw [if_pos hn, decide_eq_true hn, Bool.true_and]
  · rw [if_neg hn, decide_eq_false hn, Bool.false_and]; rfl
theorem kept_kept (b : B16) {n m : Nat} (h : n ≤ m) : keptB (keptB b m) n = keptB b n := bt_ext fun i hi => by
  rw [bt_kept _ _ _ hi, bt_kept _ _ _ hi, bt_kept _ _ _ hi]
  by_cases h1 : i < n
  · rw [decide_eq_true (show i < m by omega), Bool.true_and]
  · rw [decide_eq_false h1, Bool.false_and, Bool.false_and]
theorem of_holds {a : Ad} {n m : Int} (h : okA a) (h0 : 0 ≤ n) (h1 : n ≤ (wid a.v : Int)) (h2 : 0 ≤ m) (h3 : m ≤ (wid a.v : Int)) :
    decide (holdsM ⟨⟨a.v, keptB a.b n.toNat⟩, n⟩ ⟨⟨a.v, keptB a.b m.toNat⟩, m⟩) = decide (n ≤ m) := by
  rw [decide_eq_decide]
  constructor
  · exact fun k => k.2.1
  · intro k
    exact ⟨of_okP h h2 h3, k, of_okP h h0 h1, kept_okA h _, rfl, (kept_kept _ (by omega)).symm⟩

set_option maxRecDepth 100000 in
set_option maxHeartbeats 1600000 in
theorem prefof_walk (a : Ad) (_fa : (Lit.int .i64 a.v).wf = true) (n : Int) (_fi : (Lit.int .i64 n).wf = true) (m : Int) (_fj : (Lit.int .i64 m).wf = true) (w : World) (hW : Wid w) :
    Calls Tryd.prog 9 #[.agg a.cs, .int .i64 n, .int .i64 m] w fun e w' => e = .returned (.bool true) ∧ Below w.heap.size w w' := by
  clear _fa _fi _fj
  obtain ⟨W1, hW1⟩ : ∃ W1, w.alloc (.cells a.cs 24) = W1 := ⟨_, rfl⟩
  have hb1 : Below w.heap.size w W1 := by rw [← hW1]; exact ((Below.refl w.heap.size w).alloc (Nat.le_refl _) _)
  have b1 : Blk W1 (w.heap.size) 24 a.cs := by
    have h9 := Blk.new w 24 a.cs
    rw [← hW1]; exact h9
  have LAa := ad_a b1
  have LBa := ad_b b1
  have LVa := ad_v b1
  have HW : ∀ w', Below W1.heap.size W1 w' → Wid w' := fun w' h => (hW.later hb1).later h
  have HWK := fun w' h => wakes_any w' (HW w' h)
  have h0 : Below W1.heap.size W1 W1 := Below.refl _ _
  have HB := Lib.hid hb1
  clear hb1 b1
  have HCA := fun w' h => checkaddr_any a w' (HW w' h)
  have HWD := fun w' h => width_b a.v w' (HW w' h)
  have HO := fun w' h => of_any a n w' (HW w' h)
  by_cases hin : okA a ∧ 0 ≤ n ∧ n ≤ (wid a.v : Int)
  · obtain ⟨hA, h0n, h1n⟩ := hin
    have hwl := wid_le a.v
    obtain ⟨p, hp⟩ : ∃ p, p = (⟨⟨a.v, keptB a.b n.toNat⟩, n⟩ : Px) := ⟨_, rfl⟩
    rw [(of_okA hA h0n h1n).1, (of_okA hA h0n h1n).2, ← hp] at HO
    have F1 : eP p = 0 := eP_ok (by rw [hp]; exact of_okP hA h0n h1n)
    have F2 : p.n = n := by rw [hp]
    have F3 : decide (hasM p a) = true := decide_eq_true (by rw [hp]; exact of_has hA h0n h1n)
    have F4 : ∀ i : Nat, i < wid a.v → bitV p.a (i : Int) = if (i : Int) < n then bitV a (i : Int) else 0 := fun i hi => by
      rw [hp, of_bit hA _ _ hi]
      by_cases h : (i : Int) < n
      · rw [if_pos h, if_pos (by omega)]
      · rw [if_neg h, if_neg (by omega)]
    have F5 : (ofE a m = 0 ∧ decide (holdsM p (ofP a m)) = decide (n ≤ m)) ∨ ofE a m = 2 := by
      by_cases h : 0 ≤ m ∧ m ≤ (wid a.v : Int)
      · left
        rw [(of_okA hA h.1 h.2).1, (of_okA hA h.1 h.2).2, hp]
        exact ⟨rfl, of_holds hA h0n h1n h.1 h.2⟩
      · right
        unfold ofE
        rw [if_pos hA, if_neg h]
    have HW1 := Lib.hid HW
    clear hp h0n h1n HCA
    generalize hz : wid a.v = z at *
    have FF := Lib.hid (And.intro F4 F5)
    clear F4 F5 hz
    go_enter Tryd.func9, Tryd.ntmps9
    go_wp2_with (first | (go_at_call 10; refine (HWK _ (by assumption)).mono ?_; rintro e w2 ⟨rfl, hb2⟩; have hk2 : Below W1.heap.size W1 w2 := bel_trans (by assumption) hb2; clear hb2))
    refine (HO _ (by assumption)).mono ?_
    rintro e w3 ⟨rfl, hb3⟩
    have h3 : Below W1.heap.size W1 w3 := bel_trans (by assumption) hb3
    have Sw4 := st_px (q := p) (Blk.new w3 26 Px.zero.cs)
    rw [World.setRow_alloc_new] at Sw4
    obtain ⟨w4, hww4⟩ : ∃ x, w3.alloc (.cells (p).cs 26) = x := ⟨_, rfl⟩
    rw [hww4] at Sw4
    have bw4 : Blk w4 w3.heap.size 26 (p).cs := by rw [← hww4]; exact Blk.new _ _ _
    have hbw4 : Below w3.heap.size w3 w4 := by rw [← hww4]; exact (Below.refl _ _).alloc (Nat.le_refl _) _
    have h4 : Below W1.heap.size W1 w4 := bel_trans h3 hbw4
    have LP := px_p bw4
    have LPa := px_a bw4
    have LPn := px_n bw4
    rw [F2] at LPn
    have LA4 := fun w' h => LAa w' (bel_trans h4 h)
    have LV4 := fun w' h => LVa w' (bel_trans h4 h)
    have HB4 := Lib.hid (bel_trans HB.out h4)
    have HW4 : ∀ w', Below w4.heap.size w4 w' → Wid w' := fun w' h => HW1.out w' (bel_trans h4 h)
    have HCK := fun w' h => check_any p w' (HW4 w' h)
    rw [F1] at HCK
    have HHS := fun w' h => has_any p a w' (HW4 w' h)
    rw [F3] at HHS
    have HWD4 := fun w' h => HWD w' (bel_trans h4 h)
    have HBI := fun (i : Int) w' h => bit5_any a i w' (HW4 w' h)
    have HBP := fun (i : Int) w' h => bit5_any p.a i w' (HW4 w' h)
    have HO2 := fun w' h => of_any a m w' (HW4 w' h)
    have HHO := fun q w' h => holds_any p q w' (HW4 w' h)
    have h04 : Below w4.heap.size w4 w4 := Below.refl _ _
    have hnn : (n != n) = false := by simp
    have HW5 := Lib.hid HW4
    clear LAa LBa LVa HW HWK HWD HO h3 h4 hb3 hbw4 bw4 hww4 HB hW1 h0 hk2 HW4 HW1 F1 F2 F3 hA
    go_wp2_with (first | (go_at_call 12; refine (HCK _ (by assumption)).mono ?_; rintro e w2 ⟨rfl, hb2⟩; have hk2 : Below w4.heap.size w4 w2 := bel_trans (by assumption) hb2; clear hb2) | (go_at_call 23; refine (HHS _ (by assumption)).mono ?_; rintro e w2 ⟨rfl, hb2⟩; have hk2 : Below w4.heap.size w4 w2 := bel_trans (by assumption) hb2; clear hb2) | (go_at_call 15; refine (HWD4 _ (by assumption)).mono ?_; rintro e w2 ⟨rfl, hb2⟩; have hk2 : Below w4.heap.size w4 w2 := bel_trans (by assumption) hb2; clear hb2) | (with_reducible refine wpList_alloc_z rfl 26 rfl Px.zero.cs 18 z_px ?_) | (refine wp_region_lin (fun w' => Below w4.heap.size w4 w') (by kernel_rfl) (by kernel_rfl) (bel_drew (by assumption)) ?_; (repeat (first | (refine lin_off (by rfl) ?_; (try simp only [Act.put, List.setIfInBounds_toArray, List.set_cons_zero, List.set_cons_succ])) | (refine lin_op (v := ?_) (by rfl) (fun w9 hS9 => ?_) ?_; rotate_left; (focus (((try dsimp only at hS9); go_simp; (try go_bits)) <;> with_reducible rfl)); (try simp only [Act.put, List.setIfInBounds_toArray, List.set_cons_zero, List.set_cons_succ])) | (refine lin_fn (f := 12) (by rfl) rfl rfl (enters_of Tryd.func12 (by kernel_rfl) rfl) (fun w9 hS9 => (HCK w9 hS9).mono (fun e w' h => ⟨h.1, bel_trans hS9 h.2⟩)) ?_ ?_; (focus (simp [Act.eval]; done)); (try simp only [Act.put, List.setIfInBounds_toArray, List.set_cons_zero, List.set_cons_succ])) | (refine lin_fn (f := 23) (by rfl) rfl rfl (enters_of Tryd.func23 (by kernel_rfl) rfl) (fun w9 hS9 => (HHS w9 hS9).mono (fun e w' h => ⟨h.1, bel_trans hS9 h.2⟩)) ?_ ?_; (focus (simp [Act.eval]; done)); (try simp only [Act.put, List.setIfInBounds_toArray, List.set_cons_zero, List.set_cons_succ])) | (refine lin_fn (f := 15) (by rfl) rfl rfl (enters_of Tryd.func15 (by kernel_rfl) rfl) (fun w9 hS9 => (HWD4 w9 hS9).mono (fun e w' h => ⟨h.1, bel_trans hS9 h.2⟩)) ?_ ?_; (focus (simp [Act.eval]; done)); (try simp only [Act.put, List.setIfInBounds_toArray, List.set_cons_zero, List.set_cons_succ])))); refine lin_nil (fun w8 hS8 => ?_)))
    go_loopw [9, 10, 54] (fun u v i wr => ∃ k : Nat, k ≤ z ∧ i = .int .i64 k ∧ Below w4.heap.size w4 wr) (fun u v i _ => z - (intOf i).toNat)
    case atStart => exact ⟨0, Nat.zero_le _, rfl, by assumption⟩
    case round =>
      obtain ⟨k, hkz, rfl, hkw⟩ := hrel
      by_cases hlt : k < z
      · have hbi := HBI k
        have hbp := HBP k
        have e := FF.out.1 k hlt
        have d4 : decide ((k : Int) < (z : Int)) = true := by simpa using hlt
        clear HO2 HHO HCK HHS HWD4 HBI HBP
        by_cases hn : (k : Int) < n
        · rw [if_pos hn] at e
          rw [e] at hbp
          have d5 : decide ((k : Int) < n) = true := decide_eq_true hn
          have hne : (bitV a k != bitV a k) = false := by simp
          generalize bitV a k = y at *
          clear e
          go_wp2_with (first | (go_at_call 19; with_reducible refine (hbp _ (by assumption)).mono ?_; rintro e w2 ⟨rfl, hb2⟩; have hk2 : Below w4.heap.size w4 w2 := bel_trans (by assumption) hb2; clear hb2) | (go_at_call 19; with_reducible refine (hbi _ (by assumption)).mono ?_; rintro e w2 ⟨rfl, hb2⟩; have hk2 : Below w4.heap.size w4 w2 := bel_trans (by assumption) hb2; clear hb2)  | (refine wp_region_lin (fun w' => Below w4.heap.size w4 w') (by kernel_rfl) (by kernel_rfl) (bel_drew (by assumption)) ?_; (repeat (first | (refine lin_off (by rfl) ?_; (try simp only [Act.put, List.setIfInBounds_toArray, List.set_cons_zero, List.set_cons_succ])) | (refine lin_op (v := ?_) (by rfl) (fun w9 hS9 => ?_) ?_; rotate_left; (focus (((try dsimp only at hS9); go_simp; (try go_bits)) <;> with_reducible rfl)); (try simp only [Act.put, List.setIfInBounds_toArray, List.set_cons_zero, List.set_cons_succ])) | (refine lin_fn (f := 19) (by rfl) rfl rfl (enters_of Tryd.func19 (by kernel_rfl) rfl) (fun w9 hS9 => (hbp w9 hS9).mono (fun e w' h => ⟨h.1, bel_trans hS9 h.2⟩)) ?_ ?_; (focus (simp [Act.eval]; done)); (try simp only [Act.put, List.setIfInBounds_toArray, List.set_cons_zero, List.set_cons_succ])) | (refine lin_fn (f := 19) (by rfl) rfl rfl (enters_of Tryd.func19 (by kernel_rfl) rfl) (fun w9 hS9 => (hbi w9 hS9).mono (fun e w' h => ⟨h.1, bel_trans hS9 h.2⟩)) ?_ ?_; (focus (simp [Act.eval]; done)); (try simp only [Act.put, List.setIfInBounds_toArray, List.set_cons_zero, List.set_cons_succ])))); refine lin_nil (fun w8 hS8 => ?_)))
          all_goals go_roundw
          case rel => exact ⟨k + 1, by omega, by go_num, by assumption⟩
          case measure => simp [intOf]; omega
        · rw [if_neg hn] at e
          rw [e] at hbp
          have d5 : decide ((k : Int) < n) = false := decide_eq_false hn
          clear e
          go_wp2_with (first | (go_at_call 19; refine (hbp _ (by assumption)).mono ?_; rintro e w2 ⟨rfl, hb2⟩; have hk2 : Below w4.heap.size w4 w2 := bel_trans (by assumption) hb2; clear hb2)  | (refine wp_region_lin (fun w' => Below w4.heap.size w4 w') (by kernel_rfl) (by kernel_rfl) (bel_drew (by assumption)) ?_; (repeat (first | (refine lin_off (by rfl) ?_; (try simp only [Act.put, List.setIfInBounds_toArray, List.set_cons_zero, List.set_cons_succ])) | (refine lin_op (v := ?_) (by rfl) (fun w9 hS9 => ?_) ?_; rotate_left; (focus (((try dsimp only at hS9); go_simp; (try go_bits)) <;> with_reducible rfl)); (try simp only [Act.put, List.setIfInBounds_toArray, List.set_cons_zero, List.set_cons_succ])) | (refine lin_fn (f := 19) (by rfl) rfl rfl (enters_of Tryd.func19 (by kernel_rfl) rfl) (fun w9 hS9 => (hbp w9 hS9).mono (fun e w' h => ⟨h.1, bel_trans hS9 h.2⟩)) ?_ ?_; (focus (simp [Act.eval]; done)); (try simp only [Act.put, List.setIfInBounds_toArray, List.set_cons_zero, List.set_cons_succ])))); refine lin_nil (fun w8 hS8 => ?_)))
          all_goals go_roundw
          case rel => exact ⟨k + 1, by omega, by go_num, by assumption⟩
          case measure => simp [intOf]; omega
      · obtain rfl : k = z := by omega
        have d4 : decide ((k : Int) < (k : Int)) = false := by simp
        have F5 := FF.out.2
        clear HHS HCK HBI HBP HWD4 FF
        generalize ofP a m = q at *
        have HHQ := HHO q
        rcases F5 with ⟨e1, e2⟩ | e1
        all_goals
          rw [e1] at HO2
          try rw [e2] at HHQ
          clear e1 HHO
          go_wp2_with fail
          refine (HO2 _ (by assumption)).mono ?_
          rintro e w5 ⟨rfl, hb5⟩
          have h5 : Below w4.heap.size w4 w5 := bel_trans (by assumption) hb5
          have Sw6 := st_px (q := q) (Blk.new w5 26 Px.zero.cs)
          rw [World.setRow_alloc_new] at Sw6
          obtain ⟨w6, hww6⟩ : ∃ x, w5.alloc (.cells (q).cs 26) = x := ⟨_, rfl⟩
          rw [hww6] at Sw6
          have bw6 : Blk w6 w5.heap.size 26 (q).cs := by rw [← hww6]; exact Blk.new _ _ _
          have hbw6 : Below w5.heap.size w5 w6 := by rw [← hww6]; exact (Below.refl _ _).alloc (Nat.le_refl _) _
          have h6 : Below w4.heap.size w4 w6 := bel_trans h5 hbw6
          have LP6 := fun w' h => LP w' (bel_trans h6 h)
          have LQ := px_p bw6
          have HH6 := fun w' h => HHQ w' (bel_trans h6 h)
          have HB6 := Lib.hid (bel_trans HB4.out h6)
          have h06 : Below w6.heap.size w6 w6 := Below.refl _ _
          have hmm : (decide (n ≤ m) == decide (n ≤ m)) = true := by simp
          clear LP LPa LPn LA4 LV4 HO2 HHQ hb5 h5 hbw6 bw6 hww6 h6 h04
          go_wp2_with (first | (with_reducible refine wpList_alloc_z rfl 26 rfl Px.zero.cs 18 z_px ?_))
          first
          | (refine (HH6 _ h06).mono ?_; rintro e w7 ⟨rfl, hb7⟩; go_wp2_with fail; go_ret; exact ⟨rfl, bel_trans HB6.out hb7⟩)
          | (go_ret; exact ⟨rfl, HB6.out⟩)
  · have hP : ofP a n = Px.zero := by unfold ofP; exact if_neg hin
    rw [hP] at HO
    have hcase : (ofE a n = 150 ∧ eA a = 150) ∨ (ofE a n = 2 ∧ eA a = 0 ∧ ((decide (n < 0) = true) ∨ (decide (n < 0) = false ∧ decide ((wid a.v : Int) < n) = true))) := by
      by_cases h : okA a
      · right
        unfold ofE
        have h9 : ¬ (0 ≤ n ∧ n ≤ (wid a.v : Int)) := fun h8 => hin ⟨h, h8⟩
        refine ⟨by rw [if_pos h, if_neg h9], eA_ok h, ?_⟩
        by_cases h7 : n < 0
        · exact .inl (decide_eq_true h7)
        · exact .inr ⟨decide_eq_false h7, decide_eq_true (by omega)⟩
      · left
        unfold ofE
        exact ⟨if_neg h, eA_no h⟩
    clear hin hP
    generalize ofE a n = xe at *
    generalize eA a = xa at *
    generalize wid a.v = z at *
    rcases hcase with ⟨rfl, rfl⟩ | ⟨rfl, rfl, d1 | ⟨d1, d2⟩⟩
    all_goals
      go_enter Tryd.func9, Tryd.ntmps9
      go_wp2_with (first | (go_at_call 10; refine (HWK _ (by assumption)).mono ?_; rintro e w2 ⟨rfl, hb2⟩; have hk2 : Below W1.heap.size W1 w2 := bel_trans (by assumption) hb2; clear hb2))
      refine (HO _ (by assumption)).mono ?_
      rintro e w3 ⟨rfl, hb3⟩
      have h3 : Below W1.heap.size W1 w3 := bel_trans (by assumption) hb3
      have Sw4 := st_px (q := Px.zero) (Blk.new w3 26 Px.zero.cs)
      rw [World.setRow_alloc_new] at Sw4
      obtain ⟨w4, hww4⟩ : ∃ x, w3.alloc (.cells (Px.zero).cs 26) = x := ⟨_, rfl⟩
      rw [hww4] at Sw4
      have bw4 : Blk w4 w3.heap.size 26 (Px.zero).cs := by rw [← hww4]; exact Blk.new _ _ _
      have hbw4 : Below w3.heap.size w3 w4 := by rw [← hww4]; exact (Below.refl _ _).alloc (Nat.le_refl _) _
      have h4 : Below W1.heap.size W1 w4 := bel_trans h3 hbw4
      clear hb3
      go_wp2_with (first | (go_at_call 11; refine (HCA _ (by assumption)).mono ?_; rintro e w2 ⟨rfl, hb2⟩; have hk2 : Below W1.heap.size W1 w2 := bel_trans (by assumption) hb2; clear hb2) | (go_at_call 15; refine (HWD _ (by assumption)).mono ?_; rintro e w2 ⟨rfl, hb2⟩; have hk2 : Below W1.heap.size W1 w2 := bel_trans (by assumption) hb2; clear hb2) | (with_reducible refine wpList_alloc_z rfl 26 rfl Px.zero.cs 18 z_px ?_) | (refine wp_region_lin (fun w' => Below W1.heap.size W1 w') (by kernel_rfl) (by kernel_rfl) (bel_drew (by assumption)) ?_; (repeat (first | (refine lin_off (by rfl) ?_; (try simp only [Act.put, List.setIfInBounds_toArray, List.set_cons_zero, List.set_cons_succ])) | (refine lin_op (v := ?_) (by rfl) (fun w9 hS9 => ?_) ?_; rotate_left; (focus (((try dsimp only at hS9); go_simp; (try go_bits)) <;> with_reducible rfl)); (try simp only [Act.put, List.setIfInBounds_toArray, List.set_cons_zero, List.set_cons_succ])) | (refine lin_fn (f := 11) (by rfl) rfl rfl (enters_of Tryd.func11 (by kernel_rfl) rfl) (fun w9 hS9 => (HCA w9 hS9).mono (fun e w' h => ⟨h.1, bel_trans hS9 h.2⟩)) ?_ ?_; (focus (simp [Act.eval]; done)); (try simp only [Act.put, List.setIfInBounds_toArray, List.set_cons_zero, List.set_cons_succ])) | (refine lin_fn (f := 15) (by rfl) rfl rfl (enters_of Tryd.func15 (by kernel_rfl) rfl) (fun w9 hS9 => (HWD w9 hS9).mono (fun e w' h => ⟨h.1, bel_trans hS9 h.2⟩)) ?_ ?_; (focus (simp [Act.eval]; done)); (try simp only [Act.put, List.setIfInBounds_toArray, List.set_cons_zero, List.set_cons_succ])))); refine lin_nil (fun w8 hS8 => ?_)))
      all_goals go_ret
      all_goals exact ⟨rfl, bel_trans HB.out (by assumption)⟩
end Go.Proofs.YthfgkmhpnjlckaaDoor
