/-
  Candidates and updates are compared: the contracts of Same and SameBatch, the program's and the reference's. Nothing here is a statement of the document.
-/
import Derived.Test.YtkoenconjldojaaShA
import Derived.Lib.Hide
namespace Go.Proofs.Ytkoenconjldojaa
open Go.RowKit Go.Shelf Go.ChangeShapes Go.WideShapes Go.ChangeAt
set_option linter.unusedVariables false
set_option maxRecDepth 100000
theorem equal_bool9 (d : Nat) (x y : Bool) (w : World) : (Op.equalIn (d + 1) 4 (.bool x) (.bool y)).run Try.prog w = .ok (decide (x = y)) w := by
  rw [Op.equalIn]
  have hu := run_underlying (P := Try.prog) Try.underlying4 w
  simp only [Sem.run_bind, hu, Result.andThen_ok]
  cases x <;> cases y <;> rfl
theorem eq_ro_rule (a b : Value) : Op.equalIn 10000 61 a b = eqSem 61 a b := rfl
theorem stood_ro : Try.prog.stoodInHeld 61 = false := by kernel_rfl
theorem ropart_p (r : Ro) (w : World) : (part 59 r.cs 0).run Try.prog w = .ok (.agg r.p.cs) w := by
  have hagg : (isAgg 59).run Try.prog w = .ok true w := by kernel_rfl
  have hn : (sizeOf 59).run Try.prog w = .ok 18 w := by kernel_rfl
  have e : r.cs.extract 0 (0 + 18) = r.p.cs := by
    apply Array.ext_getElem?
    intro j
    rw [Array.getElem?_extract, r.size]
    by_cases hj : j < 18
    · rw [if_pos (by omega), Nat.zero_add, r.cp j hj]
    · rw [if_neg (by omega), Array.getElem?_eq_none (by rw [Px.size]; omega)]
  unfold part
  simp only [Sem.run_bind, hagg, hn, Result.andThen_ok, if_true, r.size, e]
  first | rfl | (simp; rfl) | simp
theorem ropart_s (r : Ro) (w : World) : (part 3 r.cs 18).run Try.prog w = .ok (.int .i64 r.s) w := by
  have hagg : (isAgg 3).run Try.prog w = .ok false w := by kernel_rfl
  unfold part
  simp only [Sem.run_bind, hagg, Result.andThen_ok, r.qs]
  rfl
theorem ropart_f (r : Ro) (w : World) : (part 3 r.cs 19).run Try.prog w = .ok (.int .i64 r.f) w := by
  have hagg : (isAgg 3).run Try.prog w = .ok false w := by kernel_rfl
  unfold part
  simp only [Sem.run_bind, hagg, Result.andThen_ok, r.qf]
  rfl
theorem ropart_h (r : Ro) (w : World) : (part 3 r.cs 20).run Try.prog w = .ok (.int .i64 r.h) w := by
  have hagg : (isAgg 3).run Try.prog w = .ok false w := by kernel_rfl
  unfold part
  simp only [Sem.run_bind, hagg, Result.andThen_ok, r.qh]
  rfl
set_option maxHeartbeats 1600000 in
theorem equal_ro (d : Nat) (p q : Ro) (w : World) : (Op.equalIn (d + 5) 61 (.agg p.cs) (.agg q.cs)).run Try.prog w = .ok (decide (p = q)) w := by
  rw [show d + 5 = (d + 4) + 1 from rfl, Op.equalIn]
  have hu := run_underlying (P := Try.prog) Try.underlying61 w
  have h2 := fun x y => equal_int (d + 3) x y w
  have h3 := fun x y => equal_px d x y w
  have h4 := fun x y => equal_bool9 (d + 3) x y w
  simp only [Sem.run_bind, hu, Result.andThen_ok, run_prog, stood_ro]
  simp only [Bool.false_eq_true, if_false, List.forIn_toArray, List.forIn_cons, List.forIn_nil, Sem.run_bind, Sem.run_pure, Result.andThen_ok]
  simp only [show ("Prefix" ≠ "_") = True from by simp, show ("Source" ≠ "_") = True from by simp, show ("Pref" ≠ "_") = True from by simp, show ("Hop" ≠ "_") = True from by simp, if_true, Sem.run_bind, Result.andThen_ok, ropart_p, ropart_s, ropart_f, ropart_h, h2, h3, h4]
  by_cases c0 : p.p = q.p
  · have hd0 : (!decide (p.p = q.p)) = false := by simp [c0]
    simp only [hd0, Bool.false_eq_true, if_false, Sem.run_pure, Sem.run_bind, Result.andThen_ok, ropart_p, ropart_s, ropart_f, ropart_h, h2, h3, h4]
    by_cases c1 : p.s = q.s
    · have hd1 : (!decide (p.s = q.s)) = false := by simp [c1]
      simp only [hd1, Bool.false_eq_true, if_false, Sem.run_pure, Sem.run_bind, Result.andThen_ok, ropart_p, ropart_s, ropart_f, ropart_h, h2, h3, h4]
      by_cases c2 : p.f = q.f
      · have hd2 : (!decide (p.f = q.f)) = false := by simp [c2]
        simp only [hd2, Bool.false_eq_true, if_false, Sem.run_pure, Sem.run_bind, Result.andThen_ok, ropart_p, ropart_s, ropart_f, ropart_h, h2, h3, h4]
        by_cases c3 : p.h = q.h
        · have hd3 : (!decide (p.h = q.h)) = false := by simp [c3]
          simp only [hd3, Bool.false_eq_true, if_false, Sem.run_pure, Sem.run_bind, Result.andThen_ok, ropart_p, ropart_s, ropart_f, ropart_h, h2, h3, h4]
          have he : decide (p = q) = true := decide_eq_true (Ro.same.2 ⟨c0, c1, c2, c3⟩)
          simp only [he, Sem.run_pure, Result.andThen_ok]
        · have hd3 : (!decide (p.h = q.h)) = true := by simp [c3]
          have he : decide (p = q) = false := decide_eq_false (fun h => c3 (Ro.same.1 h).2.2.2)
          simp only [hd3, if_true, Sem.run_pure, Result.andThen_ok, he]
      · have hd2 : (!decide (p.f = q.f)) = true := by simp [c2]
        have he : decide (p = q) = false := decide_eq_false (fun h => c2 (Ro.same.1 h).2.2.1)
        simp only [hd2, if_true, Sem.run_pure, Result.andThen_ok, he]
    · have hd1 : (!decide (p.s = q.s)) = true := by simp [c1]
      have he : decide (p = q) = false := decide_eq_false (fun h => c1 (Ro.same.1 h).2.1)
      simp only [hd1, if_true, Sem.run_pure, Result.andThen_ok, he]
  · have hd0 : (!decide (p.p = q.p)) = true := by simp [c0]
    have he : decide (p = q) = false := decide_eq_false (fun h => c0 (Ro.same.1 h).1)
    simp only [hd0, if_true, Sem.run_pure, Result.andThen_ok, he]
theorem eqRo (a b : Ro) (w : World) : (eqSem 61 (.agg a.cs) (.agg b.cs)).run Try.prog w = .ok (decide (a = b)) w := by
  unfold eqSem
  obtain ⟨d, hd⟩ : ∃ d, d + 5 = 10000 := ⟨9995, rfl⟩
  rw [← hd]
  exact equal_ro d a b w
theorem rosame_all {L M : List Ro} (h : L.length = M.length) (ha : ∀ j, j < L.length → rog L j = rog M j) : L = M := by
  apply List.ext_getElem h
  intro i h1 h2
  have := ha i h1
  rwa [rog_get h1, rog_get h2] at this
theorem eq_up_rule (a b : Value) : Op.equalIn 10000 106 a b = eqSem 106 a b := rfl
theorem stood_up : Try.prog.stoodInHeld 106 = false := by kernel_rfl
theorem uppart_p (r : Up) (w : World) : (part 59 r.cs 0).run Try.prog w = .ok (.agg r.p.cs) w := by
  have hagg : (isAgg 59).run Try.prog w = .ok true w := by kernel_rfl
  have hn : (sizeOf 59).run Try.prog w = .ok 18 w := by kernel_rfl
  have e : r.cs.extract 0 (0 + 18) = r.p.cs := by
    apply Array.ext_getElem?
    intro j
    rw [Array.getElem?_extract, r.size]
    by_cases hj : j < 18
    · rw [if_pos (by omega), Nat.zero_add, r.cp j hj]
    · rw [if_neg (by omega), Array.getElem?_eq_none (by rw [Px.size]; omega)]
  unfold part
  simp only [Sem.run_bind, hagg, hn, Result.andThen_ok, if_true, r.size, e]
  first | rfl | (simp; rfl) | simp
theorem uppart_s (r : Up) (w : World) : (part 3 r.cs 18).run Try.prog w = .ok (.int .i64 r.s) w := by
  have hagg : (isAgg 3).run Try.prog w = .ok false w := by kernel_rfl
  unfold part
  simp only [Sem.run_bind, hagg, Result.andThen_ok, r.qs]
  rfl
theorem uppart_g (r : Up) (w : World) : (part 4 r.cs 19).run Try.prog w = .ok (.bool r.g) w := by
  have hagg : (isAgg 4).run Try.prog w = .ok false w := by kernel_rfl
  unfold part
  simp only [Sem.run_bind, hagg, Result.andThen_ok, r.qg]
  rfl
theorem uppart_f (r : Up) (w : World) : (part 3 r.cs 20).run Try.prog w = .ok (.int .i64 r.f) w := by
  have hagg : (isAgg 3).run Try.prog w = .ok false w := by kernel_rfl
  unfold part
  simp only [Sem.run_bind, hagg, Result.andThen_ok, r.qf]
  rfl
theorem uppart_h (r : Up) (w : World) : (part 3 r.cs 21).run Try.prog w = .ok (.int .i64 r.h) w := by
  have hagg : (isAgg 3).run Try.prog w = .ok false w := by kernel_rfl
  unfold part
  simp only [Sem.run_bind, hagg, Result.andThen_ok, r.qh]
  rfl
set_option maxHeartbeats 1600000 in
theorem equal_up (d : Nat) (p q : Up) (w : World) : (Op.equalIn (d + 5) 106 (.agg p.cs) (.agg q.cs)).run Try.prog w = .ok (decide (p = q)) w := by
  rw [show d + 5 = (d + 4) + 1 from rfl, Op.equalIn]
  have hu := run_underlying (P := Try.prog) Try.underlying106 w
  have h2 := fun x y => equal_int (d + 3) x y w
  have h3 := fun x y => equal_px d x y w
  have h4 := fun x y => equal_bool9 (d + 3) x y w
  simp only [Sem.run_bind, hu, Result.andThen_ok, run_prog, stood_up]
  simp only [Bool.false_eq_true, if_false, List.forIn_toArray, List.forIn_cons, List.forIn_nil, Sem.run_bind, Sem.run_pure, Result.andThen_ok]
  simp only [show ("Prefix" ≠ "_") = True from by simp, show ("Source" ≠ "_") = True from by simp, show ("Gone" ≠ "_") = True from by simp, show ("Pref" ≠ "_") = True from by simp, show ("Hop" ≠ "_") = True from by simp, if_true, Sem.run_bind, Result.andThen_ok, uppart_p, uppart_s, uppart_g, uppart_f, uppart_h, h2, h3, h4]
  by_cases c0 : p.p = q.p
  · have hd0 : (!decide (p.p = q.p)) = false := by simp [c0]
    simp only [hd0, Bool.false_eq_true, if_false, Sem.run_pure, Sem.run_bind, Result.andThen_ok, uppart_p, uppart_s, uppart_g, uppart_f, uppart_h, h2, h3, h4]
    by_cases c1 : p.s = q.s
    · have hd1 : (!decide (p.s = q.s)) = false := by simp [c1]
      simp only [hd1, Bool.false_eq_true, if_false, Sem.run_pure, Sem.run_bind, Result.andThen_ok, uppart_p, uppart_s, uppart_g, uppart_f, uppart_h, h2, h3, h4]
      by_cases c2 : p.g = q.g
      · have hd2 : (!decide (p.g = q.g)) = false := by simp [c2]
        simp only [hd2, Bool.false_eq_true, if_false, Sem.run_pure, Sem.run_bind, Result.andThen_ok, uppart_p, uppart_s, uppart_g, uppart_f, uppart_h, h2, h3, h4]
        by_cases c3 : p.f = q.f
        · have hd3 : (!decide (p.f = q.f)) = false := by simp [c3]
          simp only [hd3, Bool.false_eq_true, if_false, Sem.run_pure, Sem.run_bind, Result.andThen_ok, uppart_p, uppart_s, uppart_g, uppart_f, uppart_h, h2, h3, h4]
          by_cases c4 : p.h = q.h
          · have hd4 : (!decide (p.h = q.h)) = false := by simp [c4]
            simp only [hd4, Bool.false_eq_true, if_false, Sem.run_pure, Sem.run_bind, Result.andThen_ok, uppart_p, uppart_s, uppart_g, uppart_f, uppart_h, h2, h3, h4]
            have he : decide (p = q) = true := decide_eq_true (Up.same.2 ⟨c0, c1, c2, c3, c4⟩)
            simp only [he, Sem.run_pure, Result.andThen_ok]
          · have hd4 : (!decide (p.h = q.h)) = true := by simp [c4]
            have he : decide (p = q) = false := decide_eq_false (fun h => c4 (Up.same.1 h).2.2.2.2)
            simp only [hd4, if_true, Sem.run_pure, Result.andThen_ok, he]
        · have hd3 : (!decide (p.f = q.f)) = true := by simp [c3]
          have he : decide (p = q) = false := decide_eq_false (fun h => c3 (Up.same.1 h).2.2.2.1)
          simp only [hd3, if_true, Sem.run_pure, Result.andThen_ok, he]
      · have hd2 : (!decide (p.g = q.g)) = true := by simp [c2]
        have he : decide (p = q) = false := decide_eq_false (fun h => c2 (Up.same.1 h).2.2.1)
        simp only [hd2, if_true, Sem.run_pure, Result.andThen_ok, he]
    · have hd1 : (!decide (p.s = q.s)) = true := by simp [c1]
      have he : decide (p = q) = false := decide_eq_false (fun h => c1 (Up.same.1 h).2.1)
      simp only [hd1, if_true, Sem.run_pure, Result.andThen_ok, he]
  · have hd0 : (!decide (p.p = q.p)) = true := by simp [c0]
    have he : decide (p = q) = false := decide_eq_false (fun h => c0 (Up.same.1 h).1)
    simp only [hd0, if_true, Sem.run_pure, Result.andThen_ok, he]
theorem eqUp (a b : Up) (w : World) : (eqSem 106 (.agg a.cs) (.agg b.cs)).run Try.prog w = .ok (decide (a = b)) w := by
  unfold eqSem
  obtain ⟨d, hd⟩ : ∃ d, d + 5 = 10000 := ⟨9995, rfl⟩
  rw [← hd]
  exact equal_up d a b w
theorem upsame_all {L M : List Up} (h : L.length = M.length) (ha : ∀ j, j < L.length → upg L j = upg M j) : L = M := by
  apply List.ext_getElem h
  intro i h1 h2
  have := ha i h1
  rwa [upg_get h1, upg_get h2] at this
theorem rib_c9 {W : World} {g : Nat} {a : Option Addr} {n c : Nat} (h : Blk W g 27 #[.slice a n c]) : ∀ w', Below W.heap.size W w' → w'.cell? ⟨g, 0, none⟩ = some (.slice a n c) := fun w' k => (h.later k).cell 0
theorem batch_c9 {W : World} {g : Nat} {a : Option Addr} {n c : Nat} (h : Blk W g 45 #[.slice a n c]) : ∀ w', Below W.heap.size W w' → w'.cell? ⟨g, 0, none⟩ = some (.slice a n c) := fun w' k => (h.later k).cell 0
attribute [local go_sem ↓] load_b16_rule store_b16_rule load_ad_rule store_ad_rule load_px_rule store_px_rule eq_b16_rule eq_ad_rule eq_px_rule load_ro_rule store_ro_rule load_up_rule store_up_rule eq_ro_rule eq_up_rule
set_option maxHeartbeats 4000000 in
theorem rorsame_any (a a2 : Option Addr) (n c n2 c2 : Nat) (L M : List Ro) (w : World) (hn : L.length = n) (hm : n ≤ 9223372036854775807) (hR : RoAt w a L) (hn2 : M.length = n2) (hm2 : n2 ≤ 9223372036854775807) (hR2 : RoAt w a2 M) :
    Calls Try.prog 55 #[.agg #[.slice a n c], .agg #[.slice a2 n2 c2]] w fun e w' => e = .returned (.bool (decide (L = M))) ∧ Below w.heap.size w w' := by
  obtain ⟨W1, hW1⟩ : ∃ W1, (w.alloc (.cells #[.slice a n c] 27)).alloc (.cells #[.slice a2 n2 c2] 27) = W1 := ⟨_, rfl⟩
  have hb1 : Below w.heap.size w W1 := by rw [← hW1]; exact (((Below.refl w.heap.size w).alloc (Nat.le_refl _) _).alloc (by simp) _)
  have b1 : Blk W1 w.heap.size 27 #[.slice a n c] := by
    have h9 := (Blk.new w 27 #[.slice a n c]).alloc (.cells #[.slice a2 n2 c2] 27)
    rwa [hW1] at h9
  have b2 : Blk W1 (w.heap.size + 1) 27 #[.slice a2 n2 c2] := by
    have h9 := Blk.new (w.alloc (.cells #[.slice a n c] 27)) 27 #[.slice a2 n2 c2]
    rwa [World.size_alloc, hW1] at h9
  have CT := rib_c9 b1
  have CU := rib_c9 b2
  have HR : ∀ w', Below W1.heap.size W1 w' → RoAt w' a L := fun w' h => (hR.later hb1).later h
  have HR2 : ∀ w', Below W1.heap.size W1 w' → RoAt w' a2 M := fun w' h => (hR2.later hb1).later h
  have h0 : Below W1.heap.size W1 W1 := Below.refl _ _
  have CT0 := CT W1 h0
  have CU0 := CU W1 h0
  have HB := Lib.hid hb1
  clear hR hR2 b1 b2 hb1
  by_cases hnn : n = n2
  · subst hnn
    have dn : ((n : Int) != (n : Int)) = false := by simp
    go_enter Try.func55, Try.ntmps55
    go_wp2_with fail
    go_loopw [5] (fun i wr => ∃ k : Nat, k ≤ n ∧ i = .int .i64 k ∧ (∀ j, j < k → rog L j = rog M j) ∧ Below W1.heap.size W1 wr) (fun i _ => n - (intOf i).toNat)
    case atStart => exact ⟨0, Nat.zero_le _, rfl, fun j hj => by omega, h0⟩
    case round =>
      obtain ⟨k, hk, rfl, hok, hkb⟩ := hrel
      have CTr := CT wr hkb
      by_cases hlt : k < n
      · have hkl : k < L.length := by omega
        have hkl2 : k < M.length := by omega
        obtain ⟨g, o, rfl, hrow⟩ := (HR wr hkb).spot hkl
        obtain ⟨g2, o2, rfl, hrow2⟩ := (HR2 wr hkb).spot hkl2
        have h02 : Below wr.heap.size wr wr := Below.refl _ _
        have CT2 : ∀ w', Below wr.heap.size wr w' → w'.cell? ⟨w.heap.size, 0, none⟩ = some (.slice (some ⟨g, o, none⟩) n c) := fun w' h => CT w' (bel_trans hkb h)
        have CU2 : ∀ w', Below wr.heap.size wr w' → w'.cell? ⟨w.heap.size + 1, 0, none⟩ = some (.slice (some ⟨g2, o2, none⟩) n c2) := fun w' h => CU w' (bel_trans hkb h)
        have LR2 : ∀ w', Below wr.heap.size wr w' → (loadSem 61 (.pointer (some ⟨g, o + k * 21, none⟩))).run Try.prog w' = .ok (.agg (rog L k).cs) w' := fun w' h => (hrow.later h).load hkl
        have LS2 : ∀ w', Below wr.heap.size wr w' → (loadSem 61 (.pointer (some ⟨g2, o2 + k * 21, none⟩))).run Try.prog w' = .ok (.agg (rog M k).cs) w' := fun w' h => (hrow2.later h).load hkl2
        have EQ := eqRo (rog L k) (rog M k)
        have HK := Lib.hid (And.intro hok hkb)
        by_cases he : rog L k = rog M k
        · rw [decide_eq_true he] at EQ
          have HE := Lib.hid he
          clear hok hkb he CT CU HR HR2 hrow hrow2 CTr
          go_wp2_with (first  | (refine wp_region_lin (fun w' => Below wr.heap.size wr w') (by kernel_rfl) (by kernel_rfl) (bel_drew (by assumption)) ?_; (repeat (first | (refine lin_off (by rfl) ?_; (try simp only [Act.put, List.setIfInBounds_toArray, List.set_cons_zero, List.set_cons_succ])) | (refine lin_op (v := ?_) (by rfl) (fun w9 hS9 => ?_) ?_; rotate_left; (focus (((try dsimp only at hS9); go_simp; (try go_bits)) <;> with_reducible rfl)); (try simp only [Act.put, List.setIfInBounds_toArray, List.set_cons_zero, List.set_cons_succ])) )); refine lin_nil (fun w8 hS8 => ?_)))
          go_roundw
          case rel => exact ⟨k + 1, by omega, by go_num, fun j hj => by
            by_cases e : j = k
            · rw [e]; exact HE.out
            · exact HK.out.1 j (by omega), bel_trans HK.out.2 (by assumption)⟩
          case measure => simp [intOf]; omega
        · rw [decide_eq_false he] at EQ
          have HE := Lib.hid (decide_eq_false (fun h : L = M => he (by rw [h])))
          clear hok hkb he CT CU HR HR2 hrow hrow2 CTr
          go_wp2_with (first  | (refine wp_region_lin (fun w' => Below wr.heap.size wr w') (by kernel_rfl) (by kernel_rfl) (bel_drew (by assumption)) ?_; (repeat (first | (refine lin_off (by rfl) ?_; (try simp only [Act.put, List.setIfInBounds_toArray, List.set_cons_zero, List.set_cons_succ])) | (refine lin_op (v := ?_) (by rfl) (fun w9 hS9 => ?_) ?_; rotate_left; (focus (((try dsimp only at hS9); go_simp; (try go_bits)) <;> with_reducible rfl)); (try simp only [Act.put, List.setIfInBounds_toArray, List.set_cons_zero, List.set_cons_succ])) )); refine lin_nil (fun w8 hS8 => ?_)))
          all_goals go_ret
          all_goals exact ⟨by rw [HE.out]; rfl, bel_trans HB.out (bel_trans HK.out.2 (by assumption))⟩
      · obtain rfl : n = k := by omega
        have HE := Lib.hid (decide_eq_true (rosame_all (hn.trans hn2.symm) (fun j hj => hok j (by omega))))
        clear hok CT CU HR HR2
        go_wp2
        go_ret
        exact ⟨by rw [HE.out]; rfl, bel_trans HB.out hkb⟩
  · have dn : ((n : Int) != (n2 : Int)) = true := by simp; omega
    have HE := Lib.hid (decide_eq_false (fun h : L = M => hnn (by rw [← hn, ← hn2, h])))
    clear hnn HR HR2 CT CU
    go_enter Try.func55, Try.ntmps55
    go_wp2
    go_ret
    exact ⟨by rw [HE.out]; rfl, HB.out⟩

set_option maxHeartbeats 4000000 in
theorem upequal_any (a a2 : Option Addr) (n c n2 c2 : Nat) (L M : List Up) (w : World) (hn : L.length = n) (hm : n ≤ 9223372036854775807) (hR : UpAt w a L) (hn2 : M.length = n2) (hm2 : n2 ≤ 9223372036854775807) (hR2 : UpAt w a2 M) :
    Calls Try.prog 61 #[.slice a n c, .slice a2 n2 c2] w fun e w' => e = .returned (.bool (decide (L = M))) ∧ Below w.heap.size w w' := by
  have HR : ∀ w', Below w.heap.size w w' → UpAt w' a L := fun w' h => hR.later h
  have HR2 : ∀ w', Below w.heap.size w w' → UpAt w' a2 M := fun w' h => hR2.later h
  have h0 : Below w.heap.size w w := Below.refl _ _
  clear hR hR2
  by_cases hnn : n = n2
  · subst hnn
    have dn : ((n : Int) != (n : Int)) = false := by simp
    go_enter Try.func61, Try.ntmps61
    go_wp2_with fail
    go_loopw [5, 13] (fun _ i wr => ∃ k : Nat, k ≤ n ∧ i = .int .i64 k ∧ (∀ j, j < k → upg L j = upg M j) ∧ Below w.heap.size w wr) (fun _ i _ => n - (intOf i).toNat)
    case atStart => exact ⟨0, Nat.zero_le _, rfl, fun j hj => by omega, h0⟩
    case round =>
      obtain ⟨k, hk, rfl, hok, hkb⟩ := hrel
      by_cases hlt : k < n
      · have hkl : k < L.length := by omega
        have hkl2 : k < M.length := by omega
        obtain ⟨g, o, rfl, hrow⟩ := (HR wr hkb).spot hkl
        obtain ⟨g2, o2, rfl, hrow2⟩ := (HR2 wr hkb).spot hkl2
        have h02 : Below wr.heap.size wr wr := Below.refl _ _
        have LR2 : ∀ w', Below wr.heap.size wr w' → (loadSem 106 (.pointer (some ⟨g, o + k * 22, none⟩))).run Try.prog w' = .ok (.agg (upg L k).cs) w' := fun w' h => (hrow.later h).load hkl
        have LS2 : ∀ w', Below wr.heap.size wr w' → (loadSem 106 (.pointer (some ⟨g2, o2 + k * 22, none⟩))).run Try.prog w' = .ok (.agg (upg M k).cs) w' := fun w' h => (hrow2.later h).load hkl2
        have EQ := eqUp (upg L k) (upg M k)
        have HK := Lib.hid (And.intro hok hkb)
        by_cases he : upg L k = upg M k
        · rw [decide_eq_true he] at EQ
          have HE := Lib.hid he
          clear hok hkb he HR HR2 hrow hrow2
          go_wp2_with (first  | (refine wp_region_lin (fun w' => Below wr.heap.size wr w') (by kernel_rfl) (by kernel_rfl) (bel_drew (by assumption)) ?_; (repeat (first | (refine lin_off (by rfl) ?_; (try simp only [Act.put, List.setIfInBounds_toArray, List.set_cons_zero, List.set_cons_succ])) | (refine lin_op (v := ?_) (by rfl) (fun w9 hS9 => ?_) ?_; rotate_left; (focus (((try dsimp only at hS9); go_simp; (try go_bits)) <;> with_reducible rfl)); (try simp only [Act.put, List.setIfInBounds_toArray, List.set_cons_zero, List.set_cons_succ])) )); refine lin_nil (fun w8 hS8 => ?_)))
          go_roundw
          case rel => exact ⟨k + 1, by omega, by go_num, fun j hj => by
            by_cases e : j = k
            · rw [e]; exact HE.out
            · exact HK.out.1 j (by omega), bel_trans HK.out.2 (by assumption)⟩
          case measure => simp [intOf]; omega
        · rw [decide_eq_false he] at EQ
          have HE := Lib.hid (decide_eq_false (fun h : L = M => he (by rw [h])))
          clear hok hkb he HR HR2 hrow hrow2
          go_wp2_with (first  | (refine wp_region_lin (fun w' => Below wr.heap.size wr w') (by kernel_rfl) (by kernel_rfl) (bel_drew (by assumption)) ?_; (repeat (first | (refine lin_off (by rfl) ?_; (try simp only [Act.put, List.setIfInBounds_toArray, List.set_cons_zero, List.set_cons_succ])) | (refine lin_op (v := ?_) (by rfl) (fun w9 hS9 => ?_) ?_; rotate_left; (focus (((try dsimp only at hS9); go_simp; (try go_bits)) <;> with_reducible rfl)); (try simp only [Act.put, List.setIfInBounds_toArray, List.set_cons_zero, List.set_cons_succ])) )); refine lin_nil (fun w8 hS8 => ?_)))
          all_goals go_ret
          all_goals exact ⟨by rw [HE.out]; rfl, bel_trans HK.out.2 (by assumption)⟩
      · obtain rfl : n = k := by omega
        have HE := Lib.hid (decide_eq_true (upsame_all (hn.trans hn2.symm) (fun j hj => hok j (by omega))))
        clear hok HR HR2
        go_wp2
        go_ret
        exact ⟨by rw [HE.out]; rfl, hkb⟩
  · have dn : ((n : Int) != (n2 : Int)) = true := by simp; omega
    have HE := Lib.hid (decide_eq_false (fun h : L = M => hnn (by rw [← hn, ← hn2, h])))
    clear hnn HR HR2
    go_enter Try.func61, Try.ntmps61
    go_wp2
    go_ret
    exact ⟨by rw [HE.out]; rfl, h0⟩
set_option maxHeartbeats 4000000 in
theorem upsame_any (a a2 : Option Addr) (n c n2 c2 : Nat) (L M : List Up) (w : World) (hn : L.length = n) (hm : n ≤ 9223372036854775807) (hR : UpAt w a L) (hn2 : M.length = n2) (hm2 : n2 ≤ 9223372036854775807) (hR2 : UpAt w a2 M) :
    Calls Try.prog 51 #[.agg #[.slice a n c], .agg #[.slice a2 n2 c2]] w fun e w' => e = .returned (.bool (decide (L = M))) ∧ Below w.heap.size w w' := by
  obtain ⟨W1, hW1⟩ : ∃ W1, (w.alloc (.cells #[.slice a n c] 45)).alloc (.cells #[.slice a2 n2 c2] 45) = W1 := ⟨_, rfl⟩
  have hb1 : Below w.heap.size w W1 := by rw [← hW1]; exact (((Below.refl w.heap.size w).alloc (Nat.le_refl _) _).alloc (by simp) _)
  have b1 : Blk W1 w.heap.size 45 #[.slice a n c] := by
    have h9 := (Blk.new w 45 #[.slice a n c]).alloc (.cells #[.slice a2 n2 c2] 45)
    rwa [hW1] at h9
  have b2 : Blk W1 (w.heap.size + 1) 45 #[.slice a2 n2 c2] := by
    have h9 := Blk.new (w.alloc (.cells #[.slice a n c] 45)) 45 #[.slice a2 n2 c2]
    rwa [World.size_alloc, hW1] at h9
  have CT0 := batch_c9 b1 W1 (Below.refl _ _)
  have CU0 := batch_c9 b2 W1 (Below.refl _ _)
  have HEQ := fun w' (h : Below W1.heap.size W1 w') => upequal_any a a2 n c n2 c2 L M w' hn hm ((hR.later hb1).later h) hn2 hm2 ((hR2.later hb1).later h)
  have h0 : Below W1.heap.size W1 W1 := Below.refl _ _
  have CT := batch_c9 b1
  have CU := batch_c9 b2
  have HB := Lib.hid hb1
  clear hR hR2 b1 b2 hb1
  go_enter Try.func51, Try.ntmps51
  go_wp2_with (first | (go_at_call 61; refine (HEQ _ (by assumption)).mono ?_; rintro e w2 ⟨rfl, hb2⟩; have hk2 : Below W1.heap.size W1 w2 := (by first | exact bel_trans (by assumption) hb2 | (subst hb2; assumption)); clear hb2) | (refine wp_region_lin (fun w' => Below W1.heap.size W1 w') (by kernel_rfl) (by kernel_rfl) (bel_drew (by assumption)) ?_; (repeat (first | (refine lin_off (by rfl) ?_; (try simp only [Act.put, List.setIfInBounds_toArray, List.set_cons_zero, List.set_cons_succ])) | (refine lin_op (v := ?_) (by rfl) (fun w9 hS9 => ?_) ?_; rotate_left; (focus (((try dsimp only at hS9); go_simp; (try go_bits)) <;> with_reducible rfl)); (try simp only [Act.put, List.setIfInBounds_toArray, List.set_cons_zero, List.set_cons_succ])) | (refine lin_fn (f := 61) (by rfl) rfl rfl (enters_of Try.func61 (by kernel_rfl) rfl) (fun w9 hS9 => (HEQ w9 hS9).mono (fun e w' h => ⟨h.1, (by first | exact bel_trans hS9 h.2 | (rw [← h.2]; exact hS9))⟩)) ?_ ?_; (focus (simp [Act.eval]; done)); (try simp only [Act.put, List.setIfInBounds_toArray, List.set_cons_zero, List.set_cons_succ])))); refine lin_nil (fun w8 hS8 => ?_)))
  all_goals go_ret
  all_goals exact ⟨rfl, bel_trans HB.out (by assumption)⟩
set_option maxHeartbeats 4000000 in
theorem uprsame_any (a a2 : Option Addr) (n c n2 c2 : Nat) (L M : List Up) (w : World) (hn : L.length = n) (hm : n ≤ 9223372036854775807) (hR : UpAt w a L) (hn2 : M.length = n2) (hm2 : n2 ≤ 9223372036854775807) (hR2 : UpAt w a2 M) :
    Calls Try.prog 54 #[.agg #[.slice a n c], .agg #[.slice a2 n2 c2]] w fun e w' => e = .returned (.bool (decide (L = M))) ∧ Below w.heap.size w w' := by
  obtain ⟨W1, hW1⟩ : ∃ W1, (w.alloc (.cells #[.slice a n c] 45)).alloc (.cells #[.slice a2 n2 c2] 45) = W1 := ⟨_, rfl⟩
  have hb1 : Below w.heap.size w W1 := by rw [← hW1]; exact (((Below.refl w.heap.size w).alloc (Nat.le_refl _) _).alloc (by simp) _)
  have b1 : Blk W1 w.heap.size 45 #[.slice a n c] := by
    have h9 := (Blk.new w 45 #[.slice a n c]).alloc (.cells #[.slice a2 n2 c2] 45)
    rwa [hW1] at h9
  have b2 : Blk W1 (w.heap.size + 1) 45 #[.slice a2 n2 c2] := by
    have h9 := Blk.new (w.alloc (.cells #[.slice a n c] 45)) 45 #[.slice a2 n2 c2]
    rwa [World.size_alloc, hW1] at h9
  have CT := batch_c9 b1
  have CU := batch_c9 b2
  have HR : ∀ w', Below W1.heap.size W1 w' → UpAt w' a L := fun w' h => (hR.later hb1).later h
  have HR2 : ∀ w', Below W1.heap.size W1 w' → UpAt w' a2 M := fun w' h => (hR2.later hb1).later h
  have h0 : Below W1.heap.size W1 W1 := Below.refl _ _
  have CT0 := CT W1 h0
  have CU0 := CU W1 h0
  have HB := Lib.hid hb1
  clear hR hR2 b1 b2 hb1
  by_cases hnn : n = n2
  · subst hnn
    have dn : ((n : Int) != (n : Int)) = false := by simp
    go_enter Try.func54, Try.ntmps54
    go_wp2_with fail
    go_loopw [5] (fun i wr => ∃ k : Nat, k ≤ n ∧ i = .int .i64 k ∧ (∀ j, j < k → upg L j = upg M j) ∧ Below W1.heap.size W1 wr) (fun i _ => n - (intOf i).toNat)
    case atStart => exact ⟨0, Nat.zero_le _, rfl, fun j hj => by omega, h0⟩
    case round =>
      obtain ⟨k, hk, rfl, hok, hkb⟩ := hrel
      have CTr := CT wr hkb
      by_cases hlt : k < n
      · have hkl : k < L.length := by omega
        have hkl2 : k < M.length := by omega
        obtain ⟨g, o, rfl, hrow⟩ := (HR wr hkb).spot hkl
        obtain ⟨g2, o2, rfl, hrow2⟩ := (HR2 wr hkb).spot hkl2
        have h02 : Below wr.heap.size wr wr := Below.refl _ _
        have CT2 : ∀ w', Below wr.heap.size wr w' → w'.cell? ⟨w.heap.size, 0, none⟩ = some (.slice (some ⟨g, o, none⟩) n c) := fun w' h => CT w' (bel_trans hkb h)
        have CU2 : ∀ w', Below wr.heap.size wr w' → w'.cell? ⟨w.heap.size + 1, 0, none⟩ = some (.slice (some ⟨g2, o2, none⟩) n c2) := fun w' h => CU w' (bel_trans hkb h)
        have LR2 : ∀ w', Below wr.heap.size wr w' → (loadSem 106 (.pointer (some ⟨g, o + k * 22, none⟩))).run Try.prog w' = .ok (.agg (upg L k).cs) w' := fun w' h => (hrow.later h).load hkl
        have LS2 : ∀ w', Below wr.heap.size wr w' → (loadSem 106 (.pointer (some ⟨g2, o2 + k * 22, none⟩))).run Try.prog w' = .ok (.agg (upg M k).cs) w' := fun w' h => (hrow2.later h).load hkl2
        have EQ := eqUp (upg L k) (upg M k)
        have HK := Lib.hid (And.intro hok hkb)
        by_cases he : upg L k = upg M k
        · rw [decide_eq_true he] at EQ
          have HE := Lib.hid he
          clear hok hkb he CT CU HR HR2 hrow hrow2 CTr
          go_wp2_with (first  | (refine wp_region_lin (fun w' => Below wr.heap.size wr w') (by kernel_rfl) (by kernel_rfl) (bel_drew (by assumption)) ?_; (repeat (first | (refine lin_off (by rfl) ?_; (try simp only [Act.put, List.setIfInBounds_toArray, List.set_cons_zero, List.set_cons_succ])) | (refine lin_op (v := ?_) (by rfl) (fun w9 hS9 => ?_) ?_; rotate_left; (focus (((try dsimp only at hS9); go_simp; (try go_bits)) <;> with_reducible rfl)); (try simp only [Act.put, List.setIfInBounds_toArray, List.set_cons_zero, List.set_cons_succ])) )); refine lin_nil (fun w8 hS8 => ?_)))
          go_roundw
          case rel => exact ⟨k + 1, by omega, by go_num, fun j hj => by
            by_cases e : j = k
            · rw [e]; exact HE.out
            · exact HK.out.1 j (by omega), bel_trans HK.out.2 (by assumption)⟩
          case measure => simp [intOf]; omega
        · rw [decide_eq_false he] at EQ
          have HE := Lib.hid (decide_eq_false (fun h : L = M => he (by rw [h])))
          clear hok hkb he CT CU HR HR2 hrow hrow2 CTr
          go_wp2_with (first  | (refine wp_region_lin (fun w' => Below wr.heap.size wr w') (by kernel_rfl) (by kernel_rfl) (bel_drew (by assumption)) ?_; (repeat (first | (refine lin_off (by rfl) ?_; (try simp only [Act.put, List.setIfInBounds_toArray, List.set_cons_zero, List.set_cons_succ])) | (refine lin_op (v := ?_) (by rfl) (fun w9 hS9 => ?_) ?_; rotate_left; (focus (((try dsimp only at hS9); go_simp; (try go_bits)) <;> with_reducible rfl)); (try simp only [Act.put, List.setIfInBounds_toArray, List.set_cons_zero, List.set_cons_succ])) )); refine lin_nil (fun w8 hS8 => ?_)))
          all_goals go_ret
          all_goals exact ⟨by rw [HE.out]; rfl, bel_trans HB.out (bel_trans HK.out.2 (by assumption))⟩
      · obtain rfl : n = k := by omega
        have HE := Lib.hid (decide_eq_true (upsame_all (hn.trans hn2.symm) (fun j hj => hok j (by omega))))
        clear hok CT CU HR HR2
        go_wp2
        go_ret
        exact ⟨by rw [HE.out]; rfl, bel_trans HB.out hkb⟩
  · have dn : ((n : Int) != (n2 : Int)) = true := by simp; omega
    have HE := Lib.hid (decide_eq_false (fun h : L = M => hnn (by rw [← hn, ← hn2, h])))
    clear hnn HR HR2 CT CU
    go_enter Try.func54, Try.ntmps54
    go_wp2
    go_ret
    exact ⟨by rw [HE.out]; rfl, HB.out⟩

end Go.Proofs.Ytkoenconjldojaa
