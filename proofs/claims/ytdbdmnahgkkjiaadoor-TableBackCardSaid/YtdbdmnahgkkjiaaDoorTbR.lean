/-
  The contract of the reference's Put. Nothing here is a statement of the document.
-/
import Derived.Test.YtdbdmnahgkkjiaaDoorTbP
namespace Go.Proofs.YtdbdmnahgkkjiaaDoor
open Go.RowKit Go.Shelf
set_option linter.unusedVariables false
set_option maxRecDepth 100000
attribute [local go_sem ↓] load_b16_rule store_b16_rule load_ad_rule store_ad_rule load_px_rule store_px_rule eq_b16_rule eq_ad_rule eq_px_rule load_rt_rule store_rt_rule build_ad_rule build_px_rule build_b16_rule build_rt_rule load_tab_rule build_tab_rule store_tab_rule tbuild_rule tapp_rule tcopy_rule eq_rt_rule

theorem same_all9 {L M : List Rt} (h : L.length = M.length) (ha : ∀ j, j < L.length → rt L j = rt M j) : L = M := by
  apply List.ext_getElem h
  intro i h1 h2
  have := ha i h1
  rwa [rt_get h1, rt_get h2] at this
set_option maxHeartbeats 4000000 in
theorem rsame_any (a a2 : Option Addr) (n c n2 c2 : Nat) (L M : List Rt) (w : World) (hn : L.length = n) (hm : n ≤ 9223372036854775807) (hR : RowsAt w a L) (hn2 : M.length = n2) (hm2 : n2 ≤ 9223372036854775807) (hR2 : RowsAt w a2 M) :
    Calls Tryd.prog 8 #[.agg #[.slice a n c], .agg #[.slice a2 n2 c2]] w fun e w' => e = .returned (.bool (decide (L = M))) ∧ Below w.heap.size w w' := by
  obtain ⟨W1, hW1⟩ : ∃ W1, (w.alloc (.cells #[.slice a n c] 24)).alloc (.cells #[.slice a2 n2 c2] 24) = W1 := ⟨_, rfl⟩
  have hb1 : Below w.heap.size w W1 := by rw [← hW1]; exact (((Below.refl w.heap.size w).alloc (Nat.le_refl _) _).alloc (by simp) _)
  have b1 : Blk W1 w.heap.size 24 #[.slice a n c] := by
    have h9 := (Blk.new w 24 #[.slice a n c]).alloc (.cells #[.slice a2 n2 c2] 24)
    rwa [hW1] at h9
  have b2 : Blk W1 (w.heap.size + 1) 24 #[.slice a2 n2 c2] := by
    have h9 := Blk.new (w.alloc (.cells #[.slice a n c] 24)) 24 #[.slice a2 n2 c2]
    rwa [World.size_alloc, hW1] at h9
  have CT := tab_c b1
  have CU := tab_c b2
  have HR : ∀ w', Below W1.heap.size W1 w' → RowsAt w' a L := fun w' h => (hR.later hb1).later h
  have HR2 : ∀ w', Below W1.heap.size W1 w' → RowsAt w' a2 M := fun w' h => (hR2.later hb1).later h
  have h0 : Below W1.heap.size W1 W1 := Below.refl _ _
  have CT0 := CT W1 h0
  have CU0 := CU W1 h0
  have HB := Lib.hid hb1
  clear hR hR2 b1 b2 hb1
  by_cases hnn : n = n2
  · subst hnn
    have dn : ((n : Int) != (n : Int)) = false := by simp
    go_enter Tryd.func8, Tryd.ntmps8
    go_wp2_with fail
    go_loopw [5] (fun i wr => ∃ k : Nat, k ≤ n ∧ i = .int .i64 k ∧ (∀ j, j < k → rt L j = rt M j) ∧ Below W1.heap.size W1 wr) (fun i _ => n - (intOf i).toNat)
    case atStart => exact ⟨0, Nat.zero_le _, rfl, fun j hj => by omega, h0⟩
    case round =>
      obtain ⟨k, hk, rfl, hok, hkb⟩ := hrel
      have CTr := CT wr hkb
      by_cases hlt : k < n
      · have hkl : k < L.length := by omega
        have hkl2 : k < M.length := by omega
        obtain ⟨g, o, rfl, hrow⟩ := (HR wr hkb).spot hkl
        obtain ⟨g2, o2, rfl, hrow2⟩ := (HR2 wr hkb).spot hkl2
        have h02 : Below wr.heap.size wr wr := Below.refl _ _
        have CT2 : ∀ w', Below wr.heap.size wr w' → w'.cell? ⟨w.heap.size, 0, none⟩ = some (.slice (some ⟨g, o, none⟩) n c) := fun w' h => CT w' (bel_trans hkb h)
        have CU2 : ∀ w', Below wr.heap.size wr w' → w'.cell? ⟨w.heap.size + 1, 0, none⟩ = some (.slice (some ⟨g2, o2, none⟩) n c2) := fun w' h => CU w' (bel_trans hkb h)
        have LR2 : ∀ w', Below wr.heap.size wr w' → (loadSem 48 (.pointer (some ⟨g, o + k * 19, none⟩))).run Tryd.prog w' = .ok (.agg (rt L k).cs) w' := fun w' h => (hrow.later h).load hkl
        have LS2 : ∀ w', Below wr.heap.size wr w' → (loadSem 48 (.pointer (some ⟨g2, o2 + k * 19, none⟩))).run Tryd.prog w' = .ok (.agg (rt M k).cs) w' := fun w' h => (hrow2.later h).load hkl2
        have EQ := eqR (rt L k) (rt M k)
        have HK := Lib.hid (And.intro hok hkb)
        by_cases he : rt L k = rt M k
        · rw [decide_eq_true he] at EQ
          have HE := Lib.hid he
          clear hok hkb he CT CU HR HR2 hrow hrow2 CTr
          go_wp2_with (first  | (refine wp_region_lin (fun w' => Below wr.heap.size wr w') (by kernel_rfl) (by kernel_rfl) (bel_drew (by assumption)) ?_; (repeat (first | (refine lin_off (by rfl) ?_; (try simp only [Act.put, List.setIfInBounds_toArray, List.set_cons_zero, List.set_cons_succ])) | (refine lin_op (v := ?_) (by rfl) (fun w9 hS9 => ?_) ?_; rotate_left; (focus (((try dsimp only at hS9); go_simp; (try go_bits)) <;> with_reducible rfl)); (try simp only [Act.put, List.setIfInBounds_toArray, List.set_cons_zero, List.set_cons_succ])) )); refine lin_nil (fun w8 hS8 => ?_)))
          go_roundw
          case rel => exact ⟨k + 1, by omega, by go_num, fun j hj => by
            by_cases e : j = k
            · rw [e]; exact HE.out
            · exact HK.out.1 j (by omega), bel_trans HK.out.2 (by assumption)⟩
          case measure => simp [intOf]; omega
        · rw [decide_eq_false he] at EQ
          have HE := Lib.hid (decide_eq_false (fun h : L = M => he (by rw [h])))
          clear hok hkb he CT CU HR HR2 hrow hrow2 CTr
          go_wp2_with (first  | (refine wp_region_lin (fun w' => Below wr.heap.size wr w') (by kernel_rfl) (by kernel_rfl) (bel_drew (by assumption)) ?_; (repeat (first | (refine lin_off (by rfl) ?_; (try simp only [Act.put, List.setIfInBounds_toArray, List.set_cons_zero, List.set_cons_succ])) | (refine lin_op (v := ?_) (by rfl) (fun w9 hS9 => ?_) ?_; rotate_left; (focus (((try dsimp only at hS9); go_simp; (try go_bits)) <;> with_reducible rfl)); (try simp only [Act.put, List.setIfInBounds_toArray, List.set_cons_zero, List.set_cons_succ])) )); refine lin_nil (fun w8 hS8 => ?_)))
          all_goals go_ret
          all_goals exact ⟨by rw [HE.out]; rfl, bel_trans HB.out (bel_trans HK.out.2 (by assumption))⟩
      · obtain rfl : n = k := by omega
        have HE := Lib.hid (decide_eq_true (same_all9 (hn.trans hn2.symm) (fun j hj => hok j (by omega))))
        clear hok CT CU HR HR2
        go_wp2
        go_ret
        exact ⟨by rw [HE.out]; rfl, bel_trans HB.out hkb⟩
  · have dn : ((n : Int) != (n2 : Int)) = true := by simp; omega
    have HE := Lib.hid (decide_eq_false (fun h : L = M => hnn (by rw [← hn, ← hn2, h])))
    clear hnn HR HR2 CT CU
    go_enter Tryd.func8, Tryd.ntmps8
    go_wp2
    go_ret
    exact ⟨by rw [HE.out]; rfl, HB.out⟩

noncomputable def rgetV (L : List Rt) (p : Px) : Int := if ixM L p = -1 then 0 else (rt L (ixM L p).toNat).h
theorem ix_hit {L : List Rt} {p : Px} {k : Nat} (hL : L.Pairwise ltR) (hk : k < L.length) (h : (rt L k).p = p) : ixM L p = (k : Int) := by
  rcases ix_spec L p with ⟨i, i1, i2, i3, _⟩ | ⟨_, i2⟩
  · rw [i2, same_at hL i1 hk (i3.trans h.symm)]
  · exact absurd h (i2 _ (rt_mem hk))
theorem ix_miss {L : List Rt} {p : Px} (h : ∀ j, j < L.length → (rt L j).p ≠ p) : ixM L p = -1 := by
  rcases ix_spec L p with ⟨i, i1, i2, i3, _⟩ | ⟨i1, _⟩
  · exact absurd i3 (h i i1)
  · exact i1
set_option maxHeartbeats 4000000 in
theorem rget_any (a : Option Addr) (n c : Nat) (L : List Rt) (p : Px) (w : World) (hn : L.length = n) (hm : n ≤ 9223372036854775807) (hT : Tbl w a c L) (hW : Wid w) (hL : L.Pairwise ltR) :
    Calls Tryd.prog 30 #[.agg #[.slice a n c], .agg p.cs] w fun e w' => e = .returned (.int .i64 (rgetV L p)) ∧ Below w.heap.size w w' := by
  have hR := hT.at'
  obtain ⟨W1, hW1⟩ : ∃ W1, (w.alloc (.cells #[.slice a n c] 24)).alloc (.cells p.cs 38) = W1 := ⟨_, rfl⟩
  have hb1 : Below w.heap.size w W1 := by rw [← hW1]; exact (((Below.refl w.heap.size w).alloc (Nat.le_refl _) _).alloc (by simp) _)
  have b1 : Blk W1 w.heap.size 24 #[.slice a n c] := by
    have h9 := (Blk.new w 24 #[.slice a n c]).alloc (.cells p.cs 38)
    rwa [hW1] at h9
  have b2 : Blk W1 (w.heap.size + 1) 38 p.cs := by
    have h9 := Blk.new (w.alloc (.cells #[.slice a n c] 24)) 38 p.cs
    rwa [World.size_alloc, hW1] at h9
  have LT := tab_t b1
  have CT := tab_c b1
  have LX := px_p b2
  have HR : ∀ w', Below W1.heap.size W1 w' → RowsAt w' a L := fun w' h => (hR.later hb1).later h
  have HW : ∀ w', Below W1.heap.size W1 w' → Wid w' := fun w' h => (hW.later hb1).later h
  have hTW : ∀ w', Below W1.heap.size W1 w' → Tbl w' a c L := fun w' h => (hT.later hb1).later h
  have h0 : Below W1.heap.size W1 W1 := Below.refl _ _
  have HB := Lib.hid hb1
  clear hR hW b1 b2 hb1 hT HW hTW LT
  go_enter Tryd.func30, Tryd.ntmps30
  go_wp2_with fail
  go_loopw [5] (fun i wr => ∃ k : Nat, k ≤ n ∧ i = .int .i64 k ∧ (∀ j, j < k → (rt L j).p ≠ p) ∧ Below W1.heap.size W1 wr) (fun i _ => n - (intOf i).toNat)
  case atStart => exact ⟨0, Nat.zero_le _, rfl, fun j hj => by omega, h0⟩
  case round =>
    obtain ⟨k, hk, rfl, hno, hkb⟩ := hrel
    have CTr := CT wr hkb
    by_cases hlt : k < n
    · have hkl : k < L.length := by omega
      obtain ⟨g, o, rfl, hrow⟩ := (HR wr hkb).spot hkl
      have h02 : Below wr.heap.size wr wr := Below.refl _ _
      have CT2 : ∀ w', Below wr.heap.size wr w' → w'.cell? ⟨w.heap.size, 0, none⟩ = some (.slice (some ⟨g, o, none⟩) n c) := fun w' h => CT w' (bel_trans hkb h)
      have LP2 : ∀ w', Below wr.heap.size wr w' → (loadSem 38 (.pointer (some ⟨g, o + k * 19, none⟩))).run Tryd.prog w' = .ok (.agg (rt L k).p.cs) w' := fun w' h => (hrow.later h).loadp hkl
      have LH2 : ∀ w', Below wr.heap.size wr w' → w'.cell? ⟨g, o + k * 19 + 18, none⟩ = some (.int .i64 (rt L k).h) := fun w' h => (hrow.later h).hop hkl
      have LX2 : ∀ w', Below wr.heap.size wr w' → (loadSem 38 (.pointer (some ⟨w.heap.size + 1, 0, none⟩))).run Tryd.prog w' = .ok (.agg p.cs) w' := fun w' h => LX w' (bel_trans hkb h)
      have EQ := eqP (rt L k).p p
      have HK := Lib.hid (And.intro hno hkb)
      by_cases he : (rt L k).p = p
      · rw [decide_eq_true he] at EQ
        have HE := Lib.hid (show rgetV L p = (rt L k).h by unfold rgetV; rw [ix_hit hL hkl he, if_neg (by omega), Int.toNat_natCast])
        clear hno hkb he CT LX HR hrow CTr
        go_wp2_with (first  | (refine wp_region_lin (fun w' => Below wr.heap.size wr w') (by kernel_rfl) (by kernel_rfl) (bel_drew (by assumption)) ?_; (repeat (first | (refine lin_off (by rfl) ?_; (try simp only [Act.put, List.setIfInBounds_toArray, List.set_cons_zero, List.set_cons_succ])) | (refine lin_op (v := ?_) (by rfl) (fun w9 hS9 => ?_) ?_; rotate_left; (focus (((try dsimp only at hS9); go_simp; (try go_bits)) <;> with_reducible rfl)); (try simp only [Act.put, List.setIfInBounds_toArray, List.set_cons_zero, List.set_cons_succ])) )); refine lin_nil (fun w8 hS8 => ?_)))
        all_goals go_ret
        all_goals exact ⟨by rw [HE.out]; rfl, bel_trans HB.out (bel_trans HK.out.2 (by assumption))⟩
      · rw [decide_eq_false he] at EQ
        have HE := Lib.hid he
        clear hno hkb he CT LX HR hrow CTr
        go_wp2_with (first  | (refine wp_region_lin (fun w' => Below wr.heap.size wr w') (by kernel_rfl) (by kernel_rfl) (bel_drew (by assumption)) ?_; (repeat (first | (refine lin_off (by rfl) ?_; (try simp only [Act.put, List.setIfInBounds_toArray, List.set_cons_zero, List.set_cons_succ])) | (refine lin_op (v := ?_) (by rfl) (fun w9 hS9 => ?_) ?_; rotate_left; (focus (((try dsimp only at hS9); go_simp; (try go_bits)) <;> with_reducible rfl)); (try simp only [Act.put, List.setIfInBounds_toArray, List.set_cons_zero, List.set_cons_succ])) )); refine lin_nil (fun w8 hS8 => ?_)))
        go_roundw
        case rel => exact ⟨k + 1, by omega, by go_num, fun j hj => by
          by_cases e : j = k
          · rw [e]; exact HE.out
          · exact HK.out.1 j (by omega), bel_trans HK.out.2 (by assumption)⟩
        case measure => simp [intOf]; omega
    · obtain rfl : n = k := by omega
      have HE := Lib.hid (show rgetV L p = 0 by unfold rgetV; rw [ix_miss (fun j hj => hno j (by omega)), if_pos rfl])
      clear hno CT LX HR
      go_wp2
      go_ret
      exact ⟨by rw [HE.out]; rfl, bel_trans HB.out hkb⟩
end Go.Proofs.YtdbdmnahgkkjiaaDoor
namespace Go.Proofs.YtdbdmnahgkkjiaaDoor
open Go.RowKit Go.Shelf
set_option linter.unusedVariables false
set_option maxRecDepth 100000
attribute [local go_sem ↓] load_b16_rule store_b16_rule load_ad_rule store_ad_rule load_px_rule store_px_rule eq_b16_rule eq_ad_rule eq_px_rule load_rt_rule store_rt_rule build_ad_rule build_px_rule build_b16_rule build_rt_rule load_tab_rule build_tab_rule store_tab_rule tbuild_rule tapp_rule tcopy_rule eq_rt_rule

set_option maxHeartbeats 4000000 in
theorem tequal_any (a a2 : Option Addr) (n c n2 c2 : Nat) (L M : List Rt) (w : World) (hn : L.length = n) (hm : n ≤ 9223372036854775807) (hR : RowsAt w a L) (hn2 : M.length = n2) (hm2 : n2 ≤ 9223372036854775807) (hR2 : RowsAt w a2 M) :
    Calls Tryd.prog 24 #[.slice a n c, .slice a2 n2 c2] w fun e w' => e = .returned (.bool (decide (L = M))) ∧ Below w.heap.size w w' := by
  have HR : ∀ w', Below w.heap.size w w' → RowsAt w' a L := fun w' h => hR.later h
  have HR2 : ∀ w', Below w.heap.size w w' → RowsAt w' a2 M := fun w' h => hR2.later h
  have h0 : Below w.heap.size w w := Below.refl _ _
  clear hR hR2
  by_cases hnn : n = n2
  · subst hnn
    have dn : ((n : Int) != (n : Int)) = false := by simp
    go_enter Tryd.func24, Tryd.ntmps24
    go_wp2_with fail
    go_loopw [5, 13] (fun _ i wr => ∃ k : Nat, k ≤ n ∧ i = .int .i64 k ∧ (∀ j, j < k → rt L j = rt M j) ∧ Below w.heap.size w wr) (fun _ i _ => n - (intOf i).toNat)
    case atStart => exact ⟨0, Nat.zero_le _, rfl, fun j hj => by omega, h0⟩
    case round =>
      obtain ⟨k, hk, rfl, hok, hkb⟩ := hrel
      by_cases hlt : k < n
      · have hkl : k < L.length := by omega
        have hkl2 : k < M.length := by omega
        obtain ⟨g, o, rfl, hrow⟩ := (HR wr hkb).spot hkl
        obtain ⟨g2, o2, rfl, hrow2⟩ := (HR2 wr hkb).spot hkl2
        have h02 : Below wr.heap.size wr wr := Below.refl _ _
        have LR2 : ∀ w', Below wr.heap.size wr w' → (loadSem 48 (.pointer (some ⟨g, o + k * 19, none⟩))).run Tryd.prog w' = .ok (.agg (rt L k).cs) w' := fun w' h => (hrow.later h).load hkl
        have LS2 : ∀ w', Below wr.heap.size wr w' → (loadSem 48 (.pointer (some ⟨g2, o2 + k * 19, none⟩))).run Tryd.prog w' = .ok (.agg (rt M k).cs) w' := fun w' h => (hrow2.later h).load hkl2
        have EQ := eqR (rt L k) (rt M k)
        have HK := Lib.hid (And.intro hok hkb)
        by_cases he : rt L k = rt M k
        · rw [decide_eq_true he] at EQ
          have HE := Lib.hid he
          clear hok hkb he HR HR2 hrow hrow2
          go_wp2_with (first  | (refine wp_region_lin (fun w' => Below wr.heap.size wr w') (by kernel_rfl) (by kernel_rfl) (bel_drew (by assumption)) ?_; (repeat (first | (refine lin_off (by rfl) ?_; (try simp only [Act.put, List.setIfInBounds_toArray, List.set_cons_zero, List.set_cons_succ])) | (refine lin_op (v := ?_) (by rfl) (fun w9 hS9 => ?_) ?_; rotate_left; (focus (((try dsimp only at hS9); go_simp; (try go_bits)) <;> with_reducible rfl)); (try simp only [Act.put, List.setIfInBounds_toArray, List.set_cons_zero, List.set_cons_succ])) )); refine lin_nil (fun w8 hS8 => ?_)))
          go_roundw
          case rel => exact ⟨k + 1, by omega, by go_num, fun j hj => by
            by_cases e : j = k
            · rw [e]; exact HE.out
            · exact HK.out.1 j (by omega), bel_trans HK.out.2 (by assumption)⟩
          case measure => simp [intOf]; omega
        · rw [decide_eq_false he] at EQ
          have HE := Lib.hid (decide_eq_false (fun h : L = M => he (by rw [h])))
          clear hok hkb he HR HR2 hrow hrow2
          go_wp2_with (first  | (refine wp_region_lin (fun w' => Below wr.heap.size wr w') (by kernel_rfl) (by kernel_rfl) (bel_drew (by assumption)) ?_; (repeat (first | (refine lin_off (by rfl) ?_; (try simp only [Act.put, List.setIfInBounds_toArray, List.set_cons_zero, List.set_cons_succ])) | (refine lin_op (v := ?_) (by rfl) (fun w9 hS9 => ?_) ?_; rotate_left; (focus (((try dsimp only at hS9); go_simp; (try go_bits)) <;> with_reducible rfl)); (try simp only [Act.put, List.setIfInBounds_toArray, List.set_cons_zero, List.set_cons_succ])) )); refine lin_nil (fun w8 hS8 => ?_)))
          all_goals go_ret
          all_goals exact ⟨by rw [HE.out]; rfl, bel_trans HK.out.2 (by assumption)⟩
      · obtain rfl : n = k := by omega
        have HE := Lib.hid (decide_eq_true (same_all9 (hn.trans hn2.symm) (fun j hj => hok j (by omega))))
        clear hok HR HR2
        go_wp2
        go_ret
        exact ⟨by rw [HE.out]; rfl, hkb⟩
  · have dn : ((n : Int) != (n2 : Int)) = true := by simp; omega
    have HE := Lib.hid (decide_eq_false (fun h : L = M => hnn (by rw [← hn, ← hn2, h])))
    clear hnn HR HR2
    go_enter Tryd.func24, Tryd.ntmps24
    go_wp2
    go_ret
    exact ⟨by rw [HE.out]; rfl, h0⟩
set_option maxHeartbeats 4000000 in
theorem tsame_any (a a2 : Option Addr) (n c n2 c2 : Nat) (L M : List Rt) (w : World) (hn : L.length = n) (hm : n ≤ 9223372036854775807) (hR : RowsAt w a L) (hn2 : M.length = n2) (hm2 : n2 ≤ 9223372036854775807) (hR2 : RowsAt w a2 M) :
    Calls Tryd.prog 7 #[.agg #[.slice a n c], .agg #[.slice a2 n2 c2]] w fun e w' => e = .returned (.bool (decide (L = M))) ∧ Below w.heap.size w w' := by
  obtain ⟨W1, hW1⟩ : ∃ W1, (w.alloc (.cells #[.slice a n c] 24)).alloc (.cells #[.slice a2 n2 c2] 24) = W1 := ⟨_, rfl⟩
  have hb1 : Below w.heap.size w W1 := by rw [← hW1]; exact (((Below.refl w.heap.size w).alloc (Nat.le_refl _) _).alloc (by simp) _)
  have b1 : Blk W1 w.heap.size 24 #[.slice a n c] := by
    have h9 := (Blk.new w 24 #[.slice a n c]).alloc (.cells #[.slice a2 n2 c2] 24)
    rwa [hW1] at h9
  have b2 : Blk W1 (w.heap.size + 1) 24 #[.slice a2 n2 c2] := by
    have h9 := Blk.new (w.alloc (.cells #[.slice a n c] 24)) 24 #[.slice a2 n2 c2]
    rwa [World.size_alloc, hW1] at h9
  have CT0 := tab_c b1 W1 (Below.refl _ _)
  have CU0 := tab_c b2 W1 (Below.refl _ _)
  have HEQ := fun w' (h : Below W1.heap.size W1 w') => tequal_any a a2 n c n2 c2 L M w' hn hm ((hR.later hb1).later h) hn2 hm2 ((hR2.later hb1).later h)
  have h0 : Below W1.heap.size W1 W1 := Below.refl _ _
  have CT := tab_c b1
  have CU := tab_c b2
  have HB := Lib.hid hb1
  clear hR hR2 b1 b2 hb1
  go_enter Tryd.func7, Tryd.ntmps7
  go_wp2_with (first | (go_at_call 24; refine (HEQ _ (by assumption)).mono ?_; rintro e w2 ⟨rfl, hb2⟩; have hk2 : Below W1.heap.size W1 w2 := (by first | exact bel_trans (by assumption) hb2 | (subst hb2; assumption)); clear hb2) | (refine wp_region_lin (fun w' => Below W1.heap.size W1 w') (by kernel_rfl) (by kernel_rfl) (bel_drew (by assumption)) ?_; (repeat (first | (refine lin_off (by rfl) ?_; (try simp only [Act.put, List.setIfInBounds_toArray, List.set_cons_zero, List.set_cons_succ])) | (refine lin_op (v := ?_) (by rfl) (fun w9 hS9 => ?_) ?_; rotate_left; (focus (((try dsimp only at hS9); go_simp; (try go_bits)) <;> with_reducible rfl)); (try simp only [Act.put, List.setIfInBounds_toArray, List.set_cons_zero, List.set_cons_succ])) | (refine lin_fn (f := 24) (by rfl) rfl rfl (enters_of Tryd.func24 (by kernel_rfl) rfl) (fun w9 hS9 => (HEQ w9 hS9).mono (fun e w' h => ⟨h.1, (by first | exact bel_trans hS9 h.2 | (rw [← h.2]; exact hS9))⟩)) ?_ ?_; (focus (simp [Act.eval]; done)); (try simp only [Act.put, List.setIfInBounds_toArray, List.set_cons_zero, List.set_cons_succ])))); refine lin_nil (fun w8 hS8 => ?_)))
  all_goals go_ret
  all_goals exact ⟨rfl, bel_trans HB.out (by assumption)⟩
end Go.Proofs.YtdbdmnahgkkjiaaDoor
namespace Go.Proofs.YtdbdmnahgkkjiaaDoor
open Go.RowKit Go.Shelf
set_option linter.unusedVariables false
set_option maxRecDepth 100000

def pxg (L : List Px) (i : Nat) : Px := L.getD i Px.zero
theorem pxg_get {L : List Px} {i : Nat} (h : i < L.length) : pxg L i = L[i] := by simp [pxg, h]
structure Pws (w : World) (g o : Nat) (L : List Px) : Prop where
  lt : g < w.heap.size
  row : ∀ i, i < L.length → ∀ j, j < 18 → w.cell? ⟨g, o + i * 18 + j, none⟩ = (pxg L i).cs[j]?
def PxsAt (w : World) (a : Option Addr) (L : List Px) : Prop := L = [] ∨ ∃ g o, a = some ⟨g, o, none⟩ ∧ Pws w g o L
theorem Pws.later {w w' : World} {g o : Nat} {L : List Px} (h : Pws w g o L) (k : Below w.heap.size w w') : Pws w' g o L :=
  ⟨Nat.lt_of_lt_of_le h.lt k.size, fun i hi j hj => (k.cell (p := ⟨g, o + i * 18 + j, none⟩) h.lt).trans (h.row i hi j hj)⟩
theorem PxsAt.later {w w' : World} {a : Option Addr} {L : List Px} (h : PxsAt w a L) (k : Below w.heap.size w w') : PxsAt w' a L := by
  rcases h with h | ⟨g, o, h1, h2⟩
  · exact .inl h
  · exact .inr ⟨g, o, h1, h2.later k⟩
theorem Pws.load {w : World} {g o : Nat} {L : List Px} (h : Pws w g o L) {i : Nat} (hi : i < L.length) : (loadSem 38 (.pointer (some ⟨g, o + i * 18, none⟩))).run Tryd.prog w = .ok (.agg (pxg L i).cs) w :=
  run_loadAt_mid (P := Tryd.prog) w g (o + i * 18) 38 (pxg L i).cs.toList _ (fun j v hj => by
    have hl : j < 18 := by rw [← (pxg L i).size]; simpa using (List.getElem?_eq_some_iff.1 hj).1
    rw [h.row i hi j hl]; simpa using hj) Tryd.underlying38 rfl (by simpa using s_px (pxg L i))
def pxcs (L : List Px) : List Value := L.flatMap (fun r => r.cs.toList)
theorem pxcs_nil : pxcs [] = [] := rfl
theorem pxcs_append (L M : List Px) : pxcs (L ++ M) = pxcs L ++ pxcs M := by simp [pxcs]
theorem pxcs_one (r : Px) : pxcs [r] = r.cs.toList := by simp [pxcs]
theorem pxcs_cons (r : Px) (L : List Px) : pxcs (r :: L) = r.cs.toList ++ pxcs L := by simp [pxcs]
theorem pxcs_len : ∀ L : List Px, (pxcs L).length = L.length * 18
  | [] => rfl
  | r :: L => by rw [pxcs_cons, List.length_append, pxcs_len L]; simp [r.size]; omega
theorem pxcs_all (L : List Px) : ∀ u ∈ pxcs L, u.oneCell' = true := fun u hu => by
  obtain ⟨r, _, h⟩ := List.mem_flatMap.1 hu
  exact Array.all_eq_true_iff_forall_mem.1 r.one u (by simpa using h)
theorem pxcs_get : ∀ (L : List Px) {i j : Nat}, i < L.length → j < 18 → (pxcs L)[i * 18 + j]? = (pxg L i).cs[j]?
  | [], i, j, h, _ => by simp at h
  | r :: L, 0, j, _, hj => by
    rw [pxcs_cons, Nat.zero_mul, Nat.zero_add, List.getElem?_append_left (by simp [r.size]; exact hj)]
    simp [pxg]
  | r :: L, i + 1, j, h, hj => by
    rw [pxcs_cons, List.getElem?_append_right (by simp [r.size]; omega)]
    rw [show (i + 1) * 18 + j - r.cs.toList.length = i * 18 + j by simp [r.size]; omega, pxcs_get L (by simpa using h) hj]
    simp [pxg]
theorem pxcs_take : ∀ (L : List Px) (i : Nat), (pxcs L).take (i * 18) = pxcs (L.take i)
  | [], i => by simp [pxcs]
  | r :: L, 0 => by simp [pxcs]
  | r :: L, i + 1 => by
    rw [pxcs_cons, List.take_succ_cons, pxcs_cons, List.take_append, List.take_of_length_le (by simp [r.size]; omega)]
    rw [show (i + 1) * 18 - r.cs.toList.length = i * 18 by simp [r.size]; omega, pxcs_take L i]
theorem pxcs_drop : ∀ (L : List Px) (i : Nat), (pxcs L).drop (i * 18) = pxcs (L.drop i)
  | [], i => by simp [pxcs]
  | r :: L, 0 => by simp [pxcs]
  | r :: L, i + 1 => by
    rw [pxcs_cons, List.drop_succ_cons, List.drop_append, List.drop_eq_nil_of_le (by simp [r.size]; omega), List.nil_append]
    rw [show (i + 1) * 18 - r.cs.toList.length = i * 18 by simp [r.size]; omega, pxcs_drop L i]
theorem pxw_cells (w : World) (g : Nat) (L : List Px) (o : Nat) (hg : g < w.heap.size) (h : ∀ k u, (pxcs L)[k]? = some u → w.cell? ⟨g, o + k, none⟩ = some u) : Pws w g o L := by
  refine ⟨hg, fun i hi j hj => ?_⟩
  have h1 := pxcs_get L hi hj
  have h2 : j < (pxg L i).cs.size := by rw [Px.size]; exact hj
  rw [Array.getElem?_eq_getElem h2] at h1 ⊢
  rw [Nat.add_assoc]
  exact h _ _ h1
theorem Pws.cells {w : World} {g o : Nat} {L : List Px} (h : Pws w g o L) : ∀ k u, (pxcs L)[k]? = some u → w.cell? ⟨g, o + k, none⟩ = some u := by
  intro k u hk
  have hl : k < L.length * 18 := by rw [← pxcs_len]; exact (List.getElem?_eq_some_iff.1 hk).1
  have e := pxcs_get L (i := k / 18) (j := k % 18) (by omega) (by omega)
  rw [show k / 18 * 18 + k % 18 = k by omega] at e
  have h1 := h.row (k / 18) (by omega) (k % 18) (by omega)
  rw [← e, hk, Nat.add_assoc, show k / 18 * 18 + k % 18 = k by omega] at h1
  exact h1

/-- Prefixes that a call owns, from block B on. -/
abbrev OwnP (w : World) (B : Nat) (v : Value) (L : List Px) : Prop := w.ownsRow B 38 18 v L.length (pxcs L)
theorem OwnP.lies {w : World} {B : Nat} {v : Value} {L : List Px} (h : OwnP w B v L) : ∃ a c, v = .slice a L.length c ∧ L.length ≤ c ∧ c ≤ maxLen ∧ PxsAt w a L ∧ ∀ x, a = some x → B ≤ x.block := by
  rcases h.2 with ⟨rfl, h0⟩ | ⟨g, cap, cur, rfl, hb, hg, hc, hm, hs, ht⟩
  · have : L = [] := List.eq_nil_of_length_eq_zero h0
    subst this
    exact ⟨none, 0, rfl, by simp, by unfold maxLen; omega, .inl rfl, fun x hx => by cases hx⟩
  · refine ⟨_, cap, rfl, hc, hm, .inr ⟨g, 0, rfl, pxw_cells w g L 0 (Array.getElem?_eq_some_iff.1 hg).1 fun k u hk => ?_⟩, fun x hx => by cases hx; exact hb⟩
    rw [Nat.zero_add, cell_of_row w g k cur _ _ hg, ← Array.getElem?_toList]
    have hl : k < L.length * 18 := by rw [← pxcs_len]; exact (List.getElem?_eq_some_iff.1 hk).1
    rw [← ht, List.getElem?_take, if_pos hl] at hk
    exact hk
theorem info_px9 : (Tryd.prog.info? 38).map (fun i => (i.zero, i.size, i.bytes)) = some (some (.agg Px.zero.cs), 18, 32) := by kernel_rfl

/-! ### Nothing built, appended to -/
def pbuildSem (n : Nat) (parts : Array (Nat × Value)) : Sem Value := Instr.buildSlice 28 n parts
theorem pbuild_rule (n : Nat) (parts : Array (Nat × Value)) : Instr.buildSlice 28 n parts = pbuildSem n parts := rfl
def pappSem (ty : TypeId) (args : Array Value) : Sem Value := Builtin.append_ #[28, 28] ty args
theorem papp_rule (ty : TypeId) (args : Array Value) : Builtin.append_ #[28, 28] ty args = pappSem ty args := rfl
/-- Prefixes that lie anywhere are appended to prefixes that a call owns. -/
theorem papp_run {w : World} (ty : TypeId) {B : Nat} {v : Value} {L M : List Px} {x : Addr} {m c : Nat} (h : OwnP w B v L) (hm : M.length = m) (hM : PxsAt w (some x) M) (hs : L.length + m ≤ 1000000) (hB : B ≤ w.heap.size) :
    ∃ v' w', (pappSem ty #[v, .slice (some x) m c]).run Tryd.prog w = .ok v' w' ∧ OwnP w' B v' (L ++ M) ∧ w.grownBy w' v.ownBlock ∧ (v' = .slice none 0 0 ↔ v = .slice none 0 0 ∧ m = 0) := by
  obtain ⟨i0, hi, hz0, hz1, hz2⟩ := info_parts info_px9
  have hsrc : ∀ j u, (pxcs M)[j]? = some u → w.cell? (x.add j) = some u := by
    intro j u hj
    rcases hM with rfl | ⟨g, o, e, hr⟩
    · simp [pxcs] at hj
    · cases e
      rw [Addr.add_lit]
      exact hr.cells j u hj
  obtain ⟨v', w', h1, h2, h3, h4⟩ := run_append_own (P := Tryd.prog) w B 28 ty 38 i0 (.agg Px.zero.cs) 18 32 Tryd.underlying28 hi hz0 hz1 hz2 (Px.size _) (by decide) v L.length (pxcs L) h x m c (pxcs M) (by rw [pxcs_len, hm]) hsrc (pxcs_all M) (by unfold maxLen; omega) (by omega) hB
  refine ⟨v', w', h1, ?_, h3, h4⟩
  show w'.ownsRow B _ 18 v' (L ++ M).length (pxcs (L ++ M))
  rw [List.length_append, hm, pxcs_append]
  exact h2

end Go.Proofs.YtdbdmnahgkkjiaaDoor
namespace Go.Proofs.YtdbdmnahgkkjiaaDoor
open Go.RowKit Go.Shelf
set_option linter.unusedVariables false
set_option maxRecDepth 100000

/-- What Put has put together behind the first k rows, and whether the prefix stands in it. -/
noncomputable def putK (L : List Rt) (p : Px) (h : Int) : Nat → List Rt × Bool
  | 0 => ([], decide (h = 0))
  | k + 1 => if (rt L k).p = p then putK L p h k else if (putK L p h k).2 = false ∧ cmpP p (rt L k).p < 0 then ((putK L p h k).1 ++ [⟨p, h⟩] ++ [rt L k], true) else ((putK L p h k).1 ++ [rt L k], (putK L p h k).2)
noncomputable def putL (L : List Rt) (p : Px) (h : Int) : List Rt := if (putK L p h L.length).2 = false then (putK L p h L.length).1 ++ [⟨p, h⟩] else (putK L p h L.length).1
theorem putK_len (L : List Rt) (p : Px) (h : Int) : ∀ k, (putK L p h k).1.length ≤ 2 * k
  | 0 => by simp [putK]
  | k + 1 => by
    have := putK_len L p h k
    unfold putK
    split
    · omega
    · split
      · simp; omega
      · simp; omega
structure PutOk (L : List Rt) (p : Px) (h : Int) (k : Nat) : Prop where
  rise : (putK L p h k).1.Pairwise ltR
  mem : ∀ x, x ∈ (putK L p h k).1 ↔ ((∃ j, j < k ∧ rt L j = x) ∧ x.p ≠ p) ∨ ((putK L p h k).2 = true ∧ h ≠ 0 ∧ x = ⟨p, h⟩)
  low : (putK L p h k).2 = false → ∀ x ∈ (putK L p h k).1, cmpP x.p p < 0
  next : ∀ x ∈ (putK L p h k).1, ∀ j, k ≤ j → j < L.length → ltR x (rt L j)
  some : (putK L p h k).2 = false → h ≠ 0
theorem put_ok {L : List Rt} (hL : L.Pairwise ltR) (p : Px) (h : Int) : ∀ k, k ≤ L.length → PutOk L p h k
  | 0, _ => by
    refine ⟨List.Pairwise.nil, fun x => ?_, fun _ x hx => by simp [putK] at hx, fun x hx => by simp [putK] at hx, fun e => by simpa [putK] using e⟩
    simp [putK]
    intro e1 e2
    exact absurd e1 e2
  | k + 1, hk => by
    have ih := put_ok hL p h k (by omega)
    have hkl : k < L.length := by omega
    by_cases h1 : (rt L k).p = p
    · have e : putK L p h (k + 1) = putK L p h k := by rw [putK, if_pos h1]
      refine ⟨by rw [e]; exact ih.rise, fun x => ?_, by rw [e]; exact ih.low, fun x hx j hj hjl => ih.next x (by rw [e] at hx; exact hx) j (by omega) hjl, by rw [e]; exact ih.some⟩
      rw [e, ih.mem]
      constructor
      · rintro (⟨⟨j, hj, hx⟩, hp⟩ | h2)
        · exact .inl ⟨⟨j, by omega, hx⟩, hp⟩
        · exact .inr h2
      · rintro (⟨⟨j, hj, hx⟩, hp⟩ | h2)
        · refine .inl ⟨⟨j, ?_, hx⟩, hp⟩
          by_cases ej : j = k
          · rw [ej] at hx; rw [← hx] at hp; exact absurd h1 hp
          · omega
        · exact .inr h2
    · have hlater : ∀ j, k + 1 ≤ j → j < L.length → ltR (rt L k) (rt L j) := fun j hj hjl => rise_at hL (by omega) hjl
      by_cases h2 : (putK L p h k).2 = false ∧ cmpP p (rt L k).p < 0
      · have e : putK L p h (k + 1) = ((putK L p h k).1 ++ [⟨p, h⟩] ++ [rt L k], true) := by rw [putK, if_neg h1, if_pos h2]
        have hP : ltR ⟨p, h⟩ (rt L k) := h2.2
        refine ⟨?_, fun x => ?_, fun h9 => (by rw [e] at h9; cases h9), fun x hx j hj hjl => ?_, fun h9 => (by rw [e] at h9; cases h9)⟩
        · rw [e]
          simp only [List.append_assoc, List.pairwise_append, List.pairwise_cons, List.cons_append, List.nil_append]
          refine ⟨ih.rise, ⟨by simpa using hP, by simp, List.Pairwise.nil⟩, fun x hx y hy => ?_⟩
          rcases List.mem_cons.1 hy with e9 | hy
          · rw [e9]; exact ih.low h2.1 x hx
          · have e9 : y = rt L k := by simpa using hy
            rw [e9]; exact ih.next x hx k (Nat.le_refl _) hkl
        · rw [e]
          simp only [List.append_assoc, List.mem_append, List.mem_cons, List.cons_append, List.nil_append, List.not_mem_nil, or_false, true_and]
          rw [ih.mem]
          constructor
          · rintro ((⟨⟨j, hj, hx⟩, hp⟩ | ⟨_, q2, q3⟩) | hx | hx)
            · exact .inl ⟨⟨j, by omega, hx⟩, hp⟩
            · exact .inr ⟨q2, q3⟩
            · exact .inr ⟨ih.some h2.1, hx⟩
            · exact .inl ⟨⟨k, by omega, hx.symm⟩, by rw [hx]; exact h1⟩
          · rintro (⟨⟨j, hj, hx⟩, hp⟩ | ⟨q2, q3⟩)
            · by_cases ej : j = k
              · exact .inr (.inr (by rw [← hx, ej]))
              · exact .inl (.inl ⟨⟨j, by omega, hx⟩, hp⟩)
            · exact .inr (.inl q3)
        · rw [e] at hx
          simp only [List.append_assoc, List.mem_append, List.mem_cons, List.cons_append, List.nil_append, List.not_mem_nil, or_false] at hx
          rcases hx with hx | hx | hx
          · exact ih.next x hx j (by omega) hjl
          · rw [hx]; exact ltR_trans hP (hlater j hj hjl)
          · rw [hx]; exact hlater j hj hjl
      · have e : putK L p h (k + 1) = ((putK L p h k).1 ++ [rt L k], (putK L p h k).2) := by rw [putK, if_neg h1, if_neg h2]
        refine ⟨?_, fun x => ?_, fun h9 x hx => ?_, fun x hx j hj hjl => ?_, fun h9 => ih.some (by rw [e] at h9; exact h9)⟩
        · rw [e]
          simp only [List.pairwise_append, List.pairwise_cons]
          exact ⟨ih.rise, ⟨by simp, List.Pairwise.nil⟩, fun x hx y hy => by
            have e9 : y = rt L k := by simpa using hy
            rw [e9]; exact ih.next x hx k (Nat.le_refl _) hkl⟩
        · rw [e]
          simp only [List.mem_append, List.mem_singleton]
          rw [ih.mem]
          constructor
          · rintro ((⟨⟨j, hj, hx⟩, hp⟩ | q) | hx)
            · exact .inl ⟨⟨j, by omega, hx⟩, hp⟩
            · exact .inr q
            · exact .inl ⟨⟨k, by omega, hx.symm⟩, by rw [hx]; exact h1⟩
          · rintro (⟨⟨j, hj, hx⟩, hp⟩ | q)
            · by_cases ej : j = k
              · exact .inr (by rw [← hx, ej])
              · exact .inl (.inl ⟨⟨j, by omega, hx⟩, hp⟩)
            · exact .inl (.inr q)
        · rw [e] at hx h9
          simp only [List.mem_append, List.mem_singleton] at hx
          rcases hx with hx | hx
          · exact ih.low h9 x hx
          · rw [hx]
            rcases cmp_ways (rt L k).p p with c | c | c
            · exact c
            · exact absurd c h1
            · exact absurd ⟨h9, c⟩ h2
        · rw [e] at hx
          simp only [List.mem_append, List.mem_singleton] at hx
          rcases hx with hx | hx
          · exact ih.next x hx j (by omega) hjl
          · rw [hx]; exact hlater j hj hjl
theorem putL_spec {L : List Rt} (hL : L.Pairwise ltR) (p : Px) (h : Int) : (putL L p h).Pairwise ltR ∧ ∀ x, x ∈ putL L p h ↔ (x ∈ L ∧ x.p ≠ p) ∨ (h ≠ 0 ∧ x = ⟨p, h⟩) := by
  have ih := put_ok hL p h L.length (Nat.le_refl _)
  have hm : ∀ x, (∃ j, j < L.length ∧ rt L j = x) ↔ x ∈ L := fun x => ⟨fun ⟨j, hj, hx⟩ => by rw [← hx]; exact rt_mem hj, mem_rt⟩
  unfold putL
  by_cases h1 : (putK L p h L.length).2 = false
  · rw [if_pos h1]
    refine ⟨?_, fun x => ?_⟩
    · simp only [List.pairwise_append, List.pairwise_cons]
      exact ⟨ih.rise, ⟨by simp, List.Pairwise.nil⟩, fun x hx y hy => by
        have e9 : y = ⟨p, h⟩ := by simpa using hy
        rw [e9]; exact ih.low h1 x hx⟩
    · simp only [List.mem_append, List.mem_singleton]
      rw [ih.mem, hm, h1]
      constructor
      · rintro ((q | ⟨q, _⟩) | q)
        · exact .inl q
        · cases q
        · exact .inr ⟨ih.some h1, q⟩
      · rintro (q | ⟨_, q⟩)
        · exact .inl (.inl q)
        · exact .inr q
  · have h2 : (putK L p h L.length).2 = true := by simpa using h1
    rw [if_neg h1]
    refine ⟨ih.rise, fun x => ?_⟩
    rw [ih.mem, hm, h2]
    simp
theorem put_set {L : List Rt} (hL : L.Pairwise ltR) (p : Px) {h : Int} (h0 : h ≠ 0) : putL L p h = setL L p h := by
  obtain ⟨q1, q2⟩ := putL_spec hL p h
  refine rise_eq q1 (setL_rise hL p h) fun x => ?_
  rw [q2, setL_mem hL]
  constructor
  · rintro (q | ⟨_, q⟩)
    · exact .inr q
    · exact .inl q
  · rintro (q | q)
    · exact .inr ⟨h0, q⟩
    · exact .inl q
theorem put_drop {L : List Rt} (hL : L.Pairwise ltR) {p : Px} {i : Nat} (hi : i < L.length) (hp : (rt L i).p = p) : putL L p 0 = L.eraseIdx i := by
  obtain ⟨q1, q2⟩ := putL_spec hL p 0
  refine rise_eq q1 (hL.sublist (List.eraseIdx_sublist L i)) fun x => ?_
  rw [q2, List.mem_eraseIdx_iff_getElem]
  constructor
  · rintro (⟨hx, hne⟩ | ⟨q, _⟩)
    · obtain ⟨j, hj, rfl⟩ := mem_rt hx
      exact ⟨j, hj, fun e => hne (by rw [e]; exact hp), (rt_get hj).symm⟩
    · exact absurd rfl q
  · rintro ⟨j, hj, hne, e⟩
    rw [← rt_get hj] at e
    refine .inl ⟨by rw [← e]; exact rt_mem hj, fun h9 => hne ?_⟩
    rw [← e] at h9
    exact same_at hL hj hi (h9.trans hp.symm)
end Go.Proofs.YtdbdmnahgkkjiaaDoor
