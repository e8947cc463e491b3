/-
  The contracts of table.nearer, of cmp.Or of rows, and of table.both: what it tells. Nothing here is a statement of the document.
-/
import Derived.Test.YtdbdmnahgkkjiaaDoorTbY
import Derived.Test.YtdbdmnahgkkjiaaDoorTbC
namespace Go.Proofs.YtdbdmnahgkkjiaaDoor
open Go.RowKit Go.Shelf
set_option linter.unusedVariables false
set_option maxRecDepth 100000
attribute [local go_sem ↓] load_b16_rule store_b16_rule load_ad_rule store_ad_rule load_px_rule store_px_rule eq_b16_rule eq_ad_rule eq_px_rule load_rt_rule store_rt_rule build_ad_rule build_px_rule build_b16_rule build_rt_rule load_tab_rule build_tab_rule store_tab_rule tbuild_rule tapp_rule tcopy_rule eq_rt_rule

theorem OwnFrom.low9 {β : Type} {B : Nat} {I : β → World → Prop} (h : OwnFrom B I) {s : β} {W W' : World} (hs : I s W) (k : Below W.heap.size W W') : I s W' :=
  h s W W' none hs ⟨k.os, k.tape, k.output, k.size, fun i hi _ => k.block i hi⟩ (fun r e => by cases e)
theorem nr_empty {L M : List Rt} (h : L = [] ∨ M = []) : nrM L M = cmpI (M.length : Int) (L.length : Int) := by
  unfold nrM cmpI
  rw [if_pos h]
  split <;> split <;> (try split) <;> omega
theorem nr_full {L M : List Rt} (h : L ≠ []) (h2 : M ≠ []) : nrM L M = cmpP (rt L 0).p (rt M 0).p := by
  unfold nrM
  rw [if_neg (by rintro (e | e); exact h e; exact h2 e)]

set_option maxHeartbeats 4000000 in
theorem nearer_any (a a2 : Option Addr) (n c n2 c2 : Nat) (L M : List Rt) (w : World) (hn : L.length = n) (hR : RowsAt w a L) (hn2 : M.length = n2) (hR2 : RowsAt w a2 M) :
    Calls Tryd.prog 51 #[.slice a n c, .slice a2 n2 c2] w fun e w' => e = .returned (.int .i64 (nrM L M)) ∧ Below w.heap.size w w' := by
  have h0 : Below w.heap.size w w := Below.refl _ _
  have HC := cmpI_any (n2 : Int) (n : Int)
  by_cases h1 : n = 0
  · have d1 : ((n : Int) == 0) = true := by simp [h1]
    have HE := Lib.hid (nr_empty (L := L) (M := M) (.inl (List.length_eq_zero_iff.1 (by omega))))
    have HN := Lib.hid (And.intro hn hn2)
    clear hR hR2 h1 hn hn2
    go_enter Tryd.func51, Tryd.ntmps51
    go_wp2_with (first | (go_at_call 66; refine (HC _).mono ?_; rintro e w2 ⟨rfl, rfl⟩))
    all_goals go_ret
    all_goals exact ⟨by rw [HE.out, HN.out.1, HN.out.2]; rfl, h0⟩
  · have d1 : ((n : Int) == 0) = false := by simp [h1]
    by_cases h2 : n2 = 0
    · have d2 : ((n2 : Int) == 0) = true := by simp [h2]
      have HE := Lib.hid (nr_empty (L := L) (M := M) (.inr (List.length_eq_zero_iff.1 (by omega))))
      have HN := Lib.hid (And.intro hn hn2)
      clear hR hR2 h1 hn hn2 h2
      go_enter Tryd.func51, Tryd.ntmps51
      go_wp2_with (first | (go_at_call 66; refine (HC _).mono ?_; rintro e w2 ⟨rfl, rfl⟩))
      all_goals go_ret
      all_goals exact ⟨by rw [HE.out, HN.out.1, HN.out.2]; rfl, h0⟩
    · have d2 : ((n2 : Int) == 0) = false := by simp [h2]
      have hL : 0 < L.length := by omega
      have hM : 0 < M.length := by omega
      have hz1 : 0 < n := by omega
      have hz2 : 0 < n2 := by omega
      have HE := Lib.hid (nr_full (L := L) (M := M) (List.length_pos_iff.1 hL) (List.length_pos_iff.1 hM))
      obtain ⟨g, o, rfl, hrow⟩ := hR.spot hL
      obtain ⟨g2, o2, rfl, hrow2⟩ := hR2.spot hM
      have LP : ∀ w', Below w.heap.size w w' → (loadSem 38 (.pointer (some ⟨g, o, none⟩))).run Tryd.prog w' = .ok (.agg (rt L 0).p.cs) w' := fun w' h => by
        have := (hrow.later h).loadp hL
        simpa using this
      have LQ : ∀ w', Below w.heap.size w w' → (loadSem 38 (.pointer (some ⟨g2, o2, none⟩))).run Tryd.prog w' = .ok (.agg (rt M 0).p.cs) w' := fun w' h => by
        have := (hrow2.later h).loadp hM
        simpa using this
      have HP := compare_any (rt L 0).p (rt M 0).p
      clear hR hR2 h1 h2 hn hn2 hL hM hrow hrow2 HC
      go_enter Tryd.func51, Tryd.ntmps51
      go_wp2_with (first | (go_at_call 49; refine (HP _).mono ?_; rintro e w2 ⟨rfl, hb2⟩; have hk2 : Below w.heap.size w w2 := (by first | exact bel_trans (by assumption) hb2 | (subst hb2; assumption)); clear hb2) | (refine wp_region_lin (fun w' => Below w.heap.size w w') (by kernel_rfl) (by kernel_rfl) (bel_drew (by assumption)) ?_; (repeat (first | (refine lin_off (by rfl) ?_; (try simp only [Act.put, List.setIfInBounds_toArray, List.set_cons_zero, List.set_cons_succ])) | (refine lin_op (v := ?_) (by rfl) (fun w9 hS9 => ?_) ?_; rotate_left; (focus (((try dsimp only at hS9); go_simp; (try go_bits)) <;> with_reducible rfl)); (try simp only [Act.put, List.setIfInBounds_toArray, List.set_cons_zero, List.set_cons_succ])) | (refine lin_fn (f := 49) (by rfl) rfl rfl (enters_of Tryd.func49 (by kernel_rfl) rfl) (fun w9 hS9 => (HP w9).mono (fun e w' h => ⟨h.1, (by first | exact bel_trans hS9 h.2 | (rw [← h.2]; exact hS9))⟩)) ?_ ?_; (focus (simp [Act.eval]; done)); (try simp only [Act.put, List.setIfInBounds_toArray, List.set_cons_zero, List.set_cons_succ])))); refine lin_nil (fun w8 hS8 => ?_)))
      all_goals go_ret
      all_goals exact ⟨by rw [HE.out]; rfl, by assumption⟩

/-! ### The first that is not zero -/
noncomputable def orL9 : List Rt → Rt
  | [] => Rt.zero
  | x :: L => if x = Rt.zero then orL9 L else x
theorem or9_hit : ∀ (L : List Rt) (k : Nat), k < L.length → (∀ j, j < k → rt L j = Rt.zero) → rt L k ≠ Rt.zero → orL9 L = rt L k
  | [], k, h, _, _ => by simp at h
  | x :: L, 0, _, _, h => by simp [rt] at h ⊢; simp [orL9, h]
  | x :: L, k + 1, hk, hz, h => by
    have h0 : x = Rt.zero := by simpa [rt] using hz 0 (by omega)
    have := or9_hit L k (by simpa using hk) (fun j hj => by simpa [rt] using hz (j + 1) (by omega)) (by simpa [rt] using h)
    simpa [orL9, h0, rt] using this
theorem or9_miss : ∀ (L : List Rt), (∀ j, j < L.length → rt L j = Rt.zero) → orL9 L = Rt.zero
  | [], _ => rfl
  | x :: L, hz => by
    have h0 : x = Rt.zero := by simpa [rt] using hz 0 (by simp)
    have := or9_miss L (fun j hj => by simpa [rt] using hz (j + 1) (by simpa using hj))
    simp [orL9, h0, this]
theorem or9_two (x y : Rt) : orL9 [x, y] = orM x y := by
  unfold orM
  simp only [orL9]
  by_cases h : x = Rt.zero
  · rw [if_pos h, if_pos h]
    by_cases h2 : y = Rt.zero
    · rw [if_pos h2, h2]
    · rw [if_neg h2]
  · rw [if_neg h, if_neg h]
set_option maxHeartbeats 4000000 in
theorem ror_any (a : Option Addr) (n c : Nat) (L : List Rt) (w : World) (hn : L.length = n) (hm : n ≤ 1000) (hR : RowsAt w a L) :
    Calls Tryd.prog 27 #[.slice a n c] w fun e w' => e = .returned (.agg (orL9 L).cs) ∧ Below w.heap.size w w' := by
  obtain ⟨W0, hW0⟩ : ∃ W0, w.alloc (.cells Rt.zero.cs 48) = W0 := ⟨_, rfl⟩
  obtain ⟨W1, hW1⟩ : ∃ W1, W0.alloc (.cells Rt.zero.cs 48) = W1 := ⟨_, rfl⟩
  have s0 : W0.heap.size = w.heap.size + 1 := by rw [← hW0]; simp
  have k0 : Below w.heap.size w W0 := by rw [← hW0]; exact (Below.refl _ _).alloc (Nat.le_refl _) _
  have k1 : Below W0.heap.size W0 W1 := by rw [← hW1]; exact (Below.refl _ _).alloc (Nat.le_refl _) _
  have b0 : Blk W1 w.heap.size 48 Rt.zero.cs := by
    have h : Blk W0 w.heap.size 48 Rt.zero.cs := by rw [← hW0]; exact Blk.new _ _ _
    exact h.later k1
  have b1 : Blk W1 W0.heap.size 48 Rt.zero.cs := by rw [← hW1]; exact Blk.new _ _ _
  have h0 : Below W1.heap.size W1 W1 := Below.refl _ _
  rw [s0] at b1
  have LZ := rt_r b1
  have HR : ∀ w', Below W1.heap.size W1 w' → RowsAt w' a L := fun w' h => (hR.later (bel_trans k0 k1)).later h
  have HB := Lib.hid (And.intro (bel_trans k0 k1) (And.intro b0 hn))
  clear hR b0 b1 k0 k1
  go_enter Tryd.func27, Tryd.ntmps27
  go_wp2_with (with_reducible refine wpList_alloc_z rfl 48 rfl Rt.zero.cs 19 z_rt ?_)
  go_loopw [8] (fun i wr => ∃ k : Nat, k ≤ n ∧ i = .int .i64 k ∧ (∀ j, j < k → rt L j = Rt.zero) ∧ Below W1.heap.size W1 wr) (fun i _ => n - (intOf i).toNat)
  case atStart => exact ⟨0, Nat.zero_le _, rfl, fun j hj => by omega, h0⟩
  case round =>
    obtain ⟨k, hk, rfl, hok, hkb⟩ := hrel
    by_cases hlt : k < n
    · have hkl : k < L.length := by have := HB.out.2.2; omega
      obtain ⟨g, o, rfl, hrow⟩ := (HR wr hkb).spot hkl
      have LR := hrow.load hkl
      obtain ⟨W2, hW2⟩ : ∃ W2, wr.alloc (.cells (rt L k).cs 48) = W2 := ⟨_, rfl⟩
      have S2 := st_rt (q := rt L k) (Blk.new wr 48 Rt.zero.cs)
      rw [World.setRow_alloc_new, hW2] at S2
      have b2 : Blk W2 wr.heap.size 48 (rt L k).cs := by rw [← hW2]; exact Blk.new _ _ _
      have hb2 : Below wr.heap.size wr W2 := by rw [← hW2]; exact (Below.refl _ _).alloc (Nat.le_refl _) _
      have hb12 : Below W1.heap.size W1 W2 := bel_trans hkb hb2
      have LV := rt_r b2 W2 (Below.refl _ _)
      have LZ2 := LZ W2 hb12
      have EQ := eqR (rt L k) Rt.zero
      have ST := st_rt (q := rt L k) (HB.out.2.1.later hb12)
      have HK := Lib.hid (And.intro hok (And.intro hb12 hkl))
      by_cases he : rt L k = Rt.zero
      · rw [decide_eq_true he] at EQ
        have HE := Lib.hid he
        clear hok hkb he HR hrow hb12 hb2 b2
        go_wp2_with (with_reducible refine wpList_alloc_z rfl 48 rfl Rt.zero.cs 19 z_rt ?_)
        go_roundw
        case rel => exact ⟨k + 1, by omega, by go_num, fun j hj => by
          by_cases e : j = k
          · rw [e]; exact HE.out
          · exact HK.out.1 j (by omega), HK.out.2.1⟩
        case measure => simp [intOf]; omega
      · rw [decide_eq_false he] at EQ
        have HE := Lib.hid (or9_hit L k hkl hok he)
        clear hok hkb he HR hrow hb12 hb2 b2
        go_wp2_with (with_reducible refine wpList_alloc_z rfl 48 rfl Rt.zero.cs 19 z_rt ?_)
        refine bodyPost_ret (results_cell_row rfl _ _ w.heap.size _ _ _ _ rfl ((HB.out.2.1.later HK.out.2.1).row _) Tryd.underlying48 rfl (s_rt _)) rfl ?_
        exact ⟨by rw [HE.out], below_setRow (bel_trans HB.out.1 HK.out.2.1) (Nat.le_refl _) _⟩
    · obtain rfl : n = k := by omega
      have HE := Lib.hid (or9_miss L (fun j hj => hok j (by have := HB.out.2.2; omega)))
      have LZ2 := LZ wr hkb
      have ST := st_rt (q := Rt.zero) (HB.out.2.1.later hkb)
      have HK := Lib.hid hkb
      clear hok HR hkb
      go_wp2
      refine bodyPost_ret (results_cell_row rfl _ _ w.heap.size _ _ _ _ rfl ((HB.out.2.1.later HK.out).row _) Tryd.underlying48 rfl (s_rt _)) rfl ?_
      exact ⟨by rw [HE.out], below_setRow (bel_trans HB.out.1 HK.out) (Nat.le_refl _) _⟩

/-! ### both -/
theorem tboth_any (v v2 : Value) (w : World) : Calls Tryd.prog 26 #[.agg #[v], .agg #[v2]] w fun e w' =>
    e = .returned (.func (.func 50) #[] #[.pointer (some ⟨w.heap.size, 0, none⟩), .pointer (some ⟨w.heap.size + 1, 0, none⟩)]) ∧ w' = (w.alloc (.cells #[v] 24)).alloc (.cells #[v2] 24) := by
  have hmf : ∀ (fn : Fn) (first cap : Array Value) (w : World), (Instr.makeFunc fn first cap).run Tryd.prog w = .ok (.func fn first cap) w := fun _ _ _ _ => rfl
  go_enter Tryd.func26, Tryd.ntmps26
  go_wp2
  go_ret
  exact ⟨by simp, rfl⟩
end Go.Proofs.YtdbdmnahgkkjiaaDoor
