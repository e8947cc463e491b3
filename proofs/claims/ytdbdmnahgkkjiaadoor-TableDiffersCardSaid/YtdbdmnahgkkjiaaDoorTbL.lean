/-
  The contracts of the law's copied, of the reference's Right and Longest. Nothing here is a statement of the document.
-/
import Derived.Test.YtdbdmnahgkkjiaaDoorTbJ
namespace Go.Proofs.YtdbdmnahgkkjiaaDoor
open Go.RowKit Go.Shelf
set_option linter.unusedVariables false
set_option maxRecDepth 100000
attribute [local go_sem ↓] load_b16_rule store_b16_rule load_ad_rule store_ad_rule load_px_rule store_px_rule eq_b16_rule eq_ad_rule eq_px_rule load_rt_rule store_rt_rule build_ad_rule build_px_rule build_b16_rule build_rt_rule load_tab_rule build_tab_rule store_tab_rule tbuild_rule tapp_rule tcopy_rule eq_rt_rule

theorem tapp_none {w : World} (ty : TypeId) {B : Nat} {v : Value} {L : List Rt} (h : OwnT w B v L) : (tappSem ty #[v, .slice none 0 0]).run Tryd.prog w = .ok v w := by
  obtain ⟨i0, hi, hz0, hz1, hz2⟩ := info_parts info_rt
  exact run_append_owned_none (P := Tryd.prog) w B 22 ty 48 i0 19 Tryd.underlying22 hi v L.length (rtcs L) h
set_option maxHeartbeats 1600000 in
theorem copied_any (a : Option Addr) (n c : Nat) (L : List Rt) (w : World) (hn : L.length = n) (hs : n ≤ 100000) (hT : Tbl w a c L) :
    Calls Tryd.prog 9 #[.agg #[.slice a n c]] w fun e w' => ∃ a' c', e = .returned (.agg #[.slice a' n c']) ∧ Tbl w' a' c' L ∧ (∀ x, a' = some x → w.heap.size ≤ x.block) ∧ Below w.heap.size w w' := by
  obtain ⟨W0, hW0⟩ : ∃ W0, w.alloc (.cells #[.slice a n c] 24) = W0 := ⟨_, rfl⟩
  obtain ⟨W1, hW1⟩ : ∃ W1, W0.alloc (.cells #[.slice none 0 0] 24) = W1 := ⟨_, rfl⟩
  have hb0 : Below w.heap.size w W0 := by rw [← hW0]; exact (Below.refl _ _).alloc (Nat.le_refl _) _
  have hb01 : Below W0.heap.size W0 W1 := by rw [← hW1]; exact (Below.refl _ _).alloc (Nat.le_refl _) _
  have b1 : Blk W1 w.heap.size 24 #[.slice a n c] := by
    have h : Blk W0 w.heap.size 24 #[.slice a n c] := by rw [← hW0]; exact Blk.new _ _ _
    exact h.later hb01
  have b2 : Blk W1 W0.heap.size 24 #[.slice none 0 0] := by rw [← hW1]; exact Blk.new _ _ _
  have hb1 := bel_trans hb0 hb01
  have sz0 : W0.heap.size = w.heap.size + 1 := by rw [← hW0]; simp
  have BS : (tbuildSem 0 #[]).run Tryd.prog W1 = .ok (.slice (some ⟨W1.heap.size, 0, none⟩) 0 0) (W1.alloc (.cells #[] 48)) := tbuild0_run W1
  obtain ⟨W2, hW2⟩ : ∃ W2, W1.alloc (.cells #[] 48) = W2 := ⟨_, rfl⟩
  have hb12 : Below W1.heap.size W1 W2 := by rw [← hW2]; exact (Below.refl _ _).alloc (Nat.le_refl _) _
  have hb02 := bel_trans hb1 hb12
  have own2 : OwnT W2 W1.heap.size (.slice (some ⟨W1.heap.size, 0, none⟩) 0 0) [] := by rw [← hW2]; exact own0 W1 W1.heap.size (Nat.le_refl _)
  rw [hW2] at BS
  have C2 : W2.cell? ⟨w.heap.size, 0, none⟩ = some (.slice a n c) := tab_c b1 W2 hb12
  obtain ⟨v3, W3, hrun, hown, hbel⟩ : ∃ v3 W3, (∀ ty, (tappSem ty #[.slice (some ⟨W1.heap.size, 0, none⟩) 0 0, .slice a n c]).run Tryd.prog W2 = .ok v3 W3) ∧ OwnT W3 W1.heap.size v3 L ∧ Below W1.heap.size W1 W3 := by
    cases a with
    | none =>
      obtain rfl : L = [] := by
        rcases hT.at' with h | ⟨g, o, h, _⟩
        · exact h
        · cases h
      obtain rfl := hT.nil rfl
      obtain rfl : n = 0 := hn.symm
      exact ⟨_, W2, fun ty => tapp_none ty own2, own2, hb12⟩
    | some x =>
      obtain ⟨v', w', h1, h2, h3, h4⟩ := tapp_run (c := c) 22 own2 hn (hT.at'.later hb02) (by simp; omega) hb12.size
      exact ⟨v', w', fun ty => h1, by simpa using h2, hb12.grown h3 hb12.size (fun k hk => by cases hk; exact Nat.le_refl _)⟩
  obtain ⟨a3, c3, rfl, t3⟩ := hown.tbl
  obtain ⟨_, _, hbk⟩ := hown.tbl2
  rw [hn] at hrun
  have BT := build_tab1 a3 n c3
  have ST := st_tab (a2 := a3) (n2 := n) (c2 := c3) (b2.later hbel)
  have HZ := Lib.hid (And.intro t3 (And.intro hbk (And.intro (b2.later hbel) (And.intro (bel_trans hb1 hbel) (And.intro sz0 (And.intro hb01.size b2.lt))))))
  clear hown t3 hbk b1 b2 hb0 hb01 hb1 sz0 hb12 hb02 own2 hbel hW2 hT hs
  go_enter Tryd.func9, Tryd.ntmps9
  go_wp2_with (with_reducible refine wpList_alloc_z rfl 24 rfl #[.slice none 0 0] 1 z_tab ?_)
  refine bodyPost_ret (results_cell_row rfl _ _ W0.heap.size 24 _ (0, 0) _ rfl (HZ.out.2.2.1.row _) Tryd.underlying24 rfl s_tab1) rfl ?_
  exact ⟨a3, c3, rfl, HZ.out.1.kept ((Kept.refl [W0.heap.size] W3).setRow (.inl (by simp)) _) (fun x hx => by have := HZ.out.2.1 x hx; have := HZ.out.2.2.2.2.2.2; simp; omega), (fun x hx => by have := HZ.out.2.1 x hx; have := HZ.out.2.2.2.2.2.2; have := HZ.out.2.2.2.2.1; omega), below_setRow HZ.out.2.2.2.1 (by have := HZ.out.2.2.2.2.1; omega) _⟩

set_option maxHeartbeats 4000000 in
theorem rright_any (a : Option Addr) (n c : Nat) (L : List Rt) (w : World) (hn : L.length = n) (hm : n ≤ 9223372036854775807) (hR : RowsAt w a L) :
    Calls Tryd.prog 11 #[.agg #[.slice a n c]] w fun e w' => e = .returned (.bool (decide (okT L))) ∧ Below w.heap.size w w' := by
  obtain ⟨W1, hW1⟩ : ∃ W1, w.alloc (.cells #[.slice a n c] 24) = W1 := ⟨_, rfl⟩
  have hb1 : Below w.heap.size w W1 := by rw [← hW1]; exact (Below.refl _ _).alloc (Nat.le_refl _) _
  have b1 : Blk W1 w.heap.size 24 #[.slice a n c] := by rw [← hW1]; exact Blk.new w _ _
  have CT : ∀ w', Below W1.heap.size W1 w' → w'.cell? ⟨w.heap.size, 0, none⟩ = some (.slice a n c) := fun w' k => (b1.later k).cell 0
  have CT0 := CT W1 (Below.refl _ _)
  have HR : ∀ w', Below W1.heap.size W1 w' → RowsAt w' a L := fun w' h => (hR.later hb1).later h
  have h0 : Below W1.heap.size W1 W1 := Below.refl _ _
  have HB := Lib.hid (And.intro hb1 hn)
  clear hb1 b1
  by_cases h40 : 40 < n
  · have d1 : decide (40 < (n : Int)) = true := decide_eq_true (by omega)
    have HE := Lib.hid (decide_eq_false (fun h : okT L => by have := h.1; omega))
    clear HR hR CT h40
    go_enter Tryd.func11, Tryd.ntmps11
    go_wp2
    go_ret
    exact ⟨by rw [HE.out]; rfl, HB.out.1⟩
  · have d1 : decide (40 < (n : Int)) = false := decide_eq_false (by omega)
    clear hR
    go_enter Tryd.func11, Tryd.ntmps11
    go_wp2_with fail
    go_loopw [3] (fun i wr => ∃ k : Nat, k ≤ n ∧ i = .int .i64 k ∧ (∀ j, j < k → okR (rt L j) ∧ (0 < j → ltR (rt L (j - 1)) (rt L j))) ∧ Below W1.heap.size W1 wr) (fun i _ => n - (intOf i).toNat)
    case atStart => exact ⟨0, Nat.zero_le _, rfl, fun j hj => by omega, h0⟩
    case round =>
      obtain ⟨k, hk, rfl, hok, hkb⟩ := hrel
      by_cases hlt : k < n
      · rcases HR wr hkb with hnil | ⟨g, o, rfl, hrow⟩
        · have := HB.out.2; rw [hnil] at this; simp at this; omega
        · have hkl : k < L.length := by have := HB.out.2; omega
          have LR := hrow.load hkl
          have CTr := CT wr hkb
          obtain ⟨W2, hW2⟩ : ∃ W2, wr.alloc (.cells (rt L k).cs 48) = W2 := ⟨_, rfl⟩
          have S2 := st_rt (q := rt L k) (Blk.new wr 48 Rt.zero.cs)
          rw [World.setRow_alloc_new, hW2] at S2
          have b2 : Blk W2 wr.heap.size 48 (rt L k).cs := by rw [← hW2]; exact Blk.new _ _ _
          have hb2 : Below wr.heap.size wr W2 := by rw [← hW2]; exact (Below.refl _ _).alloc (Nat.le_refl _) _
          have hb12 : Below W1.heap.size W1 W2 := bel_trans hkb hb2
          have LP := rt_p b2
          have LH := rt_h b2
          have CT2 : ∀ w', Below W2.heap.size W2 w' → w'.cell? ⟨w.heap.size, 0, none⟩ = some (.slice (some ⟨g, o, none⟩) n c) := fun w' h => CT w' (bel_trans hb12 h)
          have LQ : ∀ w', Below W2.heap.size W2 w' → 0 < k → (loadSem 38 (.pointer (some ⟨g, o + (k - 1) * 19, none⟩))).run Tryd.prog w' = .ok (.agg (rt L (k - 1)).p.cs) w' := fun w' h hk0 => ((hrow.later hb2).later h).loadp (by omega)
          have HRP := refright_any (rt L k).p
          have HCM := refcompare_any (rt L (k - 1)).p (rt L k).p
          have h02 : Below W2.heap.size W2 W2 := Below.refl _ _
          have HK := Lib.hid (And.intro hok hb12)
          clear hok hb12 hb2 b2 hrow CT HR
          by_cases hp : okP (rt L k).p
          · rw [decide_eq_true hp] at HRP
            by_cases hh : 1 ≤ (rt L k).h ∧ (rt L k).h ≤ 255
            · have dh1 : decide ((rt L k).h < 1) = false := decide_eq_false (by omega)
              have dh2 : decide (255 < (rt L k).h) = false := decide_eq_false (by omega)
              by_cases hk0 : 0 < k
              · have dk : decide (0 < (k : Int)) = true := decide_eq_true (by omega)
                have dk2 : decide (0 < k) = true := decide_eq_true hk0
                have e1 : ((k : Int) - 1) = ((k - 1 : Nat) : Int) := by omega
                have e2 : k - 1 < n := by omega
                have LQ2 := fun w' h => LQ w' h hk0
                clear LQ
                by_cases hc : cmpP (rt L (k - 1)).p (rt L k).p < 0
                · have dc : decide (0 ≤ cmpP (rt L (k - 1)).p (rt L k).p) = false := decide_eq_false (by omega)
                  have HN := Lib.hid (show ∀ j, j < k + 1 → okR (rt L j) ∧ (0 < j → ltR (rt L (j - 1)) (rt L j)) from fun j hj => by
                    by_cases e : j = k
                    · rw [e]; exact ⟨⟨hp, hh⟩, fun _ => hc⟩
                    · exact HK.out.1 j (by omega))
                  clear hp hh hc
                  generalize (rt L k).h = hv at *
                  generalize cmpP (rt L (k - 1)).p (rt L k).p = cv at *
                  generalize (rt L (k - 1)).p = pq at *
                  generalize hkk : k - 1 = k1 at *
                  have HKK := Lib.hid hkk
                  clear hkk hk0
                  go_wp2_with (first | (with_reducible refine wpList_alloc_z rfl 48 rfl Rt.zero.cs 19 z_rt ?_) | (go_at_call 28; refine (HRP _).mono ?_; rintro e w2 ⟨rfl, hb2⟩; have hk2 : Below W2.heap.size W2 w2 := (by first | exact bel_trans (by assumption) hb2 | (subst hb2; assumption)); clear hb2) | (go_at_call 29; refine (HCM _).mono ?_; rintro e w2 ⟨rfl, hb2⟩; have hk2 : Below W2.heap.size W2 w2 := (by first | exact bel_trans (by assumption) hb2 | (subst hb2; assumption)); clear hb2) | (refine wp_region_lin (fun w' => Below W2.heap.size W2 w') (by kernel_rfl) (by kernel_rfl) (bel_drew (by assumption)) ?_; (repeat (first | (refine lin_off (by rfl) ?_; (try simp only [Act.put, List.setIfInBounds_toArray, List.set_cons_zero, List.set_cons_succ])) | (refine lin_op (v := ?_) (by rfl) (fun w9 hS9 => ?_) ?_; rotate_left; (focus (((try dsimp only at hS9); go_simp; (try go_bits)) <;> with_reducible rfl)); (try simp only [Act.put, List.setIfInBounds_toArray, List.set_cons_zero, List.set_cons_succ])) | (refine lin_fn (f := 28) (by rfl) rfl rfl (enters_of Tryd.func28 (by kernel_rfl) rfl) (fun w9 hS9 => (HRP w9).mono (fun e w' h => ⟨h.1, (by first | exact bel_trans hS9 h.2 | (rw [← h.2]; exact hS9))⟩)) ?_ ?_; (focus (simp [Act.eval]; done)); (try simp only [Act.put, List.setIfInBounds_toArray, List.set_cons_zero, List.set_cons_succ])) | (refine lin_fn (f := 29) (by rfl) rfl rfl (enters_of Tryd.func29 (by kernel_rfl) rfl) (fun w9 hS9 => (HCM w9).mono (fun e w' h => ⟨h.1, (by first | exact bel_trans hS9 h.2 | (rw [← h.2]; exact hS9))⟩)) ?_ ?_; (focus (simp [Act.eval]; done)); (try simp only [Act.put, List.setIfInBounds_toArray, List.set_cons_zero, List.set_cons_succ])))); refine lin_nil (fun w8 hS8 => ?_)))
                  go_roundw
                  case rel => exact ⟨k + 1, by omega, by go_num, HN.out, bel_trans HK.out.2 (by assumption)⟩
                  case measure => simp [intOf]; omega
                · have dc : decide (0 ≤ cmpP (rt L (k - 1)).p (rt L k).p) = true := decide_eq_true (by omega)
                  have HE := Lib.hid (decide_eq_false (fun h : okT L => hc (((okT_iff L).1 h).2 k hkl |>.2 hk0)))
                  clear hp hh hc
                  generalize (rt L k).h = hv at *
                  generalize cmpP (rt L (k - 1)).p (rt L k).p = cv at *
                  generalize (rt L (k - 1)).p = pq at *
                  generalize hkk : k - 1 = k1 at *
                  have HKK := Lib.hid hkk
                  clear hkk hk0
                  go_wp2_with (first | (with_reducible refine wpList_alloc_z rfl 48 rfl Rt.zero.cs 19 z_rt ?_) | (go_at_call 28; refine (HRP _).mono ?_; rintro e w2 ⟨rfl, hb2⟩; have hk2 : Below W2.heap.size W2 w2 := (by first | exact bel_trans (by assumption) hb2 | (subst hb2; assumption)); clear hb2) | (go_at_call 29; refine (HCM _).mono ?_; rintro e w2 ⟨rfl, hb2⟩; have hk2 : Below W2.heap.size W2 w2 := (by first | exact bel_trans (by assumption) hb2 | (subst hb2; assumption)); clear hb2) | (refine wp_region_lin (fun w' => Below W2.heap.size W2 w') (by kernel_rfl) (by kernel_rfl) (bel_drew (by assumption)) ?_; (repeat (first | (refine lin_off (by rfl) ?_; (try simp only [Act.put, List.setIfInBounds_toArray, List.set_cons_zero, List.set_cons_succ])) | (refine lin_op (v := ?_) (by rfl) (fun w9 hS9 => ?_) ?_; rotate_left; (focus (((try dsimp only at hS9); go_simp; (try go_bits)) <;> with_reducible rfl)); (try simp only [Act.put, List.setIfInBounds_toArray, List.set_cons_zero, List.set_cons_succ])) | (refine lin_fn (f := 28) (by rfl) rfl rfl (enters_of Tryd.func28 (by kernel_rfl) rfl) (fun w9 hS9 => (HRP w9).mono (fun e w' h => ⟨h.1, (by first | exact bel_trans hS9 h.2 | (rw [← h.2]; exact hS9))⟩)) ?_ ?_; (focus (simp [Act.eval]; done)); (try simp only [Act.put, List.setIfInBounds_toArray, List.set_cons_zero, List.set_cons_succ])) | (refine lin_fn (f := 29) (by rfl) rfl rfl (enters_of Tryd.func29 (by kernel_rfl) rfl) (fun w9 hS9 => (HCM w9).mono (fun e w' h => ⟨h.1, (by first | exact bel_trans hS9 h.2 | (rw [← h.2]; exact hS9))⟩)) ?_ ?_; (focus (simp [Act.eval]; done)); (try simp only [Act.put, List.setIfInBounds_toArray, List.set_cons_zero, List.set_cons_succ])))); refine lin_nil (fun w8 hS8 => ?_)))
                  all_goals go_ret
                  all_goals exact ⟨by rw [HE.out]; rfl, bel_trans HB.out.1 (bel_trans HK.out.2 (by assumption))⟩
              · obtain rfl : k = 0 := by omega
                have HN := Lib.hid (show ∀ j, j < 0 + 1 → okR (rt L j) ∧ (0 < j → ltR (rt L (j - 1)) (rt L j)) from fun j hj => by
                  by_cases e : j = 0
                  · rw [e]; exact ⟨⟨hp, hh⟩, fun h => by omega⟩
                  · exact HK.out.1 j (by omega))
                rw [Nat.zero_mul, Nat.add_zero] at LR
                clear hp hh LQ HCM
                generalize (rt L 0).h = hv at *
                go_wp2_with (first | (with_reducible refine wpList_alloc_z rfl 48 rfl Rt.zero.cs 19 z_rt ?_) | (go_at_call 28; refine (HRP _).mono ?_; rintro e w2 ⟨rfl, hb2⟩; have hk2 : Below W2.heap.size W2 w2 := (by first | exact bel_trans (by assumption) hb2 | (subst hb2; assumption)); clear hb2) | (refine wp_region_lin (fun w' => Below W2.heap.size W2 w') (by kernel_rfl) (by kernel_rfl) (bel_drew (by assumption)) ?_; (repeat (first | (refine lin_off (by rfl) ?_; (try simp only [Act.put, List.setIfInBounds_toArray, List.set_cons_zero, List.set_cons_succ])) | (refine lin_op (v := ?_) (by rfl) (fun w9 hS9 => ?_) ?_; rotate_left; (focus (((try dsimp only at hS9); go_simp; (try go_bits)) <;> with_reducible rfl)); (try simp only [Act.put, List.setIfInBounds_toArray, List.set_cons_zero, List.set_cons_succ])) | (refine lin_fn (f := 28) (by rfl) rfl rfl (enters_of Tryd.func28 (by kernel_rfl) rfl) (fun w9 hS9 => (HRP w9).mono (fun e w' h => ⟨h.1, (by first | exact bel_trans hS9 h.2 | (rw [← h.2]; exact hS9))⟩)) ?_ ?_; (focus (simp [Act.eval]; done)); (try simp only [Act.put, List.setIfInBounds_toArray, List.set_cons_zero, List.set_cons_succ])))); refine lin_nil (fun w8 hS8 => ?_)))
                go_roundw
                case rel => exact ⟨0 + 1, by omega, by go_num, HN.out, bel_trans HK.out.2 (by assumption)⟩
                case measure => simp [intOf]; omega
            · by_cases hh1 : (rt L k).h < 1
              · have dh1 : decide ((rt L k).h < 1) = true := decide_eq_true hh1
                have HE := Lib.hid (decide_eq_false (fun h : okT L => hh (((okT_iff L).1 h).2 k hkl).1.2))
                clear hp hh hh1 LQ HCM
                generalize (rt L k).h = hv at *
                go_wp2_with (first | (with_reducible refine wpList_alloc_z rfl 48 rfl Rt.zero.cs 19 z_rt ?_) | (go_at_call 28; refine (HRP _).mono ?_; rintro e w2 ⟨rfl, hb2⟩; have hk2 : Below W2.heap.size W2 w2 := (by first | exact bel_trans (by assumption) hb2 | (subst hb2; assumption)); clear hb2) | (refine wp_region_lin (fun w' => Below W2.heap.size W2 w') (by kernel_rfl) (by kernel_rfl) (bel_drew (by assumption)) ?_; (repeat (first | (refine lin_off (by rfl) ?_; (try simp only [Act.put, List.setIfInBounds_toArray, List.set_cons_zero, List.set_cons_succ])) | (refine lin_op (v := ?_) (by rfl) (fun w9 hS9 => ?_) ?_; rotate_left; (focus (((try dsimp only at hS9); go_simp; (try go_bits)) <;> with_reducible rfl)); (try simp only [Act.put, List.setIfInBounds_toArray, List.set_cons_zero, List.set_cons_succ])) | (refine lin_fn (f := 28) (by rfl) rfl rfl (enters_of Tryd.func28 (by kernel_rfl) rfl) (fun w9 hS9 => (HRP w9).mono (fun e w' h => ⟨h.1, (by first | exact bel_trans hS9 h.2 | (rw [← h.2]; exact hS9))⟩)) ?_ ?_; (focus (simp [Act.eval]; done)); (try simp only [Act.put, List.setIfInBounds_toArray, List.set_cons_zero, List.set_cons_succ])))); refine lin_nil (fun w8 hS8 => ?_)))
                all_goals go_ret
                all_goals exact ⟨by rw [HE.out]; rfl, bel_trans HB.out.1 (bel_trans HK.out.2 (by assumption))⟩
              · have dh1 : decide ((rt L k).h < 1) = false := decide_eq_false hh1
                have dh2 : decide (255 < (rt L k).h) = true := decide_eq_true (by omega)
                have HE := Lib.hid (decide_eq_false (fun h : okT L => hh (((okT_iff L).1 h).2 k hkl).1.2))
                clear hp hh hh1 LQ HCM
                generalize (rt L k).h = hv at *
                go_wp2_with (first | (with_reducible refine wpList_alloc_z rfl 48 rfl Rt.zero.cs 19 z_rt ?_) | (go_at_call 28; refine (HRP _).mono ?_; rintro e w2 ⟨rfl, hb2⟩; have hk2 : Below W2.heap.size W2 w2 := (by first | exact bel_trans (by assumption) hb2 | (subst hb2; assumption)); clear hb2) | (refine wp_region_lin (fun w' => Below W2.heap.size W2 w') (by kernel_rfl) (by kernel_rfl) (bel_drew (by assumption)) ?_; (repeat (first | (refine lin_off (by rfl) ?_; (try simp only [Act.put, List.setIfInBounds_toArray, List.set_cons_zero, List.set_cons_succ])) | (refine lin_op (v := ?_) (by rfl) (fun w9 hS9 => ?_) ?_; rotate_left; (focus (((try dsimp only at hS9); go_simp; (try go_bits)) <;> with_reducible rfl)); (try simp only [Act.put, List.setIfInBounds_toArray, List.set_cons_zero, List.set_cons_succ])) | (refine lin_fn (f := 28) (by rfl) rfl rfl (enters_of Tryd.func28 (by kernel_rfl) rfl) (fun w9 hS9 => (HRP w9).mono (fun e w' h => ⟨h.1, (by first | exact bel_trans hS9 h.2 | (rw [← h.2]; exact hS9))⟩)) ?_ ?_; (focus (simp [Act.eval]; done)); (try simp only [Act.put, List.setIfInBounds_toArray, List.set_cons_zero, List.set_cons_succ])))); refine lin_nil (fun w8 hS8 => ?_)))
                all_goals go_ret
                all_goals exact ⟨by rw [HE.out]; rfl, bel_trans HB.out.1 (bel_trans HK.out.2 (by assumption))⟩
          · rw [decide_eq_false hp] at HRP
            have HE := Lib.hid (decide_eq_false (fun h : okT L => hp (((okT_iff L).1 h).2 k hkl).1.1))
            clear hp LQ HCM
            generalize (rt L k).h = hv at *
            go_wp2_with (first | (with_reducible refine wpList_alloc_z rfl 48 rfl Rt.zero.cs 19 z_rt ?_) | (go_at_call 28; refine (HRP _).mono ?_; rintro e w2 ⟨rfl, hb2⟩; have hk2 : Below W2.heap.size W2 w2 := (by first | exact bel_trans (by assumption) hb2 | (subst hb2; assumption)); clear hb2) | (refine wp_region_lin (fun w' => Below W2.heap.size W2 w') (by kernel_rfl) (by kernel_rfl) (bel_drew (by assumption)) ?_; (repeat (first | (refine lin_off (by rfl) ?_; (try simp only [Act.put, List.setIfInBounds_toArray, List.set_cons_zero, List.set_cons_succ])) | (refine lin_op (v := ?_) (by rfl) (fun w9 hS9 => ?_) ?_; rotate_left; (focus (((try dsimp only at hS9); go_simp; (try go_bits)) <;> with_reducible rfl)); (try simp only [Act.put, List.setIfInBounds_toArray, List.set_cons_zero, List.set_cons_succ])) | (refine lin_fn (f := 28) (by rfl) rfl rfl (enters_of Tryd.func28 (by kernel_rfl) rfl) (fun w9 hS9 => (HRP w9).mono (fun e w' h => ⟨h.1, (by first | exact bel_trans hS9 h.2 | (rw [← h.2]; exact hS9))⟩)) ?_ ?_; (focus (simp [Act.eval]; done)); (try simp only [Act.put, List.setIfInBounds_toArray, List.set_cons_zero, List.set_cons_succ])))); refine lin_nil (fun w8 hS8 => ?_)))
            all_goals go_ret
            all_goals exact ⟨by rw [HE.out]; rfl, bel_trans HB.out.1 (bel_trans HK.out.2 (by assumption))⟩
      · obtain rfl : k = n := by omega
        have CTr := CT wr hkb
        have HE := Lib.hid (decide_eq_true ((okT_iff L).2 ⟨by have := HB.out.2; omega, fun i hi => hok i (by have := HB.out.2; omega)⟩))
        clear hok HR CT
        go_wp2
        go_ret
        exact ⟨by rw [HE.out]; rfl, bel_trans HB.out.1 (by assumption)⟩
end Go.Proofs.YtdbdmnahgkkjiaaDoor
