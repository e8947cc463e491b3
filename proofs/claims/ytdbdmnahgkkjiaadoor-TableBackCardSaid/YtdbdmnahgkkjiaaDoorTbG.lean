/-
  The contract of table.Longest. Nothing here is a statement of the document.
-/
import Derived.Test.YtdbdmnahgkkjiaaDoorTbF
namespace Go.Proofs.YtdbdmnahgkkjiaaDoor
open Go.RowKit Go.Shelf
set_option linter.unusedVariables false
set_option maxRecDepth 100000

theorem load_tab_rule (v : Value) : Instr.loadAt 24 v = loadSem 24 v := rfl
theorem build_tab_rule (ps : Array (Nat × Value)) : Instr.build 24 ps = buildSem 24 ps := rfl
theorem build_rt_rule (ps : Array (Nat × Value)) : Instr.build 48 ps = buildSem 48 ps := rfl
theorem build_tab0 (w : World) : (buildSem 24 #[]).run Tryd.prog w = .ok (.agg #[.slice none 0 0]) w := by kernel_rfl
theorem build_tab1 (a : Option Addr) (n c : Nat) (w : World) : (buildSem 24 #[(0, .slice a n c)]).run Tryd.prog w = .ok (.agg #[.slice a n c]) w := by kernel_rfl
theorem build_rt0 (w : World) : (buildSem 48 #[]).run Tryd.prog w = .ok (.agg Rt.zero.cs) w := by kernel_rfl
theorem build_rt (p : Px) (h : Int) (w : World) : (buildSem 48 #[(0, .agg p.cs), (1, .int .i64 h)]).run Tryd.prog w = .ok (.agg (Rt.mk p h).cs) w := by
  unfold Rt.cs
  show (buildSem 48 #[(0, .agg p.cs), (1, .int .i64 h)]).run Tryd.prog w = .ok (.agg (p.cs ++ #[.int .i64 h])) w
  unfold Px.cs Ad.cs
  obtain ⟨a0, a1, a2, a3, a4, a5, a6, a7, a8, a9, a10, a11, a12, a13, a14, a15, hh⟩ := p.a.b.out
  rw [hh]
  kernel_rfl
theorem tab_t {W : World} {g : Nat} {a : Option Addr} {n c : Nat} (h : Blk W g 24 #[.slice a n c]) : ∀ w', Below W.heap.size W w' → (loadSem 24 (.pointer (some ⟨g, 0, none⟩))).run Tryd.prog w' = .ok (.agg #[.slice a n c]) w' :=
  fun w' k => loadRes_of (o := 0) (h.later k) (fun q _ => by rw [Nat.zero_add]) _ Tryd.underlying24 rfl (zero_of_info z_tab).2
theorem tab_c {W : World} {g : Nat} {a : Option Addr} {n c : Nat} (h : Blk W g 24 #[.slice a n c]) : ∀ w', Below W.heap.size W w' → w'.cell? ⟨g, 0, none⟩ = some (.slice a n c) := fun w' k => (h.later k).cell 0

noncomputable def lgE (L : List Rt) (x : Ad) : Int := if ¬ okT L then 190 else if ¬ okA x then 150 else 0
noncomputable def lgR (L : List Rt) (x : Ad) : Rt := if lgE L x = 0 then longR L x else Rt.zero
noncomputable def lgB (L : List Rt) (x : Ad) : Bool := if lgE L x = 0 then longB L x else false
attribute [local go_sem ↓] load_b16_rule store_b16_rule load_ad_rule store_ad_rule load_px_rule store_px_rule eq_b16_rule eq_ad_rule eq_px_rule load_rt_rule store_rt_rule build_ad_rule build_px_rule build_b16_rule build_rt_rule load_tab_rule build_tab_rule

set_option maxHeartbeats 4000000 in
theorem longest_any (a : Option Addr) (n c : Nat) (L : List Rt) (x : Ad) (w : World) (hW : Wid w) (hn : L.length = n) (hm : n ≤ 9223372036854775807) (hR : RowsAt w a L) :
    Calls Tryd.prog 23 #[.agg #[.slice a n c], .agg x.cs] w fun e w' => e = .returned (.tuple #[.agg (lgR L x).cs, .bool (lgB L x), .int .i64 (lgE L x)]) ∧ Below w.heap.size w w' := by
  obtain ⟨W0, hW0⟩ : ∃ W0, (w.alloc (.cells #[.slice a n c] 24)).alloc (.cells x.cs 36) = W0 := ⟨_, rfl⟩
  obtain ⟨W1, hW1⟩ : ∃ W1, W0.alloc (.cells Rt.zero.cs 48) = W1 := ⟨_, rfl⟩
  have sz0 : W0.heap.size = w.heap.size + 2 := by rw [← hW0]; simp
  have hb0 : Below w.heap.size w W0 := by rw [← hW0]; exact (((Below.refl w.heap.size w).alloc (Nat.le_refl _) _).alloc (by simp) _)
  have hb01 : Below W0.heap.size W0 W1 := by rw [← hW1]; exact (Below.refl _ _).alloc (Nat.le_refl _) _
  have hb1 : Below w.heap.size w W1 := bel_trans hb0 hb01
  have b3 : Blk W1 W0.heap.size 48 Rt.zero.cs := by rw [← hW1]; exact Blk.new _ _ _
  have b1 : Blk W1 w.heap.size 24 #[.slice a n c] := by
    have h9 := (Blk.new w 24 #[.slice a n c]).alloc (.cells x.cs 36)
    rw [hW0] at h9
    exact h9.later hb01
  have b2 : Blk W1 (w.heap.size + 1) 36 x.cs := by
    have h9 := Blk.new (w.alloc (.cells #[.slice a n c] 24)) 36 x.cs
    rw [World.size_alloc, hW0] at h9
    exact h9.later hb01
  have LT := tab_t b1
  have CT := tab_c b1
  have LX := ad_a b2
  have HR : ∀ w', Below W1.heap.size W1 w' → RowsAt w' a L := fun w' h => (hR.later hb1).later h
  have HW : ∀ w', Below W1.heap.size W1 w' → Wid w' := fun w' h => (hW.later hb1).later h
  have h0 : Below W1.heap.size W1 W1 := Below.refl _ _
  have HB := Lib.hid (And.intro hb1 (And.intro b3 sz0))
  have ST := fun (q : Rt) w' (h : Below W1.heap.size W1 w') => st_rt (q := q) (b3.later h)
  have STZ := ST Rt.zero
  have HCK := fun w' h => tcheck_any a n c L w' (HW w' h) hn hm (HR w' h)
  have HCA := fun w' h => checkaddr_any x w' (HW w' h)
  have HLA := fun w' h => last_has a n c L x w' (HW w' h) hn hm (HR w' h)
  by_cases h1 : okT L
  · rw [eT_ok h1] at HCK
    by_cases h2 : okA x
    · rw [eA_ok h2] at HCA
      have e0 : lgE L x = 0 := by unfold lgE; rw [if_neg (by simpa using h1), if_neg (by simpa using h2)]
      have e1 : lgR L x = longR L x := if_pos e0
      have e2 : lgB L x = longB L x := if_pos e0
      have e3 : lastM (hasQ x) L n = hasIx L x := by unfold hasIx; rw [hn]
      rw [e3] at HLA
      rcases has_ix h1.2.2 x with ⟨i, i1, i2, i3⟩ | ⟨i1, i2⟩
      · have e4 : longR L x = rt L i := by unfold longR; rw [i2, if_neg (by omega), Int.toNat_natCast]
        have e5 : longB L x = true := by unfold longB; rw [i2]; simp
        rw [i2] at HLA
        have di : ((i : Int) == -1) = false := by simp
        have LR : ∀ w', Below W1.heap.size W1 w' → ∃ g o, a = some ⟨g, o, none⟩ ∧ (loadSem 48 (.pointer (some ⟨g, o + i * 19, none⟩))).run Tryd.prog w' = .ok (.agg (rt L i).cs) w' := fun w' h => by
          obtain ⟨g, o, e, hr⟩ := (HR w' h).spot i1
          exact ⟨g, o, e, hr.load i1⟩
        obtain ⟨g, o, rfl, _⟩ := LR W1 h0
        have LR2 : ∀ w', Below W1.heap.size W1 w' → (loadSem 48 (.pointer (some ⟨g, o + i * 19, none⟩))).run Tryd.prog w' = .ok (.agg (rt L i).cs) w' := fun w' h => by
          obtain ⟨g2, o2, e, hr⟩ := LR w' h
          cases e
          exact hr
        have hil : i < n := by omega
        have HE := Lib.hid (And.intro e0 (And.intro (e1.trans e4) (e2.trans e5)))
        have STI := ST (rt L i)
        clear e0 e1 e2 e3 e4 e5 i1 i2 i3 h1 h2 hR hW HR HW hb1 b1 b2 b3 hb0 hb01 sz0 ST LR
        go_enter Tryd.func23, Tryd.ntmps23
        go_wp2_with (first | (with_reducible refine wpList_alloc_z rfl 48 rfl Rt.zero.cs 19 z_rt ?_) | (go_at_call 25; refine (HCK _ (by assumption)).mono ?_; rintro e w2 ⟨rfl, hb2⟩; have hk2 : Below W1.heap.size W1 w2 := (by first | exact bel_trans (by assumption) hb2 | (subst hb2; assumption)); clear hb2) | (go_at_call 46; refine (HCA _ (by assumption)).mono ?_; rintro e w2 ⟨rfl, hb2⟩; have hk2 : Below W1.heap.size W1 w2 := (by first | exact bel_trans (by assumption) hb2 | (subst hb2; assumption)); clear hb2) | (go_at_call 47; refine (HLA _ (by assumption)).mono ?_; rintro e w2 ⟨rfl, hb2⟩; have hk2 : Below W1.heap.size W1 w2 := (by first | exact bel_trans (by assumption) hb2 | (subst hb2; assumption)); clear hb2) | (refine wp_region_lin (fun w' => Below W1.heap.size W1 w') (by kernel_rfl) (by kernel_rfl) (bel_drew (by assumption)) ?_; (repeat (first | (refine lin_off (by rfl) ?_; (try simp only [Act.put, List.setIfInBounds_toArray, List.set_cons_zero, List.set_cons_succ])) | (refine lin_op (v := ?_) (by rfl) (fun w9 hS9 => ?_) ?_; rotate_left; (focus (((try dsimp only at hS9); go_simp; (try go_bits)) <;> with_reducible rfl)); (try simp only [Act.put, List.setIfInBounds_toArray, List.set_cons_zero, List.set_cons_succ])) | (refine lin_fn (f := 25) (by rfl) rfl rfl (enters_of Tryd.func25 (by kernel_rfl) rfl) (fun w9 hS9 => (HCK w9 hS9).mono (fun e w' h => ⟨h.1, (by first | exact bel_trans hS9 h.2 | (rw [← h.2]; exact hS9))⟩)) ?_ ?_; (focus (simp [Act.eval]; done)); (try simp only [Act.put, List.setIfInBounds_toArray, List.set_cons_zero, List.set_cons_succ])) | (refine lin_fn (f := 46) (by rfl) rfl rfl (enters_of Tryd.func46 (by kernel_rfl) rfl) (fun w9 hS9 => (HCA w9 hS9).mono (fun e w' h => ⟨h.1, (by first | exact bel_trans hS9 h.2 | (rw [← h.2]; exact hS9))⟩)) ?_ ?_; (focus (simp [Act.eval]; done)); (try simp only [Act.put, List.setIfInBounds_toArray, List.set_cons_zero, List.set_cons_succ])) | (refine lin_fn (f := 47) (by rfl) rfl rfl (enters_of Tryd.func47 (by kernel_rfl) rfl) (fun w9 hS9 => (HLA w9 hS9).mono (fun e w' h => ⟨h.1, (by first | exact bel_trans hS9 h.2 | (rw [← h.2]; exact hS9))⟩)) ?_ ?_; (focus (simp [Act.eval]; done)); (try simp only [Act.put, List.setIfInBounds_toArray, List.set_cons_zero, List.set_cons_succ])))); refine lin_nil (fun w8 hS8 => ?_)))
        all_goals refine bodyPost_ret (results_blk2 rfl _ _ W0.heap.size _ _ rfl ((HB.out.2.1.later (by assumption)).row _) Tryd.underlying48 rfl (s_rt _)) rfl ?_
        all_goals exact ⟨by rw [HE.out.1, HE.out.2.1, HE.out.2.2]; rfl, below_setRow (bel_trans HB.out.1 (by assumption)) (by have := HB.out.2.2; omega) _⟩
      · have e4 : longR L x = Rt.zero := by unfold longR; rw [i1]; rfl
        have e5 : longB L x = false := by unfold longB; rw [i1]; simp
        rw [i1] at HLA
        have B0 := build_rt0
        have HE := Lib.hid (And.intro e0 (And.intro (e1.trans e4) (e2.trans e5)))
        clear e0 e1 e2 e3 e4 e5 i1 i2 h1 h2 hR hW HR HW hb1 b1 b2 b3 hb0 hb01 sz0 ST
        go_enter Tryd.func23, Tryd.ntmps23
        go_wp2_with (first | (with_reducible refine wpList_alloc_z rfl 48 rfl Rt.zero.cs 19 z_rt ?_) | (go_at_call 25; refine (HCK _ (by assumption)).mono ?_; rintro e w2 ⟨rfl, hb2⟩; have hk2 : Below W1.heap.size W1 w2 := (by first | exact bel_trans (by assumption) hb2 | (subst hb2; assumption)); clear hb2) | (go_at_call 46; refine (HCA _ (by assumption)).mono ?_; rintro e w2 ⟨rfl, hb2⟩; have hk2 : Below W1.heap.size W1 w2 := (by first | exact bel_trans (by assumption) hb2 | (subst hb2; assumption)); clear hb2) | (go_at_call 47; refine (HLA _ (by assumption)).mono ?_; rintro e w2 ⟨rfl, hb2⟩; have hk2 : Below W1.heap.size W1 w2 := (by first | exact bel_trans (by assumption) hb2 | (subst hb2; assumption)); clear hb2) | (refine wp_region_lin (fun w' => Below W1.heap.size W1 w') (by kernel_rfl) (by kernel_rfl) (bel_drew (by assumption)) ?_; (repeat (first | (refine lin_off (by rfl) ?_; (try simp only [Act.put, List.setIfInBounds_toArray, List.set_cons_zero, List.set_cons_succ])) | (refine lin_op (v := ?_) (by rfl) (fun w9 hS9 => ?_) ?_; rotate_left; (focus (((try dsimp only at hS9); go_simp; (try go_bits)) <;> with_reducible rfl)); (try simp only [Act.put, List.setIfInBounds_toArray, List.set_cons_zero, List.set_cons_succ])) | (refine lin_fn (f := 25) (by rfl) rfl rfl (enters_of Tryd.func25 (by kernel_rfl) rfl) (fun w9 hS9 => (HCK w9 hS9).mono (fun e w' h => ⟨h.1, (by first | exact bel_trans hS9 h.2 | (rw [← h.2]; exact hS9))⟩)) ?_ ?_; (focus (simp [Act.eval]; done)); (try simp only [Act.put, List.setIfInBounds_toArray, List.set_cons_zero, List.set_cons_succ])) | (refine lin_fn (f := 46) (by rfl) rfl rfl (enters_of Tryd.func46 (by kernel_rfl) rfl) (fun w9 hS9 => (HCA w9 hS9).mono (fun e w' h => ⟨h.1, (by first | exact bel_trans hS9 h.2 | (rw [← h.2]; exact hS9))⟩)) ?_ ?_; (focus (simp [Act.eval]; done)); (try simp only [Act.put, List.setIfInBounds_toArray, List.set_cons_zero, List.set_cons_succ])) | (refine lin_fn (f := 47) (by rfl) rfl rfl (enters_of Tryd.func47 (by kernel_rfl) rfl) (fun w9 hS9 => (HLA w9 hS9).mono (fun e w' h => ⟨h.1, (by first | exact bel_trans hS9 h.2 | (rw [← h.2]; exact hS9))⟩)) ?_ ?_; (focus (simp [Act.eval]; done)); (try simp only [Act.put, List.setIfInBounds_toArray, List.set_cons_zero, List.set_cons_succ])))); refine lin_nil (fun w8 hS8 => ?_)))
        all_goals refine bodyPost_ret (results_blk2 rfl _ _ W0.heap.size _ _ rfl ((HB.out.2.1.later (by assumption)).row _) Tryd.underlying48 rfl (s_rt _)) rfl ?_
        all_goals exact ⟨by rw [HE.out.1, HE.out.2.1, HE.out.2.2]; rfl, below_setRow (bel_trans HB.out.1 (by assumption)) (by have := HB.out.2.2; omega) _⟩
    · rw [eA_no h2] at HCA
      have e0 : lgE L x = 150 := by unfold lgE; rw [if_neg (by simpa using h1), if_pos h2]
      have e1 : lgR L x = Rt.zero := if_neg (by rw [e0]; omega)
      have e2 : lgB L x = false := if_neg (by rw [e0]; omega)
      have B0 := build_rt0
      have HE := Lib.hid (And.intro e0 (And.intro e1 e2))
      clear e0 e1 e2 h1 h2 hR hW HR HW hb1 b1 b2 b3 hb0 hb01 sz0 ST HLA
      go_enter Tryd.func23, Tryd.ntmps23
      go_wp2_with (first | (with_reducible refine wpList_alloc_z rfl 48 rfl Rt.zero.cs 19 z_rt ?_) | (go_at_call 25; refine (HCK _ (by assumption)).mono ?_; rintro e w2 ⟨rfl, hb2⟩; have hk2 : Below W1.heap.size W1 w2 := (by first | exact bel_trans (by assumption) hb2 | (subst hb2; assumption)); clear hb2) | (go_at_call 46; refine (HCA _ (by assumption)).mono ?_; rintro e w2 ⟨rfl, hb2⟩; have hk2 : Below W1.heap.size W1 w2 := (by first | exact bel_trans (by assumption) hb2 | (subst hb2; assumption)); clear hb2) | (refine wp_region_lin (fun w' => Below W1.heap.size W1 w') (by kernel_rfl) (by kernel_rfl) (bel_drew (by assumption)) ?_; (repeat (first | (refine lin_off (by rfl) ?_; (try simp only [Act.put, List.setIfInBounds_toArray, List.set_cons_zero, List.set_cons_succ])) | (refine lin_op (v := ?_) (by rfl) (fun w9 hS9 => ?_) ?_; rotate_left; (focus (((try dsimp only at hS9); go_simp; (try go_bits)) <;> with_reducible rfl)); (try simp only [Act.put, List.setIfInBounds_toArray, List.set_cons_zero, List.set_cons_succ])) | (refine lin_fn (f := 25) (by rfl) rfl rfl (enters_of Tryd.func25 (by kernel_rfl) rfl) (fun w9 hS9 => (HCK w9 hS9).mono (fun e w' h => ⟨h.1, (by first | exact bel_trans hS9 h.2 | (rw [← h.2]; exact hS9))⟩)) ?_ ?_; (focus (simp [Act.eval]; done)); (try simp only [Act.put, List.setIfInBounds_toArray, List.set_cons_zero, List.set_cons_succ])) | (refine lin_fn (f := 46) (by rfl) rfl rfl (enters_of Tryd.func46 (by kernel_rfl) rfl) (fun w9 hS9 => (HCA w9 hS9).mono (fun e w' h => ⟨h.1, (by first | exact bel_trans hS9 h.2 | (rw [← h.2]; exact hS9))⟩)) ?_ ?_; (focus (simp [Act.eval]; done)); (try simp only [Act.put, List.setIfInBounds_toArray, List.set_cons_zero, List.set_cons_succ])))); refine lin_nil (fun w8 hS8 => ?_)))
      all_goals refine bodyPost_ret (results_blk2 rfl _ _ W0.heap.size _ _ rfl ((HB.out.2.1.later (by assumption)).row _) Tryd.underlying48 rfl (s_rt _)) rfl ?_
      all_goals exact ⟨by rw [HE.out.1, HE.out.2.1, HE.out.2.2]; rfl, below_setRow (bel_trans HB.out.1 (by assumption)) (by have := HB.out.2.2; omega) _⟩
  · rw [eT_no h1] at HCK
    have e0 : lgE L x = 190 := by unfold lgE; rw [if_pos h1]
    have e1 : lgR L x = Rt.zero := if_neg (by rw [e0]; omega)
    have e2 : lgB L x = false := if_neg (by rw [e0]; omega)
    have B0 := build_rt0
    have HE := Lib.hid (And.intro e0 (And.intro e1 e2))
    clear e0 e1 e2 h1 hR hW HR HW hb1 b1 b2 b3 hb0 hb01 sz0 ST HLA HCA
    go_enter Tryd.func23, Tryd.ntmps23
    go_wp2_with (first | (with_reducible refine wpList_alloc_z rfl 48 rfl Rt.zero.cs 19 z_rt ?_) | (go_at_call 25; refine (HCK _ (by assumption)).mono ?_; rintro e w2 ⟨rfl, hb2⟩; have hk2 : Below W1.heap.size W1 w2 := (by first | exact bel_trans (by assumption) hb2 | (subst hb2; assumption)); clear hb2) | (refine wp_region_lin (fun w' => Below W1.heap.size W1 w') (by kernel_rfl) (by kernel_rfl) (bel_drew (by assumption)) ?_; (repeat (first | (refine lin_off (by rfl) ?_; (try simp only [Act.put, List.setIfInBounds_toArray, List.set_cons_zero, List.set_cons_succ])) | (refine lin_op (v := ?_) (by rfl) (fun w9 hS9 => ?_) ?_; rotate_left; (focus (((try dsimp only at hS9); go_simp; (try go_bits)) <;> with_reducible rfl)); (try simp only [Act.put, List.setIfInBounds_toArray, List.set_cons_zero, List.set_cons_succ])) | (refine lin_fn (f := 25) (by rfl) rfl rfl (enters_of Tryd.func25 (by kernel_rfl) rfl) (fun w9 hS9 => (HCK w9 hS9).mono (fun e w' h => ⟨h.1, (by first | exact bel_trans hS9 h.2 | (rw [← h.2]; exact hS9))⟩)) ?_ ?_; (focus (simp [Act.eval]; done)); (try simp only [Act.put, List.setIfInBounds_toArray, List.set_cons_zero, List.set_cons_succ])))); refine lin_nil (fun w8 hS8 => ?_)))
    all_goals refine bodyPost_ret (results_blk2 rfl _ _ W0.heap.size _ _ rfl ((HB.out.2.1.later (by assumption)).row _) Tryd.underlying48 rfl (s_rt _)) rfl ?_
    all_goals exact ⟨by rw [HE.out.1, HE.out.2.1, HE.out.2.2]; rfl, below_setRow (bel_trans HB.out.1 (by assumption)) (by have := HB.out.2.2; omega) _⟩
end Go.Proofs.YtdbdmnahgkkjiaaDoor
