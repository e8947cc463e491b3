/-
  The contracts of the reference's Same and Get. Nothing here is a statement of the document.
-/
import Derived.Test.YtfnagfmbhcaphaaDoorTbO
namespace Go.Proofs.YtfnagfmbhcaphaaDoor
open Go.RowKit Go.Shelf
set_option linter.unusedVariables false
set_option maxRecDepth 100000
attribute [local go_sem ↓] load_b16_rule store_b16_rule load_ad_rule store_ad_rule load_px_rule store_px_rule eq_b16_rule eq_ad_rule eq_px_rule load_rt_rule store_rt_rule build_ad_rule build_px_rule build_b16_rule build_rt_rule load_tab_rule build_tab_rule store_tab_rule tbuild_rule tapp_rule tcopy_rule eq_rt_rule tclear_rule

set_option maxHeartbeats 4000000 in
theorem drop_any (a : Option Addr) (n c : Nat) (L : List Rt) (p : Px) (w : World) (hW : Wid w) (hn : L.length = n) (hT : Tbl w a c L) :
    Calls Tryd.prog 13 #[.agg #[.slice a n c], .agg p.cs] w fun e w' => ∃ a' c', e = .returned (.tuple #[.agg #[.slice a' (dropM L p).length c'], .int .i64 (dropE L p)]) ∧ Tbl w' a' c' (dropM L p) ∧ (∀ x, a' = some x → w.heap.size ≤ x.block) ∧ Below w.heap.size w w' := by
  have hR := hT.at'
  have hm : n ≤ 9223372036854775807 := by have := hT.le; have := hT.cap; unfold maxLen at this; omega
  obtain ⟨W0, hW0⟩ : ∃ W0, (w.alloc (.cells #[.slice a n c] 24)).alloc (.cells p.cs 29) = W0 := ⟨_, rfl⟩
  obtain ⟨W1, hW1⟩ : ∃ W1, W0.alloc (.cells #[.slice none 0 0] 24) = W1 := ⟨_, rfl⟩
  have sz0 : W0.heap.size = w.heap.size + 2 := by rw [← hW0]; simp
  have hb0 : Below w.heap.size w W0 := by rw [← hW0]; exact (((Below.refl w.heap.size w).alloc (Nat.le_refl _) _).alloc (by simp) _)
  have hb01 : Below W0.heap.size W0 W1 := by rw [← hW1]; exact (Below.refl _ _).alloc (Nat.le_refl _) _
  have hb1 : Below w.heap.size w W1 := bel_trans hb0 hb01
  have b3 : Blk W1 W0.heap.size 24 #[.slice none 0 0] := by rw [← hW1]; exact Blk.new _ _ _
  have b1 : Blk W1 w.heap.size 24 #[.slice a n c] := by
    have h9 := (Blk.new w 24 #[.slice a n c]).alloc (.cells p.cs 29)
    rw [hW0] at h9
    exact h9.later hb01
  have b2 : Blk W1 (w.heap.size + 1) 29 p.cs := by
    have h9 := Blk.new (w.alloc (.cells #[.slice a n c] 24)) 29 p.cs
    rw [World.size_alloc, hW0] at h9
    exact h9.later hb01
  have LT := tab_t b1
  have CT := tab_c b1
  have LX := px_p b2
  have HR : ∀ w', Below W1.heap.size W1 w' → RowsAt w' a L := fun w' h => (hR.later hb1).later h
  have HW : ∀ w', Below W1.heap.size W1 w' → Wid w' := fun w' h => (hW.later hb1).later h
  have h0 : Below W1.heap.size W1 W1 := Below.refl _ _
  have HB := Lib.hid (And.intro hb1 (And.intro b3 sz0))
  have HCK := fun w' h => tcheck_any a n c L w' (HW w' h) hn hm (HR w' h)
  have BZ := build_tab0
  have ST0 := fun w' (h : Below W1.heap.size W1 w') => st_tab (a2 := none) (n2 := 0) (c2 := 0) (b3.later h)
  by_cases h1 : okT L
  · rw [eT_ok h1] at HCK
    have HCL := fun w' (h : Below W1.heap.size W1 w') => tclone_any a n c L w' hn (by have := h1.1; omega) (HR w' h) hT.nil
    have HLI := fun w' h => last_is a n c L p w' hn hm (HR w' h)
    have e3 : lastM (isQ p) L n = ixM L p := by unfold ixM; rw [hn]
    rw [e3] at HLI
    have HX := Lib.hid (And.intro h1 (And.intro hn b3))
    rcases ix_spec L p with ⟨i, i1, i2, i3, i4⟩ | ⟨i1, i2⟩
    · rw [i2] at HLI
      have di : ((i : Int) == -1) = false := by simp
      have HY := Lib.hid (And.intro i2 i1)
      have wi : wrap64 ((i : Int) + 1) = (i : Int) + 1 := wrap_next (by have := h1.1; omega)
      clear hR hW b1 b2 b3 h1 sz0 hb0 hb01 hb1 hT i1 i2 i3 i4 e3 ST0 BZ HW HR
      go_enter Tryd.func13, Tryd.ntmps13
      go_wp2_with (first | (with_reducible refine wpList_alloc_z rfl 24 rfl #[.slice none 0 0] 1 z_tab ?_) | (go_at_call 20; refine (HCK _ (by assumption)).mono ?_; rintro e w2 ⟨rfl, hb2⟩; have hk2 : Below W1.heap.size W1 w2 := (by first | exact bel_trans (by assumption) hb2 | (subst hb2; assumption)); clear hb2) | (go_at_call 37; refine (HLI _ (by assumption)).mono ?_; rintro e w2 ⟨rfl, hb2⟩; have hk2 : Below W1.heap.size W1 w2 := (by first | exact bel_trans (by assumption) hb2 | (subst hb2; assumption)); clear hb2))
      refine (HCL _ (by assumption)).mono ?_
      rintro e w2 ⟨v, rfl, hown0, hbc0⟩
      obtain ⟨wp, hkp, hbc, hown⟩ : ∃ wp, Below W1.heap.size W1 wp ∧ Below wp.heap.size wp w2 ∧ OwnT w2 wp.heap.size v L := ⟨_, by assumption, hbc0, hown0⟩
      have hk2 : Below W1.heap.size W1 w2 := bel_trans hkp hbc
      have hsp : W1.heap.size ≤ wp.heap.size ∧ wp.heap.size ≤ w2.heap.size := ⟨hkp.size, hbc.size⟩
      obtain ⟨g2, c2, rfl⟩ : ∃ g2 c2, v = .slice (some ⟨g2, 0, none⟩) L.length c2 := by
        rcases hown.2 with ⟨_, h0⟩ | ⟨g', cap, cur, h9, _⟩
        · have := HY.out.2; omega
        · exact ⟨g', cap, h9⟩
      have HDE := delete_any hown HY.out.2 (by have := HX.out.1.1; omega) hsp.2
      rw [hn] at HDE ⊢
      have HS := Lib.hid (And.intro hk2 hsp)
      clear hown0 hbc0 hkp hbc hown hk2 hsp HCL HLI HCK
      go_wp2_with fail
      refine HDE.mono ?_
      rintro e w3 ⟨m, hm9, rfl, hown3, hb3⟩
      have hk3 : Below W1.heap.size W1 w3 := HS.out.1.trans (hb3.mono HS.out.2.1)
      obtain ⟨t3, hx9, hbk⟩ := hown3.tbl2
      clear hx9
      have BT := build_tab1 (some ⟨g2, 0, none⟩) m c2
      have ST3 := st_tab (a2 := some ⟨g2, 0, none⟩) (n2 := m) (c2 := c2) (HB.out.2.1.later hk3)
      have HZ := Lib.hid (And.intro t3 (And.intro hk3 (And.intro hbk hm9)))
      clear t3 hk3 hbk hm9 hown3 hb3 HDE LT LX CT
      go_wp2
      refine bodyPost_ret (results_blk rfl _ _ W0.heap.size _ _ rfl ((HB.out.2.1.later HZ.out.2.1).row _) Tryd.underlying24 rfl s_tab1) rfl ?_
      have e0 : dropE L p = 0 := by unfold dropE; rw [if_neg (by simpa using HX.out.1), if_neg (by rw [HY.out.1]; omega)]
      have e1 : dropM L p = L.eraseIdx i := by
        unfold dropM
        rw [if_pos e0, HY.out.1, Int.toNat_natCast]
      have hW0 := HB.out.2.1.lt
      have hsp1 := HS.out.2.1
      exact ⟨some ⟨g2, 0, none⟩, c2, by rw [e0, e1, ← HZ.out.2.2.2]; rfl, by rw [e1]; exact HZ.out.1.kept ((Kept.refl [W0.heap.size] w3).setRow (.inl (by simp)) _) (fun x hx => by have := HZ.out.2.2.1 x hx; simp; omega), (fun x hx => by have := HZ.out.2.2.1 x hx; have := HB.out.2.2; omega), below_setRow (bel_trans HB.out.1 HZ.out.2.1) (by have := HB.out.2.2; omega) _⟩
    · rw [i1] at HLI
      have di : ((-1 : Int) == -1) = true := by simp
      have e0 : dropE L p = 4 := by unfold dropE; rw [if_neg (by simpa using h1), if_pos i1]
      have e1 : dropM L p = [] := if_neg (by rw [e0]; omega)
      have HE := Lib.hid (And.intro e0 e1)
      clear hR hW b1 b2 b3 h1 sz0 hb0 hb01 hb1 hT i1 i2 e0 e1 e3 HCL HW HR
      go_enter Tryd.func13, Tryd.ntmps13
      go_wp2_with (first | (with_reducible refine wpList_alloc_z rfl 24 rfl #[.slice none 0 0] 1 z_tab ?_) | (go_at_call 20; refine (HCK _ (by assumption)).mono ?_; rintro e w2 ⟨rfl, hb2⟩; have hk2 : Below W1.heap.size W1 w2 := (by first | exact bel_trans (by assumption) hb2 | (subst hb2; assumption)); clear hb2) | (go_at_call 37; refine (HLI _ (by assumption)).mono ?_; rintro e w2 ⟨rfl, hb2⟩; have hk2 : Below W1.heap.size W1 w2 := (by first | exact bel_trans (by assumption) hb2 | (subst hb2; assumption)); clear hb2) | (refine wp_region_lin (fun w' => Below W1.heap.size W1 w') (by kernel_rfl) (by kernel_rfl) (bel_drew (by assumption)) ?_; (repeat (first | (refine lin_off (by rfl) ?_; (try simp only [Act.put, List.setIfInBounds_toArray, List.set_cons_zero, List.set_cons_succ])) | (refine lin_op (v := ?_) (by rfl) (fun w9 hS9 => ?_) ?_; rotate_left; (focus (((try dsimp only at hS9); go_simp; (try go_bits)) <;> with_reducible rfl)); (try simp only [Act.put, List.setIfInBounds_toArray, List.set_cons_zero, List.set_cons_succ])) | (refine lin_fn (f := 20) (by rfl) rfl rfl (enters_of Tryd.func20 (by kernel_rfl) rfl) (fun w9 hS9 => (HCK w9 hS9).mono (fun e w' h => ⟨h.1, (by first | exact bel_trans hS9 h.2 | (rw [← h.2]; exact hS9))⟩)) ?_ ?_; (focus (simp [Act.eval]; done)); (try simp only [Act.put, List.setIfInBounds_toArray, List.set_cons_zero, List.set_cons_succ])) | (refine lin_fn (f := 37) (by rfl) rfl rfl (enters_of Tryd.func37 (by kernel_rfl) rfl) (fun w9 hS9 => (HLI w9 hS9).mono (fun e w' h => ⟨h.1, (by first | exact bel_trans hS9 h.2 | (rw [← h.2]; exact hS9))⟩)) ?_ ?_; (focus (simp [Act.eval]; done)); (try simp only [Act.put, List.setIfInBounds_toArray, List.set_cons_zero, List.set_cons_succ])))); refine lin_nil (fun w8 hS8 => ?_)))
      all_goals refine bodyPost_ret (results_blk rfl _ _ W0.heap.size _ _ rfl ((HB.out.2.1.later (by assumption)).row _) Tryd.underlying24 rfl s_tab1) rfl ?_
      all_goals exact ⟨none, 0, by rw [HE.out.1, HE.out.2]; rfl, by rw [HE.out.2]; exact Tbl.none _, (fun x hx => by cases hx), below_setRow (bel_trans HB.out.1 (by assumption)) (by have := HB.out.2.2; omega) _⟩
  · rw [eT_no h1] at HCK
    have e0 : dropE L p = 190 := by unfold dropE; rw [if_pos h1]
    have e1 : dropM L p = [] := if_neg (by rw [e0]; omega)
    have HE := Lib.hid (And.intro e0 e1)
    clear e0 e1 h1 hR hW HR HW hb1 b1 b2 b3 hb0 hb01 sz0 hT
    go_enter Tryd.func13, Tryd.ntmps13
    go_wp2_with (first | (with_reducible refine wpList_alloc_z rfl 24 rfl #[.slice none 0 0] 1 z_tab ?_) | (go_at_call 20; refine (HCK _ (by assumption)).mono ?_; rintro e w2 ⟨rfl, hb2⟩; have hk2 : Below W1.heap.size W1 w2 := (by first | exact bel_trans (by assumption) hb2 | (subst hb2; assumption)); clear hb2) | (refine wp_region_lin (fun w' => Below W1.heap.size W1 w') (by kernel_rfl) (by kernel_rfl) (bel_drew (by assumption)) ?_; (repeat (first | (refine lin_off (by rfl) ?_; (try simp only [Act.put, List.setIfInBounds_toArray, List.set_cons_zero, List.set_cons_succ])) | (refine lin_op (v := ?_) (by rfl) (fun w9 hS9 => ?_) ?_; rotate_left; (focus (((try dsimp only at hS9); go_simp; (try go_bits)) <;> with_reducible rfl)); (try simp only [Act.put, List.setIfInBounds_toArray, List.set_cons_zero, List.set_cons_succ])) | (refine lin_fn (f := 20) (by rfl) rfl rfl (enters_of Tryd.func20 (by kernel_rfl) rfl) (fun w9 hS9 => (HCK w9 hS9).mono (fun e w' h => ⟨h.1, (by first | exact bel_trans hS9 h.2 | (rw [← h.2]; exact hS9))⟩)) ?_ ?_; (focus (simp [Act.eval]; done)); (try simp only [Act.put, List.setIfInBounds_toArray, List.set_cons_zero, List.set_cons_succ])))); refine lin_nil (fun w8 hS8 => ?_)))
    all_goals refine bodyPost_ret (results_blk rfl _ _ W0.heap.size _ _ rfl ((HB.out.2.1.later (by assumption)).row _) Tryd.underlying24 rfl s_tab1) rfl ?_
    all_goals exact ⟨none, 0, by rw [HE.out.1, HE.out.2]; rfl, by rw [HE.out.2]; exact Tbl.none _, (fun x hx => by cases hx), below_setRow (bel_trans HB.out.1 (by assumption)) (by have := HB.out.2.2; omega) _⟩

noncomputable def getB (L : List Rt) (p : Px) : Bool := decide (okT L) && decide (ixM L p ≠ -1)
noncomputable def getV (L : List Rt) (p : Px) : Int := if okT L then (if ixM L p = -1 then 0 else (rt L (ixM L p).toNat).h) else 0
set_option maxHeartbeats 4000000 in
theorem get_any (a : Option Addr) (n c : Nat) (L : List Rt) (p : Px) (w : World) (hW : Wid w) (hn : L.length = n) (hT : Tbl w a c L) :
    Calls Tryd.prog 16 #[.agg #[.slice a n c], .agg p.cs] w fun e w' => e = .returned (.tuple #[.int .i64 (getV L p), .bool (getB L p)]) ∧ Below w.heap.size w w' := by
  have hR := hT.at'
  have hm : n ≤ 9223372036854775807 := by have := hT.le; have := hT.cap; unfold maxLen at this; omega
  obtain ⟨W1, hW1⟩ : ∃ W1, (w.alloc (.cells #[.slice a n c] 24)).alloc (.cells p.cs 29) = W1 := ⟨_, rfl⟩
  have hb1 : Below w.heap.size w W1 := by rw [← hW1]; exact (((Below.refl w.heap.size w).alloc (Nat.le_refl _) _).alloc (by simp) _)
  have b1 : Blk W1 w.heap.size 24 #[.slice a n c] := by
    have h9 := (Blk.new w 24 #[.slice a n c]).alloc (.cells p.cs 29)
    rwa [hW1] at h9
  have b2 : Blk W1 (w.heap.size + 1) 29 p.cs := by
    have h9 := Blk.new (w.alloc (.cells #[.slice a n c] 24)) 29 p.cs
    rwa [World.size_alloc, hW1] at h9
  have LT := tab_t b1
  have CT := tab_c b1
  have LX := px_p b2
  have HR : ∀ w', Below W1.heap.size W1 w' → RowsAt w' a L := fun w' h => (hR.later hb1).later h
  have HW : ∀ w', Below W1.heap.size W1 w' → Wid w' := fun w' h => (hW.later hb1).later h
  have hTW : ∀ w', Below W1.heap.size W1 w' → Tbl w' a c L := fun w' h => (hT.later hb1).later h
  have h0 : Below W1.heap.size W1 W1 := Below.refl _ _
  have HB := Lib.hid hb1
  have HCK := fun w' h => tcheck_any a n c L w' (HW w' h) hn hm (HR w' h)
  by_cases h1 : okT L
  · rw [eT_ok h1] at HCK
    have HLI := fun w' h => last_is a n c L p w' hn hm (HR w' h)
    have e3 : lastM (isQ p) L n = ixM L p := by unfold ixM; rw [hn]
    rw [e3] at HLI
    rcases ix_spec L p with ⟨i, i1, i2, i3, i4⟩ | ⟨i1, i2⟩
    · rw [i2] at HLI
      have di : ((i : Int) == -1) = false := by simp
      have e0 : getV L p = (rt L i).h := by unfold getV; rw [if_pos h1, i2, if_neg (by omega), Int.toNat_natCast]
      have e1 : getB L p = true := by unfold getB; rw [i2, decide_eq_true h1]; simp
      have HE := Lib.hid (And.intro e0 e1)
      obtain ⟨g, o, rfl, _⟩ := (HR W1 h0).spot i1
      have LH : ∀ w', Below W1.heap.size W1 w' → w'.cell? ⟨g, o + i * 19 + 18, none⟩ = some (.int .i64 (rt L i).h) := fun w' h => by
        obtain ⟨g2, o2, e, hr⟩ := (HR w' h).spot i1
        cases e
        exact hr.hop i1
      have hil : i < n := by omega
      clear hR hW b1 b2 h1 hb1 hT i1 i2 i3 i4 e3 e0 e1 HW HR hTW
      go_enter Tryd.func16, Tryd.ntmps16
      go_wp2_with (first | (go_at_call 20; refine (HCK _ (by assumption)).mono ?_; rintro e w2 ⟨rfl, hb2⟩; have hk2 : Below W1.heap.size W1 w2 := (by first | exact bel_trans (by assumption) hb2 | (subst hb2; assumption)); clear hb2) | (go_at_call 37; refine (HLI _ (by assumption)).mono ?_; rintro e w2 ⟨rfl, hb2⟩; have hk2 : Below W1.heap.size W1 w2 := (by first | exact bel_trans (by assumption) hb2 | (subst hb2; assumption)); clear hb2) | (refine wp_region_lin (fun w' => Below W1.heap.size W1 w') (by kernel_rfl) (by kernel_rfl) (bel_drew (by assumption)) ?_; (repeat (first | (refine lin_off (by rfl) ?_; (try simp only [Act.put, List.setIfInBounds_toArray, List.set_cons_zero, List.set_cons_succ])) | (refine lin_op (v := ?_) (by rfl) (fun w9 hS9 => ?_) ?_; rotate_left; (focus (((try dsimp only at hS9); go_simp; (try go_bits)) <;> with_reducible rfl)); (try simp only [Act.put, List.setIfInBounds_toArray, List.set_cons_zero, List.set_cons_succ])) | (refine lin_fn (f := 20) (by rfl) rfl rfl (enters_of Tryd.func20 (by kernel_rfl) rfl) (fun w9 hS9 => (HCK w9 hS9).mono (fun e w' h => ⟨h.1, (by first | exact bel_trans hS9 h.2 | (rw [← h.2]; exact hS9))⟩)) ?_ ?_; (focus (simp [Act.eval]; done)); (try simp only [Act.put, List.setIfInBounds_toArray, List.set_cons_zero, List.set_cons_succ])) | (refine lin_fn (f := 37) (by rfl) rfl rfl (enters_of Tryd.func37 (by kernel_rfl) rfl) (fun w9 hS9 => (HLI w9 hS9).mono (fun e w' h => ⟨h.1, (by first | exact bel_trans hS9 h.2 | (rw [← h.2]; exact hS9))⟩)) ?_ ?_; (focus (simp [Act.eval]; done)); (try simp only [Act.put, List.setIfInBounds_toArray, List.set_cons_zero, List.set_cons_succ])))); refine lin_nil (fun w8 hS8 => ?_)))
      all_goals refine bodyPost_ret (results_tmp2 rfl _ _ _) rfl ?_
      all_goals exact ⟨by rw [HE.out.1, HE.out.2]; rfl, bel_trans HB.out (by assumption)⟩
    · rw [i1] at HLI
      have di : ((-1 : Int) == -1) = true := by simp
      have e0 : getV L p = 0 := by unfold getV; rw [if_pos h1, if_pos i1]
      have e1 : getB L p = false := by unfold getB; rw [i1]; simp
      have HE := Lib.hid (And.intro e0 e1)
      clear hR hW b1 b2 h1 hb1 hT i1 i2 e3 e0 e1 HW HR hTW
      go_enter Tryd.func16, Tryd.ntmps16
      go_wp2_with (first | (go_at_call 20; refine (HCK _ (by assumption)).mono ?_; rintro e w2 ⟨rfl, hb2⟩; have hk2 : Below W1.heap.size W1 w2 := (by first | exact bel_trans (by assumption) hb2 | (subst hb2; assumption)); clear hb2) | (go_at_call 37; refine (HLI _ (by assumption)).mono ?_; rintro e w2 ⟨rfl, hb2⟩; have hk2 : Below W1.heap.size W1 w2 := (by first | exact bel_trans (by assumption) hb2 | (subst hb2; assumption)); clear hb2) | (refine wp_region_lin (fun w' => Below W1.heap.size W1 w') (by kernel_rfl) (by kernel_rfl) (bel_drew (by assumption)) ?_; (repeat (first | (refine lin_off (by rfl) ?_; (try simp only [Act.put, List.setIfInBounds_toArray, List.set_cons_zero, List.set_cons_succ])) | (refine lin_op (v := ?_) (by rfl) (fun w9 hS9 => ?_) ?_; rotate_left; (focus (((try dsimp only at hS9); go_simp; (try go_bits)) <;> with_reducible rfl)); (try simp only [Act.put, List.setIfInBounds_toArray, List.set_cons_zero, List.set_cons_succ])) | (refine lin_fn (f := 20) (by rfl) rfl rfl (enters_of Tryd.func20 (by kernel_rfl) rfl) (fun w9 hS9 => (HCK w9 hS9).mono (fun e w' h => ⟨h.1, (by first | exact bel_trans hS9 h.2 | (rw [← h.2]; exact hS9))⟩)) ?_ ?_; (focus (simp [Act.eval]; done)); (try simp only [Act.put, List.setIfInBounds_toArray, List.set_cons_zero, List.set_cons_succ])) | (refine lin_fn (f := 37) (by rfl) rfl rfl (enters_of Tryd.func37 (by kernel_rfl) rfl) (fun w9 hS9 => (HLI w9 hS9).mono (fun e w' h => ⟨h.1, (by first | exact bel_trans hS9 h.2 | (rw [← h.2]; exact hS9))⟩)) ?_ ?_; (focus (simp [Act.eval]; done)); (try simp only [Act.put, List.setIfInBounds_toArray, List.set_cons_zero, List.set_cons_succ])))); refine lin_nil (fun w8 hS8 => ?_)))
      all_goals refine bodyPost_ret (results_tmp2 rfl _ _ _) rfl ?_
      all_goals exact ⟨by rw [HE.out.1, HE.out.2]; rfl, bel_trans HB.out (by assumption)⟩
  · rw [eT_no h1] at HCK
    have e0 : getV L p = 0 := if_neg h1
    have e1 : getB L p = false := by unfold getB; rw [decide_eq_false h1]; rfl
    have HE := Lib.hid (And.intro e0 e1)
    clear hR hW b1 b2 h1 hb1 hT e0 e1 HW HR hTW
    go_enter Tryd.func16, Tryd.ntmps16
    go_wp2_with (first | (go_at_call 20; refine (HCK _ (by assumption)).mono ?_; rintro e w2 ⟨rfl, hb2⟩; have hk2 : Below W1.heap.size W1 w2 := (by first | exact bel_trans (by assumption) hb2 | (subst hb2; assumption)); clear hb2) | (refine wp_region_lin (fun w' => Below W1.heap.size W1 w') (by kernel_rfl) (by kernel_rfl) (bel_drew (by assumption)) ?_; (repeat (first | (refine lin_off (by rfl) ?_; (try simp only [Act.put, List.setIfInBounds_toArray, List.set_cons_zero, List.set_cons_succ])) | (refine lin_op (v := ?_) (by rfl) (fun w9 hS9 => ?_) ?_; rotate_left; (focus (((try dsimp only at hS9); go_simp; (try go_bits)) <;> with_reducible rfl)); (try simp only [Act.put, List.setIfInBounds_toArray, List.set_cons_zero, List.set_cons_succ])) | (refine lin_fn (f := 20) (by rfl) rfl rfl (enters_of Tryd.func20 (by kernel_rfl) rfl) (fun w9 hS9 => (HCK w9 hS9).mono (fun e w' h => ⟨h.1, (by first | exact bel_trans hS9 h.2 | (rw [← h.2]; exact hS9))⟩)) ?_ ?_; (focus (simp [Act.eval]; done)); (try simp only [Act.put, List.setIfInBounds_toArray, List.set_cons_zero, List.set_cons_succ])))); refine lin_nil (fun w8 hS8 => ?_)))
    all_goals refine bodyPost_ret (results_tmp2 rfl _ _ _) rfl ?_
    all_goals exact ⟨by rw [HE.out.1, HE.out.2]; rfl, bel_trans HB.out (by assumption)⟩
end Go.Proofs.YtfnagfmbhcaphaaDoor
namespace Go.Proofs.YtfnagfmbhcaphaaDoor
open Go.RowKit Go.Shelf
set_option linter.unusedVariables false
set_option maxRecDepth 100000
attribute [local go_sem ↓] load_b16_rule store_b16_rule load_ad_rule store_ad_rule load_px_rule store_px_rule eq_b16_rule eq_ad_rule eq_px_rule load_rt_rule store_rt_rule build_ad_rule build_px_rule build_b16_rule build_rt_rule load_tab_rule build_tab_rule store_tab_rule tbuild_rule tapp_rule tcopy_rule eq_rt_rule

theorem same_all9 {L M : List Rt} (h : L.length = M.length) (ha : ∀ j, j < L.length → rt L j = rt M j) : L = M := by
  apply List.ext_getElem h
  intro i h1 h2
  have := ha i h1
  rwa [rt_get h1, rt_get h2] at this
set_option maxHeartbeats 4000000 in
theorem rsame_any (a a2 : Option Addr) (n c n2 c2 : Nat) (L M : List Rt) (w : World) (hn : L.length = n) (hm : n ≤ 9223372036854775807) (hR : RowsAt w a L) (hn2 : M.length = n2) (hm2 : n2 ≤ 9223372036854775807) (hR2 : RowsAt w a2 M) :
    Calls Tryd.prog 15 #[.agg #[.slice a n c], .agg #[.slice a2 n2 c2]] w fun e w' => e = .returned (.bool (decide (L = M))) ∧ Below w.heap.size w w' := by
  obtain ⟨W1, hW1⟩ : ∃ W1, (w.alloc (.cells #[.slice a n c] 24)).alloc (.cells #[.slice a2 n2 c2] 24) = W1 := ⟨_, rfl⟩
  have hb1 : Below w.heap.size w W1 := by rw [← hW1]; exact (((Below.refl w.heap.size w).alloc (Nat.le_refl _) _).alloc (by simp) _)
  have b1 : Blk W1 w.heap.size 24 #[.slice a n c] := by
    have h9 := (Blk.new w 24 #[.slice a n c]).alloc (.cells #[.slice a2 n2 c2] 24)
    rwa [hW1] at h9
  have b2 : Blk W1 (w.heap.size + 1) 24 #[.slice a2 n2 c2] := by
    have h9 := Blk.new (w.alloc (.cells #[.slice a n c] 24)) 24 #[.slice a2 n2 c2]
    rwa [World.size_alloc, hW1] at h9
  have CT := tab_c b1
  have CU := tab_c b2
  have HR : ∀ w', Below W1.heap.size W1 w' → RowsAt w' a L := fun w' h => (hR.later hb1).later h
  have HR2 : ∀ w', Below W1.heap.size W1 w' → RowsAt w' a2 M := fun w' h => (hR2.later hb1).later h
  have h0 : Below W1.heap.size W1 W1 := Below.refl _ _
  have CT0 := CT W1 h0
  have CU0 := CU W1 h0
  have HB := Lib.hid hb1
  clear hR hR2 b1 b2 hb1
  by_cases hnn : n = n2
  · subst hnn
    have dn : ((n : Int) != (n : Int)) = false := by simp
    go_enter Tryd.func15, Tryd.ntmps15
    go_wp2_with fail
    go_loopw [5] (fun i wr => ∃ k : Nat, k ≤ n ∧ i = .int .i64 k ∧ (∀ j, j < k → rt L j = rt M j) ∧ Below W1.heap.size W1 wr) (fun i _ => n - (intOf i).toNat)
    case atStart => exact ⟨0, Nat.zero_le _, rfl, fun j hj => by omega, h0⟩
    case round =>
      obtain ⟨k, hk, rfl, hok, hkb⟩ := hrel
      have CTr := CT wr hkb
      by_cases hlt : k < n
      · have hkl : k < L.length := by omega
        have hkl2 : k < M.length := by omega
        obtain ⟨g, o, rfl, hrow⟩ := (HR wr hkb).spot hkl
        obtain ⟨g2, o2, rfl, hrow2⟩ := (HR2 wr hkb).spot hkl2
        have h02 : Below wr.heap.size wr wr := Below.refl _ _
        have CT2 : ∀ w', Below wr.heap.size wr w' → w'.cell? ⟨w.heap.size, 0, none⟩ = some (.slice (some ⟨g, o, none⟩) n c) := fun w' h => CT w' (bel_trans hkb h)
        have CU2 : ∀ w', Below wr.heap.size wr w' → w'.cell? ⟨w.heap.size + 1, 0, none⟩ = some (.slice (some ⟨g2, o2, none⟩) n c2) := fun w' h => CU w' (bel_trans hkb h)
        have LR2 : ∀ w', Below wr.heap.size wr w' → (loadSem 43 (.pointer (some ⟨g, o + k * 19, none⟩))).run Tryd.prog w' = .ok (.agg (rt L k).cs) w' := fun w' h => (hrow.later h).load hkl
        have LS2 : ∀ w', Below wr.heap.size wr w' → (loadSem 43 (.pointer (some ⟨g2, o2 + k * 19, none⟩))).run Tryd.prog w' = .ok (.agg (rt M k).cs) w' := fun w' h => (hrow2.later h).load hkl2
        have EQ := eqR (rt L k) (rt M k)
        have HK := Lib.hid (And.intro hok hkb)
        by_cases he : rt L k = rt M k
        · rw [decide_eq_true he] at EQ
          have HE := Lib.hid he
          clear hok hkb he CT CU HR HR2 hrow hrow2 CTr
          go_wp2_with (first  | (refine wp_region_lin (fun w' => Below wr.heap.size wr w') (by kernel_rfl) (by kernel_rfl) (bel_drew (by assumption)) ?_; (repeat (first | (refine lin_off (by rfl) ?_; (try simp only [Act.put, List.setIfInBounds_toArray, List.set_cons_zero, List.set_cons_succ])) | (refine lin_op (v := ?_) (by rfl) (fun w9 hS9 => ?_) ?_; rotate_left; (focus (((try dsimp only at hS9); go_simp; (try go_bits)) <;> with_reducible rfl)); (try simp only [Act.put, List.setIfInBounds_toArray, List.set_cons_zero, List.set_cons_succ])) )); refine lin_nil (fun w8 hS8 => ?_)))
          go_roundw
          case rel => exact ⟨k + 1, by omega, by go_num, fun j hj => by
            by_cases e : j = k
            · rw [e]; exact HE.out
            · exact HK.out.1 j (by omega), bel_trans HK.out.2 (by assumption)⟩
          case measure => simp [intOf]; omega
        · rw [decide_eq_false he] at EQ
          have HE := Lib.hid (decide_eq_false (fun h : L = M => he (by rw [h])))
          clear hok hkb he CT CU HR HR2 hrow hrow2 CTr
          go_wp2_with (first  | (refine wp_region_lin (fun w' => Below wr.heap.size wr w') (by kernel_rfl) (by kernel_rfl) (bel_drew (by assumption)) ?_; (repeat (first | (refine lin_off (by rfl) ?_; (try simp only [Act.put, List.setIfInBounds_toArray, List.set_cons_zero, List.set_cons_succ])) | (refine lin_op (v := ?_) (by rfl) (fun w9 hS9 => ?_) ?_; rotate_left; (focus (((try dsimp only at hS9); go_simp; (try go_bits)) <;> with_reducible rfl)); (try simp only [Act.put, List.setIfInBounds_toArray, List.set_cons_zero, List.set_cons_succ])) )); refine lin_nil (fun w8 hS8 => ?_)))
          all_goals go_ret
          all_goals exact ⟨by rw [HE.out]; rfl, bel_trans HB.out (bel_trans HK.out.2 (by assumption))⟩
      · obtain rfl : n = k := by omega
        have HE := Lib.hid (decide_eq_true (same_all9 (hn.trans hn2.symm) (fun j hj => hok j (by omega))))
        clear hok CT CU HR HR2
        go_wp2
        go_ret
        exact ⟨by rw [HE.out]; rfl, bel_trans HB.out hkb⟩
  · have dn : ((n : Int) != (n2 : Int)) = true := by simp; omega
    have HE := Lib.hid (decide_eq_false (fun h : L = M => hnn (by rw [← hn, ← hn2, h])))
    clear hnn HR HR2 CT CU
    go_enter Tryd.func15, Tryd.ntmps15
    go_wp2
    go_ret
    exact ⟨by rw [HE.out]; rfl, HB.out⟩

noncomputable def rgetV (L : List Rt) (p : Px) : Int := if ixM L p = -1 then 0 else (rt L (ixM L p).toNat).h
theorem ix_hit {L : List Rt} {p : Px} {k : Nat} (hL : L.Pairwise ltR) (hk : k < L.length) (h : (rt L k).p = p) : ixM L p = (k : Int) := by
  rcases ix_spec L p with ⟨i, i1, i2, i3, _⟩ | ⟨_, i2⟩
  · rw [i2, same_at hL i1 hk (i3.trans h.symm)]
  · exact absurd h (i2 _ (rt_mem hk))
theorem ix_miss {L : List Rt} {p : Px} (h : ∀ j, j < L.length → (rt L j).p ≠ p) : ixM L p = -1 := by
  rcases ix_spec L p with ⟨i, i1, i2, i3, _⟩ | ⟨i1, _⟩
  · exact absurd i3 (h i i1)
  · exact i1
set_option maxHeartbeats 4000000 in
theorem rget_any (a : Option Addr) (n c : Nat) (L : List Rt) (p : Px) (w : World) (hn : L.length = n) (hm : n ≤ 9223372036854775807) (hT : Tbl w a c L) (hW : Wid w) (hL : L.Pairwise ltR) :
    Calls Tryd.prog 18 #[.agg #[.slice a n c], .agg p.cs] w fun e w' => e = .returned (.int .i64 (rgetV L p)) ∧ Below w.heap.size w w' := by
  have hR := hT.at'
  obtain ⟨W1, hW1⟩ : ∃ W1, (w.alloc (.cells #[.slice a n c] 24)).alloc (.cells p.cs 29) = W1 := ⟨_, rfl⟩
  have hb1 : Below w.heap.size w W1 := by rw [← hW1]; exact (((Below.refl w.heap.size w).alloc (Nat.le_refl _) _).alloc (by simp) _)
  have b1 : Blk W1 w.heap.size 24 #[.slice a n c] := by
    have h9 := (Blk.new w 24 #[.slice a n c]).alloc (.cells p.cs 29)
    rwa [hW1] at h9
  have b2 : Blk W1 (w.heap.size + 1) 29 p.cs := by
    have h9 := Blk.new (w.alloc (.cells #[.slice a n c] 24)) 29 p.cs
    rwa [World.size_alloc, hW1] at h9
  have LT := tab_t b1
  have CT := tab_c b1
  have LX := px_p b2
  have HR : ∀ w', Below W1.heap.size W1 w' → RowsAt w' a L := fun w' h => (hR.later hb1).later h
  have HW : ∀ w', Below W1.heap.size W1 w' → Wid w' := fun w' h => (hW.later hb1).later h
  have hTW : ∀ w', Below W1.heap.size W1 w' → Tbl w' a c L := fun w' h => (hT.later hb1).later h
  have h0 : Below W1.heap.size W1 W1 := Below.refl _ _
  have HB := Lib.hid hb1
  clear hR hW b1 b2 hb1 hT HW hTW LT
  go_enter Tryd.func18, Tryd.ntmps18
  go_wp2_with fail
  go_loopw [5] (fun i wr => ∃ k : Nat, k ≤ n ∧ i = .int .i64 k ∧ (∀ j, j < k → (rt L j).p ≠ p) ∧ Below W1.heap.size W1 wr) (fun i _ => n - (intOf i).toNat)
  case atStart => exact ⟨0, Nat.zero_le _, rfl, fun j hj => by omega, h0⟩
  case round =>
    obtain ⟨k, hk, rfl, hno, hkb⟩ := hrel
    have CTr := CT wr hkb
    by_cases hlt : k < n
    · have hkl : k < L.length := by omega
      obtain ⟨g, o, rfl, hrow⟩ := (HR wr hkb).spot hkl
      have h02 : Below wr.heap.size wr wr := Below.refl _ _
      have CT2 : ∀ w', Below wr.heap.size wr w' → w'.cell? ⟨w.heap.size, 0, none⟩ = some (.slice (some ⟨g, o, none⟩) n c) := fun w' h => CT w' (bel_trans hkb h)
      have LP2 : ∀ w', Below wr.heap.size wr w' → (loadSem 29 (.pointer (some ⟨g, o + k * 19, none⟩))).run Tryd.prog w' = .ok (.agg (rt L k).p.cs) w' := fun w' h => (hrow.later h).loadp hkl
      have LH2 : ∀ w', Below wr.heap.size wr w' → w'.cell? ⟨g, o + k * 19 + 18, none⟩ = some (.int .i64 (rt L k).h) := fun w' h => (hrow.later h).hop hkl
      have LX2 : ∀ w', Below wr.heap.size wr w' → (loadSem 29 (.pointer (some ⟨w.heap.size + 1, 0, none⟩))).run Tryd.prog w' = .ok (.agg p.cs) w' := fun w' h => LX w' (bel_trans hkb h)
      have EQ := eqP (rt L k).p p
      have HK := Lib.hid (And.intro hno hkb)
      by_cases he : (rt L k).p = p
      · rw [decide_eq_true he] at EQ
        have HE := Lib.hid (show rgetV L p = (rt L k).h by unfold rgetV; rw [ix_hit hL hkl he, if_neg (by omega), Int.toNat_natCast])
        clear hno hkb he CT LX HR hrow CTr
        go_wp2_with (first  | (refine wp_region_lin (fun w' => Below wr.heap.size wr w') (by kernel_rfl) (by kernel_rfl) (bel_drew (by assumption)) ?_; (repeat (first | (refine lin_off (by rfl) ?_; (try simp only [Act.put, List.setIfInBounds_toArray, List.set_cons_zero, List.set_cons_succ])) | (refine lin_op (v := ?_) (by rfl) (fun w9 hS9 => ?_) ?_; rotate_left; (focus (((try dsimp only at hS9); go_simp; (try go_bits)) <;> with_reducible rfl)); (try simp only [Act.put, List.setIfInBounds_toArray, List.set_cons_zero, List.set_cons_succ])) )); refine lin_nil (fun w8 hS8 => ?_)))
        all_goals go_ret
        all_goals exact ⟨by rw [HE.out]; rfl, bel_trans HB.out (bel_trans HK.out.2 (by assumption))⟩
      · rw [decide_eq_false he] at EQ
        have HE := Lib.hid he
        clear hno hkb he CT LX HR hrow CTr
        go_wp2_with (first  | (refine wp_region_lin (fun w' => Below wr.heap.size wr w') (by kernel_rfl) (by kernel_rfl) (bel_drew (by assumption)) ?_; (repeat (first | (refine lin_off (by rfl) ?_; (try simp only [Act.put, List.setIfInBounds_toArray, List.set_cons_zero, List.set_cons_succ])) | (refine lin_op (v := ?_) (by rfl) (fun w9 hS9 => ?_) ?_; rotate_left; (focus (((try dsimp only at hS9); go_simp; (try go_bits)) <;> with_reducible rfl)); (try simp only [Act.put, List.setIfInBounds_toArray, List.set_cons_zero, List.set_cons_succ])) )); refine lin_nil (fun w8 hS8 => ?_)))
        go_roundw
        case rel => exact ⟨k + 1, by omega, by go_num, fun j hj => by
          by_cases e : j = k
          · rw [e]; exact HE.out
          · exact HK.out.1 j (by omega), bel_trans HK.out.2 (by assumption)⟩
        case measure => simp [intOf]; omega
    · obtain rfl : n = k := by omega
      have HE := Lib.hid (show rgetV L p = 0 by unfold rgetV; rw [ix_miss (fun j hj => hno j (by omega)), if_pos rfl])
      clear hno CT LX HR
      go_wp2
      go_ret
      exact ⟨by rw [HE.out]; rfl, bel_trans HB.out hkb⟩
end Go.Proofs.YtfnagfmbhcaphaaDoor
