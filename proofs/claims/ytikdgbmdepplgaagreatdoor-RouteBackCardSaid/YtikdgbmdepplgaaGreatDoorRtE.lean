/-
  The library's sort over this translation: which of its functions and types bear which numbers here. Nothing here is a statement of the document.
-/
import Derived.Test.YtikdgbmdepplgaaGreatDoorRtB
import Derived.Sort.Grow
import Derived.Shelf.SlSortCmp.WholeK
namespace Go.Proofs.YtikdgbmdepplgaaGreatDoor
open Go.RowKit Go.Shelf
set_option linter.unusedVariables false
set_option maxRecDepth 100000
def okRo (x : Ro) : Prop := okP x.p ∧ (1 ≤ x.s ∧ x.s ≤ 4) ∧ (0 ≤ x.f ∧ x.f ≤ 255) ∧ (1 ≤ x.h ∧ x.h ≤ 255)
noncomputable instance (x : Ro) : Decidable (okRo x) := Classical.propDecidable _
def said (u : Up) : Ro := ⟨u.p, u.s, u.f, u.h⟩
def okUp (u : Up) : Prop := if u.g then okP u.p ∧ (1 ≤ u.s ∧ u.s ≤ 4) ∧ u.f = 0 ∧ u.h = 0 else okRo (said u)
noncomputable instance (u : Up) : Decidable (okUp u) := Classical.propDecidable _
/-- The update speaks of the candidate. -/
def spk (u : Up) (x : Ro) : Prop := u.p = x.p ∧ u.s = x.s
noncomputable instance (u : Up) (x : Ro) : Decidable (spk u x) := Classical.propDecidable _
theorem rwithin_any (x a b : Int) (w : World) : Calls Tryz.prog 58 #[.int .i64 x, .int .i64 a, .int .i64 b] w fun e w' => e = .returned (.bool (decide (a ≤ x ∧ x ≤ b))) ∧ w = w' := by
  by_cases h1 : a ≤ x
  · have d1 : decide (a ≤ x) = true := by simpa using h1
    go_enter Tryz.func58, Tryz.ntmps58
    go_wp2
    go_ret
    exact ⟨by simp [h1], rfl⟩
  · have d1 : decide (a ≤ x) = false := by simpa using h1
    go_enter Tryz.func58, Tryz.ntmps58
    go_wp2
    go_ret
    exact ⟨by simp [h1], rfl⟩
attribute [local go_sem ↓] load_b16_rule store_b16_rule load_ad_rule store_ad_rule load_px_rule store_px_rule eq_b16_rule eq_ad_rule eq_px_rule load_rt_rule store_rt_rule load_ro_rule store_ro_rule load_up_rule store_up_rule
set_option maxHeartbeats 1600000 in
theorem isplace_any (p : Px) (s : Int) (w : World) (hW : Wid w) : Calls Tryz.prog 57 #[.agg p.cs, .int .i64 s] w fun e w' => e = .returned (.bool (decide (okP p ∧ 1 ≤ s ∧ s ≤ 4))) ∧ Below w.heap.size w w' := by
  obtain ⟨W1, hW1⟩ : ∃ W1, w.alloc (.cells p.cs 46) = W1 := ⟨_, rfl⟩
  have hb1 : Below w.heap.size w W1 := by rw [← hW1]; exact (Below.refl _ _).alloc (Nat.le_refl _) _
  have b1 : Blk W1 w.heap.size 46 p.cs := by rw [← hW1]; exact Blk.new _ _ _
  have LP := px_p b1 W1 (Below.refl _ _)
  have HC := check_any p W1 (hW.later hb1)
  have HWI := rwithin_any s 1 4
  have HB := Lib.hid hb1
  clear hb1 b1 hW
  by_cases hp : okP p
  · rw [eP_ok hp] at HC
    generalize hd : decide (1 ≤ s ∧ s ≤ 4) = d at HWI
    have HD := Lib.hid (And.intro hp hd)
    clear hp hd
    go_enter Tryz.func57, Tryz.ntmps57
    go_wp2_with fail
    refine HC.mono ?_
    rintro e W2 ⟨rfl, hb2⟩
    go_wp2_with fail
    refine (HWI _).mono ?_
    rintro e w9 ⟨rfl, rfl⟩
    go_wp2_with fail
    go_ret
    exact ⟨by rw [← HD.out.2]; simp [HD.out.1], bel_trans HB.out hb2⟩
  · rw [eP_no hp] at HC
    have HD := Lib.hid hp
    clear hp
    go_enter Tryz.func57, Tryz.ntmps57
    go_wp2_with fail
    refine HC.mono ?_
    rintro e W2 ⟨rfl, hb2⟩
    go_wp2_with fail
    go_ret
    exact ⟨by simp [HD.out], bel_trans HB.out hb2⟩
set_option maxHeartbeats 1600000 in
theorem isroute_any (x : Ro) (w : World) (hW : Wid w) : Calls Tryz.prog 40 #[.agg x.cs] w fun e w' => e = .returned (.bool (decide (okRo x))) ∧ Below w.heap.size w w' := by
  obtain ⟨W1, hW1⟩ : ∃ W1, w.alloc (.cells x.cs 50) = W1 := ⟨_, rfl⟩
  have hb1 : Below w.heap.size w W1 := by rw [← hW1]; exact (Below.refl _ _).alloc (Nat.le_refl _) _
  have b1 : Blk W1 w.heap.size 50 x.cs := by rw [← hW1]; exact Blk.new _ _ _
  have LP := ro_p b1 W1 (Below.refl _ _)
  have LS := ro_s b1 W1 (Below.refl _ _)
  have HP := isplace_any x.p x.s W1 (hW.later hb1)
  have HF := rwithin_any x.f 0 255
  have HH := rwithin_any x.h 1 255
  have B1 := Lib.hid (And.intro b1 hb1)
  have HE := Lib.hid (show decide (okRo x) = (decide (okP x.p ∧ 1 ≤ x.s ∧ x.s ≤ 4) && decide (0 ≤ x.f ∧ x.f ≤ 255) && decide (1 ≤ x.h ∧ x.h ≤ 255)) by
    rw [Bool.eq_iff_iff]
    simp only [Bool.and_eq_true, decide_eq_true_eq]
    exact ⟨fun ⟨a, b, c, d⟩ => ⟨⟨⟨a, b⟩, c⟩, d⟩, fun ⟨⟨⟨a, b⟩, c⟩, d⟩ => ⟨a, b, c, d⟩⟩)
  clear b1 hb1 hW
  generalize decide (okP x.p ∧ 1 ≤ x.s ∧ x.s ≤ 4) = d1 at *
  generalize decide (0 ≤ x.f ∧ x.f ≤ 255) = d2 at *
  generalize decide (1 ≤ x.h ∧ x.h ≤ 255) = d3 at *
  generalize decide (okRo x) = d at *
  go_enter Tryz.func40, Tryz.ntmps40
  go_wp2_with fail
  refine HP.mono ?_
  rintro e W2 ⟨rfl, hb2⟩
  have LF := ro_f B1.out.1 W2 hb2
  have LH := ro_h B1.out.1 W2 hb2
  have HB := Lib.hid (bel_trans B1.out.2 hb2)
  clear hb2 HP LP LS
  cases d1
  · go_wp2_with fail
    go_ret
    exact ⟨by rw [HE.out]; rfl, HB.out⟩
  · go_wp2_with fail
    refine (HF _).mono ?_
    rintro e w9 ⟨rfl, rfl⟩
    cases d2
    · go_wp2_with fail
      go_ret
      exact ⟨by rw [HE.out]; rfl, HB.out⟩
    · go_wp2_with fail
      refine (HH _).mono ?_
      rintro e w9 ⟨rfl, rfl⟩
      go_wp2_with fail
      go_ret
      exact ⟨by rw [HE.out]; simp, HB.out⟩
theorem build_ro_rule (ps : Array (Nat × Value)) : Instr.build 50 ps = buildSem 50 ps := rfl
theorem build_ro4 (p : Px) (s f h : Int) (w : World) : (buildSem 50 #[(0, .agg p.cs), (1, .int .i64 s), (2, .int .i64 f), (3, .int .i64 h)]).run Tryz.prog w = .ok (.agg (Ro.mk p s f h).cs) w := by
  unfold Ro.cs
  show (buildSem 50 #[(0, .agg p.cs), (1, .int .i64 s), (2, .int .i64 f), (3, .int .i64 h)]).run Tryz.prog w = .ok (.agg (p.cs ++ #[.int .i64 s, .int .i64 f, .int .i64 h])) w
  unfold Px.cs Ad.cs
  obtain ⟨a0, a1, a2, a3, a4, a5, a6, a7, a8, a9, a10, a11, a12, a13, a14, a15, hh⟩ := p.a.b.out
  rw [hh]
  kernel_rfl
attribute [local go_sem ↓] build_ro_rule
set_option maxHeartbeats 1600000 in
theorem said_any (u : Up) (w : World) : Calls Tryz.prog 34 #[.agg u.cs] w fun e w' => e = .returned (.agg (said u).cs) ∧ Below w.heap.size w w' := by
  obtain ⟨W1, hW1⟩ : ∃ W1, (w.alloc (.cells u.cs 48)).alloc (.cells Ro.zero.cs 50) = W1 := ⟨_, rfl⟩
  have hb1 : Below w.heap.size w W1 := by rw [← hW1]; exact ((Below.refl _ _).alloc (Nat.le_refl _) _).alloc (by simp) _
  have b1 : Blk W1 w.heap.size 48 u.cs := by rw [← hW1]; exact (Blk.new _ _ _).alloc _
  have b2 : Blk W1 (w.heap.size + 1) 50 Ro.zero.cs := by
    have h9 := Blk.new (w.alloc (.cells u.cs 48)) 50 Ro.zero.cs
    rw [World.size_alloc] at h9
    rw [← hW1]; exact h9
  have LP := up_p b1 W1 (Below.refl _ _)
  have LS := up_s b1 W1 (Below.refl _ _)
  have LF := up_f b1 W1 (Below.refl _ _)
  have LH := up_h b1 W1 (Below.refl _ _)
  have BR := build_ro4 u.p u.s u.f u.h
  have hsd : Ro.mk u.p u.s u.f u.h = said u := rfl
  rw [hsd] at BR
  have ST := st_ro (q := said u) b2
  have HB := Lib.hid (And.intro hb1 (b2.row (said u).cs))
  clear hb1 b1 b2 hsd
  go_enter Tryz.func34, Tryz.ntmps34
  go_wp2_with (with_reducible refine wpList_alloc_z rfl 50 rfl Ro.zero.cs 21 z_ro ?_)
  refine bodyPost_ret (results_cell_row rfl _ _ (w.heap.size + 1) 50 (said u).cs (0, 0) _ rfl HB.out.2 Tryz.underlying50 rfl (s_ro _)) rfl ?_
  exact ⟨rfl, below_setRow HB.out.1 (by omega) _⟩
set_option maxHeartbeats 1600000 in
theorem speaks_any (u : Up) (x : Ro) (w : World) : Calls Tryz.prog 32 #[.agg u.cs, .agg x.cs] w fun e w' => e = .returned (.bool (decide (spk u x))) ∧ Below w.heap.size w w' := by
  obtain ⟨W1, hW1⟩ : ∃ W1, (w.alloc (.cells u.cs 48)).alloc (.cells x.cs 50) = W1 := ⟨_, rfl⟩
  have hb1 : Below w.heap.size w W1 := by rw [← hW1]; exact ((Below.refl _ _).alloc (Nat.le_refl _) _).alloc (by simp) _
  have b1 : Blk W1 w.heap.size 48 u.cs := by rw [← hW1]; exact (Blk.new _ _ _).alloc _
  have b2 : Blk W1 (w.heap.size + 1) 50 x.cs := by
    have h9 := Blk.new (w.alloc (.cells u.cs 48)) 50 x.cs
    rw [World.size_alloc] at h9
    rw [← hW1]; exact h9
  have LP := up_p b1
  have LS := up_s b1
  have LQ := ro_p b2
  have LT := ro_s b2
  have h0 : Below W1.heap.size W1 W1 := Below.refl _ _
  have EQ := eqP u.p x.p
  have HB := Lib.hid (And.intro hb1 (show decide (spk u x) = (decide (u.p = x.p) && decide (u.s = x.s)) by
    rw [Bool.eq_iff_iff]
    simp only [Bool.and_eq_true, decide_eq_true_eq]
    exact ⟨fun h => h, fun h => h⟩))
  clear hb1 b1 b2
  generalize decide (u.p = x.p) = d1 at *
  generalize decide (spk u x) = d at *
  cases d1
  · go_enter Tryz.func32, Tryz.ntmps32
    go_wp2
    all_goals go_ret
    all_goals exact ⟨by rw [HB.out.2]; first | (simp; done) | (simp; rfl), bel_trans HB.out.1 (by first | assumption | exact bel_drew (by assumption))⟩
  · go_enter Tryz.func32, Tryz.ntmps32
    go_wp2
    all_goals go_ret
    all_goals exact ⟨by rw [HB.out.2]; first | (simp; done) | (simp; rfl), bel_trans HB.out.1 (by first | assumption | exact bel_drew (by assumption))⟩
set_option maxHeartbeats 1600000 in
theorem isupd_any (u : Up) (w : World) (hW : Wid w) : Calls Tryz.prog 46 #[.agg u.cs] w fun e w' => e = .returned (.bool (decide (okUp u))) ∧ Below w.heap.size w w' := by
  obtain ⟨W1, hW1⟩ : ∃ W1, w.alloc (.cells u.cs 48) = W1 := ⟨_, rfl⟩
  have hb1 : Below w.heap.size w W1 := by rw [← hW1]; exact (Below.refl _ _).alloc (Nat.le_refl _) _
  have b1 : Blk W1 w.heap.size 48 u.cs := by rw [← hW1]; exact Blk.new _ _ _
  have LU := up_r b1 W1 (Below.refl _ _)
  have LG := up_g b1 W1 (Below.refl _ _)
  have HW1 := hW.later hb1
  cases hg : u.g
  · rw [hg] at LG
    have HS := said_any u W1
    have HE := Lib.hid (And.intro hb1 (And.intro HW1 (show decide (okUp u) = decide (okRo (said u)) from decide_eq_decide.2 (by unfold okUp; rw [hg]; simp))))
    clear b1 hb1 hW HW1 hg
    go_enter Tryz.func46, Tryz.ntmps46
    go_wp2_with fail
    refine HS.mono ?_
    rintro e W2 ⟨rfl, hb2⟩
    have HR := isroute_any (said u) W2 (HE.out.2.1.later hb2)
    have HB := Lib.hid (bel_trans HE.out.1 hb2)
    obtain ⟨d, hd⟩ : ∃ d, decide (okRo (said u)) = d := ⟨_, rfl⟩
    rw [hd] at HR
    have HD := Lib.hid hd
    clear hd
    clear hb2 HS LU
    go_wp2_with fail
    refine HR.mono ?_
    rintro e W3 ⟨rfl, hb3⟩
    go_wp2_with fail
    go_ret
    exact ⟨by rw [HE.out.2.2, HD.out]; rfl, bel_trans HB.out hb3⟩
  · rw [hg] at LG
    have LP := up_p b1 W1 (Below.refl _ _)
    have LS := up_s b1 W1 (Below.refl _ _)
    have HP := isplace_any u.p u.s W1 HW1
    have HE := Lib.hid (And.intro hb1 (And.intro b1 (show decide (okUp u) = (decide (okP u.p ∧ 1 ≤ u.s ∧ u.s ≤ 4) && decide (u.f = 0) && decide (u.h = 0)) by
      rw [Bool.eq_iff_iff]
      simp only [Bool.and_eq_true, decide_eq_true_eq]
      have e : okUp u ↔ okP u.p ∧ (1 ≤ u.s ∧ u.s ≤ 4) ∧ u.f = 0 ∧ u.h = 0 := by unfold okUp; rw [hg]; simp
      rw [e]
      exact ⟨fun ⟨a, b, c, d⟩ => ⟨⟨⟨a, b⟩, c⟩, d⟩, fun ⟨⟨⟨a, b⟩, c⟩, d⟩ => ⟨a, b, c, d⟩⟩)))
    clear b1 hb1 hW HW1 hg LU
    generalize decide (okP u.p ∧ 1 ≤ u.s ∧ u.s ≤ 4) = d1 at *
    go_enter Tryz.func46, Tryz.ntmps46
    go_wp2_with fail
    refine HP.mono ?_
    rintro e W2 ⟨rfl, hb2⟩
    have LF := up_f HE.out.2.1 W2 hb2
    have LH := up_h HE.out.2.1 W2 hb2
    have HB := Lib.hid (And.intro (bel_trans HE.out.1 hb2) HE.out.2.2)
    clear hb2 HP LP LS HE
    cases d1
    · go_wp2_with fail
      go_ret
      exact ⟨by rw [HB.out.2]; rfl, HB.out.1⟩
    · by_cases hf : u.f = 0
      · rw [hf] at LF
        have HF := Lib.hid hf
        clear hf
        go_wp2_with fail
        all_goals go_ret
        all_goals exact ⟨by rw [HB.out.2, HF.out]; first | rfl | (simp; rfl), HB.out.1⟩
      · have hfb : (u.f == 0) = false := by simpa using hf
        have HF := Lib.hid hf
        clear hf
        go_wp2_with fail
        all_goals go_ret
        all_goals exact ⟨by rw [HB.out.2]; simp [HF.out]; try rfl, HB.out.1⟩
end Go.Proofs.YtikdgbmdepplgaaGreatDoor
namespace Go.Proofs.YtikdgbmdepplgaaGreatDoor
open Go.RowKit Go.Shelf Go.Sort
set_option linter.unusedVariables false
set_option maxRecDepth 100000
/-- So many draws later, with some blocks laid behind. -/
def Gr (W w' : World) : Prop := ∃ q os, w' = grow (W.drewN q) os
theorem Gr.refl (W : World) : Gr W W := ⟨0, #[], by rw [grow_empty]; rfl⟩
theorem Gr.trans {a b c : World} (h : Gr a b) (k : Gr b c) : Gr a c := by
  obtain ⟨q, os, rfl⟩ := h
  obtain ⟨q2, os2, rfl⟩ := k
  exact ⟨q + q2, os ++ os2, by show grow (grow ((a.drewN q).drewN q2) os) os2 = _; rw [grow_grow, World.drewN_drewN]⟩
theorem Gr.drew {a b : World} (h : Gr a b) : Gr a b.drew := h.trans ⟨1, #[], by rw [grow_empty]; rfl⟩
theorem Gr.alloc {a b : World} (h : Gr a b) (o : Obj) : Gr a (b.alloc o) := h.trans ⟨0, #[o], by rw [alloc_eq_grow]; rfl⟩
theorem Gr.below {W w' : World} (h : Gr W w') : Below W.heap.size W w' := by
  obtain ⟨q, os, rfl⟩ := h
  refine ⟨rfl, rfl, rfl, ?_, fun k hk => ?_⟩
  · simp [grow, World.drewN]
  · simp [grow, World.drewN, Array.getElem?_append, hk]
attribute [local go_sem ↓] load_b16_rule store_b16_rule load_ad_rule store_ad_rule load_px_rule store_px_rule eq_b16_rule eq_ad_rule eq_px_rule build_ad_rule build_px_rule build_b16_rule load_ro_rule store_ro_rule
set_option maxRecDepth 100000 in
set_option maxHeartbeats 1600000 in
theorem compareG_any (p q : Px) (w : World) : Calls Tryz.prog 73 #[.agg p.cs, .agg q.cs] w fun e w' => e = .returned (.int .i64 (cmpP p q)) ∧ Gr w w' := by
  obtain ⟨W1, hW1⟩ : ∃ W1, (w.alloc (.cells p.cs 46)).alloc (.cells q.cs 46) = W1 := ⟨_, rfl⟩
  have hb1 : Below w.heap.size w W1 := by rw [← hW1]; exact (((Below.refl w.heap.size w).alloc (Nat.le_refl _) _).alloc (by simp) _)
  have b1 : Blk W1 (w.heap.size) 46 p.cs := by
    have h9 := Blk.new w 46 p.cs
    rw [← hW1]; exact (h9.alloc _)
  have b2 : Blk W1 (w.heap.size + 1) 46 q.cs := by
    have h9 := Blk.new (w.alloc (.cells p.cs 46)) 46 q.cs
    rw [World.size_alloc] at h9
    rw [← hW1]; exact h9
  have LPp := px_p b1
  have LAp := px_a b1
  have LBp := px_b b1
  have LVp := px_v b1
  have LNp := px_n b1
  have LPq := px_p b2
  have LAq := px_a b2
  have LBq := px_b b2
  have LVq := px_v b2
  have LNq := px_n b2
  have LIp := px_lies b1
  have LIq := px_lies b2
  have h0 : Below W1.heap.size W1 W1 := Below.refl _ _
  have g0 : Gr W1 W1 := Gr.refl _
  have HB := Lib.hid (show Gr w W1 by rw [← hW1]; exact ((Gr.refl w).alloc _).alloc _)
  clear hb1 b1 b2
  have LD := bel_drew_all W1
  have LE := bel_alloc_all W1
  have HCV := cmpI_any p.a.v q.a.v
  have HCN := cmpI_any p.n q.n
  have HCB := fun w' h => bcompare_any _ _ 16 16 16 16 _ _ w' p.a.b.len q.a.b.len p.a.b.bys q.a.b.bys (LIp w' h) (LIq w' h)
  have HOR := or_any [cmpI p.a.v q.a.v, cmpB p.a.b.l q.a.b.l, cmpI p.n q.n] 3 rfl (by omega)
  have HE := Lib.hid (show orL [cmpI p.a.v q.a.v, cmpB p.a.b.l q.a.b.l, cmpI p.n q.n] = cmpP p q from rfl)
  generalize cmpI p.a.v q.a.v = x1 at *
  generalize cmpI p.n q.n = x3 at *
  generalize cmpB p.a.b.l q.a.b.l = x2 at *
  clear LIp LIq
  go_enter Tryz.func73, Tryz.ntmps73
  go_wp2_with fail
  refine wp_region_linX (fun w' => Gr W1 w') [19, 20] [0, 1, 2, 3, 4, 5, 6, 7, 8, 9, 10, 11, 12, 13, 14, 15, 16, 17, 18, 19, 20, 21] (by kernel_rfl) (by kernel_rfl) (Gr.drew g0) ?_
  (repeat (first | (refine linX_off rfl rfl (by rfl) ?_; (try simp only [Act.put, List.getElem_toArray, List.getElem_cons_zero, List.getElem_cons_succ, List.setIfInBounds_toArray, List.set_cons_zero, List.set_cons_succ])) | (refine linX_op (v := ?_) rfl rfl (by rfl) (fun w9 hS9 => ?_) ?_; rotate_left; (focus (((try dsimp only at hS9); have hS9 := Gr.below hS9; go_simp; (try go_bits)) <;> with_reducible rfl)); (try simp only [Act.put, List.getElem_toArray, List.getElem_cons_zero, List.getElem_cons_succ, List.setIfInBounds_toArray, List.set_cons_zero, List.set_cons_succ])) | (refine linX_fn (f := 74) rfl rfl (by rfl) rfl rfl (enters_of Tryz.func74 (by kernel_rfl) rfl) (fun w9 hS9 => (HCV w9).mono (fun e w' h => ⟨h.1, h.2⟩)) ?_ ?_; (focus (simp [Act.eval]; done)); (try simp only [Act.put, List.getElem_toArray, List.getElem_cons_zero, List.getElem_cons_succ, List.setIfInBounds_toArray, List.set_cons_zero, List.set_cons_succ])) | (refine linX_fn (f := 74) rfl rfl (by rfl) rfl rfl (enters_of Tryz.func74 (by kernel_rfl) rfl) (fun w9 hS9 => (HCN w9).mono (fun e w' h => ⟨h.1, h.2⟩)) ?_ ?_; (focus (simp [Act.eval]; done)); (try simp only [Act.put, List.getElem_toArray, List.getElem_cons_zero, List.getElem_cons_succ, List.setIfInBounds_toArray, List.set_cons_zero, List.set_cons_succ])) | (refine linX_fn (f := 92) rfl rfl (by rfl) rfl rfl (enters_of Tryz.func92 (by kernel_rfl) rfl) (fun w9 hS9 => (HCB w9 (Gr.below hS9)).mono (fun e w' h => ⟨h.1, h.2⟩)) ?_ ?_; (focus (simp [Act.eval]; done)); (try simp only [Act.put, List.getElem_toArray, List.getElem_cons_zero, List.getElem_cons_succ, List.setIfInBounds_toArray, List.set_cons_zero, List.set_cons_succ]))))
  refine linX_do (v := .slice (some ⟨W1.heap.size, 0, none⟩) 3 3) (w' := (W1.alloc (.cells #[.int .i64 x1, .int .i64 x2, .int .i64 x3] 3)).drew) rfl rfl (by rfl) ?_ ?_ ?_; (focus (go_simp; done))
  · exact (g0.alloc _).drew
  (try simp only [Act.put, List.getElem_toArray, List.getElem_cons_zero, List.getElem_cons_succ, List.setIfInBounds_toArray, List.set_cons_zero, List.set_cons_succ])
  have hk3 : Gr W1 (W1.alloc (.cells #[.int .i64 x1, .int .i64 x2, .int .i64 x3] 3)).drew := (g0.alloc _).drew
  have HC3 : ∀ j, j < 3 → (W1.alloc (.cells #[.int .i64 x1, .int .i64 x2, .int .i64 x3] 3)).drew.cell? ⟨W1.heap.size, j, none⟩ = some (.int .i64 ([x1, x2, x3].getD j 0)) := fun j hj => by
    rw [(Blk.drew (Blk.new W1 3 _)).cell]
    match j, hj with
    | 0, _ => rfl
    | 1, _ => rfl
    | 2, _ => rfl
  generalize (W1.alloc (.cells #[.int .i64 x1, .int .i64 x2, .int .i64 x3] 3)).drew = w3 at *
  refine linX_call (f := 91) (args := #[.slice (some ⟨W1.heap.size, 0, none⟩) 3 3]) rfl rfl (by rfl) rfl rfl (enters_of Tryz.func91 (by kernel_rfl) rfl) ?_ ?_; (focus (simp [Act.eval]; done)); refine (HOR W1.heap.size w3 HC3).mono ?_; rintro e w4 ⟨rfl, rfl⟩; refine ⟨_, rfl, hk3, ?_⟩
  (try simp only [Act.put, List.getElem_toArray, List.getElem_cons_zero, List.getElem_cons_succ, List.setIfInBounds_toArray, List.set_cons_zero, List.set_cons_succ])
  (repeat (first | (refine linX_off rfl rfl (by rfl) ?_; (try simp only [Act.put, List.getElem_toArray, List.getElem_cons_zero, List.getElem_cons_succ, List.setIfInBounds_toArray, List.set_cons_zero, List.set_cons_succ])) | (refine linX_op (v := ?_) rfl rfl (by rfl) (fun w9 hS9 => ?_) ?_; rotate_left; (focus (((try dsimp only at hS9); have hS9 := Gr.below hS9; go_simp; (try go_bits)) <;> with_reducible rfl)); (try simp only [Act.put, List.getElem_toArray, List.getElem_cons_zero, List.getElem_cons_succ, List.setIfInBounds_toArray, List.set_cons_zero, List.set_cons_succ])) ))
  refine linX_nil ?_
  go_wp2
  go_ret
  exact ⟨by rw [HE.out]; rfl, HB.out.trans hk3⟩
set_option maxHeartbeats 1600000 in
theorem byprefix_any (x y : Ro) (w : World) : Calls Tryz.prog 52 #[.agg x.cs, .agg y.cs] w fun e w' => e = .returned (.int .i64 (cmpP x.p y.p)) ∧ Gr w w' := by
  obtain ⟨W1, hW1⟩ : ∃ W1, (w.alloc (.cells x.cs 50)).alloc (.cells y.cs 50) = W1 := ⟨_, rfl⟩
  have hg1 : Gr w W1 := by rw [← hW1]; exact ((Gr.refl w).alloc _).alloc _
  have b1 : Blk W1 w.heap.size 50 x.cs := by rw [← hW1]; exact (Blk.new _ _ _).alloc _
  have b2 : Blk W1 (w.heap.size + 1) 50 y.cs := by
    have h9 := Blk.new (w.alloc (.cells x.cs 50)) 50 y.cs
    rw [World.size_alloc] at h9
    rw [← hW1]; exact h9
  have LP := ro_p b1 W1 (Below.refl _ _)
  have LQ := ro_p b2 W1 (Below.refl _ _)
  have HC := compareG_any x.p y.p W1
  have HB := Lib.hid hg1
  clear hg1 b1 b2
  generalize cmpP x.p y.p = v at *
  go_enter Tryz.func52, Tryz.ntmps52
  go_wp2_with fail
  refine HC.mono ?_
  rintro e W2 ⟨rfl, hg2⟩
  go_wp2_with fail
  go_ret
  exact ⟨rfl, HB.out.trans hg2⟩
set_option maxHeartbeats 1600000 in
theorem bysource_any (x y : Ro) (w : World) : Calls Tryz.prog 53 #[.agg x.cs, .agg y.cs] w fun e w' => e = .returned (.int .i64 (cmpI x.s y.s)) ∧ Gr w w' := by
  obtain ⟨W1, hW1⟩ : ∃ W1, (w.alloc (.cells x.cs 50)).alloc (.cells y.cs 50) = W1 := ⟨_, rfl⟩
  have hg1 : Gr w W1 := by rw [← hW1]; exact ((Gr.refl w).alloc _).alloc _
  have b1 : Blk W1 w.heap.size 50 x.cs := by rw [← hW1]; exact (Blk.new _ _ _).alloc _
  have b2 : Blk W1 (w.heap.size + 1) 50 y.cs := by
    have h9 := Blk.new (w.alloc (.cells x.cs 50)) 50 y.cs
    rw [World.size_alloc] at h9
    rw [← hW1]; exact h9
  have LP := ro_s b1 W1 (Below.refl _ _)
  have LQ := ro_s b2 W1 (Below.refl _ _)
  have HC := cmpI_any x.s y.s W1
  have HB := Lib.hid hg1
  clear hg1 b1 b2
  generalize cmpI x.s y.s = v at *
  go_enter Tryz.func53, Tryz.ntmps53
  go_wp2_with fail
  refine HC.mono ?_
  rintro e W2 ⟨rfl, hg2⟩
  go_wp2_with fail
  go_ret
  exact ⟨rfl, by subst hg2; exact HB.out⟩
set_option maxHeartbeats 1600000 in
theorem bypref_any (x y : Ro) (w : World) : Calls Tryz.prog 56 #[.agg x.cs, .agg y.cs] w fun e w' => e = .returned (.int .i64 (cmpI y.f x.f)) ∧ Gr w w' := by
  obtain ⟨W1, hW1⟩ : ∃ W1, (w.alloc (.cells x.cs 50)).alloc (.cells y.cs 50) = W1 := ⟨_, rfl⟩
  have hg1 : Gr w W1 := by rw [← hW1]; exact ((Gr.refl w).alloc _).alloc _
  have b1 : Blk W1 w.heap.size 50 x.cs := by rw [← hW1]; exact (Blk.new _ _ _).alloc _
  have b2 : Blk W1 (w.heap.size + 1) 50 y.cs := by
    have h9 := Blk.new (w.alloc (.cells x.cs 50)) 50 y.cs
    rw [World.size_alloc] at h9
    rw [← hW1]; exact h9
  have LP := ro_f b1 W1 (Below.refl _ _)
  have LQ := ro_f b2 W1 (Below.refl _ _)
  have HC := cmpI_any y.f x.f W1
  have HB := Lib.hid hg1
  clear hg1 b1 b2
  generalize cmpI y.f x.f = v at *
  go_enter Tryz.func56, Tryz.ntmps56
  go_wp2_with fail
  refine HC.mono ?_
  rintro e W2 ⟨rfl, hg2⟩
  go_wp2_with fail
  go_ret
  exact ⟨rfl, by subst hg2; exact HB.out⟩
/-- The order of a RIB, and the order in which the best comes first. -/
noncomputable def cmpR (x y : Ro) : Int := orL [cmpP x.p y.p, cmpI x.s y.s]
noncomputable def cmpB1 (x y : Ro) : Int := orL [cmpP x.p y.p, cmpI y.f x.f, cmpI x.s y.s]
/-- A slice of these functions, and a box with it. -/
def RisAt (w : World) (ob sb : Nat) : Prop := w.cell? ⟨ob, 0, none⟩ = some (.slice (some ⟨sb, 0, none⟩) 2 2) ∧ w.cell? ⟨sb, 0, none⟩ = some (.func (.func 52) #[] #[]) ∧ w.cell? ⟨sb, 1, none⟩ = some (.func (.func 53) #[] #[]) ∧ ob < w.heap.size ∧ sb < w.heap.size
theorem RisAt.later {w w' : World} {ob sb : Nat} (h : RisAt w ob sb) (k : Below w.heap.size w w') : RisAt w' ob sb :=
  ⟨(k.cell (p := ⟨ob, 0, none⟩) h.2.2.2.1).trans h.1, (k.cell (p := ⟨sb, 0, none⟩) h.2.2.2.2).trans h.2.1, (k.cell (p := ⟨sb, 1, none⟩) h.2.2.2.2).trans h.2.2.1, Nat.lt_of_lt_of_le h.2.2.2.1 k.size, Nat.lt_of_lt_of_le h.2.2.2.2 k.size⟩
set_option maxHeartbeats 4000000 in
theorem Ris_any (x y : Ro) (ob sb : Nat) (w : World) (h : RisAt w ob sb) : Calls Tryz.prog 72 #[.agg x.cs, .agg y.cs, .pointer (some ⟨ob, 0, none⟩)] w fun e w' => e = .returned (.int .i64 (cmpR x y)) ∧ Gr w w' := by
  obtain ⟨W1, hW1⟩ : ∃ W1, (w.alloc (.cells x.cs 50)).alloc (.cells y.cs 50) = W1 := ⟨_, rfl⟩
  have hg1 : Gr w W1 := by rw [← hW1]; exact ((Gr.refl w).alloc _).alloc _
  have b1 : Blk W1 w.heap.size 50 x.cs := by rw [← hW1]; exact (Blk.new _ _ _).alloc _
  have b2 : Blk W1 (w.heap.size + 1) 50 y.cs := by
    have h9 := Blk.new (w.alloc (.cells x.cs 50)) 50 y.cs
    rw [World.size_alloc] at h9
    rw [← hW1]; exact h9
  have h1 := h.later hg1.below
  have c0 := h1.1
  have HB := Lib.hid (And.intro hg1 (And.intro b1 (And.intro b2 h1)))
  have HV := Lib.hid (show cmpR x y = orL [cmpP x.p y.p, cmpI x.s y.s] from rfl)
  clear hg1 b1 b2 h1 h
  go_enter Tryz.func72, Tryz.ntmps72
  go_wp2_with fail
  go_loopw [11] (fun i wr => ∃ k : Nat, k ≤ 2 ∧ i = .int .i64 k ∧ Gr W1 wr ∧ ∀ j, j < k → [cmpP x.p y.p, cmpI x.s y.s].getD j 0 = 0) (fun i _ => 2 - (intOf i).toNat)
  case atStart => exact ⟨0, Nat.zero_le _, rfl, Gr.refl _, fun j hj => absurd hj (Nat.not_lt_zero _)⟩
  case round =>
    obtain ⟨k, hk, rfl, hgr, hz⟩ := hrel
    clear c0
    have hb := hgr.below
    have h2 := HB.out.2.2.2.later hb
    have LX := ro_r HB.out.2.1 wr hb
    have LY := ro_r HB.out.2.2.1 wr hb
    by_cases k0 : k = 0
    · subst k0
      have cf := h2.2.1
      have HC := byprefix_any x y wr
      have HG := Lib.hid (And.intro hgr hz)
      clear hgr hz hb h2
      obtain ⟨v, hv⟩ : ∃ v, cmpP x.p y.p = v := ⟨_, rfl⟩
      rw [hv] at HC
      have HW := Lib.hid hv
      clear hv
      go_wp2_with fail
      refine HC.mono ?_
      rintro e w2 ⟨rfl, hg2⟩
      have HG2 := Lib.hid hg2
      clear HC hg2 LX LY cf
      by_cases hv0 : v = 0
      · have HW0 := Lib.hid hv0
        have d1 : (v != 0) = false := by simp [hv0]
        clear hv0
        go_wp2
        go_roundw
        case rel => exact ⟨0 + 1, by omega, by go_num, HG.out.1.trans HG2.out, fun j hj => by
          by_cases e : j = 0
          · subst e
            show cmpP x.p y.p = 0
            rw [HW.out]; exact HW0.out
          · exact HG.out.2 j (by omega)⟩
        case measure => simp [intOf]
      · have HW0 := Lib.hid hv0
        have d1 : (v != 0) = true := by simp [hv0]
        clear hv0
        go_wp2
        go_ret
        refine ⟨?_, HB.out.1.trans (HG.out.1.trans HG2.out)⟩
        rw [HV.out]
        have h9 : cmpP x.p y.p ≠ 0 := by rw [HW.out]; exact HW0.out
        simp only [orL, if_neg h9]
        rw [HW.out]
        try rfl
    by_cases k1 : k = 1
    · subst k1
      have cf := h2.2.2.1
      have HC := bysource_any x y wr
      have HG := Lib.hid (And.intro hgr hz)
      clear hgr hz hb h2
      obtain ⟨v, hv⟩ : ∃ v, cmpI x.s y.s = v := ⟨_, rfl⟩
      rw [hv] at HC
      have HW := Lib.hid hv
      clear hv
      go_wp2_with fail
      refine HC.mono ?_
      rintro e w2 ⟨rfl, hg2⟩
      have HG2 := Lib.hid hg2
      clear HC hg2 LX LY cf
      by_cases hv0 : v = 0
      · have HW0 := Lib.hid hv0
        have d1 : (v != 0) = false := by simp [hv0]
        clear hv0
        go_wp2
        go_roundw
        case rel => exact ⟨1 + 1, by omega, by go_num, HG.out.1.trans HG2.out, fun j hj => by
          by_cases e : j = 1
          · subst e
            show cmpI x.s y.s = 0
            rw [HW.out]; exact HW0.out
          · exact HG.out.2 j (by omega)⟩
        case measure => simp [intOf]
      · have HW0 := Lib.hid hv0
        have d1 : (v != 0) = true := by simp [hv0]
        clear hv0
        go_wp2
        go_ret
        refine ⟨?_, HB.out.1.trans (HG.out.1.trans HG2.out)⟩
        rw [HV.out]
        have z0 : cmpP x.p y.p = 0 := HG.out.2 0 (by omega)
        have h9 : cmpI x.s y.s ≠ 0 := by rw [HW.out]; exact HW0.out
        simp only [orL, if_pos z0, if_neg h9]
        rw [HW.out]
        try rfl
    obtain rfl : k = 2 := by omega
    have HG := Lib.hid (And.intro hgr hz)
    clear hgr hz hb h2 LX LY
    go_wp2
    go_ret
    refine ⟨?_, HB.out.1.trans HG.out.1⟩
    rw [HV.out]
    have z0 : cmpP x.p y.p = 0 := HG.out.2 0 (by omega)
    have z1 : cmpI x.s y.s = 0 := HG.out.2 1 (by omega)
    simp only [orL, if_pos z0, if_pos z1]
    try rfl
/-- A slice of these functions, and a box with it. -/
def BstAt (w : World) (ob sb : Nat) : Prop := w.cell? ⟨ob, 0, none⟩ = some (.slice (some ⟨sb, 0, none⟩) 3 3) ∧ w.cell? ⟨sb, 0, none⟩ = some (.func (.func 52) #[] #[]) ∧ w.cell? ⟨sb, 1, none⟩ = some (.func (.func 56) #[] #[]) ∧ w.cell? ⟨sb, 2, none⟩ = some (.func (.func 53) #[] #[]) ∧ ob < w.heap.size ∧ sb < w.heap.size
theorem BstAt.later {w w' : World} {ob sb : Nat} (h : BstAt w ob sb) (k : Below w.heap.size w w') : BstAt w' ob sb :=
  ⟨(k.cell (p := ⟨ob, 0, none⟩) h.2.2.2.2.1).trans h.1, (k.cell (p := ⟨sb, 0, none⟩) h.2.2.2.2.2).trans h.2.1, (k.cell (p := ⟨sb, 1, none⟩) h.2.2.2.2.2).trans h.2.2.1, (k.cell (p := ⟨sb, 2, none⟩) h.2.2.2.2.2).trans h.2.2.2.1, Nat.lt_of_lt_of_le h.2.2.2.2.1 k.size, Nat.lt_of_lt_of_le h.2.2.2.2.2 k.size⟩
set_option maxHeartbeats 4000000 in
theorem Bst_any (x y : Ro) (ob sb : Nat) (w : World) (h : BstAt w ob sb) : Calls Tryz.prog 72 #[.agg x.cs, .agg y.cs, .pointer (some ⟨ob, 0, none⟩)] w fun e w' => e = .returned (.int .i64 (cmpB1 x y)) ∧ Gr w w' := by
  obtain ⟨W1, hW1⟩ : ∃ W1, (w.alloc (.cells x.cs 50)).alloc (.cells y.cs 50) = W1 := ⟨_, rfl⟩
  have hg1 : Gr w W1 := by rw [← hW1]; exact ((Gr.refl w).alloc _).alloc _
  have b1 : Blk W1 w.heap.size 50 x.cs := by rw [← hW1]; exact (Blk.new _ _ _).alloc _
  have b2 : Blk W1 (w.heap.size + 1) 50 y.cs := by
    have h9 := Blk.new (w.alloc (.cells x.cs 50)) 50 y.cs
    rw [World.size_alloc] at h9
    rw [← hW1]; exact h9
  have h1 := h.later hg1.below
  have c0 := h1.1
  have HB := Lib.hid (And.intro hg1 (And.intro b1 (And.intro b2 h1)))
  have HV := Lib.hid (show cmpB1 x y = orL [cmpP x.p y.p, cmpI y.f x.f, cmpI x.s y.s] from rfl)
  clear hg1 b1 b2 h1 h
  go_enter Tryz.func72, Tryz.ntmps72
  go_wp2_with fail
  go_loopw [11] (fun i wr => ∃ k : Nat, k ≤ 3 ∧ i = .int .i64 k ∧ Gr W1 wr ∧ ∀ j, j < k → [cmpP x.p y.p, cmpI y.f x.f, cmpI x.s y.s].getD j 0 = 0) (fun i _ => 3 - (intOf i).toNat)
  case atStart => exact ⟨0, Nat.zero_le _, rfl, Gr.refl _, fun j hj => absurd hj (Nat.not_lt_zero _)⟩
  case round =>
    obtain ⟨k, hk, rfl, hgr, hz⟩ := hrel
    clear c0
    have hb := hgr.below
    have h2 := HB.out.2.2.2.later hb
    have LX := ro_r HB.out.2.1 wr hb
    have LY := ro_r HB.out.2.2.1 wr hb
    by_cases k0 : k = 0
    · subst k0
      have cf := h2.2.1
      have HC := byprefix_any x y wr
      have HG := Lib.hid (And.intro hgr hz)
      clear hgr hz hb h2
      obtain ⟨v, hv⟩ : ∃ v, cmpP x.p y.p = v := ⟨_, rfl⟩
      rw [hv] at HC
      have HW := Lib.hid hv
      clear hv
      go_wp2_with fail
      refine HC.mono ?_
      rintro e w2 ⟨rfl, hg2⟩
      have HG2 := Lib.hid hg2
      clear HC hg2 LX LY cf
      by_cases hv0 : v = 0
      · have HW0 := Lib.hid hv0
        have d1 : (v != 0) = false := by simp [hv0]
        clear hv0
        go_wp2
        go_roundw
        case rel => exact ⟨0 + 1, by omega, by go_num, HG.out.1.trans HG2.out, fun j hj => by
          by_cases e : j = 0
          · subst e
            show cmpP x.p y.p = 0
            rw [HW.out]; exact HW0.out
          · exact HG.out.2 j (by omega)⟩
        case measure => simp [intOf]
      · have HW0 := Lib.hid hv0
        have d1 : (v != 0) = true := by simp [hv0]
        clear hv0
        go_wp2
        go_ret
        refine ⟨?_, HB.out.1.trans (HG.out.1.trans HG2.out)⟩
        rw [HV.out]
        have h9 : cmpP x.p y.p ≠ 0 := by rw [HW.out]; exact HW0.out
        simp only [orL, if_neg h9]
        rw [HW.out]
        try rfl
    by_cases k1 : k = 1
    · subst k1
      have cf := h2.2.2.1
      have HC := bypref_any x y wr
      have HG := Lib.hid (And.intro hgr hz)
      clear hgr hz hb h2
      obtain ⟨v, hv⟩ : ∃ v, cmpI y.f x.f = v := ⟨_, rfl⟩
      rw [hv] at HC
      have HW := Lib.hid hv
      clear hv
      go_wp2_with fail
      refine HC.mono ?_
      rintro e w2 ⟨rfl, hg2⟩
      have HG2 := Lib.hid hg2
      clear HC hg2 LX LY cf
      by_cases hv0 : v = 0
      · have HW0 := Lib.hid hv0
        have d1 : (v != 0) = false := by simp [hv0]
        clear hv0
        go_wp2
        go_roundw
        case rel => exact ⟨1 + 1, by omega, by go_num, HG.out.1.trans HG2.out, fun j hj => by
          by_cases e : j = 1
          · subst e
            show cmpI y.f x.f = 0
            rw [HW.out]; exact HW0.out
          · exact HG.out.2 j (by omega)⟩
        case measure => simp [intOf]
      · have HW0 := Lib.hid hv0
        have d1 : (v != 0) = true := by simp [hv0]
        clear hv0
        go_wp2
        go_ret
        refine ⟨?_, HB.out.1.trans (HG.out.1.trans HG2.out)⟩
        rw [HV.out]
        have z0 : cmpP x.p y.p = 0 := HG.out.2 0 (by omega)
        have h9 : cmpI y.f x.f ≠ 0 := by rw [HW.out]; exact HW0.out
        simp only [orL, if_pos z0, if_neg h9]
        rw [HW.out]
        try rfl
    by_cases k2 : k = 2
    · subst k2
      have cf := h2.2.2.2.1
      have HC := bysource_any x y wr
      have HG := Lib.hid (And.intro hgr hz)
      clear hgr hz hb h2
      obtain ⟨v, hv⟩ : ∃ v, cmpI x.s y.s = v := ⟨_, rfl⟩
      rw [hv] at HC
      have HW := Lib.hid hv
      clear hv
      go_wp2_with fail
      refine HC.mono ?_
      rintro e w2 ⟨rfl, hg2⟩
      have HG2 := Lib.hid hg2
      clear HC hg2 LX LY cf
      by_cases hv0 : v = 0
      · have HW0 := Lib.hid hv0
        have d1 : (v != 0) = false := by simp [hv0]
        clear hv0
        go_wp2
        go_roundw
        case rel => exact ⟨2 + 1, by omega, by go_num, HG.out.1.trans HG2.out, fun j hj => by
          by_cases e : j = 2
          · subst e
            show cmpI x.s y.s = 0
            rw [HW.out]; exact HW0.out
          · exact HG.out.2 j (by omega)⟩
        case measure => simp [intOf]
      · have HW0 := Lib.hid hv0
        have d1 : (v != 0) = true := by simp [hv0]
        clear hv0
        go_wp2
        go_ret
        refine ⟨?_, HB.out.1.trans (HG.out.1.trans HG2.out)⟩
        rw [HV.out]
        have z0 : cmpP x.p y.p = 0 := HG.out.2 0 (by omega)
        have z1 : cmpI y.f x.f = 0 := HG.out.2 1 (by omega)
        have h9 : cmpI x.s y.s ≠ 0 := by rw [HW.out]; exact HW0.out
        simp only [orL, if_pos z0, if_pos z1, if_neg h9]
        rw [HW.out]
        try rfl
    obtain rfl : k = 3 := by omega
    have HG := Lib.hid (And.intro hgr hz)
    clear hgr hz hb h2 LX LY
    go_wp2
    go_ret
    refine ⟨?_, HB.out.1.trans HG.out.1⟩
    rw [HV.out]
    have z0 : cmpP x.p y.p = 0 := HG.out.2 0 (by omega)
    have z1 : cmpI y.f x.f = 0 := HG.out.2 1 (by omega)
    have z2 : cmpI x.s y.s = 0 := HG.out.2 2 (by omega)
    simp only [orL, if_pos z0, if_pos z1, if_pos z2]
    try rfl
end Go.Proofs.YtikdgbmdepplgaaGreatDoor
namespace Go.Proofs.YtikdgbmdepplgaaGreatDoor
open Go.RowKit Go.Shelf Go.Sort
set_option linter.unusedVariables false

/-- The numbers of the sort's functions and types here. -/
def sortR_ren : Go.Shelf.Ren := ⟨fun | 6 => 35 | 15 => 50 | 14 => 49 | 28 => 70 | 29 => 71 | 20 => 62 | 21 => 63 | 22 => 64 | 23 => 65 | 24 => 66 | 25 => 67 | 26 => 68 | 27 => 69 | 46 => 86 | 47 => 87 | 48 => 88 | 49 => 89 | 50 => 90 | 57 => 100 | n => n, fun | 22 => 22 | 24 => 50 | 25 => 86 | 3 => 3 | 39 => 98 | 0 => 0 | 53 => 117 | 55 => 119 | 4 => 4 | 46 => 110 | 45 => 109 | 50 => 114 | 5 => 5 | 9 => 9 | 66 => 132 | 70 => 136 | 76 => 148 | 77 => 149 | n => n, fun | n => n⟩
theorem sortR : SlLaysF0.n6 Tryz.prog sortR_ren where
  mixed := by kernel_rfl
  f6 := ⟨"slices.SortFunc[[]junctionbox/api.Route,junctionbox/api.Route]", by decide, Tryz.func35.trans (congrArg some (by kernel_rfl))⟩
  f14 := ⟨"slices.pdqsortCmpFunc[junctionbox/api.Route]", by decide, Tryz.func49.trans (congrArg some (by kernel_rfl))⟩
  f15 := Tryz.func50.trans (congrArg some (by kernel_rfl))
  f20 := ⟨"slices.insertionSortCmpFunc[junctionbox/api.Route]", by decide, Tryz.func62.trans (congrArg some (by kernel_rfl))⟩
  f21 := ⟨"slices.heapSortCmpFunc[junctionbox/api.Route]", by decide, Tryz.func63.trans (congrArg some (by kernel_rfl))⟩
  f22 := ⟨"slices.breakPatternsCmpFunc[junctionbox/api.Route]", by decide, Tryz.func64.trans (congrArg some (by kernel_rfl))⟩
  f23 := ⟨"slices.choosePivotCmpFunc[junctionbox/api.Route]", by decide, Tryz.func65.trans (congrArg some (by kernel_rfl))⟩
  f24 := ⟨"slices.reverseRangeCmpFunc[junctionbox/api.Route]", by decide, Tryz.func66.trans (congrArg some (by kernel_rfl))⟩
  f25 := ⟨"slices.partialInsertionSortCmpFunc[junctionbox/api.Route]", by decide, Tryz.func67.trans (congrArg some (by kernel_rfl))⟩
  f26 := ⟨"slices.partitionEqualCmpFunc[junctionbox/api.Route]", by decide, Tryz.func68.trans (congrArg some (by kernel_rfl))⟩
  f27 := ⟨"slices.partitionCmpFunc[junctionbox/api.Route]", by decide, Tryz.func69.trans (congrArg some (by kernel_rfl))⟩
  f28 := Tryz.func70.trans (congrArg some (by kernel_rfl))
  f29 := Tryz.func71.trans (congrArg some (by kernel_rfl))
  f46 := ⟨"slices.siftDownCmpFunc[junctionbox/api.Route]", by decide, Tryz.func86.trans (congrArg some (by kernel_rfl))⟩
  f47 := Tryz.func87.trans (congrArg some (by kernel_rfl))
  f48 := Tryz.func88.trans (congrArg some (by kernel_rfl))
  f49 := ⟨"slices.medianAdjacentCmpFunc[junctionbox/api.Route]", by decide, Tryz.func89.trans (congrArg some (by kernel_rfl))⟩
  f50 := ⟨"slices.medianCmpFunc[junctionbox/api.Route]", by decide, Tryz.func90.trans (congrArg some (by kernel_rfl))⟩
  f57 := ⟨"slices.order2CmpFunc[junctionbox/api.Route]", by decide, Tryz.func100.trans (congrArg some (by kernel_rfl))⟩
  t0 := Tryz.underlying0
  a0 := Tryz.isAgg0
  z0 := Tryz.sizeOf0
  v0 := Tryz.zeroValue0
  t3 := Tryz.underlying3
  a3 := Tryz.isAgg3
  z3 := Tryz.sizeOf3
  v3 := Tryz.zeroValue3
  t4 := Tryz.underlying4
  a4 := Tryz.isAgg4
  z4 := Tryz.sizeOf4
  v4 := Tryz.zeroValue4
  t5 := Tryz.underlying5
  a5 := Tryz.isAgg5
  z5 := Tryz.sizeOf5
  v5 := Tryz.zeroValue5
  t9 := Tryz.underlying9
  a9 := Tryz.isAgg9
  z9 := Tryz.sizeOf9
  v9 := Tryz.zeroValue9
  t22 := Tryz.underlying22
  a22 := Tryz.isAgg22
  z22 := Tryz.sizeOf22
  v22 := Tryz.zeroValue22
  t25 := Tryz.underlying86
  a25 := Tryz.isAgg86
  z25 := Tryz.sizeOf86
  v25 := Tryz.zeroValue86
  t39 := Tryz.underlying98
  a39 := Tryz.isAgg98
  z39 := Tryz.sizeOf98
  v39 := Tryz.zeroValue98
  t45 := Tryz.underlying109
  a45 := Tryz.isAgg109
  z45 := Tryz.sizeOf109
  v45 := Tryz.zeroValue109
  t46 := Tryz.underlying110
  a46 := Tryz.isAgg110
  z46 := Tryz.sizeOf110
  v46 := Tryz.zeroValue110
  t50 := Tryz.underlying114
  a50 := Tryz.isAgg114
  z50 := Tryz.sizeOf114
  v50 := Tryz.zeroValue114
  t53 := Tryz.underlying117
  a53 := Tryz.isAgg117
  z53 := Tryz.sizeOf117
  v53 := Tryz.zeroValue117
  t55 := Tryz.underlying119
  a55 := Tryz.isAgg119
  z55 := Tryz.sizeOf119
  v55 := Tryz.zeroValue119
  t66 := Tryz.underlying132
  a66 := Tryz.isAgg132
  z66 := Tryz.sizeOf132
  v66 := Tryz.zeroValue132
  t70 := Tryz.underlying136
  a70 := Tryz.isAgg136
  z70 := Tryz.sizeOf136
  v70 := Tryz.zeroValue136
  t76 := Tryz.underlying148
  a76 := Tryz.isAgg148
  z76 := Tryz.sizeOf148
  v76 := Tryz.zeroValue148
  t77 := Tryz.underlying149
  a77 := Tryz.isAgg149
  z77 := Tryz.sizeOf149
  v77 := Tryz.zeroValue149
end Go.Proofs.YtikdgbmdepplgaaGreatDoor
