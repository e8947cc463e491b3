/-
  The contracts of ship.Took and Offer and of the reference's Offer. Nothing here is a statement of the document.
-/
import Derived.Test.YtkoenconjldojaaShP
import Derived.Test.YtkoenconjldojaaLinG
namespace Go.Proofs.Ytkoenconjldojaa
open Go.RowKit Go.Shelf
set_option linter.unusedVariables false
set_option linter.unusedSimpArgs false
set_option maxRecDepth 100000
attribute [local go_sem 10000] gtU_rule leU_rule ltU_rule geU_rule adU_rule sbU_rule mxU_rule mnU_rule mnI_rule
attribute [local go_sem ↓] load_at_rule store_at_rule load_la_rule store_la_rule load_bs_rule store_bs_rule load_vw_rule store_vw_rule load_jo_rule store_jo_rule load_ms_rule store_ms_rule load_ch_rule store_ch_rule load_hd_rule store_hd_rule load_rb_rule store_rb_rule load_en_rule store_en_rule
attribute [local go_sem ↓] build_hd_rule build_rb_rule build_en_rule build_at_rule build_jo_rule upbuild_rule upapp_rule robuild_rule roapp_rule enbuild_rule enapp_rule build_vw_rule eq_at_rule eq_la_rule build_ch_rule
/-- What comes of a message that tells a base. -/
def TookR (v : Vw) (m : Ms) (r : Bool) (er : Int) : Prop :=
  (v.ok = false ∧ r = false ∧ er = 240) ∨ (v.ok = true ∧ ¬ (m.kd = 3 ∧ m.b.i ≤ 4611686018427387904) ∧ r = false ∧ er = 2) ∨ (v.ok = true ∧ (m.kd = 3 ∧ m.b.i ≤ 4611686018427387904) ∧ r = tookV v m ∧ er = 0)
theorem EnIn.take {w : World} {B : Nat} {a : Option Addr} {n c : Nat} {U : List En} (h : EnIn w B a n c U) (m : Nat) (hm : m ≤ n) : EnIn w B a m c (U.take m) := by
  obtain ⟨h1, h2, h3, h4, h5, h6, h7⟩ := h
  refine ⟨by rw [List.length_take]; omega, ?_, by omega, h4, h5, fun hne => h6 (fun e => hne (by rw [e]; simp)), fun x hx => h7 x (List.mem_of_mem_take hx)⟩
  rcases h2 with rfl | ⟨g, o, e, hr⟩
  · exact .inl (by simp)
  · refine .inr ⟨g, o, e, hr.lt, fun i hi j hj => ?_⟩
    have hi2 : i < U.length := by rw [List.length_take] at hi; omega
    have := hr.row i hi2 j hj
    rw [eng_get hi2] at this
    rw [eng_get hi, List.getElem_take]
    exact this
set_option maxHeartbeats 4000000 in
theorem took_bad (v : Vw) (m : Ms) (w : World) (hL : EnIn w 0 v.a v.n v.c v.L) (hv : v.ok = false) :
    Calls Try.prog 21 #[.agg v.cs, .agg m.cs] w fun e w' => ∃ (r : Bool) (er : Int), e = .returned (.tuple #[.bool r, .int .i64 er]) ∧ TookR v m r er ∧ Below w.heap.size w w' := by
  obtain ⟨W1, hW1⟩ : ∃ W1, w.alloc (.cells v.cs 36) = W1 := ⟨_, rfl⟩
  have hb1 : Below w.heap.size w W1 := by rw [← hW1]; exact below_alloc w _
  have b1 : Blk W1 w.heap.size 36 v.cs := by rw [← hW1]; exact Blk.new w _ _
  obtain ⟨W2, hW2⟩ : ∃ W2, W1.alloc (.cells m.cs 47) = W2 := ⟨_, rfl⟩
  have hb12 : Below W1.heap.size W1 W2 := by rw [← hW2]; exact below_alloc W1 _
  have b2 : Blk W2 W1.heap.size 47 m.cs := by rw [← hW2]; exact Blk.new W1 _ _
  have hb02 : Below w.heap.size w W2 := bel_trans hb1 hb12
  have v2 := b1.later hb12
  have LV := ld_vw v2
  have HC := check_any14 v W2
  have he : v.e = 240 := by unfold Vw.e; rw [hv]; rfl
  rw [he] at HC
  clear he
  have HX := Lib.hid (And.intro hb02 (And.intro v2 (And.intro b2 hL)))
  clear hb1 b1 hb12 b2 hb02 v2 hL
  go_enter Try.func21, Try.ntmps21
  go_wp2_with fail
  refine HC.mono ?_
  rintro e W4 ⟨rfl, hb4⟩
  have HF := Lib.hid (bel_trans HX.out.1 hb4)
  clear hb4
  go_wp2_with fail
  refine bodyPost_ret (results_tmp2 rfl _ _ _) rfl ?_
  exact ⟨false, 240, rfl, .inl ⟨hv, rfl, rfl⟩, HF.out⟩

set_option maxHeartbeats 4000000 in
theorem took_k (v : Vw) (m : Ms) (w : World) (hL : EnIn w 0 v.a v.n v.c v.L) (hv : v.ok = true) (hk : ¬ m.kd = 3) :
    Calls Try.prog 21 #[.agg v.cs, .agg m.cs] w fun e w' => ∃ (r : Bool) (er : Int), e = .returned (.tuple #[.bool r, .int .i64 er]) ∧ TookR v m r er ∧ Below w.heap.size w w' := by
  obtain ⟨W1, hW1⟩ : ∃ W1, w.alloc (.cells v.cs 36) = W1 := ⟨_, rfl⟩
  have hb1 : Below w.heap.size w W1 := by rw [← hW1]; exact below_alloc w _
  have b1 : Blk W1 w.heap.size 36 v.cs := by rw [← hW1]; exact Blk.new w _ _
  obtain ⟨W2, hW2⟩ : ∃ W2, W1.alloc (.cells m.cs 47) = W2 := ⟨_, rfl⟩
  have hb12 : Below W1.heap.size W1 W2 := by rw [← hW2]; exact below_alloc W1 _
  have b2 : Blk W2 W1.heap.size 47 m.cs := by rw [← hW2]; exact Blk.new W1 _ _
  have hb02 : Below w.heap.size w W2 := bel_trans hb1 hb12
  have v2 := b1.later hb12
  have LV := ld_vw v2
  have HC := check_any14 v W2
  have he : v.e = 0 := by unfold Vw.e; rw [hv]; rfl
  rw [he] at HC
  have g0 : gtU (m.b.i : Int) 4611686018427387904 = !decide (m.b.i ≤ 4611686018427387904) := gtU_nat m.b.i 4611686018427387904
  clear he
  have d0 : (m.kd != 3) = true := by simp [hk]
  clear g0
  have HX := Lib.hid (And.intro hb02 (And.intro v2 (And.intro b2 hL)))
  clear hb1 b1 hb12 b2 hb02 v2 hL
  go_enter Try.func21, Try.ntmps21
  go_wp2_with fail
  refine HC.mono ?_
  rintro e W4 ⟨rfl, hb4⟩
  have v4 := HX.out.2.1.later hb4
  have m4 := HX.out.2.2.1.later hb4
  have SA := st_at (i2 := (m.b.i : Int)) (e2 := m.b.e) (Blk.new W4 24 (acs 0 0))
  rw [World.setRow_alloc_new] at SA
  obtain ⟨W5, hW5⟩ : ∃ W5, W4.alloc (.cells (acs (m.b.i : Int) m.b.e) 24) = W5 := ⟨_, rfl⟩
  rw [hW5] at SA
  have k45 : Below W4.heap.size W4 W5 := by rw [← hW5]; exact below_alloc W4 _
  have a5 : Blk W5 W4.heap.size 24 (acs (m.b.i : Int) m.b.e) := by rw [← hW5]; exact Blk.new W4 _ _
  have LA4 := ms_ba (m4.alloc (.cells (acs 0 0) 24))
  have LA44 := ms_ba m4
  have v5 := v4.later k45
  have m5 := m4.later k45
  have LV5 := ld_vw v5
  have n0 : W5.cell? ⟨W1.heap.size, 0, none⟩ = some (.int .i64 m.kd) := m5.cell 0
  have n1 : W5.cell? ⟨W4.heap.size, 0, none⟩ = some (.int .u64 (m.b.i : Int)) := a5.cell 0
  have hb05 := bel_trans (bel_trans HX.out.1 hb4) k45
  have HF := Lib.hid hb05
  clear hb4 v4 m4 k45 a5 v5 m5 hb05
  go_wp2_with (with_reducible refine wpList_alloc_z rfl 24 rfl (acs 0 0) 2 z_at ?_)
  refine bodyPost_ret (results_tmp2 rfl _ _ _) rfl ?_
  exact ⟨false, 2, rfl, .inr (.inl ⟨hv, fun h => hk h.1, rfl, rfl⟩), HF.out⟩

set_option maxHeartbeats 4000000 in
theorem took_p (v : Vw) (m : Ms) (w : World) (hL : EnIn w 0 v.a v.n v.c v.L) (hv : v.ok = true) (hk : m.kd = 3) (hp : ¬ m.b.i ≤ 4611686018427387904) :
    Calls Try.prog 21 #[.agg v.cs, .agg m.cs] w fun e w' => ∃ (r : Bool) (er : Int), e = .returned (.tuple #[.bool r, .int .i64 er]) ∧ TookR v m r er ∧ Below w.heap.size w w' := by
  obtain ⟨W1, hW1⟩ : ∃ W1, w.alloc (.cells v.cs 36) = W1 := ⟨_, rfl⟩
  have hb1 : Below w.heap.size w W1 := by rw [← hW1]; exact below_alloc w _
  have b1 : Blk W1 w.heap.size 36 v.cs := by rw [← hW1]; exact Blk.new w _ _
  obtain ⟨W2, hW2⟩ : ∃ W2, W1.alloc (.cells m.cs 47) = W2 := ⟨_, rfl⟩
  have hb12 : Below W1.heap.size W1 W2 := by rw [← hW2]; exact below_alloc W1 _
  have b2 : Blk W2 W1.heap.size 47 m.cs := by rw [← hW2]; exact Blk.new W1 _ _
  have hb02 : Below w.heap.size w W2 := bel_trans hb1 hb12
  have v2 := b1.later hb12
  have LV := ld_vw v2
  have HC := check_any14 v W2
  have he : v.e = 0 := by unfold Vw.e; rw [hv]; rfl
  rw [he] at HC
  have g0 : gtU (m.b.i : Int) 4611686018427387904 = !decide (m.b.i ≤ 4611686018427387904) := gtU_nat m.b.i 4611686018427387904
  clear he
  have d0 : (m.kd != 3) = false := by simp [hk]
  rw [decide_eq_false hp] at g0
  have HP := Lib.hid hp
  clear hp hk
  have HX := Lib.hid (And.intro hb02 (And.intro v2 (And.intro b2 hL)))
  clear hb1 b1 hb12 b2 hb02 v2 hL
  go_enter Try.func21, Try.ntmps21
  go_wp2_with fail
  refine HC.mono ?_
  rintro e W4 ⟨rfl, hb4⟩
  have v4 := HX.out.2.1.later hb4
  have m4 := HX.out.2.2.1.later hb4
  have SA := st_at (i2 := (m.b.i : Int)) (e2 := m.b.e) (Blk.new W4 24 (acs 0 0))
  rw [World.setRow_alloc_new] at SA
  obtain ⟨W5, hW5⟩ : ∃ W5, W4.alloc (.cells (acs (m.b.i : Int) m.b.e) 24) = W5 := ⟨_, rfl⟩
  rw [hW5] at SA
  have k45 : Below W4.heap.size W4 W5 := by rw [← hW5]; exact below_alloc W4 _
  have a5 : Blk W5 W4.heap.size 24 (acs (m.b.i : Int) m.b.e) := by rw [← hW5]; exact Blk.new W4 _ _
  have LA4 := ms_ba (m4.alloc (.cells (acs 0 0) 24))
  have LA44 := ms_ba m4
  have v5 := v4.later k45
  have m5 := m4.later k45
  have LV5 := ld_vw v5
  have n0 : W5.cell? ⟨W1.heap.size, 0, none⟩ = some (.int .i64 m.kd) := m5.cell 0
  have n1 : W5.cell? ⟨W4.heap.size, 0, none⟩ = some (.int .u64 (m.b.i : Int)) := a5.cell 0
  have hb05 := bel_trans (bel_trans HX.out.1 hb4) k45
  have HF := Lib.hid hb05
  clear hb4 v4 m4 k45 a5 v5 m5 hb05
  go_wp2_with (with_reducible refine wpList_alloc_z rfl 24 rfl (acs 0 0) 2 z_at ?_)
  refine bodyPost_ret (results_tmp2 rfl _ _ _) rfl ?_
  exact ⟨false, 2, rfl, .inr (.inl ⟨hv, fun h => HP.out h.2, rfl, rfl⟩), HF.out⟩

set_option maxHeartbeats 4000000 in
theorem took_ok (v : Vw) (m : Ms) (w : World) (hL : EnIn w 0 v.a v.n v.c v.L) (hv : v.ok = true) (hk : m.kd = 3) (hp : m.b.i ≤ 4611686018427387904) :
    Calls Try.prog 21 #[.agg v.cs, .agg m.cs] w fun e w' => ∃ (r : Bool) (er : Int), e = .returned (.tuple #[.bool r, .int .i64 er]) ∧ TookR v m r er ∧ Below w.heap.size w w' := by
  obtain ⟨W1, hW1⟩ : ∃ W1, w.alloc (.cells v.cs 36) = W1 := ⟨_, rfl⟩
  have hb1 : Below w.heap.size w W1 := by rw [← hW1]; exact below_alloc w _
  have b1 : Blk W1 w.heap.size 36 v.cs := by rw [← hW1]; exact Blk.new w _ _
  obtain ⟨W2, hW2⟩ : ∃ W2, W1.alloc (.cells m.cs 47) = W2 := ⟨_, rfl⟩
  have hb12 : Below W1.heap.size W1 W2 := by rw [← hW2]; exact below_alloc W1 _
  have b2 : Blk W2 W1.heap.size 47 m.cs := by rw [← hW2]; exact Blk.new W1 _ _
  have hb02 : Below w.heap.size w W2 := bel_trans hb1 hb12
  have v2 := b1.later hb12
  have LV := ld_vw v2
  have HC := check_any14 v W2
  have he : v.e = 0 := by unfold Vw.e; rw [hv]; rfl
  rw [he] at HC
  have g0 : gtU (m.b.i : Int) 4611686018427387904 = !decide (m.b.i ≤ 4611686018427387904) := gtU_nat m.b.i 4611686018427387904
  clear he
  have d0 : (m.kd != 3) = false := by simp [hk]
  rw [decide_eq_true hp] at g0
  have HP := Lib.hid (And.intro hk hp)
  have dg := geU_nat m.b.i v.b.i
  obtain ⟨p1, p2, p3, hq⟩ : ∃ p1 p2 p3, placeR v m.b.i = (p1, p2, p3) := ⟨_, _, _, rfl⟩
  have hr : tookV v m = (decide (v.b.i ≤ m.b.i) && !(p3 && decide (p2 = m.b.e))) := by unfold tookV; rw [hq]
  have hp1 : p3 = true → p1 = (m.b.i : Int) := fun h => by
    have := placeR_at (v := v) (x := m.b.i) (by rw [hq]; exact h)
    rwa [hq] at this
  have EA := eqAt p1 p2 (m.b.i : Int) m.b.e
  have HQ := Lib.hid (And.intro hq (And.intro hr hp1))
  obtain ⟨g, hg⟩ : ∃ g, decide (v.b.i ≤ m.b.i) = g := ⟨_, rfl⟩
  obtain ⟨q, hqe⟩ : ∃ q, decide (p1 = (m.b.i : Int) ∧ p2 = m.b.e) = q := ⟨_, rfl⟩
  rw [hg] at dg
  rw [hqe] at EA
  have HG := Lib.hid (And.intro hg hqe)
  clear hp hk hq hr hp1 hg hqe
  have HX := Lib.hid (And.intro hb02 (And.intro v2 (And.intro b2 hL)))
  clear hb1 b1 hb12 b2 hb02 v2 hL
  go_enter Try.func21, Try.ntmps21
  go_wp2_with fail
  refine HC.mono ?_
  rintro e W4 ⟨rfl, hb4⟩
  have v4 := HX.out.2.1.later hb4
  have m4 := HX.out.2.2.1.later hb4
  have SA := st_at (i2 := (m.b.i : Int)) (e2 := m.b.e) (Blk.new W4 24 (acs 0 0))
  rw [World.setRow_alloc_new] at SA
  obtain ⟨W5, hW5⟩ : ∃ W5, W4.alloc (.cells (acs (m.b.i : Int) m.b.e) 24) = W5 := ⟨_, rfl⟩
  rw [hW5] at SA
  have k45 : Below W4.heap.size W4 W5 := by rw [← hW5]; exact below_alloc W4 _
  have a5 : Blk W5 W4.heap.size 24 (acs (m.b.i : Int) m.b.e) := by rw [← hW5]; exact Blk.new W4 _ _
  have LA4 := ms_ba (m4.alloc (.cells (acs 0 0) 24))
  have LA44 := ms_ba m4
  have v5 := v4.later k45
  have m5 := m4.later k45
  have LV5 := ld_vw v5
  have n0 : W5.cell? ⟨W1.heap.size, 0, none⟩ = some (.int .i64 m.kd) := m5.cell 0
  have n1 : W5.cell? ⟨W4.heap.size, 0, none⟩ = some (.int .u64 (m.b.i : Int)) := a5.cell 0
  have hb05 := bel_trans (bel_trans HX.out.1 hb4) k45
  have HPL := vplace_any v m.b.i W5 (HX.out.2.2.2.later hb05) (by have := HP.out.2; omega)
  rw [show placeV v m.b.i = placeR v m.b.i by unfold placeV; rw [if_pos hv], HQ.out.1] at HPL
  dsimp only at HPL
  have HY := Lib.hid (And.intro hb05 (And.intro v5 a5))
  clear hb4 v4 m4 k45 a5 v5 m5 hb05
  go_wp2_with (with_reducible refine wpList_alloc_z rfl 24 rfl (acs 0 0) 2 z_at ?_)
  refine HPL.mono ?_
  rintro e W6 ⟨rfl, hb6⟩
  have SB := st_at (i2 := p1) (e2 := p2) (Blk.new W6 24 (acs 0 0))
  rw [World.setRow_alloc_new] at SB
  obtain ⟨W7, hW7⟩ : ∃ W7, W6.alloc (.cells (acs p1 p2) 24) = W7 := ⟨_, rfl⟩
  rw [hW7] at SB
  have k67 : Below W6.heap.size W6 W7 := by rw [← hW7]; exact below_alloc W6 _
  have a7 : Blk W7 W6.heap.size 24 (acs p1 p2) := by rw [← hW7]; exact Blk.new W6 _ _
  have e7 := (HY.out.2.2.later hb6).later k67
  have v7 := (HY.out.2.1.later hb6).later k67
  have LB := ld_at a7
  have LE := ld_at e7
  have f1 : W7.cell? ⟨W4.heap.size, 0, none⟩ = some (.int .u64 (m.b.i : Int)) := e7.cell 0
  have f2 : W7.cell? ⟨w.heap.size, 1, none⟩ = some (.int .u64 (v.b.i : Int)) := v7.cell 1
  have HF := Lib.hid (bel_trans (bel_trans HY.out.1 hb6) k67)
  clear hb6 k67 a7 e7 v7
  have hres : ∀ r : Bool, r = (g && !(p3 && q)) → r = tookV v m := fun r h => by
    rw [h, HQ.out.2.1, HG.out.1]
    cases h3 : p3 with
    | false => simp
    | true =>
      have := HQ.out.2.2 h3
      have hq2 : q = decide (p2 = m.b.e) := by rw [← HG.out.2]; simp [this]
      rw [hq2]
  have HRS := Lib.hid hres
  clear hres
  cases g <;> cases p3 <;>
  · go_wp2_with (with_reducible refine wpList_alloc_z rfl 24 rfl (acs 0 0) 2 z_at ?_)
    refine bodyPost_ret (results_tmp2 rfl _ _ _) rfl ?_
    exact ⟨_, _, rfl, .inr (.inr ⟨hv, HP.out, HRS.out _ (by cases q <;> rfl), rfl⟩), HF.out⟩

theorem took_any (v : Vw) (m : Ms) (w : World) (hL : EnIn w 0 v.a v.n v.c v.L) :
    Calls Try.prog 21 #[.agg v.cs, .agg m.cs] w fun e w' => ∃ (r : Bool) (er : Int), e = .returned (.tuple #[.bool r, .int .i64 er]) ∧ TookR v m r er ∧ Below w.heap.size w w' := by
  by_cases hv : v.ok = true
  · by_cases hk : m.kd = 3
    · by_cases hp : m.b.i ≤ 4611686018427387904
      · exact took_ok v m w hL hv hk hp
      · exact took_p v m w hL hv hk hp
    · exact took_k v m w hL hv hk
  · exact took_bad v m w hL (by simpa using hv)

end Go.Proofs.Ytkoenconjldojaa
