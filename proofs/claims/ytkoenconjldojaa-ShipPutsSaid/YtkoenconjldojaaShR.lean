/-
  The contracts of ship.Offer and of the reference's Offer. Nothing here is a statement of the document.
-/
import Derived.Test.YtkoenconjldojaaShQ
namespace Go.Proofs.Ytkoenconjldojaa
open Go.RowKit Go.Shelf
set_option linter.unusedVariables false
set_option linter.unusedSimpArgs false
set_option maxRecDepth 100000
attribute [local go_sem 10000] gtU_rule leU_rule ltU_rule geU_rule adU_rule sbU_rule mxU_rule mnU_rule mnI_rule
attribute [local go_sem ↓] load_at_rule store_at_rule load_la_rule store_la_rule load_bs_rule store_bs_rule load_vw_rule store_vw_rule load_jo_rule store_jo_rule load_ms_rule store_ms_rule load_ch_rule store_ch_rule load_hd_rule store_hd_rule load_rb_rule store_rb_rule load_en_rule store_en_rule
attribute [local go_sem ↓] build_hd_rule build_rb_rule build_en_rule build_at_rule build_jo_rule upbuild_rule upapp_rule robuild_rule roapp_rule enbuild_rule enapp_rule build_vw_rule eq_at_rule eq_la_rule build_ch_rule
theorem build_ms_rule (ps : Array (Nat × Value)) : Instr.build 47 ps = buildSem 47 ps := rfl
theorem build_ms0 (w : World) : (buildSem 47 #[]).run Try.prog w = .ok (.agg Ms.zero.cs) w := by kernel_rfl
def offS (b : Bs) : Ms := { Ms.zero with kd := 3, b := b }
def offE (y : Nat) (pe : Int) (a : Option Addr) (n c : Nat) (L : List En) : Ms := { Ms.zero with kd := 1, pi := y, pe := pe, a := a, n := n, c := c, L := L }
theorem build_offs (b : Bs) (w : World) : (buildSem 47 #[(0, .int .i64 3), (10, .agg b.cs)]).run Try.prog w = .ok (.agg (offS b).cs) w := by kernel_rfl
theorem build_offe (y : Nat) (pe : Int) (a : Option Addr) (n c : Nat) (L : List En) (w : World) : (buildSem 47 #[(0, .int .i64 1), (4, .agg (acs (y : Int) pe)), (5, .slice a n c)]).run Try.prog w = .ok (.agg (offE y pe a n c L).cs) w := by kernel_rfl
attribute [local go_sem ↓] build_ms_rule
/-- What is offered from a place on. -/
def OfferV (v : Vw) (y : Nat) (o : Ms) : Prop :=
  (y < v.b.i ∧ ∃ b : Bs, o = offS b ∧ b.i = v.b.i ∧ b.e = v.b.e ∧ b.l = v.b.l ∧ b.R = v.b.R ∧ b.n = v.b.n) ∨
  (v.b.i ≤ y ∧ ∃ a c L, o = offE y (placeR v y).2.1 a (min (v.n - (y - v.b.i)) 8) c L ∧ Same' L ((v.L.drop (y - v.b.i)).take 8))
def OfferR (v : Vw) (x : Nat) (o : Ms) (er : Int) : Prop := (v.ok = false ∧ o = Ms.zero ∧ er = 240) ∨ (v.ok = true ∧ er = 0 ∧ OfferV v (min x v.z) o)
def Ms.Own (o : Ms) (w : World) (B : Nat) : Prop := EnOwn w B (.slice o.a o.n o.c) o.L ∧ RoIn w B o.b.a o.b.n o.b.c o.b.R
theorem placeR_in {v : Vw} {y : Nat} (h1 : v.b.i ≤ y) (h2 : y ≤ v.z) : (placeR v y).2.2 = true := by
  unfold placeR
  split
  · rfl
  · rw [if_neg (by omega)]
theorem EnOwn.zero (w : World) (B : Nat) : Ms.zero.Own w B := ⟨EnOwn.nil _ _, RoIn.nil _ _⟩
theorem RoIn.turn {X Y : World} {B : Nat} {a : Option Addr} {n c : Nat} {R : List Ro} {S : List Nat} (h : RoIn X B a n c R) (k : Kept S X Y) (hS : ∀ g ∈ S, g < B) : RoIn Y B a n c R := h.kept k hS
set_option maxHeartbeats 4000000 in
theorem offer_bad (v : Vw) (x : Nat) (w : World) (h : v.In w 0) (hv : v.ok = false) :
    Calls Try.prog 12 #[.agg v.cs, .int .u64 (x : Int)] w fun e w' => ∃ (o : Ms) (er : Int), e = .returned (.tuple #[.agg o.cs, .int .i64 er]) ∧ OfferR v x o er ∧ o.Own w' w.heap.size ∧ Below w.heap.size w w' := by
  obtain ⟨W1, hW1⟩ : ∃ W1, w.alloc (.cells v.cs 36) = W1 := ⟨_, rfl⟩
  have hb1 : Below w.heap.size w W1 := by rw [← hW1]; exact below_alloc w _
  have b1 : Blk W1 w.heap.size 36 v.cs := by rw [← hW1]; exact Blk.new w _ _
  obtain ⟨W2, hW2⟩ : ∃ W2, W1.alloc (.cells Ms.zero.cs 47) = W2 := ⟨_, rfl⟩
  have hb12 : Below W1.heap.size W1 W2 := by rw [← hW2]; exact below_alloc W1 _
  have b2 : Blk W2 W1.heap.size 47 Ms.zero.cs := by rw [← hW2]; exact Blk.new W1 _ _
  have hle : w.heap.size ≤ W1.heap.size := hb1.size
  have hlt2 : W1.heap.size < W2.heap.size := by rw [← hW2]; simp
  have hb02 : Below w.heap.size w W2 := bel_trans hb1 hb12
  have v2 := b1.later hb12
  have LV := ld_vw v2
  have HX := Lib.hid (And.intro hb02 (And.intro v2 (And.intro b2 (And.intro hle (And.intro hlt2 h)))))
  have HC := check_any14 v W2
  have he : v.e = 240 := by unfold Vw.e; rw [hv]; rfl
  rw [he] at HC
  have B0 := build_ms0
  clear hb1 b1 hb12 b2 hle hlt2 hb02 v2 h
  go_enter Try.func12, Try.ntmps12
  go_wp2_with (with_reducible refine wpList_alloc_z rfl 47 rfl Ms.zero.cs 23 z_ms ?_)
  refine HC.mono ?_
  rintro e W4 ⟨rfl, hb4⟩
  have r4 := HX.out.2.2.1.later hb4
  have ST := st_ms (b2 := Ms.zero) r4
  have HF := Lib.hid (And.intro (r4.row Ms.zero.cs) (below_setRow (bel_trans HX.out.1 hb4) HX.out.2.2.2.1 Ms.zero.cs))
  clear r4 hb4
  go_wp2_with fail
  refine bodyPost_ret (results_row_tmp rfl _ _ W1.heap.size _ _ rfl HF.out.1 Try.underlying47 rfl (s_ms _)) rfl ?_
  exact ⟨_, _, rfl, .inl ⟨hv, rfl, rfl⟩, EnOwn.zero _ _, HF.out.2⟩
set_option maxHeartbeats 4000000 in
theorem offer_low (v : Vw) (x : Nat) (w : World) (h : v.In w 0) (hU : ∀ x ∈ v.L, x.n ≤ 1000) (hR : v.b.n ≤ 1000) (hN : v.n ≤ 40) (hv : v.ok = true) (hlo : min x v.z < v.b.i) :
    Calls Try.prog 12 #[.agg v.cs, .int .u64 (x : Int)] w fun e w' => ∃ (o : Ms) (er : Int), e = .returned (.tuple #[.agg o.cs, .int .i64 er]) ∧ OfferR v x o er ∧ o.Own w' w.heap.size ∧ Below w.heap.size w w' := by
  obtain ⟨W1, hW1⟩ : ∃ W1, w.alloc (.cells v.cs 36) = W1 := ⟨_, rfl⟩
  have hb1 : Below w.heap.size w W1 := by rw [← hW1]; exact below_alloc w _
  have b1 : Blk W1 w.heap.size 36 v.cs := by rw [← hW1]; exact Blk.new w _ _
  obtain ⟨W2, hW2⟩ : ∃ W2, W1.alloc (.cells Ms.zero.cs 47) = W2 := ⟨_, rfl⟩
  have hb12 : Below W1.heap.size W1 W2 := by rw [← hW2]; exact below_alloc W1 _
  have b2 : Blk W2 W1.heap.size 47 Ms.zero.cs := by rw [← hW2]; exact Blk.new W1 _ _
  have hle : w.heap.size ≤ W1.heap.size := hb1.size
  have hlt2 : W1.heap.size < W2.heap.size := by rw [← hW2]; simp
  have hb02 : Below w.heap.size w W2 := bel_trans hb1 hb12
  have v2 := b1.later hb12
  have LV := ld_vw v2
  have HX := Lib.hid (And.intro hb02 (And.intro v2 (And.intro b2 (And.intro hle (And.intro hlt2 h)))))
  have hzz := Vw.ok_of hv
  have HO := Lib.hid hlo
  have dm := mnU_nat x v.z
  have dl := ltU_nat (min x v.z) v.b.i
  rw [decide_eq_true hlo] at dl
  obtain ⟨y, hy⟩ : ∃ y, min x v.z = y := ⟨_, rfl⟩
  rw [hy] at dm dl HO 
  have HYY := Lib.hid hy
  have HC := check_any14 v W2
  have he : v.e = 0 := by unfold Vw.e; rw [hv]; rfl
  rw [he] at HC
  have HZ := Lib.hid (show v.b.i + v.n < 18446744073709551616 by omega)
  clear hzz hlo hy he
  clear hb1 b1 hb12 b2 hle hlt2 hb02 v2 h
  go_enter Try.func12, Try.ntmps12
  go_wp2_with (with_reducible refine wpList_alloc_z rfl 47 rfl Ms.zero.cs 23 z_ms ?_)
  refine HC.mono ?_
  rintro e W4 ⟨rfl, hb4⟩
  have v4 := HX.out.2.1.later hb4
  have LV4 := ld_vw v4
  have HE := end_any v W4 HZ.out
  have H4 := Lib.hid (And.intro hb4 v4)
  clear hb4 v4
  go_wp2_with fail
  refine HE.mono ?_
  rintro e W5 ⟨rfl, hb5⟩
  have hb25 := bel_trans H4.out.1 hb5
  have v5 := HX.out.2.1.later hb25
  obtain ⟨_, c1, _, _, _⟩ := vw_cells v5
  have LB := vw_bs v5
  have HCB := copyof_any v.b W5 (HX.out.2.2.2.2.2.1.later (bel_trans HX.out.1 hb25)) hR
  have H5 := Lib.hid hb25
  clear hb5 hb25 v5
  go_wp2_with fail
  refine HCB.mono ?_
  rintro e W6 ⟨b, rfl, p1, p2, p3, p4, p5, p6, hb6⟩
  have BO := build_offs b
  have hb26 := bel_trans H5.out hb6
  have hb06 := bel_trans HX.out.1 hb26
  have r9 := (HX.out.2.2.1.later hb26)
  have ST := st_ms (b2 := offS b) r9
  have k9 : Kept [W1.heap.size] W6 (W6.setRow W1.heap.size (offS b).cs) := (Kept.refl _ _).setRow (.inl (by simp)) _
  have HF := Lib.hid (And.intro (r9.row (offS b).cs) (And.intro (below_setRow hb06 HX.out.2.2.2.1 (offS b).cs) (RoIn.kept (p6.less (show W2.heap.size ≤ W5.heap.size from H5.out.size)) k9 (fun g hg => by have := HX.out.2.2.2.2.1; simp at hg; omega))))
  have hz := HX.out.1.size
  have HOV := Lib.hid (show OfferV v y (offS b) from .inl ⟨HO.out, b, rfl, p1, p2, p3, p4, p5⟩)
  clear r9 k9 hb6 hb26 hb06 p1 p2 p3 p4 p5 p6
  go_wp2_with fail
  refine bodyPost_ret (results_row_tmp rfl _ _ W1.heap.size _ _ rfl HF.out.1 Try.underlying47 rfl (s_ms _)) rfl ?_
  exact ⟨_, _, rfl, .inr ⟨hv, rfl, by rw [HYY.out]; exact HOV.out⟩, ⟨EnOwn.nil _ _, HF.out.2.2.less hz⟩, HF.out.2.1⟩
set_option maxHeartbeats 4000000 in
theorem roffer_low (v : Vw) (x : Nat) (w : World) (h : v.In w 0) (hU : ∀ x ∈ v.L, x.n ≤ 1000) (hR : v.b.n ≤ 1000) (hN : v.n ≤ 40) (hv : v.ok = true) (hlo : min x v.z < v.b.i) :
    Calls Try.prog 16 #[.agg v.cs, .int .u64 (x : Int)] w fun e w' => ∃ o : Ms, e = .returned (.agg o.cs) ∧ OfferV v (min x v.z) o ∧ o.Own w' w.heap.size ∧ Below w.heap.size w w' := by
  obtain ⟨W1, hW1⟩ : ∃ W1, w.alloc (.cells v.cs 36) = W1 := ⟨_, rfl⟩
  have hb1 : Below w.heap.size w W1 := by rw [← hW1]; exact below_alloc w _
  have b1 : Blk W1 w.heap.size 36 v.cs := by rw [← hW1]; exact Blk.new w _ _
  obtain ⟨W2, hW2⟩ : ∃ W2, W1.alloc (.cells Ms.zero.cs 47) = W2 := ⟨_, rfl⟩
  have hb12 : Below W1.heap.size W1 W2 := by rw [← hW2]; exact below_alloc W1 _
  have b2 : Blk W2 W1.heap.size 47 Ms.zero.cs := by rw [← hW2]; exact Blk.new W1 _ _
  have hle : w.heap.size ≤ W1.heap.size := hb1.size
  have hlt2 : W1.heap.size < W2.heap.size := by rw [← hW2]; simp
  have hb02 : Below w.heap.size w W2 := bel_trans hb1 hb12
  have v2 := b1.later hb12
  have LV := ld_vw v2
  have HX := Lib.hid (And.intro hb02 (And.intro v2 (And.intro b2 (And.intro hle (And.intro hlt2 h)))))
  have hzz := Vw.ok_of hv
  have HO := Lib.hid hlo
  have dm := mnU_nat x v.z
  have dl := ltU_nat (min x v.z) v.b.i
  rw [decide_eq_true hlo] at dl
  obtain ⟨y, hy⟩ : ∃ y, min x v.z = y := ⟨_, rfl⟩
  rw [hy] at dm dl HO ⊢
  have HYY := Lib.hid hy
  have HT := last14_any v W2 (HX.out.2.2.2.2.2.2.later HX.out.1) (by omega)
  have FL : ∀ w, (Instr.field 24 (.agg (acs (lastV v).1 (lastV v).2)) 0).run Try.prog w = .ok (.int .u64 (v.z : Int)) w := fun w => by rw [← lastV_z]; rfl
  clear hzz hlo hy
  clear hb1 b1 hb12 b2 hle hlt2 hb02 v2 h
  go_enter Try.func16, Try.ntmps16
  go_wp2_with (with_reducible refine wpList_alloc_z rfl 47 rfl Ms.zero.cs 23 z_ms ?_)
  refine HT.mono ?_
  rintro e W5 ⟨rfl, hb5⟩
  have hb25 := hb5
  have v5 := HX.out.2.1.later hb25
  obtain ⟨_, c1, _, _, _⟩ := vw_cells v5
  have LB := vw_bs v5
  have HCB := copybase_any v.b W5 (HX.out.2.2.2.2.2.1.later (bel_trans HX.out.1 hb25)) hR
  have H5 := Lib.hid hb25
  clear hb5 hb25 v5
  go_wp2_with fail
  refine HCB.mono ?_
  rintro e W6 ⟨b, rfl, p1, p2, p3, p4, p5, p6, hb6⟩
  have BO := build_offs b
  have hb26 := bel_trans H5.out hb6
  have hb06 := bel_trans HX.out.1 hb26
  have r9 := (HX.out.2.2.1.later hb26)
  have ST := st_ms (b2 := offS b) r9
  have k9 : Kept [W1.heap.size] W6 (W6.setRow W1.heap.size (offS b).cs) := (Kept.refl _ _).setRow (.inl (by simp)) _
  have HF := Lib.hid (And.intro (r9.row (offS b).cs) (And.intro (below_setRow hb06 HX.out.2.2.2.1 (offS b).cs) (RoIn.kept (p6.less (show W2.heap.size ≤ W5.heap.size from H5.out.size)) k9 (fun g hg => by have := HX.out.2.2.2.2.1; simp at hg; omega))))
  have hz := HX.out.1.size
  have HOV := Lib.hid (show OfferV v y (offS b) from .inl ⟨HO.out, b, rfl, p1, p2, p3, p4, p5⟩)
  clear r9 k9 hb6 hb26 hb06 p1 p2 p3 p4 p5 p6
  go_wp2_with fail
  refine bodyPost_ret (results_cell_row rfl _ _ W1.heap.size 47 _ (0, 0) _ rfl HF.out.1 Try.underlying47 rfl (s_ms _)) rfl ?_
  exact ⟨_, rfl, HOV.out, ⟨EnOwn.nil _ _, HF.out.2.2.less hz⟩, HF.out.2.1⟩
theorem take_min8 {L : List En} {n : Nat} (h : L.length = n) : L.take (min n 8) = L.take 8 := by
  subst h
  rcases Nat.le_total L.length 8 with h | h
  · rw [Nat.min_eq_left h, List.take_of_length_le h, List.take_length]
  · rw [Nat.min_eq_right h]
set_option maxHeartbeats 4000000 in
theorem offer_mid (v : Vw) (x : Nat) (w : World) (h : v.In w 0) (hU : ∀ x ∈ v.L, x.n ≤ 1000) (hR : v.b.n ≤ 1000) (hN : v.n ≤ 40) (hv : v.ok = true) (hlo : ¬ min x v.z < v.b.i)  :
    Calls Try.prog 12 #[.agg v.cs, .int .u64 (x : Int)] w fun e w' => ∃ (o : Ms) (er : Int), e = .returned (.tuple #[.agg o.cs, .int .i64 er]) ∧ OfferR v x o er ∧ o.Own w' w.heap.size ∧ Below w.heap.size w w' := by
  obtain ⟨W1, hW1⟩ : ∃ W1, w.alloc (.cells v.cs 36) = W1 := ⟨_, rfl⟩
  have hb1 : Below w.heap.size w W1 := by rw [← hW1]; exact below_alloc w _
  have b1 : Blk W1 w.heap.size 36 v.cs := by rw [← hW1]; exact Blk.new w _ _
  obtain ⟨W2, hW2⟩ : ∃ W2, W1.alloc (.cells Ms.zero.cs 47) = W2 := ⟨_, rfl⟩
  have hb12 : Below W1.heap.size W1 W2 := by rw [← hW2]; exact below_alloc W1 _
  have b2 : Blk W2 W1.heap.size 47 Ms.zero.cs := by rw [← hW2]; exact Blk.new W1 _ _
  have hle : w.heap.size ≤ W1.heap.size := hb1.size
  have hlt2 : W1.heap.size < W2.heap.size := by rw [← hW2]; simp
  have hb02 : Below w.heap.size w W2 := bel_trans hb1 hb12
  have v2 := b1.later hb12
  have LV := ld_vw v2
  have HX := Lib.hid (And.intro hb02 (And.intro v2 (And.intro b2 (And.intro hle (And.intro hlt2 h)))))
  have hzz := Vw.ok_of hv
  have dm := mnU_nat x v.z
  have dl := ltU_nat (min x v.z) v.b.i
  rw [decide_eq_false hlo] at dl
  obtain ⟨y, hy⟩ : ∃ y, min x v.z = y := ⟨_, rfl⟩
  rw [hy] at dm dl hlo 
  obtain ⟨k, hkk⟩ : ∃ k, y - v.b.i = k := ⟨_, rfl⟩
  skip
  have hyz : y ≤ v.z := by rw [← hy]; exact Nat.min_le_right _ _
  have hpl := placeR_in (by omega : v.b.i ≤ y) hyz
  have hpa := placeR_at hpl
  obtain ⟨q1, pe, q3, hq⟩ : ∃ q1 q2 q3, placeR v y = (q1, q2, q3) := ⟨_, _, _, rfl⟩
  rw [hq] at hpl hpa
  dsimp only at hpl hpa
  subst hpl hpa
  have HZ := Lib.hid (And.intro hy (And.intro hlo (And.intro hyz (And.intro hq (And.intro hzz hkk)))))
  obtain ⟨nn, hnn⟩ : ∃ nn, v.n - k = nn := ⟨_, rfl⟩
  obtain ⟨nc, hnc⟩ : ∃ nc, v.c - k = nc := ⟨_, rfl⟩
  obtain ⟨mm, hmm⟩ : ∃ mm, min nn 8 = mm := ⟨_, rfl⟩
  have e0 : mnI (nn : Int) 8 = (mm : Int) := by rw [← hmm]; exact mnI_nat nn 8
  have hkn : k ≤ v.n := by unfold Vw.z at hyz; omega
  have hcc := h.2.2.2.1
  have hcm : nc ≤ 9223372036854775807 := by have := h.2.2.2.2.1; unfold maxLen at this; omega
  have hmc : mm ≤ nc := by omega
  have HM := Lib.hid (And.intro hnn (And.intro hnc (And.intro hmm (And.intro hkn hcc))))
  clear hlo hyz hy hq hzz hkk hnn hnc hmm hkn hcc
  have HC := check_any14 v W2
  have he : v.e = 0 := by unfold Vw.e; rw [hv]; rfl
  rw [he] at HC
  clear he
  clear hb1 b1 hb12 b2 hle hlt2 hb02 v2 h
  go_enter Try.func12, Try.ntmps12
  go_wp2_with (with_reducible refine wpList_alloc_z rfl 47 rfl Ms.zero.cs 23 z_ms ?_)
  refine HC.mono ?_
  rintro e W4 ⟨rfl, hb4⟩
  have v4 := HX.out.2.1.later hb4
  have LV4 := ld_vw v4
  have HE := end_any v W4 (by have := HZ.out.2.2.2.2.1; omega)
  have H4 := Lib.hid (And.intro hb4 v4)
  clear hb4 v4
  go_wp2_with fail
  refine HE.mono ?_
  rintro e W5 ⟨rfl, hb5⟩
  have hb25 := bel_trans H4.out.1 hb5
  have v5 := HX.out.2.1.later hb25
  obtain ⟨_, c1, _, _, _⟩ := vw_cells v5
  have LV5 := ld_vw v5
  have HPL := vplace_any v y W5 (HX.out.2.2.2.2.2.2.later (bel_trans HX.out.1 hb25)) (by have hz1 := HZ.out.2.2.1; have hz2 := HZ.out.2.2.2.2.1; unfold Vw.z at hz1; omega)
  rw [show placeV v y = placeR v y by unfold placeV; rw [if_pos hv], HZ.out.2.2.2.1] at HPL
  dsimp only at HPL
  have H5 := Lib.hid hb25
  clear hb5 hb25 v5
  go_wp2_with fail
  refine HPL.mono ?_
  rintro e W6 ⟨rfl, hb6⟩
  have SA := st_at (i2 := (y : Int)) (e2 := pe) (Blk.new W6 24 (acs 0 0))
  rw [World.setRow_alloc_new] at SA
  obtain ⟨W7, hW7⟩ : ∃ W7, W6.alloc (.cells (acs (y : Int) pe) 24) = W7 := ⟨_, rfl⟩
  rw [hW7] at SA
  have k67 : Below W6.heap.size W6 W7 := by rw [← hW7]; exact below_alloc W6 _
  have a7 : Blk W7 W6.heap.size 24 (acs (y : Int) pe) := by rw [← hW7]; exact Blk.new W6 _ _
  have hb27 := bel_trans (bel_trans H5.out hb6) k67
  have hb07 := bel_trans HX.out.1 hb27
  have v7 := HX.out.2.1.later hb27
  have LV7 := ld_vw v7
  have HBE := behind_any v y W7 (HX.out.2.2.2.2.2.2.later hb07) (by have := HZ.out.2.1; omega) HZ.out.2.2.1 (by have hz1 := HZ.out.2.2.1; have hz2 := HZ.out.2.2.2.2.1; unfold Vw.z at hz1; omega)
  have hDr := (HX.out.2.2.2.2.2.2.later hb07).drop (k := k) HM.out.2.2.2.1
  rw [HZ.out.2.2.2.2.2] at HBE
  rw [HM.out.1, HM.out.2.1] at HBE hDr
  obtain ⟨a1, ha1⟩ : ∃ a1, (if v.c = k then v.a else v.a.map (fun p => p.add (k * 4))) = a1 := ⟨_, rfl⟩
  rw [ha1] at HBE hDr
  have H7 := Lib.hid (And.intro hb27 (And.intro a7 hDr))
  clear hb6 k67 a7 hb27 hb07 v7 hDr ha1
  go_wp2_with (with_reducible refine wpList_alloc_z rfl 24 rfl (acs 0 0) 2 z_at ?_)
  refine HBE.mono ?_
  rintro e W8 ⟨rfl, hb8⟩
  have hDr8 := H7.out.2.2.later hb8
  have a8 := H7.out.2.1.later hb8
  have hb28 := bel_trans H7.out.1 hb8
  have hb08 := bel_trans HX.out.1 hb28
  have r8 := HX.out.2.2.1.later hb28
  have hT8 := hDr8.take mm (by have := HM.out.2.2.1; omega)
  have HCP := copies_any _ _ _ _ W8.drew (hT8.later (bel_drew (Below.refl _ _))) (by have := HM.out.2.2.1; omega) (fun x hx => hU x (List.mem_of_mem_drop (List.mem_of_mem_take hx)))
  have h00 : Below W8.heap.size W8 W8.drew := bel_drew (Below.refl _ _)
  have LAT : ∀ w', Below W8.heap.size W8 w' → (loadSem 24 (.pointer (some ⟨W6.heap.size, 0, none⟩))).run Try.prog w' = .ok (.agg (acs (y : Int) pe)) w' := fun w' k => ld_at (a8.later k)
  have H8 := Lib.hid (And.intro hb08 (And.intro r8 (And.intro hDr8.1 hb28)))
  clear hb8 hDr8 a8 hb28 hb08 r8 hT8
  go_upto_region 9 with fail
  refine wp_region_linG (fun w' => Below W8.heap.size W8 w') 8 [6, 8] [9] [0, 1, 2, 3, 4, 5, 6, 7, 8, 9] (by kernel_rfl) (by kernel_rfl) h00 ?_
  (repeat (first | (refine linG_off rfl rfl (by rfl) ?_; (try simp only [Act.put, List.getElem_toArray, List.getElem_cons_zero, List.getElem_cons_succ, List.setIfInBounds_toArray, List.set_cons_zero, List.set_cons_succ])) | (refine linG_op (v := ?_) rfl rfl rfl (by rfl) (fun w9 hS9 => ?_) ?_; rotate_left; (focus (((try dsimp only at hS9); have z0 := LAT w9 hS9; go_simp; (try go_bits)) <;> with_reducible rfl)); (try simp only [Act.put, List.getElem_toArray, List.getElem_cons_zero, List.getElem_cons_succ, List.setIfInBounds_toArray, List.set_cons_zero, List.set_cons_succ]))))
  refine linG_call (f := 38) (args := #[.slice a1 mm nc]) rfl rfl (by rfl) rfl rfl (enters_of Try.func38 (by kernel_rfl) rfl) (by simp [Act.eval]) ?_
  refine HCP.mono ?_
  rintro e W9 ⟨a9, c9, rfl, M9, hO9, hS9, hb9⟩
  have hb89 : Below W8.heap.size W8 W9 := bel_trans h00 hb9
  refine ⟨_, rfl, hb89, ?_⟩
  (try simp only [Act.put, List.getElem_toArray, List.getElem_cons_zero, List.getElem_cons_succ, List.setIfInBounds_toArray, List.set_cons_zero, List.set_cons_succ])
  have BO := build_offe y pe a9 mm c9 M9
  (repeat (first | (refine linG_off rfl rfl (by rfl) ?_; (try simp only [Act.put, List.getElem_toArray, List.getElem_cons_zero, List.getElem_cons_succ, List.setIfInBounds_toArray, List.set_cons_zero, List.set_cons_succ])) | (refine linG_op (v := ?_) rfl rfl rfl (by rfl) (fun w9 hS9 => ?_) ?_; rotate_left; (focus (((try dsimp only at hS9); have z0 := LAT w9 hS9; go_simp; (try go_bits)) <;> with_reducible rfl)); (try simp only [Act.put, List.getElem_toArray, List.getElem_cons_zero, List.getElem_cons_succ, List.setIfInBounds_toArray, List.set_cons_zero, List.set_cons_succ]))))
  have r9 := H8.out.2.1.later hb89
  have ST := st_ms (b2 := offE y pe a9 mm c9 M9) r9
  have k9 : Kept [W1.heap.size] W9 (W9.setRow W1.heap.size (offE y pe a9 mm c9 M9).cs) := (Kept.refl _ _).setRow (.inl (by simp)) _
  have hz8 : W2.heap.size ≤ W8.heap.size := H8.out.2.2.2.size
  have HF := Lib.hid (And.intro (r9.row (offE y pe a9 mm c9 M9).cs) (And.intro (below_setRow (bel_trans H8.out.1 hb89) HX.out.2.2.2.1 (offE y pe a9 mm c9 M9).cs) (EnOwn.kept (EnOwn.less hO9 (show W2.heap.size ≤ W8.drew.heap.size from hz8)) k9 (fun g hg => by have := HX.out.2.2.2.2.1; simp at hg; omega))))
  have hz := HX.out.1.size
  have HOV := Lib.hid (show OfferV v y (offE y pe a9 mm c9 M9) from .inr ⟨by have := HZ.out.2.1; omega, a9, c9, M9, by rw [HZ.out.2.2.2.1, HZ.out.2.2.2.2.2, HM.out.1, HM.out.2.2.1], by
    rw [HZ.out.2.2.2.2.2]
    have e9 := take_min8 H8.out.2.2.1
    rw [HM.out.2.2.1] at e9
    rw [← e9]
    exact hS9⟩)
  clear r9 k9 hz8 hO9 hS9 hb9 hb89
  refine linG_fin (w' := W9.setRow W1.heap.size (offE y pe a9 mm c9 M9).cs) rfl rfl (by rfl) (by go_simp; done) ?_
  (try simp only [Act.put, List.getElem_toArray, List.getElem_cons_zero, List.getElem_cons_succ, List.setIfInBounds_toArray, List.set_cons_zero, List.set_cons_succ])
  refine linG_free (v := .int .i64 0) rfl rfl (by rfl) (fun w9 => by go_simp) ?_
  (try simp only [Act.put, List.getElem_toArray, List.getElem_cons_zero, List.getElem_cons_succ, List.setIfInBounds_toArray, List.set_cons_zero, List.set_cons_succ])
  refine linG_nil ?_
  go_wp2_with fail
  refine bodyPost_ret (results_row_tmp rfl _ _ W1.heap.size _ _ rfl HF.out.1 Try.underlying47 rfl (s_ms _)) rfl ?_
  exact ⟨_, _, rfl, .inr ⟨hv, rfl, by rw [HZ.out.1]; exact HOV.out⟩, ⟨HF.out.2.2.less hz, RoIn.nil _ _⟩, HF.out.2.1⟩
set_option maxHeartbeats 4000000 in
theorem roffer_mid1 (v : Vw) (x : Nat) (w : World) (h : v.In w 0) (hU : ∀ x ∈ v.L, x.n ≤ 1000) (hR : v.b.n ≤ 1000) (hN : v.n ≤ 40) (hv : v.ok = true) (hlo : ¬ min x v.z < v.b.i) (hk : v.c = min x v.z - v.b.i) (ha : v.a = none) :
    Calls Try.prog 16 #[.agg v.cs, .int .u64 (x : Int)] w fun e w' => ∃ o : Ms, e = .returned (.agg o.cs) ∧ OfferV v (min x v.z) o ∧ o.Own w' w.heap.size ∧ Below w.heap.size w w' := by
  obtain ⟨W1, hW1⟩ : ∃ W1, w.alloc (.cells v.cs 36) = W1 := ⟨_, rfl⟩
  have hb1 : Below w.heap.size w W1 := by rw [← hW1]; exact below_alloc w _
  have b1 : Blk W1 w.heap.size 36 v.cs := by rw [← hW1]; exact Blk.new w _ _
  obtain ⟨W2, hW2⟩ : ∃ W2, W1.alloc (.cells Ms.zero.cs 47) = W2 := ⟨_, rfl⟩
  have hb12 : Below W1.heap.size W1 W2 := by rw [← hW2]; exact below_alloc W1 _
  have b2 : Blk W2 W1.heap.size 47 Ms.zero.cs := by rw [← hW2]; exact Blk.new W1 _ _
  have hle : w.heap.size ≤ W1.heap.size := hb1.size
  have hlt2 : W1.heap.size < W2.heap.size := by rw [← hW2]; simp
  have hb02 : Below w.heap.size w W2 := bel_trans hb1 hb12
  have v2 := b1.later hb12
  have LV := ld_vw v2
  have HX := Lib.hid (And.intro hb02 (And.intro v2 (And.intro b2 (And.intro hle (And.intro hlt2 h)))))
  have hzz := Vw.ok_of hv
  have dm := mnU_nat x v.z
  have dl := ltU_nat (min x v.z) v.b.i
  rw [decide_eq_false hlo] at dl
  obtain ⟨y, hy⟩ : ∃ y, min x v.z = y := ⟨_, rfl⟩
  rw [hy] at dm dl hlo ⊢ hk
  obtain ⟨k, hkk⟩ : ∃ k, y - v.b.i = k := ⟨_, rfl⟩
  rw [hkk] at hk
  have hyz : y ≤ v.z := by rw [← hy]; exact Nat.min_le_right _ _
  have hpl := placeR_in (by omega : v.b.i ≤ y) hyz
  have hpa := placeR_at hpl
  obtain ⟨q1, pe, q3, hq⟩ : ∃ q1 q2 q3, placeR v y = (q1, q2, q3) := ⟨_, _, _, rfl⟩
  rw [hq] at hpl hpa
  dsimp only at hpl hpa
  subst hpl hpa
  have HZ := Lib.hid (And.intro hy (And.intro hlo (And.intro hyz (And.intro hq (And.intro hzz hkk)))))
  obtain ⟨nn, hnn⟩ : ∃ nn, v.n - k = nn := ⟨_, rfl⟩
  obtain ⟨nc, hnc⟩ : ∃ nc, v.c - k = nc := ⟨_, rfl⟩
  obtain ⟨mm, hmm⟩ : ∃ mm, min nn 8 = mm := ⟨_, rfl⟩
  have e0 : mnI (nn : Int) 8 = (mm : Int) := by rw [← hmm]; exact mnI_nat nn 8
  have hkn : k ≤ v.n := by unfold Vw.z at hyz; omega
  have hcc := h.2.2.2.1
  have hcm : nc ≤ 9223372036854775807 := by have := h.2.2.2.2.1; unfold maxLen at this; omega
  have hmc : mm ≤ nc := by omega
  have HM := Lib.hid (And.intro hnn (And.intro hnc (And.intro hmm (And.intro hkn hcc))))
  have hvc : v.c ≤ 9223372036854775807 := by have := h.2.2.2.2.1; unfold maxLen at this; omega
  have dk : sbU (y : Int) (v.b.i : Int) = (k : Int) := by rw [← hkk]; exact sbU_nat (by omega) (by unfold Vw.z at hyz; omega)
  have hc0 : v.c = 0 := h.2.2.2.2.2.1 ha
  have hk0 : k = 0 := by omega
  have hn0 : v.n = 0 := by omega
  have hnn0 : nn = 0 := by omega
  have hnc0 : nc = 0 := by omega
  clear hlo hyz hy hq hzz hkk hnn hnc hmm
  have HT := last14_any v W2 (HX.out.2.2.2.2.2.2.later HX.out.1) (by have := HZ.out.2.2.2.2.1; omega)
  have FL : ∀ w, (Instr.field 24 (.agg (acs (lastV v).1 (lastV v).2)) 0).run Try.prog w = .ok (.int .u64 (v.z : Int)) w := fun w => by rw [← lastV_z]; rfl
  clear hb1 b1 hb12 b2 hle hlt2 hb02 v2 h
  go_enter Try.func16, Try.ntmps16
  go_wp2_with (with_reducible refine wpList_alloc_z rfl 47 rfl Ms.zero.cs 23 z_ms ?_)
  refine HT.mono ?_
  rintro e W5 ⟨rfl, hb5⟩
  have hb25 := hb5
  have v5 := HX.out.2.1.later hb25
  obtain ⟨_, c1, _, _, _⟩ := vw_cells v5
  have LV5 := ld_vw v5
  have HPL := place14_any v y W5 (HX.out.2.2.2.2.2.2.later (bel_trans HX.out.1 hb25)) (by have := HZ.out.2.2.2.2.1; omega) (by have hz1 := HZ.out.2.2.1; have hz2 := HZ.out.2.2.2.2.1; unfold Vw.z at hz1; omega)
  rw [HZ.out.2.2.2.1] at HPL
  dsimp only at HPL
  have H5 := Lib.hid hb25
  clear hb5 hb25 v5
  go_wp2_with fail
  refine HPL.mono ?_
  rintro e W6 ⟨rfl, hb6⟩
  have SA := st_at (i2 := (y : Int)) (e2 := pe) (Blk.new W6 24 (acs 0 0))
  rw [World.setRow_alloc_new] at SA
  obtain ⟨W7, hW7⟩ : ∃ W7, W6.alloc (.cells (acs (y : Int) pe) 24) = W7 := ⟨_, rfl⟩
  rw [hW7] at SA
  have k67 : Below W6.heap.size W6 W7 := by rw [← hW7]; exact below_alloc W6 _
  have a7 : Blk W7 W6.heap.size 24 (acs (y : Int) pe) := by rw [← hW7]; exact Blk.new W6 _ _
  have hb27 := bel_trans (bel_trans H5.out hb6) k67
  have hb07 := bel_trans HX.out.1 hb27
  have v7 := HX.out.2.1.later hb27
  obtain ⟨_, y1, _, _, y4⟩ := vw_cells v7
  rw [ha] at y4
  have hDr := (HX.out.2.2.2.2.2.2.later hb07).drop (k := k) HM.out.2.2.2.1
  rw [HM.out.1, HM.out.2.1, if_pos hk, ha] at hDr
  skip
  have hns := HM.out.1
  have hncs := HM.out.2.1
  have H7 := Lib.hid (And.intro hb27 (And.intro a7 hDr))
  clear hb6 k67 a7 hb27 hb07 v7 hDr
  have HF0 := Lib.hid (And.intro hn0 (And.intro hc0 hk0))
  rw [hn0, hc0] at y4
  rw [hk0] at dk
  subst hnn0 hnc0
  clear hn0 hc0 hk0 hk hkn hcc hns hncs
  go_upto_region 6 with (with_reducible refine wpList_alloc_z rfl 24 rfl (acs 0 0) 2 z_at ?_)
  have e1 : mnI 0 8 = 0 := by decide
  have hmm0 : mm = 0 := by have := HM.out.2.2.1; omega
  subst hmm0
  have hD7 := H7.out.2.2
  have hb08 := bel_trans HX.out.1 H7.out.1
  have r8 := HX.out.2.2.1.later H7.out.1
  have hT8 := hD7.take 0 (by have := HM.out.2.2.1; omega)
  have HCP := entries12_any _ _ _ _ W7.drew (hT8.later (bel_drew (Below.refl _ _))) (by have := HM.out.2.2.1; omega) (fun x hx => hU x (List.mem_of_mem_drop (List.mem_of_mem_take hx)))
  have h00 : Below W7.heap.size W7 W7.drew := bel_drew (Below.refl _ _)
  have LAT : ∀ w', Below W7.heap.size W7 w' → (loadSem 24 (.pointer (some ⟨W6.heap.size, 0, none⟩))).run Try.prog w' = .ok (.agg (acs (y : Int) pe)) w' := fun w' k => ld_at (H7.out.2.1.later k)
  have hln := H7.out.2.2.1
  have H8 := Lib.hid (And.intro hb08 (And.intro r8 (And.intro hln H7.out.1)))
  clear hD7 hb08 r8 hT8 hln
  refine wp_region_linF (fun w' => Below W7.heap.size W7 w') 8 [6, 8] [0, 1, 2, 3, 4, 5, 6, 7, 8] (by kernel_rfl) (by kernel_rfl) h00 ?_
  (repeat (first | (refine linF_off rfl rfl (by rfl) ?_; (try simp only [Act.put, List.getElem_toArray, List.getElem_cons_zero, List.getElem_cons_succ, List.setIfInBounds_toArray, List.set_cons_zero, List.set_cons_succ])) | (refine linF_op (v := ?_) rfl rfl (by rfl) (fun w9 hS9 => ?_) ?_; rotate_left; (focus (((try dsimp only at hS9); have z0 := LAT w9 hS9; go_simp; (try go_bits)) <;> with_reducible rfl)); (try simp only [Act.put, List.getElem_toArray, List.getElem_cons_zero, List.getElem_cons_succ, List.setIfInBounds_toArray, List.set_cons_zero, List.set_cons_succ]))))
  refine linF_call (f := 45) (args := #[.slice none 0 0]) rfl rfl (by rfl) rfl rfl (enters_of Try.func45 (by kernel_rfl) rfl) (by simp [Act.eval]) ?_
  refine HCP.mono ?_
  rintro e W9 ⟨a9, c9, M9, rfl, hO9, hS9, hb9⟩
  have hb89 : Below W7.heap.size W7 W9 := bel_trans h00 hb9
  refine ⟨_, rfl, hb89, ?_⟩
  (try simp only [Act.put, List.getElem_toArray, List.getElem_cons_zero, List.getElem_cons_succ, List.setIfInBounds_toArray, List.set_cons_zero, List.set_cons_succ])
  have BO := build_offe y pe a9 0 c9 M9
  (repeat (first | (refine linF_off rfl rfl (by rfl) ?_; (try simp only [Act.put, List.getElem_toArray, List.getElem_cons_zero, List.getElem_cons_succ, List.setIfInBounds_toArray, List.set_cons_zero, List.set_cons_succ])) | (refine linF_op (v := ?_) rfl rfl (by rfl) (fun w9 hS9 => ?_) ?_; rotate_left; (focus (((try dsimp only at hS9); have z0 := LAT w9 hS9; go_simp; (try go_bits)) <;> with_reducible rfl)); (try simp only [Act.put, List.getElem_toArray, List.getElem_cons_zero, List.getElem_cons_succ, List.setIfInBounds_toArray, List.set_cons_zero, List.set_cons_succ]))))
  have r9 := H8.out.2.1.later hb89
  have ST := st_ms (b2 := offE y pe a9 0 c9 M9) r9
  have k9 : Kept [W1.heap.size] W9 (W9.setRow W1.heap.size (offE y pe a9 0 c9 M9).cs) := (Kept.refl _ _).setRow (.inl (by simp)) _
  have hz8 : W2.heap.size ≤ W7.heap.size := H8.out.2.2.2.size
  have HF := Lib.hid (And.intro (r9.row (offE y pe a9 0 c9 M9).cs) (And.intro (below_setRow (bel_trans H8.out.1 hb89) HX.out.2.2.2.1 (offE y pe a9 0 c9 M9).cs) (EnOwn.kept (EnOwn.less hO9 (show W2.heap.size ≤ W7.drew.heap.size from hz8)) k9 (fun g hg => by have := HX.out.2.2.2.2.1; simp at hg; omega))))
  have hz := HX.out.1.size
  have HOV := Lib.hid (show OfferV v y (offE y pe a9 0 c9 M9) from .inr ⟨by have := HZ.out.2.1; omega, a9, c9, M9, by rw [HZ.out.2.2.2.1, HZ.out.2.2.2.2.2, HM.out.1, HM.out.2.2.1], by
    rw [HZ.out.2.2.2.2.2]
    have e9 := take_min8 H8.out.2.2.1
    rw [HM.out.2.2.1] at e9
    rw [← e9]
    exact hS9⟩)
  clear r9 k9 hz8 hO9 hS9 hb9 hb89
  refine linF_fin (w' := W9.setRow W1.heap.size (offE y pe a9 0 c9 M9).cs) rfl rfl (by rfl) (by go_simp; done) ?_
  (try simp only [Act.put, List.getElem_toArray, List.getElem_cons_zero, List.getElem_cons_succ, List.setIfInBounds_toArray, List.set_cons_zero, List.set_cons_succ])
  go_wp2_with fail
  refine bodyPost_ret (results_cell_row rfl _ _ W1.heap.size 47 _ (0, 0) _ rfl HF.out.1 Try.underlying47 rfl (s_ms _)) rfl ?_
  exact ⟨_, rfl, HOV.out, ⟨HF.out.2.2.less hz, RoIn.nil _ _⟩, HF.out.2.1⟩
set_option maxHeartbeats 4000000 in
theorem roffer_mid2 (v : Vw) (x : Nat) (w : World) (h : v.In w 0) (hU : ∀ x ∈ v.L, x.n ≤ 1000) (hR : v.b.n ≤ 1000) (hN : v.n ≤ 40) (hv : v.ok = true) (hlo : ¬ min x v.z < v.b.i) (hk : v.c = min x v.z - v.b.i) (p : Addr) (ha : v.a = some p) :
    Calls Try.prog 16 #[.agg v.cs, .int .u64 (x : Int)] w fun e w' => ∃ o : Ms, e = .returned (.agg o.cs) ∧ OfferV v (min x v.z) o ∧ o.Own w' w.heap.size ∧ Below w.heap.size w w' := by
  obtain ⟨W1, hW1⟩ : ∃ W1, w.alloc (.cells v.cs 36) = W1 := ⟨_, rfl⟩
  have hb1 : Below w.heap.size w W1 := by rw [← hW1]; exact below_alloc w _
  have b1 : Blk W1 w.heap.size 36 v.cs := by rw [← hW1]; exact Blk.new w _ _
  obtain ⟨W2, hW2⟩ : ∃ W2, W1.alloc (.cells Ms.zero.cs 47) = W2 := ⟨_, rfl⟩
  have hb12 : Below W1.heap.size W1 W2 := by rw [← hW2]; exact below_alloc W1 _
  have b2 : Blk W2 W1.heap.size 47 Ms.zero.cs := by rw [← hW2]; exact Blk.new W1 _ _
  have hle : w.heap.size ≤ W1.heap.size := hb1.size
  have hlt2 : W1.heap.size < W2.heap.size := by rw [← hW2]; simp
  have hb02 : Below w.heap.size w W2 := bel_trans hb1 hb12
  have v2 := b1.later hb12
  have LV := ld_vw v2
  have HX := Lib.hid (And.intro hb02 (And.intro v2 (And.intro b2 (And.intro hle (And.intro hlt2 h)))))
  have hzz := Vw.ok_of hv
  have dm := mnU_nat x v.z
  have dl := ltU_nat (min x v.z) v.b.i
  rw [decide_eq_false hlo] at dl
  obtain ⟨y, hy⟩ : ∃ y, min x v.z = y := ⟨_, rfl⟩
  rw [hy] at dm dl hlo ⊢ hk
  obtain ⟨k, hkk⟩ : ∃ k, y - v.b.i = k := ⟨_, rfl⟩
  rw [hkk] at hk
  have hyz : y ≤ v.z := by rw [← hy]; exact Nat.min_le_right _ _
  have hpl := placeR_in (by omega : v.b.i ≤ y) hyz
  have hpa := placeR_at hpl
  obtain ⟨q1, pe, q3, hq⟩ : ∃ q1 q2 q3, placeR v y = (q1, q2, q3) := ⟨_, _, _, rfl⟩
  rw [hq] at hpl hpa
  dsimp only at hpl hpa
  subst hpl hpa
  have HZ := Lib.hid (And.intro hy (And.intro hlo (And.intro hyz (And.intro hq (And.intro hzz hkk)))))
  obtain ⟨nn, hnn⟩ : ∃ nn, v.n - k = nn := ⟨_, rfl⟩
  obtain ⟨nc, hnc⟩ : ∃ nc, v.c - k = nc := ⟨_, rfl⟩
  obtain ⟨mm, hmm⟩ : ∃ mm, min nn 8 = mm := ⟨_, rfl⟩
  have e0 : mnI (nn : Int) 8 = (mm : Int) := by rw [← hmm]; exact mnI_nat nn 8
  have hkn : k ≤ v.n := by unfold Vw.z at hyz; omega
  have hcc := h.2.2.2.1
  have hcm : nc ≤ 9223372036854775807 := by have := h.2.2.2.2.1; unfold maxLen at this; omega
  have hmc : mm ≤ nc := by omega
  have HM := Lib.hid (And.intro hnn (And.intro hnc (And.intro hmm (And.intro hkn hcc))))
  have hvc : v.c ≤ 9223372036854775807 := by have := h.2.2.2.2.1; unfold maxLen at this; omega
  have dk : sbU (y : Int) (v.b.i : Int) = (k : Int) := by rw [← hkk]; exact sbU_nat (by omega) (by unfold Vw.z at hyz; omega)
  clear hlo hyz hy hq hzz hkk hnn hnc hmm
  have HT := last14_any v W2 (HX.out.2.2.2.2.2.2.later HX.out.1) (by have := HZ.out.2.2.2.2.1; omega)
  have FL : ∀ w, (Instr.field 24 (.agg (acs (lastV v).1 (lastV v).2)) 0).run Try.prog w = .ok (.int .u64 (v.z : Int)) w := fun w => by rw [← lastV_z]; rfl
  clear hb1 b1 hb12 b2 hle hlt2 hb02 v2 h
  go_enter Try.func16, Try.ntmps16
  go_wp2_with (with_reducible refine wpList_alloc_z rfl 47 rfl Ms.zero.cs 23 z_ms ?_)
  refine HT.mono ?_
  rintro e W5 ⟨rfl, hb5⟩
  have hb25 := hb5
  have v5 := HX.out.2.1.later hb25
  obtain ⟨_, c1, _, _, _⟩ := vw_cells v5
  have LV5 := ld_vw v5
  have HPL := place14_any v y W5 (HX.out.2.2.2.2.2.2.later (bel_trans HX.out.1 hb25)) (by have := HZ.out.2.2.2.2.1; omega) (by have hz1 := HZ.out.2.2.1; have hz2 := HZ.out.2.2.2.2.1; unfold Vw.z at hz1; omega)
  rw [HZ.out.2.2.2.1] at HPL
  dsimp only at HPL
  have H5 := Lib.hid hb25
  clear hb5 hb25 v5
  go_wp2_with fail
  refine HPL.mono ?_
  rintro e W6 ⟨rfl, hb6⟩
  have SA := st_at (i2 := (y : Int)) (e2 := pe) (Blk.new W6 24 (acs 0 0))
  rw [World.setRow_alloc_new] at SA
  obtain ⟨W7, hW7⟩ : ∃ W7, W6.alloc (.cells (acs (y : Int) pe) 24) = W7 := ⟨_, rfl⟩
  rw [hW7] at SA
  have k67 : Below W6.heap.size W6 W7 := by rw [← hW7]; exact below_alloc W6 _
  have a7 : Blk W7 W6.heap.size 24 (acs (y : Int) pe) := by rw [← hW7]; exact Blk.new W6 _ _
  have hb27 := bel_trans (bel_trans H5.out hb6) k67
  have hb07 := bel_trans HX.out.1 hb27
  have v7 := HX.out.2.1.later hb27
  obtain ⟨_, y1, _, _, y4⟩ := vw_cells v7
  rw [ha] at y4
  have hDr := (HX.out.2.2.2.2.2.2.later hb07).drop (k := k) HM.out.2.2.2.1
  rw [HM.out.1, HM.out.2.1, if_pos hk, ha] at hDr
  skip
  have hns := HM.out.1
  have hncs := HM.out.2.1
  have H7 := Lib.hid (And.intro hb27 (And.intro a7 hDr))
  clear hb6 k67 a7 hb27 hb07 v7 hDr
  have HK := Lib.hid hk
  obtain ⟨vn, hvn⟩ : ∃ vn, v.n = vn := ⟨_, rfl⟩
  rw [hvn] at y4 hns hkn
  rw [hvn] at hcc
  have hnk : vn = k := by omega
  have hnn0 : nn = 0 := by omega
  have hnc0 : nc = 0 := by omega
  rw [hk] at y4
  subst hnk
  have HVN := Lib.hid hvn
  clear hk hkn hcc hns hncs hvc hvn
  go_upto_region 6 with (with_reducible refine wpList_alloc_z rfl 24 rfl (acs 0 0) 2 z_at ?_)
  have e1 : mnI 0 8 = 0 := by decide
  have hmm0 : mm = 0 := by have := HM.out.2.2.1; omega
  subst hmm0
  have hD7 := H7.out.2.2
  rw [hnn0, hnc0] at hD7
  rw [hnc0] at hmc hcm
  have hb08 := bel_trans HX.out.1 H7.out.1
  have r8 := HX.out.2.2.1.later H7.out.1
  have hT8 := hD7.take 0 (by have := HM.out.2.2.1; omega)
  have HCP := entries12_any _ _ _ _ W7.drew (hT8.later (bel_drew (Below.refl _ _))) (by have := HM.out.2.2.1; omega) (fun x hx => hU x (List.mem_of_mem_drop (List.mem_of_mem_take hx)))
  have h00 : Below W7.heap.size W7 W7.drew := bel_drew (Below.refl _ _)
  have LAT : ∀ w', Below W7.heap.size W7 w' → (loadSem 24 (.pointer (some ⟨W6.heap.size, 0, none⟩))).run Try.prog w' = .ok (.agg (acs (y : Int) pe)) w' := fun w' k => ld_at (H7.out.2.1.later k)
  have hln := H7.out.2.2.1
  have H8 := Lib.hid (And.intro hb08 (And.intro r8 (And.intro hln H7.out.1)))
  clear hD7 hb08 r8 hT8 hln
  refine wp_region_linF (fun w' => Below W7.heap.size W7 w') 8 [6, 8] [0, 1, 2, 3, 4, 5, 6, 7, 8] (by kernel_rfl) (by kernel_rfl) h00 ?_
  (repeat (first | (refine linF_off rfl rfl (by rfl) ?_; (try simp only [Act.put, List.getElem_toArray, List.getElem_cons_zero, List.getElem_cons_succ, List.setIfInBounds_toArray, List.set_cons_zero, List.set_cons_succ])) | (refine linF_op (v := ?_) rfl rfl (by rfl) (fun w9 hS9 => ?_) ?_; rotate_left; (focus (((try dsimp only at hS9); have z0 := LAT w9 hS9; go_simp; (try go_bits)) <;> with_reducible rfl)); (try simp only [Act.put, List.getElem_toArray, List.getElem_cons_zero, List.getElem_cons_succ, List.setIfInBounds_toArray, List.set_cons_zero, List.set_cons_succ]))))
  refine linF_call (f := 45) (args := #[.slice (some p) 0 0]) rfl rfl (by rfl) rfl rfl (enters_of Try.func45 (by kernel_rfl) rfl) (by simp [Act.eval]) ?_
  refine HCP.mono ?_
  rintro e W9 ⟨a9, c9, M9, rfl, hO9, hS9, hb9⟩
  have hb89 : Below W7.heap.size W7 W9 := bel_trans h00 hb9
  refine ⟨_, rfl, hb89, ?_⟩
  (try simp only [Act.put, List.getElem_toArray, List.getElem_cons_zero, List.getElem_cons_succ, List.setIfInBounds_toArray, List.set_cons_zero, List.set_cons_succ])
  have BO := build_offe y pe a9 0 c9 M9
  (repeat (first | (refine linF_off rfl rfl (by rfl) ?_; (try simp only [Act.put, List.getElem_toArray, List.getElem_cons_zero, List.getElem_cons_succ, List.setIfInBounds_toArray, List.set_cons_zero, List.set_cons_succ])) | (refine linF_op (v := ?_) rfl rfl (by rfl) (fun w9 hS9 => ?_) ?_; rotate_left; (focus (((try dsimp only at hS9); have z0 := LAT w9 hS9; go_simp; (try go_bits)) <;> with_reducible rfl)); (try simp only [Act.put, List.getElem_toArray, List.getElem_cons_zero, List.getElem_cons_succ, List.setIfInBounds_toArray, List.set_cons_zero, List.set_cons_succ]))))
  have r9 := H8.out.2.1.later hb89
  have ST := st_ms (b2 := offE y pe a9 0 c9 M9) r9
  have k9 : Kept [W1.heap.size] W9 (W9.setRow W1.heap.size (offE y pe a9 0 c9 M9).cs) := (Kept.refl _ _).setRow (.inl (by simp)) _
  have hz8 : W2.heap.size ≤ W7.heap.size := H8.out.2.2.2.size
  have HF := Lib.hid (And.intro (r9.row (offE y pe a9 0 c9 M9).cs) (And.intro (below_setRow (bel_trans H8.out.1 hb89) HX.out.2.2.2.1 (offE y pe a9 0 c9 M9).cs) (EnOwn.kept (EnOwn.less hO9 (show W2.heap.size ≤ W7.drew.heap.size from hz8)) k9 (fun g hg => by have := HX.out.2.2.2.2.1; simp at hg; omega))))
  have hz := HX.out.1.size
  have HOV := Lib.hid (show OfferV v y (offE y pe a9 0 c9 M9) from .inr ⟨by have := HZ.out.2.1; omega, a9, c9, M9, by rw [HZ.out.2.2.2.1, HZ.out.2.2.2.2.2, HM.out.1, HM.out.2.2.1], by
    rw [HZ.out.2.2.2.2.2]
    have e9 := take_min8 H8.out.2.2.1
    rw [HM.out.2.2.1] at e9
    rw [← e9]
    exact hS9⟩)
  clear r9 k9 hz8 hO9 hS9 hb9 hb89
  refine linF_fin (w' := W9.setRow W1.heap.size (offE y pe a9 0 c9 M9).cs) rfl rfl (by rfl) (by go_simp; done) ?_
  (try simp only [Act.put, List.getElem_toArray, List.getElem_cons_zero, List.getElem_cons_succ, List.setIfInBounds_toArray, List.set_cons_zero, List.set_cons_succ])
  go_wp2_with fail
  refine bodyPost_ret (results_cell_row rfl _ _ W1.heap.size 47 _ (0, 0) _ rfl HF.out.1 Try.underlying47 rfl (s_ms _)) rfl ?_
  exact ⟨_, rfl, HOV.out, ⟨HF.out.2.2.less hz, RoIn.nil _ _⟩, HF.out.2.1⟩
set_option maxHeartbeats 4000000 in
theorem roffer_mid3 (v : Vw) (x : Nat) (w : World) (h : v.In w 0) (hU : ∀ x ∈ v.L, x.n ≤ 1000) (hR : v.b.n ≤ 1000) (hN : v.n ≤ 40) (hv : v.ok = true) (hlo : ¬ min x v.z < v.b.i) (hk : ¬ v.c = min x v.z - v.b.i) (p : Addr) (ha : v.a = some p) :
    Calls Try.prog 16 #[.agg v.cs, .int .u64 (x : Int)] w fun e w' => ∃ o : Ms, e = .returned (.agg o.cs) ∧ OfferV v (min x v.z) o ∧ o.Own w' w.heap.size ∧ Below w.heap.size w w' := by
  obtain ⟨W1, hW1⟩ : ∃ W1, w.alloc (.cells v.cs 36) = W1 := ⟨_, rfl⟩
  have hb1 : Below w.heap.size w W1 := by rw [← hW1]; exact below_alloc w _
  have b1 : Blk W1 w.heap.size 36 v.cs := by rw [← hW1]; exact Blk.new w _ _
  obtain ⟨W2, hW2⟩ : ∃ W2, W1.alloc (.cells Ms.zero.cs 47) = W2 := ⟨_, rfl⟩
  have hb12 : Below W1.heap.size W1 W2 := by rw [← hW2]; exact below_alloc W1 _
  have b2 : Blk W2 W1.heap.size 47 Ms.zero.cs := by rw [← hW2]; exact Blk.new W1 _ _
  have hle : w.heap.size ≤ W1.heap.size := hb1.size
  have hlt2 : W1.heap.size < W2.heap.size := by rw [← hW2]; simp
  have hb02 : Below w.heap.size w W2 := bel_trans hb1 hb12
  have v2 := b1.later hb12
  have LV := ld_vw v2
  have HX := Lib.hid (And.intro hb02 (And.intro v2 (And.intro b2 (And.intro hle (And.intro hlt2 h)))))
  have hzz := Vw.ok_of hv
  have dm := mnU_nat x v.z
  have dl := ltU_nat (min x v.z) v.b.i
  rw [decide_eq_false hlo] at dl
  obtain ⟨y, hy⟩ : ∃ y, min x v.z = y := ⟨_, rfl⟩
  rw [hy] at dm dl hlo ⊢ hk
  obtain ⟨k, hkk⟩ : ∃ k, y - v.b.i = k := ⟨_, rfl⟩
  rw [hkk] at hk
  have hyz : y ≤ v.z := by rw [← hy]; exact Nat.min_le_right _ _
  have hpl := placeR_in (by omega : v.b.i ≤ y) hyz
  have hpa := placeR_at hpl
  obtain ⟨q1, pe, q3, hq⟩ : ∃ q1 q2 q3, placeR v y = (q1, q2, q3) := ⟨_, _, _, rfl⟩
  rw [hq] at hpl hpa
  dsimp only at hpl hpa
  subst hpl hpa
  have HZ := Lib.hid (And.intro hy (And.intro hlo (And.intro hyz (And.intro hq (And.intro hzz hkk)))))
  obtain ⟨nn, hnn⟩ : ∃ nn, v.n - k = nn := ⟨_, rfl⟩
  obtain ⟨nc, hnc⟩ : ∃ nc, v.c - k = nc := ⟨_, rfl⟩
  obtain ⟨mm, hmm⟩ : ∃ mm, min nn 8 = mm := ⟨_, rfl⟩
  have e0 : mnI (nn : Int) 8 = (mm : Int) := by rw [← hmm]; exact mnI_nat nn 8
  have hkn : k ≤ v.n := by unfold Vw.z at hyz; omega
  have hcc := h.2.2.2.1
  have hcm : nc ≤ 9223372036854775807 := by have := h.2.2.2.2.1; unfold maxLen at this; omega
  have hmc : mm ≤ nc := by omega
  have HM := Lib.hid (And.intro hnn (And.intro hnc (And.intro hmm (And.intro hkn hcc))))
  have hvc : v.c ≤ 9223372036854775807 := by have := h.2.2.2.2.1; unfold maxLen at this; omega
  have dk : sbU (y : Int) (v.b.i : Int) = (k : Int) := by rw [← hkk]; exact sbU_nat (by omega) (by unfold Vw.z at hyz; omega)
  clear hlo hyz hy hq hzz hkk hnn hnc hmm
  have HT := last14_any v W2 (HX.out.2.2.2.2.2.2.later HX.out.1) (by have := HZ.out.2.2.2.2.1; omega)
  have FL : ∀ w, (Instr.field 24 (.agg (acs (lastV v).1 (lastV v).2)) 0).run Try.prog w = .ok (.int .u64 (v.z : Int)) w := fun w => by rw [← lastV_z]; rfl
  clear hb1 b1 hb12 b2 hle hlt2 hb02 v2 h
  go_enter Try.func16, Try.ntmps16
  go_wp2_with (with_reducible refine wpList_alloc_z rfl 47 rfl Ms.zero.cs 23 z_ms ?_)
  refine HT.mono ?_
  rintro e W5 ⟨rfl, hb5⟩
  have hb25 := hb5
  have v5 := HX.out.2.1.later hb25
  obtain ⟨_, c1, _, _, _⟩ := vw_cells v5
  have LV5 := ld_vw v5
  have HPL := place14_any v y W5 (HX.out.2.2.2.2.2.2.later (bel_trans HX.out.1 hb25)) (by have := HZ.out.2.2.2.2.1; omega) (by have hz1 := HZ.out.2.2.1; have hz2 := HZ.out.2.2.2.2.1; unfold Vw.z at hz1; omega)
  rw [HZ.out.2.2.2.1] at HPL
  dsimp only at HPL
  have H5 := Lib.hid hb25
  clear hb5 hb25 v5
  go_wp2_with fail
  refine HPL.mono ?_
  rintro e W6 ⟨rfl, hb6⟩
  have SA := st_at (i2 := (y : Int)) (e2 := pe) (Blk.new W6 24 (acs 0 0))
  rw [World.setRow_alloc_new] at SA
  obtain ⟨W7, hW7⟩ : ∃ W7, W6.alloc (.cells (acs (y : Int) pe) 24) = W7 := ⟨_, rfl⟩
  rw [hW7] at SA
  have k67 : Below W6.heap.size W6 W7 := by rw [← hW7]; exact below_alloc W6 _
  have a7 : Blk W7 W6.heap.size 24 (acs (y : Int) pe) := by rw [← hW7]; exact Blk.new W6 _ _
  have hb27 := bel_trans (bel_trans H5.out hb6) k67
  have hb07 := bel_trans HX.out.1 hb27
  have v7 := HX.out.2.1.later hb27
  obtain ⟨_, y1, _, _, y4⟩ := vw_cells v7
  rw [ha] at y4
  have hDr := (HX.out.2.2.2.2.2.2.later hb07).drop (k := k) HM.out.2.2.2.1
  rw [HM.out.1, HM.out.2.1, if_neg hk, ha] at hDr
  simp only [Option.map_some] at hDr
  have hns := HM.out.1
  have hncs := HM.out.2.1
  have H7 := Lib.hid (And.intro hb27 (And.intro a7 hDr))
  clear hb6 k67 a7 hb27 hb07 v7 hDr
  have HK := Lib.hid hk
  have hkc : k ≤ v.c := by omega
  clear hns hncs
  go_upto_region 6 with (with_reducible refine wpList_alloc_z rfl 24 rfl (acs 0 0) 2 z_at ?_)
  rw [HM.out.1, HM.out.2.1]
  obtain ⟨a1, ha1⟩ : ∃ a1, some (p.add (k * 4)) = a1 := ⟨_, rfl⟩
  rw [ha1]
  have hD7 := H7.out.2.2
  rw [ha1] at hD7
  have hb08 := bel_trans HX.out.1 H7.out.1
  have r8 := HX.out.2.2.1.later H7.out.1
  have hT8 := hD7.take mm (by have := HM.out.2.2.1; omega)
  have HCP := entries12_any _ _ _ _ W7.drew (hT8.later (bel_drew (Below.refl _ _))) (by have := HM.out.2.2.1; omega) (fun x hx => hU x (List.mem_of_mem_drop (List.mem_of_mem_take hx)))
  have h00 : Below W7.heap.size W7 W7.drew := bel_drew (Below.refl _ _)
  have LAT : ∀ w', Below W7.heap.size W7 w' → (loadSem 24 (.pointer (some ⟨W6.heap.size, 0, none⟩))).run Try.prog w' = .ok (.agg (acs (y : Int) pe)) w' := fun w' k => ld_at (H7.out.2.1.later k)
  have hln := H7.out.2.2.1
  have H8 := Lib.hid (And.intro hb08 (And.intro r8 (And.intro hln H7.out.1)))
  clear hD7 hb08 r8 hT8 hln
  refine wp_region_linF (fun w' => Below W7.heap.size W7 w') 8 [6, 8] [0, 1, 2, 3, 4, 5, 6, 7, 8] (by kernel_rfl) (by kernel_rfl) h00 ?_
  (repeat (first | (refine linF_off rfl rfl (by rfl) ?_; (try simp only [Act.put, List.getElem_toArray, List.getElem_cons_zero, List.getElem_cons_succ, List.setIfInBounds_toArray, List.set_cons_zero, List.set_cons_succ])) | (refine linF_op (v := ?_) rfl rfl (by rfl) (fun w9 hS9 => ?_) ?_; rotate_left; (focus (((try dsimp only at hS9); have z0 := LAT w9 hS9; go_simp; (try go_bits)) <;> with_reducible rfl)); (try simp only [Act.put, List.getElem_toArray, List.getElem_cons_zero, List.getElem_cons_succ, List.setIfInBounds_toArray, List.set_cons_zero, List.set_cons_succ]))))
  refine linF_call (f := 45) (args := #[.slice a1 mm nc]) rfl rfl (by rfl) rfl rfl (enters_of Try.func45 (by kernel_rfl) rfl) (by simp [Act.eval]) ?_
  refine HCP.mono ?_
  rintro e W9 ⟨a9, c9, M9, rfl, hO9, hS9, hb9⟩
  have hb89 : Below W7.heap.size W7 W9 := bel_trans h00 hb9
  refine ⟨_, rfl, hb89, ?_⟩
  (try simp only [Act.put, List.getElem_toArray, List.getElem_cons_zero, List.getElem_cons_succ, List.setIfInBounds_toArray, List.set_cons_zero, List.set_cons_succ])
  have BO := build_offe y pe a9 mm c9 M9
  (repeat (first | (refine linF_off rfl rfl (by rfl) ?_; (try simp only [Act.put, List.getElem_toArray, List.getElem_cons_zero, List.getElem_cons_succ, List.setIfInBounds_toArray, List.set_cons_zero, List.set_cons_succ])) | (refine linF_op (v := ?_) rfl rfl (by rfl) (fun w9 hS9 => ?_) ?_; rotate_left; (focus (((try dsimp only at hS9); have z0 := LAT w9 hS9; go_simp; (try go_bits)) <;> with_reducible rfl)); (try simp only [Act.put, List.getElem_toArray, List.getElem_cons_zero, List.getElem_cons_succ, List.setIfInBounds_toArray, List.set_cons_zero, List.set_cons_succ]))))
  have r9 := H8.out.2.1.later hb89
  have ST := st_ms (b2 := offE y pe a9 mm c9 M9) r9
  have k9 : Kept [W1.heap.size] W9 (W9.setRow W1.heap.size (offE y pe a9 mm c9 M9).cs) := (Kept.refl _ _).setRow (.inl (by simp)) _
  have hz8 : W2.heap.size ≤ W7.heap.size := H8.out.2.2.2.size
  have HF := Lib.hid (And.intro (r9.row (offE y pe a9 mm c9 M9).cs) (And.intro (below_setRow (bel_trans H8.out.1 hb89) HX.out.2.2.2.1 (offE y pe a9 mm c9 M9).cs) (EnOwn.kept (EnOwn.less hO9 (show W2.heap.size ≤ W7.drew.heap.size from hz8)) k9 (fun g hg => by have := HX.out.2.2.2.2.1; simp at hg; omega))))
  have hz := HX.out.1.size
  have HOV := Lib.hid (show OfferV v y (offE y pe a9 mm c9 M9) from .inr ⟨by have := HZ.out.2.1; omega, a9, c9, M9, by rw [HZ.out.2.2.2.1, HZ.out.2.2.2.2.2, HM.out.1, HM.out.2.2.1], by
    rw [HZ.out.2.2.2.2.2]
    have e9 := take_min8 H8.out.2.2.1
    rw [HM.out.2.2.1] at e9
    rw [← e9]
    exact hS9⟩)
  clear r9 k9 hz8 hO9 hS9 hb9 hb89
  refine linF_fin (w' := W9.setRow W1.heap.size (offE y pe a9 mm c9 M9).cs) rfl rfl (by rfl) (by go_simp; done) ?_
  (try simp only [Act.put, List.getElem_toArray, List.getElem_cons_zero, List.getElem_cons_succ, List.setIfInBounds_toArray, List.set_cons_zero, List.set_cons_succ])
  go_wp2_with fail
  refine bodyPost_ret (results_cell_row rfl _ _ W1.heap.size 47 _ (0, 0) _ rfl HF.out.1 Try.underlying47 rfl (s_ms _)) rfl ?_
  exact ⟨_, rfl, HOV.out, ⟨HF.out.2.2.less hz, RoIn.nil _ _⟩, HF.out.2.1⟩
theorem offer_any (v : Vw) (x : Nat) (w : World) (h : v.In w 0) (hU : ∀ x ∈ v.L, x.n ≤ 1000) (hR : v.b.n ≤ 1000) (hN : v.n ≤ 40) :
    Calls Try.prog 12 #[.agg v.cs, .int .u64 (x : Int)] w fun e w' => ∃ (o : Ms) (er : Int), e = .returned (.tuple #[.agg o.cs, .int .i64 er]) ∧ OfferR v x o er ∧ o.Own w' w.heap.size ∧ Below w.heap.size w w' := by
  by_cases hv : v.ok = true
  · by_cases hlo : min x v.z < v.b.i
    · exact offer_low v x w h hU hR hN hv hlo
    · exact offer_mid v x w h hU hR hN hv hlo
  · exact offer_bad v x w h (by simpa using hv)
theorem roffer_any (v : Vw) (x : Nat) (w : World) (h : v.In w 0) (hU : ∀ x ∈ v.L, x.n ≤ 1000) (hR : v.b.n ≤ 1000) (hN : v.n ≤ 40) (hv : v.ok = true) :
    Calls Try.prog 16 #[.agg v.cs, .int .u64 (x : Int)] w fun e w' => ∃ o : Ms, e = .returned (.agg o.cs) ∧ OfferV v (min x v.z) o ∧ o.Own w' w.heap.size ∧ Below w.heap.size w w' := by
  by_cases hlo : min x v.z < v.b.i
  · exact roffer_low v x w h hU hR hN hv hlo
  · cases ha : v.a with
    | none =>
      have hc0 : v.c = 0 := h.2.2.2.2.2.1 ha
      have hn0 : v.n = 0 := by have := h.2.2.2.1; omega
      have hm : min x v.z ≤ v.z := Nat.min_le_right _ _
      exact roffer_mid1 v x w h hU hR hN hv hlo (by unfold Vw.z at hm ⊢; unfold Vw.z at hlo; omega) ha
    | some p =>
      by_cases hk : v.c = min x v.z - v.b.i
      · exact roffer_mid2 v x w h hU hR hN hv hlo hk p ha
      · exact roffer_mid3 v x w h hU hR hN hv hlo hk p ha
end Go.Proofs.Ytkoenconjldojaa
