/-
  The contracts of ship.Accept and Took and of the reference's Took. Nothing here is a statement of the document.
-/
import Derived.Test.YtkoenconjldojaaShO
namespace Go.Proofs.Ytkoenconjldojaa
open Go.RowKit Go.Shelf
set_option linter.unusedVariables false
set_option linter.unusedSimpArgs false
set_option maxRecDepth 100000
attribute [local go_sem 10000] gtU_rule leU_rule ltU_rule geU_rule adU_rule sbU_rule mxU_rule mnU_rule mnI_rule
attribute [local go_sem ↓] load_at_rule store_at_rule load_la_rule store_la_rule load_bs_rule store_bs_rule load_vw_rule store_vw_rule load_jo_rule store_jo_rule load_ms_rule store_ms_rule load_ch_rule store_ch_rule load_hd_rule store_hd_rule load_rb_rule store_rb_rule load_en_rule store_en_rule
attribute [local go_sem ↓] build_hd_rule build_rb_rule build_en_rule build_at_rule build_jo_rule upbuild_rule upapp_rule robuild_rule roapp_rule enbuild_rule enapp_rule build_vw_rule eq_at_rule eq_la_rule build_ch_rule
theorem build_ch0 (w : World) : (buildSem 67 #[]).run Try.prog w = .ok (.agg Ch.zero.cs) w := by kernel_rfl
/-- What comes of an offer: the change, and the error. -/
def AcceptR (v : Vw) (m : Ms) (c : Ch) (er : Int) : Prop :=
  (v.ok = false ∧ c = Ch.zero ∧ er = 240) ∨ (v.ok = true ∧ m.off = false ∧ c = Ch.zero ∧ er = 2) ∨ (v.ok = true ∧ m.off = true ∧ er = 0 ∧ MadeR v m c)
set_option maxHeartbeats 4000000 in
theorem accept_bad (v : Vw) (m : Ms) (w : World) (hL : EnIn w 0 v.a v.n v.c v.L) (hM : EnIn w 0 m.a m.n m.c m.L) (hU : ∀ x ∈ m.L, x.n ≤ 1000) (hv : v.ok = false) :
    Calls Try.prog 20 #[.agg v.cs, .agg m.cs] w fun e w' => ∃ (c : Ch) (er : Int), e = .returned (.tuple #[.agg c.cs, .int .i64 er]) ∧ AcceptR v m c er ∧ EnOwn w' w.heap.size (.slice c.a c.n c.c) c.L ∧ Below w.heap.size w w' := by
  obtain ⟨W1, hW1⟩ : ∃ W1, w.alloc (.cells v.cs 36) = W1 := ⟨_, rfl⟩
  have hb1 : Below w.heap.size w W1 := by rw [← hW1]; exact below_alloc w _
  have b1 : Blk W1 w.heap.size 36 v.cs := by rw [← hW1]; exact Blk.new w _ _
  obtain ⟨W2, hW2⟩ : ∃ W2, W1.alloc (.cells m.cs 47) = W2 := ⟨_, rfl⟩
  have hb12 : Below W1.heap.size W1 W2 := by rw [← hW2]; exact below_alloc W1 _
  have b2 : Blk W2 W1.heap.size 47 m.cs := by rw [← hW2]; exact Blk.new W1 _ _
  have hle : w.heap.size ≤ W2.heap.size := (bel_trans hb1 hb12).size
  obtain ⟨W3, hW3⟩ : ∃ W3, W2.alloc (.cells Ch.zero.cs 67) = W3 := ⟨_, rfl⟩
  have hb23 : Below W2.heap.size W2 W3 := by rw [← hW3]; exact below_alloc W2 _
  have b3 : Blk W3 W2.heap.size 67 Ch.zero.cs := by rw [← hW3]; exact Blk.new W2 _ _
  have hb03 : Below w.heap.size w W3 := bel_trans (bel_trans hb1 hb12) hb23
  have v3 := (b1.later hb12).later hb23
  have m3 := b2.later hb23
  have LV := ld_vw v3
  have HC := check_any14 v W3
  have B0 := build_ch0
  have he : v.e = 240 := by unfold Vw.e; rw [hv]; rfl
  rw [he] at HC
  have HX := Lib.hid (And.intro hb03 (And.intro v3 (And.intro m3 (And.intro b3 (And.intro hle (And.intro hL (And.intro hM hU)))))))
  clear hb03 v3 m3 b3 hle hL hM hU hb1 b1 hb12 b2 hb23
  go_enter Try.func20, Try.ntmps20
  go_wp2_with (with_reducible refine wpList_alloc_z rfl 67 rfl Ch.zero.cs 4 z_ch ?_)
  refine HC.mono ?_
  rintro e W4 ⟨rfl, hb4⟩
  have v4 := HX.out.2.1.later hb4
  have m4 := HX.out.2.2.1.later hb4
  have r4 := HX.out.2.2.2.1.later hb4
  have hb04 := bel_trans HX.out.1 hb4
  obtain ⟨c0, c1, c2, c3, _, _, _, _⟩ := ms_cells m4
  have LV4 := ld_vw v4
  have LM4 := ld_ms m4
  have ST := st_ch (b2 := Ch.zero) r4
  have HF := Lib.hid (And.intro (r4.row Ch.zero.cs) (below_setRow hb04 HX.out.2.2.2.2.1 Ch.zero.cs))
  clear r4 hb04 v4 m4 hb4
  go_wp2_with fail
  refine bodyPost_ret (results_row_tmp rfl _ _ W2.heap.size _ _ rfl HF.out.1 Try.underlying67 rfl (s_ch _)) rfl ?_
  exact ⟨_, _, rfl, .inl ⟨hv, rfl, rfl⟩, EnOwn.nil _ _, HF.out.2⟩

set_option maxHeartbeats 4000000 in
theorem accept_k (v : Vw) (m : Ms) (w : World) (hL : EnIn w 0 v.a v.n v.c v.L) (hM : EnIn w 0 m.a m.n m.c m.L) (hU : ∀ x ∈ m.L, x.n ≤ 1000) (hv : v.ok = true) (hk : ¬ m.kd = 1) :
    Calls Try.prog 20 #[.agg v.cs, .agg m.cs] w fun e w' => ∃ (c : Ch) (er : Int), e = .returned (.tuple #[.agg c.cs, .int .i64 er]) ∧ AcceptR v m c er ∧ EnOwn w' w.heap.size (.slice c.a c.n c.c) c.L ∧ Below w.heap.size w w' := by
  obtain ⟨W1, hW1⟩ : ∃ W1, w.alloc (.cells v.cs 36) = W1 := ⟨_, rfl⟩
  have hb1 : Below w.heap.size w W1 := by rw [← hW1]; exact below_alloc w _
  have b1 : Blk W1 w.heap.size 36 v.cs := by rw [← hW1]; exact Blk.new w _ _
  obtain ⟨W2, hW2⟩ : ∃ W2, W1.alloc (.cells m.cs 47) = W2 := ⟨_, rfl⟩
  have hb12 : Below W1.heap.size W1 W2 := by rw [← hW2]; exact below_alloc W1 _
  have b2 : Blk W2 W1.heap.size 47 m.cs := by rw [← hW2]; exact Blk.new W1 _ _
  have hle : w.heap.size ≤ W2.heap.size := (bel_trans hb1 hb12).size
  obtain ⟨W3, hW3⟩ : ∃ W3, W2.alloc (.cells Ch.zero.cs 67) = W3 := ⟨_, rfl⟩
  have hb23 : Below W2.heap.size W2 W3 := by rw [← hW3]; exact below_alloc W2 _
  have b3 : Blk W3 W2.heap.size 67 Ch.zero.cs := by rw [← hW3]; exact Blk.new W2 _ _
  have hb03 : Below w.heap.size w W3 := bel_trans (bel_trans hb1 hb12) hb23
  have v3 := (b1.later hb12).later hb23
  have m3 := b2.later hb23
  have LV := ld_vw v3
  have HC := check_any14 v W3
  have B0 := build_ch0
  have he : v.e = 0 := by unfold Vw.e; rw [hv]; rfl
  rw [he] at HC
  have g0 : gtU (m.pi : Int) 4611686018427387904 = !decide (m.pi ≤ 4611686018427387904) := gtU_nat m.pi 4611686018427387904
  have d0 : (m.kd != 1) = true := by simp [hk]
  have ho : m.off = false := by unfold Ms.off; simp [hk]
  clear g0 hk he
  have HX := Lib.hid (And.intro hb03 (And.intro v3 (And.intro m3 (And.intro b3 (And.intro hle (And.intro hL (And.intro hM hU)))))))
  clear hb03 v3 m3 b3 hle hL hM hU hb1 b1 hb12 b2 hb23
  go_enter Try.func20, Try.ntmps20
  go_wp2_with (with_reducible refine wpList_alloc_z rfl 67 rfl Ch.zero.cs 4 z_ch ?_)
  refine HC.mono ?_
  rintro e W4 ⟨rfl, hb4⟩
  have v4 := HX.out.2.1.later hb4
  have m4 := HX.out.2.2.1.later hb4
  have r4 := HX.out.2.2.2.1.later hb4
  have hb04 := bel_trans HX.out.1 hb4
  obtain ⟨c0, c1, c2, c3, _, _, _, _⟩ := ms_cells m4
  have LV4 := ld_vw v4
  have LM4 := ld_ms m4
  have ST := st_ch (b2 := Ch.zero) r4
  have HF := Lib.hid (And.intro (r4.row Ch.zero.cs) (below_setRow hb04 HX.out.2.2.2.2.1 Ch.zero.cs))
  clear r4 hb04 v4 m4 hb4
  go_wp2_with fail
  refine bodyPost_ret (results_row_tmp rfl _ _ W2.heap.size _ _ rfl HF.out.1 Try.underlying67 rfl (s_ch _)) rfl ?_
  exact ⟨_, _, rfl, .inr (.inl ⟨hv, ho, rfl, rfl⟩), EnOwn.nil _ _, HF.out.2⟩

set_option maxHeartbeats 4000000 in
theorem accept_n (v : Vw) (m : Ms) (w : World) (hL : EnIn w 0 v.a v.n v.c v.L) (hM : EnIn w 0 m.a m.n m.c m.L) (hU : ∀ x ∈ m.L, x.n ≤ 1000) (hv : v.ok = true) (hk : m.kd = 1) (hn : ¬ m.n ≤ 8) :
    Calls Try.prog 20 #[.agg v.cs, .agg m.cs] w fun e w' => ∃ (c : Ch) (er : Int), e = .returned (.tuple #[.agg c.cs, .int .i64 er]) ∧ AcceptR v m c er ∧ EnOwn w' w.heap.size (.slice c.a c.n c.c) c.L ∧ Below w.heap.size w w' := by
  obtain ⟨W1, hW1⟩ : ∃ W1, w.alloc (.cells v.cs 36) = W1 := ⟨_, rfl⟩
  have hb1 : Below w.heap.size w W1 := by rw [← hW1]; exact below_alloc w _
  have b1 : Blk W1 w.heap.size 36 v.cs := by rw [← hW1]; exact Blk.new w _ _
  obtain ⟨W2, hW2⟩ : ∃ W2, W1.alloc (.cells m.cs 47) = W2 := ⟨_, rfl⟩
  have hb12 : Below W1.heap.size W1 W2 := by rw [← hW2]; exact below_alloc W1 _
  have b2 : Blk W2 W1.heap.size 47 m.cs := by rw [← hW2]; exact Blk.new W1 _ _
  have hle : w.heap.size ≤ W2.heap.size := (bel_trans hb1 hb12).size
  obtain ⟨W3, hW3⟩ : ∃ W3, W2.alloc (.cells Ch.zero.cs 67) = W3 := ⟨_, rfl⟩
  have hb23 : Below W2.heap.size W2 W3 := by rw [← hW3]; exact below_alloc W2 _
  have b3 : Blk W3 W2.heap.size 67 Ch.zero.cs := by rw [← hW3]; exact Blk.new W2 _ _
  have hb03 : Below w.heap.size w W3 := bel_trans (bel_trans hb1 hb12) hb23
  have v3 := (b1.later hb12).later hb23
  have m3 := b2.later hb23
  have LV := ld_vw v3
  have HC := check_any14 v W3
  have B0 := build_ch0
  have he : v.e = 0 := by unfold Vw.e; rw [hv]; rfl
  rw [he] at HC
  have g0 : gtU (m.pi : Int) 4611686018427387904 = !decide (m.pi ≤ 4611686018427387904) := gtU_nat m.pi 4611686018427387904
  have d0 : (m.kd != 1) = false := by simp [hk]
  have d1 : (8 : Int) < (m.n : Int) := by omega
  have d2 : decide ((m.n : Int) > 8) = true := by simp; omega
  have ho : m.off = false := by unfold Ms.off; simp [hn]
  clear g0 hk he hn
  have HX := Lib.hid (And.intro hb03 (And.intro v3 (And.intro m3 (And.intro b3 (And.intro hle (And.intro hL (And.intro hM hU)))))))
  clear hb03 v3 m3 b3 hle hL hM hU hb1 b1 hb12 b2 hb23
  go_enter Try.func20, Try.ntmps20
  go_wp2_with (with_reducible refine wpList_alloc_z rfl 67 rfl Ch.zero.cs 4 z_ch ?_)
  refine HC.mono ?_
  rintro e W4 ⟨rfl, hb4⟩
  have v4 := HX.out.2.1.later hb4
  have m4 := HX.out.2.2.1.later hb4
  have r4 := HX.out.2.2.2.1.later hb4
  have hb04 := bel_trans HX.out.1 hb4
  obtain ⟨c0, c1, c2, c3, _, _, _, _⟩ := ms_cells m4
  have LV4 := ld_vw v4
  have LM4 := ld_ms m4
  have ST := st_ch (b2 := Ch.zero) r4
  have HF := Lib.hid (And.intro (r4.row Ch.zero.cs) (below_setRow hb04 HX.out.2.2.2.2.1 Ch.zero.cs))
  clear r4 hb04 v4 m4 hb4
  go_wp2_with fail
  refine bodyPost_ret (results_row_tmp rfl _ _ W2.heap.size _ _ rfl HF.out.1 Try.underlying67 rfl (s_ch _)) rfl ?_
  exact ⟨_, _, rfl, .inr (.inl ⟨hv, ho, rfl, rfl⟩), EnOwn.nil _ _, HF.out.2⟩

set_option maxHeartbeats 4000000 in
theorem accept_p (v : Vw) (m : Ms) (w : World) (hL : EnIn w 0 v.a v.n v.c v.L) (hM : EnIn w 0 m.a m.n m.c m.L) (hU : ∀ x ∈ m.L, x.n ≤ 1000) (hv : v.ok = true) (hk : m.kd = 1) (hn : m.n ≤ 8) (hp : ¬ m.pi ≤ 4611686018427387904) :
    Calls Try.prog 20 #[.agg v.cs, .agg m.cs] w fun e w' => ∃ (c : Ch) (er : Int), e = .returned (.tuple #[.agg c.cs, .int .i64 er]) ∧ AcceptR v m c er ∧ EnOwn w' w.heap.size (.slice c.a c.n c.c) c.L ∧ Below w.heap.size w w' := by
  obtain ⟨W1, hW1⟩ : ∃ W1, w.alloc (.cells v.cs 36) = W1 := ⟨_, rfl⟩
  have hb1 : Below w.heap.size w W1 := by rw [← hW1]; exact below_alloc w _
  have b1 : Blk W1 w.heap.size 36 v.cs := by rw [← hW1]; exact Blk.new w _ _
  obtain ⟨W2, hW2⟩ : ∃ W2, W1.alloc (.cells m.cs 47) = W2 := ⟨_, rfl⟩
  have hb12 : Below W1.heap.size W1 W2 := by rw [← hW2]; exact below_alloc W1 _
  have b2 : Blk W2 W1.heap.size 47 m.cs := by rw [← hW2]; exact Blk.new W1 _ _
  have hle : w.heap.size ≤ W2.heap.size := (bel_trans hb1 hb12).size
  obtain ⟨W3, hW3⟩ : ∃ W3, W2.alloc (.cells Ch.zero.cs 67) = W3 := ⟨_, rfl⟩
  have hb23 : Below W2.heap.size W2 W3 := by rw [← hW3]; exact below_alloc W2 _
  have b3 : Blk W3 W2.heap.size 67 Ch.zero.cs := by rw [← hW3]; exact Blk.new W2 _ _
  have hb03 : Below w.heap.size w W3 := bel_trans (bel_trans hb1 hb12) hb23
  have v3 := (b1.later hb12).later hb23
  have m3 := b2.later hb23
  have LV := ld_vw v3
  have HC := check_any14 v W3
  have B0 := build_ch0
  have he : v.e = 0 := by unfold Vw.e; rw [hv]; rfl
  rw [he] at HC
  have g0 : gtU (m.pi : Int) 4611686018427387904 = !decide (m.pi ≤ 4611686018427387904) := gtU_nat m.pi 4611686018427387904
  have d0 : (m.kd != 1) = false := by simp [hk]
  have d1 : ¬ (8 : Int) < (m.n : Int) := by omega
  have d2 : decide ((m.n : Int) > 8) = false := by simp; omega
  have ho : m.off = false := by unfold Ms.off; simp [hp]
  rw [decide_eq_false hp] at g0
  clear hk he hn hp
  have HX := Lib.hid (And.intro hb03 (And.intro v3 (And.intro m3 (And.intro b3 (And.intro hle (And.intro hL (And.intro hM hU)))))))
  clear hb03 v3 m3 b3 hle hL hM hU hb1 b1 hb12 b2 hb23
  go_enter Try.func20, Try.ntmps20
  go_wp2_with (with_reducible refine wpList_alloc_z rfl 67 rfl Ch.zero.cs 4 z_ch ?_)
  refine HC.mono ?_
  rintro e W4 ⟨rfl, hb4⟩
  have v4 := HX.out.2.1.later hb4
  have m4 := HX.out.2.2.1.later hb4
  have r4 := HX.out.2.2.2.1.later hb4
  have hb04 := bel_trans HX.out.1 hb4
  obtain ⟨c0, c1, c2, c3, _, _, _, _⟩ := ms_cells m4
  have LV4 := ld_vw v4
  have LM4 := ld_ms m4
  have ST := st_ch (b2 := Ch.zero) r4
  have HF := Lib.hid (And.intro (r4.row Ch.zero.cs) (below_setRow hb04 HX.out.2.2.2.2.1 Ch.zero.cs))
  clear r4 hb04 v4 m4 hb4
  go_wp2_with fail
  refine bodyPost_ret (results_row_tmp rfl _ _ W2.heap.size _ _ rfl HF.out.1 Try.underlying67 rfl (s_ch _)) rfl ?_
  exact ⟨_, _, rfl, .inr (.inl ⟨hv, ho, rfl, rfl⟩), EnOwn.nil _ _, HF.out.2⟩

set_option maxHeartbeats 4000000 in
theorem accept_ok (v : Vw) (m : Ms) (w : World) (hL : EnIn w 0 v.a v.n v.c v.L) (hM : EnIn w 0 m.a m.n m.c m.L) (hU : ∀ x ∈ m.L, x.n ≤ 1000) (hv : v.ok = true) (hk : m.kd = 1) (hn : m.n ≤ 8) (hp : m.pi ≤ 4611686018427387904) :
    Calls Try.prog 20 #[.agg v.cs, .agg m.cs] w fun e w' => ∃ (c : Ch) (er : Int), e = .returned (.tuple #[.agg c.cs, .int .i64 er]) ∧ AcceptR v m c er ∧ EnOwn w' w.heap.size (.slice c.a c.n c.c) c.L ∧ Below w.heap.size w w' := by
  obtain ⟨W1, hW1⟩ : ∃ W1, w.alloc (.cells v.cs 36) = W1 := ⟨_, rfl⟩
  have hb1 : Below w.heap.size w W1 := by rw [← hW1]; exact below_alloc w _
  have b1 : Blk W1 w.heap.size 36 v.cs := by rw [← hW1]; exact Blk.new w _ _
  obtain ⟨W2, hW2⟩ : ∃ W2, W1.alloc (.cells m.cs 47) = W2 := ⟨_, rfl⟩
  have hb12 : Below W1.heap.size W1 W2 := by rw [← hW2]; exact below_alloc W1 _
  have b2 : Blk W2 W1.heap.size 47 m.cs := by rw [← hW2]; exact Blk.new W1 _ _
  have hle : w.heap.size ≤ W2.heap.size := (bel_trans hb1 hb12).size
  obtain ⟨W3, hW3⟩ : ∃ W3, W2.alloc (.cells Ch.zero.cs 67) = W3 := ⟨_, rfl⟩
  have hb23 : Below W2.heap.size W2 W3 := by rw [← hW3]; exact below_alloc W2 _
  have b3 : Blk W3 W2.heap.size 67 Ch.zero.cs := by rw [← hW3]; exact Blk.new W2 _ _
  have hb03 : Below w.heap.size w W3 := bel_trans (bel_trans hb1 hb12) hb23
  have v3 := (b1.later hb12).later hb23
  have m3 := b2.later hb23
  have LV := ld_vw v3
  have HC := check_any14 v W3
  have B0 := build_ch0
  have he : v.e = 0 := by unfold Vw.e; rw [hv]; rfl
  rw [he] at HC
  have g0 : gtU (m.pi : Int) 4611686018427387904 = !decide (m.pi ≤ 4611686018427387904) := gtU_nat m.pi 4611686018427387904
  have d0 : (m.kd != 1) = false := by simp [hk]
  have d1 : ¬ (8 : Int) < (m.n : Int) := by omega
  have d2 : decide ((m.n : Int) > 8) = false := by simp; omega
  have ho : m.off = true := by unfold Ms.off; simp [hk, hn, hp]
  rw [decide_eq_true hp] at g0
  have HPN := Lib.hid (And.intro hp hn)
  clear hk he hn hp
  have HX := Lib.hid (And.intro hb03 (And.intro v3 (And.intro m3 (And.intro b3 (And.intro hle (And.intro hL (And.intro hM hU)))))))
  clear hb03 v3 m3 b3 hle hL hM hU hb1 b1 hb12 b2 hb23
  go_enter Try.func20, Try.ntmps20
  go_wp2_with (with_reducible refine wpList_alloc_z rfl 67 rfl Ch.zero.cs 4 z_ch ?_)
  refine HC.mono ?_
  rintro e W4 ⟨rfl, hb4⟩
  have v4 := HX.out.2.1.later hb4
  have m4 := HX.out.2.2.1.later hb4
  have r4 := HX.out.2.2.2.1.later hb4
  have hb04 := bel_trans HX.out.1 hb4
  obtain ⟨c0, c1, c2, c3, _, _, _, _⟩ := ms_cells m4
  have LV4 := ld_vw v4
  have LM4 := ld_ms m4
  have HMD := made_any v m W4 hv HPN.out.1 HPN.out.2 (HX.out.2.2.2.2.2.1.later hb04) (HX.out.2.2.2.2.2.2.1.later hb04) HX.out.2.2.2.2.2.2.2
  have HR := Lib.hid (And.intro r4 hb04)
  clear r4 hb04 v4 m4 hb4
  go_wp2_with fail
  refine HMD.mono ?_
  rintro e W5 ⟨c, rfl, hmd, hown, hb5⟩
  have r5 := HR.out.1.later hb5
  have hb05 := bel_trans HR.out.2 hb5
  have hz4 := HR.out.2.size
  have ST := st_ch (b2 := c) r5
  have hown5 : EnOwn (W5.setRow W2.heap.size c.cs) w.heap.size (.slice c.a c.n c.c) c.L := (hown.less hz4).turn (fun g t cs ht hb => hb.kept ((Kept.refl [W2.heap.size] W5).setRow (.inl (by simp)) _) (fun hm => by
    have e : g = W2.heap.size := by simpa using hm
    subst e
    exact (Blk.ne hb r5 ht) rfl))
  have HF := Lib.hid (And.intro (r5.row c.cs) (And.intro (below_setRow hb05 HX.out.2.2.2.2.1 c.cs) (And.intro hmd hown5)))
  clear r5 hb05 hz4 hown hown5 hmd hb5
  go_wp2_with fail
  refine bodyPost_ret (results_row_tmp rfl _ _ W2.heap.size _ _ rfl HF.out.1 Try.underlying67 rfl (s_ch _)) rfl ?_
  exact ⟨_, _, rfl, .inr (.inr ⟨hv, ho, rfl, HF.out.2.2.1⟩), HF.out.2.2.2, HF.out.2.1⟩

theorem accept_any (v : Vw) (m : Ms) (w : World) (hL : EnIn w 0 v.a v.n v.c v.L) (hM : EnIn w 0 m.a m.n m.c m.L) (hU : ∀ x ∈ m.L, x.n ≤ 1000) :
    Calls Try.prog 20 #[.agg v.cs, .agg m.cs] w fun e w' => ∃ (c : Ch) (er : Int), e = .returned (.tuple #[.agg c.cs, .int .i64 er]) ∧ AcceptR v m c er ∧ EnOwn w' w.heap.size (.slice c.a c.n c.c) c.L ∧ Below w.heap.size w w' := by
  by_cases hv : v.ok = true
  · by_cases hk : m.kd = 1
    · by_cases hn : m.n ≤ 8
      · by_cases hp : m.pi ≤ 4611686018427387904
        · exact accept_ok v m w hL hM hU hv hk hn hp
        · exact accept_p v m w hL hM hU hv hk hn hp
      · exact accept_n v m w hL hM hU hv hk hn
    · exact accept_k v m w hL hM hU hv hk
  · exact accept_bad v m w hL hM hU (by simpa using hv)

/-- Is a base to be taken? -/
noncomputable def tookV (v : Vw) (m : Ms) : Bool := decide (v.b.i ≤ m.b.i) && !((placeR v m.b.i).2.2 && decide ((placeR v m.b.i).2.1 = m.b.e))
set_option maxHeartbeats 4000000 in
theorem rtook_any (v : Vw) (m : Ms) (w : World) (hL : EnIn w 0 v.a v.n v.c v.L) (hz : v.b.i + v.n < 18446744073709551616) (hi : m.b.i < 18446744073709551616) :
    Calls Try.prog 25 #[.agg v.cs, .agg m.cs] w fun e w' => e = .returned (.bool (tookV v m)) ∧ Below w.heap.size w w' := by
  obtain ⟨W1, hW1⟩ : ∃ W1, w.alloc (.cells v.cs 36) = W1 := ⟨_, rfl⟩
  have hb1 : Below w.heap.size w W1 := by rw [← hW1]; exact below_alloc w _
  have b1 : Blk W1 w.heap.size 36 v.cs := by rw [← hW1]; exact Blk.new w _ _
  obtain ⟨W2, hW2⟩ : ∃ W2, W1.alloc (.cells m.cs 47) = W2 := ⟨_, rfl⟩
  have hb12 : Below W1.heap.size W1 W2 := by rw [← hW2]; exact below_alloc W1 _
  have b2 : Blk W2 W1.heap.size 47 m.cs := by rw [← hW2]; exact Blk.new W1 _ _
  have hle : w.heap.size ≤ W2.heap.size := (bel_trans hb1 hb12).size
  have hb02 : Below w.heap.size w W2 := bel_trans hb1 hb12
  have v2 := b1.later hb12
  have HP := place14_any v m.b.i W2 (hL.later hb02) hz hi
  obtain ⟨p1, p2, p3, hq⟩ : ∃ p1 p2 p3, placeR v m.b.i = (p1, p2, p3) := ⟨_, _, _, rfl⟩
  have hr : tookV v m = (decide (v.b.i ≤ m.b.i) && !(p3 && decide (p2 = m.b.e))) := by unfold tookV; rw [hq]
  rw [hr]
  rw [hq] at HP
  dsimp only at HP
  have LV := ld_vw v2
  obtain ⟨_, _, _, _, _, _, c6, c7⟩ := ms_cells b2
  have dg := geU_nat m.b.i v.b.i
  have HX := Lib.hid (And.intro hb02 (And.intro v2 b2))
  have dp : (p2 == m.b.e) = decide (p2 = m.b.e) := by rw [Bool.eq_iff_iff]; simp
  clear hL hb1 b1 hb12 b2 hle hb02 v2 hq hr hz hi
  obtain ⟨g, hg⟩ : ∃ g, decide (v.b.i ≤ m.b.i) = g := ⟨_, rfl⟩
  obtain ⟨q, hqe⟩ : ∃ q, decide (p2 = m.b.e) = q := ⟨_, rfl⟩
  rw [hg] at dg ⊢
  rw [hqe] at dp ⊢
  clear hg hqe
  go_enter Try.func25, Try.ntmps25
  go_wp2_with fail
  refine HP.mono ?_
  rintro e W5 ⟨rfl, hb5⟩
  have SA := st_at (i2 := p1) (e2 := p2) (Blk.new W5 24 (acs 0 0))
  rw [World.setRow_alloc_new] at SA
  obtain ⟨W6, hW6⟩ : ∃ W6, W5.alloc (.cells (acs p1 p2) 24) = W6 := ⟨_, rfl⟩
  rw [hW6] at SA
  have k56 : Below W5.heap.size W5 W6 := by rw [← hW6]; exact below_alloc W5 _
  have a6 : Blk W6 W5.heap.size 24 (acs p1 p2) := by rw [← hW6]; exact Blk.new W5 _ _
  have v6 := (HX.out.2.1.later hb5).later k56
  have m6 := (HX.out.2.2.later hb5).later k56
  obtain ⟨_, y1, _, _, _⟩ := vw_cells v6
  obtain ⟨_, _, _, _, _, _, x6, x7⟩ := ms_cells m6
  have z1 : W6.cell? ⟨W5.heap.size, 1, none⟩ = some (.int .u64 p2) := a6.cell 1
  have HF := Lib.hid (bel_trans (bel_trans HX.out.1 hb5) k56)
  clear hb5 k56 a6 v6 m6
  cases g <;> cases p3 <;>
  · go_wp2_with (with_reducible refine wpList_alloc_z rfl 24 rfl (acs 0 0) 2 z_at ?_)
    go_ret
    exact ⟨by cases q <;> rfl, HF.out⟩

end Go.Proofs.Ytkoenconjldojaa
