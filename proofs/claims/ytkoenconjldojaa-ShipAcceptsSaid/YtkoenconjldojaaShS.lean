/-
  The contract of the reference's Accept. Nothing here is a statement of the document.
-/
import Derived.Test.YtkoenconjldojaaShR
namespace Go.Proofs.Ytkoenconjldojaa
open Go.RowKit Go.Shelf
set_option linter.unusedVariables false
set_option linter.unusedSimpArgs false
set_option maxRecDepth 100000
attribute [local go_sem 10000] gtU_rule leU_rule ltU_rule geU_rule adU_rule sbU_rule mxU_rule mnU_rule mnI_rule
attribute [local go_sem ↓] load_at_rule store_at_rule load_la_rule store_la_rule load_bs_rule store_bs_rule load_vw_rule store_vw_rule load_jo_rule store_jo_rule load_ms_rule store_ms_rule load_ch_rule store_ch_rule load_hd_rule store_hd_rule load_rb_rule store_rb_rule load_en_rule store_en_rule
attribute [local go_sem ↓] build_hd_rule build_rb_rule build_en_rule build_at_rule build_jo_rule upbuild_rule upapp_rule robuild_rule roapp_rule enbuild_rule enapp_rule build_vw_rule eq_at_rule eq_la_rule build_ch_rule
theorem same_one {x y : En} : Same' [x] [y] ↔ con x = con y := by simp [Same']
theorem en_in1 {w : World} {g : Nat} {x : En} (h : Blk w g 92 x.cs) (hu : UpIn w 0 x.a x.n x.c x.U) : EnIn w 0 (some ⟨g, 0, none⟩) 1 1 [x] := by
  refine ⟨rfl, en_at1 h, Nat.le_refl _, by decide, fun h => (by cases h), fun _ _ _ => Nat.zero_le _, fun y hy => ?_⟩
  have e : y = x := by simpa using hy
  rw [e]
  exact hu
theorem EnIn.one {w : World} {g o n c k : Nat} {L : List En} (h : EnIn w 0 (some ⟨g, o, none⟩) n c L) (hk : k < n) : EnIn w 0 (some ⟨g, o + k * 4, none⟩) 1 (c - k) [eng L k] := by
  have h9 := (h.drop (k := k) (by omega)).take 1 (by omega)
  have hcn := h.2.2.1
  have hl := h.1
  rw [if_neg (by omega)] at h9
  simp only [Option.map_some, Addr.add_lit] at h9
  have e : (L.drop k).take 1 = [eng L k] := by
    rw [List.drop_eq_getElem_cons (by omega), eng_get (by omega)]
    rfl
  rwa [e] at h9
set_option maxHeartbeats 4000000 in
theorem racc_far (v : Vw) (m : Ms) (w : World) (hv : v.ok = true) (hmi : m.pi ≤ 4611686018427387904) (hmn : m.n ≤ 8) (hL : EnIn w 0 v.a v.n v.c v.L) (hM : EnIn w 0 m.a m.n m.c m.L) (hU : ∀ x ∈ m.L, x.n ≤ 1000) (h1 : v.z < m.pi) :
    Calls Try.prog 24 #[.agg v.cs, .agg m.cs] w fun e w' => ∃ c : Ch, e = .returned (.agg c.cs) ∧ MadeR v m c ∧ EnOwn w' w.heap.size (.slice c.a c.n c.c) c.L ∧ Below w.heap.size w w' := by
  obtain ⟨W1, hW1⟩ : ∃ W1, w.alloc (.cells v.cs 36) = W1 := ⟨_, rfl⟩
  have hb1 : Below w.heap.size w W1 := by rw [← hW1]; exact below_alloc w _
  have b1 : Blk W1 w.heap.size 36 v.cs := by rw [← hW1]; exact Blk.new w _ _
  obtain ⟨W2, hW2⟩ : ∃ W2, W1.alloc (.cells m.cs 47) = W2 := ⟨_, rfl⟩
  have hb12 : Below W1.heap.size W1 W2 := by rw [← hW2]; exact below_alloc W1 _
  have b2 : Blk W2 W1.heap.size 47 m.cs := by rw [← hW2]; exact Blk.new W1 _ _
  obtain ⟨W3, hW3⟩ : ∃ W3, W2.alloc (.cells Ch.zero.cs 67) = W3 := ⟨_, rfl⟩
  have hb23 : Below W2.heap.size W2 W3 := by rw [← hW3]; exact below_alloc W2 _
  have b3 : Blk W3 W2.heap.size 67 Ch.zero.cs := by rw [← hW3]; exact Blk.new W2 _ _
  have hb03 : Below w.heap.size w W3 := bel_trans (bel_trans hb1 hb12) hb23
  have v3 := (b1.later hb12).later hb23
  have m3 := b2.later hb23
  have hle : w.heap.size ≤ W2.heap.size := (bel_trans hb1 hb12).size
  have s1 : W1.heap.size = w.heap.size + 1 := by rw [← hW1]; simp
  have s2 : W2.heap.size = w.heap.size + 2 := by rw [← hW2]; simp [s1]
  have s3 : W3.heap.size = w.heap.size + 3 := by rw [← hW3]; simp [s2]
  have hzz := Vw.ok_of hv
  have dz := gtU_nat m.pi v.z
  obtain ⟨T, hT⟩ : ∃ T : World → Prop, T = fun w' => Below w.heap.size w w' ∧ Blk w' w.heap.size 36 v.cs ∧ Blk w' W1.heap.size 47 m.cs ∧ Blk w' W2.heap.size 67 Ch.zero.cs := ⟨_, rfl⟩
  have hT0 : T W3 := by rw [hT]; exact ⟨hb03, v3, m3, b3⟩
  have hTd : ∀ w, T w → T w.drew := by rw [hT]; exact fun w h => ⟨bel_drew h.1, h.2⟩
  have hTb : ∀ w w', T w → Below w.heap.size w w' → T w' := by rw [hT]; exact fun w w' h k => ⟨bel_trans h.1 k, h.2.1.later k, h.2.2.1.later k, h.2.2.2.later k⟩
  have hTf : ∀ w', T w' → (loadSem 36 (.pointer (some ⟨w.heap.size, 0, none⟩))).run Try.prog w' = .ok (.agg v.cs) w' ∧ w'.cell? ⟨W1.heap.size, 4, none⟩ = some (.int .u64 (m.pi : Int)) ∧ w'.cell? ⟨W1.heap.size, 5, none⟩ = some (.int .u64 m.pe) ∧ w'.cell? ⟨W1.heap.size, 6, none⟩ = some (.slice m.a m.n m.c) ∧ w'.cell? ⟨w.heap.size, 1, none⟩ = some (.int .u64 (v.b.i : Int)) ∧ w'.cell? ⟨w.heap.size, 10, none⟩ = some (.slice v.a v.n v.c) := by
    rw [hT]
    exact fun w' h => ⟨ld_vw h.2.1, h.2.2.1.cell 4, h.2.2.1.cell 5, h.2.2.1.cell 6, h.2.1.cell 1, h.2.1.cell 10⟩
  have hTn : ∀ w', T w' → Below w.heap.size w w' ∧ Blk w' W2.heap.size 67 Ch.zero.cs := by rw [hT]; exact fun w' h => ⟨h.1, h.2.2.2⟩
  have HX := Lib.hid (And.intro hT0 (And.intro hle (And.intro hL (And.intro hM (And.intro hU (And.intro hzz hTn))))))
  have HN := Lib.hid (show v.b.i + v.n < 18446744073709551616 by omega)
  have HS := Lib.hid (And.intro s1 (And.intro s2 s3))
  have FL : ∀ w, (Instr.field 24 (.agg (acs (lastV v).1 (lastV v).2)) 0).run Try.prog w = .ok (.int .u64 (v.z : Int)) w := fun w => by rw [← lastV_z]; rfl
  clear hT hT0 hL hM hU hb03 v3 m3 b3 hle hzz hb1 b1 hb12 b2 hb23 s1 s2 s3 hTn
  have dz1 : gtU (m.pi : Int) (v.z : Int) = true := by rw [dz]; simp; omega
  obtain ⟨hv9, hv9e⟩ : ∃ hv9, v.z = hv9 := ⟨_, rfl⟩
  have HW := Lib.hid (show MadeR v m (chNo hv9) from .inl ⟨h1, by rw [hv9e]⟩)
  rw [hv9e] at dz1 FL
  have HVE := Lib.hid hv9e
  clear dz h1 hv9e
  go_enter Try.func24, Try.ntmps24
  go_upto_region 1 with (with_reducible refine wpList_alloc_z rfl 67 rfl Ch.zero.cs 4 z_ch ?_)
  rw [hW3]
  refine wp_region_linY T [4] [0, 1, 2, 3, 4, 5, 6] (by kernel_rfl) (by kernel_rfl) (hTd _ HX.out.1) ?_
  (repeat (first | (refine linX_off rfl rfl (by rfl) ?_; (try simp only [Act.put, List.getElem_toArray, List.getElem_cons_zero, List.getElem_cons_succ, List.setIfInBounds_toArray, List.set_cons_zero, List.set_cons_succ])) | (refine linX_op (v := ?_) rfl rfl (by rfl) (fun w9 hS9 => ?_) ?_; rotate_left; (focus (((try dsimp only at hS9); obtain ⟨z1, z2, z3, z4, z5, z6⟩ := hTf w9 hS9; go_simp; (try go_bits)) <;> with_reducible rfl)); (try simp only [Act.put, List.getElem_toArray, List.getElem_cons_zero, List.getElem_cons_succ, List.setIfInBounds_toArray, List.set_cons_zero, List.set_cons_succ]))))
  refine linX_call (f := 43) (args := #[.agg v.cs]) rfl rfl (by rfl) rfl rfl (enters_of Try.func43 (by kernel_rfl) rfl) (by simp [Act.eval]) ?_
  refine (last14_any v W3.drew (HX.out.2.2.1.later (HX.out.2.2.2.2.2.2 _ (hTd _ HX.out.1)).1) HN.out).mono ?_
  rintro e W4 ⟨rfl, hb4⟩
  have hT4 := hTb _ _ (hTd _ HX.out.1) hb4
  refine ⟨_, rfl, hT4, ?_⟩
  (try simp only [Act.put, List.getElem_toArray, List.getElem_cons_zero, List.getElem_cons_succ, List.setIfInBounds_toArray, List.set_cons_zero, List.set_cons_succ])
  (repeat (first | (refine linX_off rfl rfl (by rfl) ?_; (try simp only [Act.put, List.getElem_toArray, List.getElem_cons_zero, List.getElem_cons_succ, List.setIfInBounds_toArray, List.set_cons_zero, List.set_cons_succ])) | (refine linX_op (v := ?_) rfl rfl (by rfl) (fun w9 hS9 => ?_) ?_; rotate_left; (focus (((try dsimp only at hS9); obtain ⟨z1, z2, z3, z4, z5, z6⟩ := hTf w9 hS9; go_simp; (try go_bits)) <;> with_reducible rfl)); (try simp only [Act.put, List.getElem_toArray, List.getElem_cons_zero, List.getElem_cons_succ, List.setIfInBounds_toArray, List.set_cons_zero, List.set_cons_succ]))))
  refine linX_nil ?_
  obtain ⟨z1, z2, z3, z4, z5, z6⟩ := hTf W4 hT4
  have HT2 := last14_any v W4 (HX.out.2.2.1.later (HX.out.2.2.2.2.2.2 _ hT4).1) HN.out
  have H4 := Lib.hid hT4
  clear hT4 hb4
  go_wp2_with fail
  refine HT2.mono ?_
  rintro e W5 ⟨rfl, hb5⟩
  have hT5 := hTb _ _ H4.out hb5
  clear hb5
  have r7 := (HX.out.2.2.2.2.2.2 W5 hT5).2
  have hb7 := (HX.out.2.2.2.2.2.2 W5 hT5).1
  have BC := build_chno hv9
  have ST7 := st_ch (b2 := chNo hv9) r7
  have HF := Lib.hid (And.intro (r7.row (chNo hv9).cs) (And.intro (below_setRow hb7 HX.out.2.1 (chNo hv9).cs) HW.out))
  clear r7 hb7
  go_wp2_with fail
  refine bodyPost_ret (results_cell_row rfl _ _ W2.heap.size 67 _ (0, 0) _ rfl HF.out.1 Try.underlying67 rfl (s_ch _)) rfl ?_
  exact ⟨_, rfl, HF.out.2.2, EnOwn.nil _ _, HF.out.2.1⟩

set_option maxHeartbeats 4000000 in
theorem racc_other (v : Vw) (m : Ms) (w : World) (hv : v.ok = true) (hmi : m.pi ≤ 4611686018427387904) (hmn : m.n ≤ 8) (hL : EnIn w 0 v.a v.n v.c v.L) (hM : EnIn w 0 m.a m.n m.c m.L) (hU : ∀ x ∈ m.L, x.n ≤ 1000) (h1 : ¬ v.z < m.pi) (h2 : (placeR v m.pi).2.2 = true ∧ (placeR v m.pi).2.1 ≠ m.pe) :
    Calls Try.prog 24 #[.agg v.cs, .agg m.cs] w fun e w' => ∃ c : Ch, e = .returned (.agg c.cs) ∧ MadeR v m c ∧ EnOwn w' w.heap.size (.slice c.a c.n c.c) c.L ∧ Below w.heap.size w w' := by
  obtain ⟨W1, hW1⟩ : ∃ W1, w.alloc (.cells v.cs 36) = W1 := ⟨_, rfl⟩
  have hb1 : Below w.heap.size w W1 := by rw [← hW1]; exact below_alloc w _
  have b1 : Blk W1 w.heap.size 36 v.cs := by rw [← hW1]; exact Blk.new w _ _
  obtain ⟨W2, hW2⟩ : ∃ W2, W1.alloc (.cells m.cs 47) = W2 := ⟨_, rfl⟩
  have hb12 : Below W1.heap.size W1 W2 := by rw [← hW2]; exact below_alloc W1 _
  have b2 : Blk W2 W1.heap.size 47 m.cs := by rw [← hW2]; exact Blk.new W1 _ _
  obtain ⟨W3, hW3⟩ : ∃ W3, W2.alloc (.cells Ch.zero.cs 67) = W3 := ⟨_, rfl⟩
  have hb23 : Below W2.heap.size W2 W3 := by rw [← hW3]; exact below_alloc W2 _
  have b3 : Blk W3 W2.heap.size 67 Ch.zero.cs := by rw [← hW3]; exact Blk.new W2 _ _
  have hb03 : Below w.heap.size w W3 := bel_trans (bel_trans hb1 hb12) hb23
  have v3 := (b1.later hb12).later hb23
  have m3 := b2.later hb23
  have hle : w.heap.size ≤ W2.heap.size := (bel_trans hb1 hb12).size
  have s1 : W1.heap.size = w.heap.size + 1 := by rw [← hW1]; simp
  have s2 : W2.heap.size = w.heap.size + 2 := by rw [← hW2]; simp [s1]
  have s3 : W3.heap.size = w.heap.size + 3 := by rw [← hW3]; simp [s2]
  have hzz := Vw.ok_of hv
  have dz := gtU_nat m.pi v.z
  obtain ⟨T, hT⟩ : ∃ T : World → Prop, T = fun w' => Below w.heap.size w w' ∧ Blk w' w.heap.size 36 v.cs ∧ Blk w' W1.heap.size 47 m.cs ∧ Blk w' W2.heap.size 67 Ch.zero.cs := ⟨_, rfl⟩
  have hT0 : T W3 := by rw [hT]; exact ⟨hb03, v3, m3, b3⟩
  have hTd : ∀ w, T w → T w.drew := by rw [hT]; exact fun w h => ⟨bel_drew h.1, h.2⟩
  have hTb : ∀ w w', T w → Below w.heap.size w w' → T w' := by rw [hT]; exact fun w w' h k => ⟨bel_trans h.1 k, h.2.1.later k, h.2.2.1.later k, h.2.2.2.later k⟩
  have hTf : ∀ w', T w' → (loadSem 36 (.pointer (some ⟨w.heap.size, 0, none⟩))).run Try.prog w' = .ok (.agg v.cs) w' ∧ w'.cell? ⟨W1.heap.size, 4, none⟩ = some (.int .u64 (m.pi : Int)) ∧ w'.cell? ⟨W1.heap.size, 5, none⟩ = some (.int .u64 m.pe) ∧ w'.cell? ⟨W1.heap.size, 6, none⟩ = some (.slice m.a m.n m.c) ∧ w'.cell? ⟨w.heap.size, 1, none⟩ = some (.int .u64 (v.b.i : Int)) ∧ w'.cell? ⟨w.heap.size, 10, none⟩ = some (.slice v.a v.n v.c) := by
    rw [hT]
    exact fun w' h => ⟨ld_vw h.2.1, h.2.2.1.cell 4, h.2.2.1.cell 5, h.2.2.1.cell 6, h.2.1.cell 1, h.2.1.cell 10⟩
  have hTn : ∀ w', T w' → Below w.heap.size w w' ∧ Blk w' W2.heap.size 67 Ch.zero.cs := by rw [hT]; exact fun w' h => ⟨h.1, h.2.2.2⟩
  have HX := Lib.hid (And.intro hT0 (And.intro hle (And.intro hL (And.intro hM (And.intro hU (And.intro hzz hTn))))))
  have HN := Lib.hid (show v.b.i + v.n < 18446744073709551616 by omega)
  have HS := Lib.hid (And.intro s1 (And.intro s2 s3))
  have FL : ∀ w, (Instr.field 24 (.agg (acs (lastV v).1 (lastV v).2)) 0).run Try.prog w = .ok (.int .u64 (v.z : Int)) w := fun w => by rw [← lastV_z]; rfl
  clear hT hT0 hL hM hU hb03 v3 m3 b3 hle hzz hb1 b1 hb12 b2 hb23 s1 s2 s3 hTn
  have dz1 : gtU (m.pi : Int) (v.z : Int) = false := by rw [dz]; simp; omega
  obtain ⟨hv9, hhh⟩ : ∃ hv9, m.pi - min m.pi 1 = hv9 := ⟨_, rfl⟩
  have HW := Lib.hid (show MadeR v m (chNo hv9) from .inr (.inl ⟨h1, h2, by rw [hhh]⟩))
  obtain ⟨p1, p2, p3, hq⟩ : ∃ p1 p2 p3, placeR v m.pi = (p1, p2, p3) := ⟨_, _, _, rfl⟩
  have HQ := Lib.hid hq
  rw [hq] at h2
  dsimp only at h2
  obtain ⟨h3, h4⟩ := h2
  subst h3
  have dq : (p2 != m.pe) = true := by simp [h4]
  have e0 : mnU (m.pi : Int) 1 = ((min m.pi 1 : Nat) : Int) := mnU_nat m.pi 1
  obtain ⟨mm, hmm⟩ : ∃ mm, min m.pi 1 = mm := ⟨_, rfl⟩
  rw [hmm] at e0 hhh
  have e1 : sbU (m.pi : Int) (mm : Int) = (hv9 : Int) := by rw [← hhh]; exact sbU_nat (by omega) (by omega)
  clear dz h1 h4 hq hhh hmm
  go_enter Try.func24, Try.ntmps24
  go_upto_region 1 with (with_reducible refine wpList_alloc_z rfl 67 rfl Ch.zero.cs 4 z_ch ?_)
  rw [hW3]
  refine wp_region_linY T [4] [0, 1, 2, 3, 4, 5, 6] (by kernel_rfl) (by kernel_rfl) (hTd _ HX.out.1) ?_
  (repeat (first | (refine linX_off rfl rfl (by rfl) ?_; (try simp only [Act.put, List.getElem_toArray, List.getElem_cons_zero, List.getElem_cons_succ, List.setIfInBounds_toArray, List.set_cons_zero, List.set_cons_succ])) | (refine linX_op (v := ?_) rfl rfl (by rfl) (fun w9 hS9 => ?_) ?_; rotate_left; (focus (((try dsimp only at hS9); obtain ⟨z1, z2, z3, z4, z5, z6⟩ := hTf w9 hS9; go_simp; (try go_bits)) <;> with_reducible rfl)); (try simp only [Act.put, List.getElem_toArray, List.getElem_cons_zero, List.getElem_cons_succ, List.setIfInBounds_toArray, List.set_cons_zero, List.set_cons_succ]))))
  refine linX_call (f := 43) (args := #[.agg v.cs]) rfl rfl (by rfl) rfl rfl (enters_of Try.func43 (by kernel_rfl) rfl) (by simp [Act.eval]) ?_
  refine (last14_any v W3.drew (HX.out.2.2.1.later (HX.out.2.2.2.2.2.2 _ (hTd _ HX.out.1)).1) HN.out).mono ?_
  rintro e W4 ⟨rfl, hb4⟩
  have hT4 := hTb _ _ (hTd _ HX.out.1) hb4
  refine ⟨_, rfl, hT4, ?_⟩
  (try simp only [Act.put, List.getElem_toArray, List.getElem_cons_zero, List.getElem_cons_succ, List.setIfInBounds_toArray, List.set_cons_zero, List.set_cons_succ])
  (repeat (first | (refine linX_off rfl rfl (by rfl) ?_; (try simp only [Act.put, List.getElem_toArray, List.getElem_cons_zero, List.getElem_cons_succ, List.setIfInBounds_toArray, List.set_cons_zero, List.set_cons_succ])) | (refine linX_op (v := ?_) rfl rfl (by rfl) (fun w9 hS9 => ?_) ?_; rotate_left; (focus (((try dsimp only at hS9); obtain ⟨z1, z2, z3, z4, z5, z6⟩ := hTf w9 hS9; go_simp; (try go_bits)) <;> with_reducible rfl)); (try simp only [Act.put, List.getElem_toArray, List.getElem_cons_zero, List.getElem_cons_succ, List.setIfInBounds_toArray, List.set_cons_zero, List.set_cons_succ]))))
  refine linX_nil ?_
  obtain ⟨z1, z2, z3, z4, z5, z6⟩ := hTf W4 hT4
  have HPL := place14_any v m.pi W4 (HX.out.2.2.1.later (HX.out.2.2.2.2.2.2 W4 hT4).1) HN.out (by omega)
  rw [HQ.out] at HPL
  dsimp only at HPL
  go_wp2_with fail
  refine HPL.mono ?_
  rintro e W5 ⟨rfl, hb5⟩
  have hT5 := hTb _ _ hT4 hb5
  have SA := st_at (i2 := p1) (e2 := p2) (Blk.new W5 24 (acs 0 0))
  rw [World.setRow_alloc_new] at SA
  obtain ⟨W6, hW6⟩ : ∃ W6, W5.alloc (.cells (acs p1 p2) 24) = W6 := ⟨_, rfl⟩
  rw [hW6] at SA
  have hT6 : T W6 := hTb _ _ hT5 (by rw [← hW6]; exact below_alloc W5 _)
  have a6 : Blk W6 W5.heap.size 24 (acs p1 p2) := by rw [← hW6]; exact Blk.new W5 _ _
  have y0 : W6.cell? ⟨W5.heap.size, 1, none⟩ = some (.int .u64 p2) := a6.cell 1
  obtain ⟨y1, y2, y3, y4, y5, y6⟩ := hTf W6 hT6
  clear a6 hT4 hT5 hb5 hb4
  go_upto_region 5 with (with_reducible refine wpList_alloc_z rfl 24 rfl (acs 0 0) 2 z_at ?_)
  have r7 := (HX.out.2.2.2.2.2.2 W6 hT6).2
  have hb7 := (HX.out.2.2.2.2.2.2 W6 hT6).1
  have BC := build_chno hv9
  have ST7 := st_ch (b2 := chNo hv9) r7
  have HF := Lib.hid (And.intro (r7.row (chNo hv9).cs) (And.intro (below_setRow hb7 HX.out.2.1 (chNo hv9).cs) HW.out))
  clear r7 hb7
  go_wp2_with fail
  refine bodyPost_ret (results_cell_row rfl _ _ W2.heap.size 67 _ (0, 0) _ rfl HF.out.1 Try.underlying67 rfl (s_ch _)) rfl ?_
  exact ⟨_, rfl, HF.out.2.2, EnOwn.nil _ _, HF.out.2.1⟩

set_option maxHeartbeats 4000000 in
theorem racc_fits (v : Vw) (m : Ms) (w : World) (hv : v.ok = true) (hmi : m.pi ≤ 4611686018427387904) (hmn : m.n ≤ 8) (hL : EnIn w 0 v.a v.n v.c v.L) (hM : EnIn w 0 m.a m.n m.c m.L) (hU : ∀ x ∈ m.L, x.n ≤ 1000) (h1 : ¬ v.z < m.pi) (h2 : ¬ ((placeR v m.pi).2.2 = true ∧ (placeR v m.pi).2.1 ≠ m.pe)) :
    Calls Try.prog 24 #[.agg v.cs, .agg m.cs] w fun e w' => ∃ c : Ch, e = .returned (.agg c.cs) ∧ MadeR v m c ∧ EnOwn w' w.heap.size (.slice c.a c.n c.c) c.L ∧ Below w.heap.size w w' := by
  obtain ⟨W1, hW1⟩ : ∃ W1, w.alloc (.cells v.cs 36) = W1 := ⟨_, rfl⟩
  have hb1 : Below w.heap.size w W1 := by rw [← hW1]; exact below_alloc w _
  have b1 : Blk W1 w.heap.size 36 v.cs := by rw [← hW1]; exact Blk.new w _ _
  obtain ⟨W2, hW2⟩ : ∃ W2, W1.alloc (.cells m.cs 47) = W2 := ⟨_, rfl⟩
  have hb12 : Below W1.heap.size W1 W2 := by rw [← hW2]; exact below_alloc W1 _
  have b2 : Blk W2 W1.heap.size 47 m.cs := by rw [← hW2]; exact Blk.new W1 _ _
  obtain ⟨W3, hW3⟩ : ∃ W3, W2.alloc (.cells Ch.zero.cs 67) = W3 := ⟨_, rfl⟩
  have hb23 : Below W2.heap.size W2 W3 := by rw [← hW3]; exact below_alloc W2 _
  have b3 : Blk W3 W2.heap.size 67 Ch.zero.cs := by rw [← hW3]; exact Blk.new W2 _ _
  have hb03 : Below w.heap.size w W3 := bel_trans (bel_trans hb1 hb12) hb23
  have v3 := (b1.later hb12).later hb23
  have m3 := b2.later hb23
  have hle : w.heap.size ≤ W2.heap.size := (bel_trans hb1 hb12).size
  have s1 : W1.heap.size = w.heap.size + 1 := by rw [← hW1]; simp
  have s2 : W2.heap.size = w.heap.size + 2 := by rw [← hW2]; simp [s1]
  have s3 : W3.heap.size = w.heap.size + 3 := by rw [← hW3]; simp [s2]
  have hzz := Vw.ok_of hv
  have dz := gtU_nat m.pi v.z
  obtain ⟨T, hT⟩ : ∃ T : World → Prop, T = fun w' => Below w.heap.size w w' ∧ Blk w' w.heap.size 36 v.cs ∧ Blk w' W1.heap.size 47 m.cs ∧ Blk w' W2.heap.size 67 Ch.zero.cs := ⟨_, rfl⟩
  have hT0 : T W3 := by rw [hT]; exact ⟨hb03, v3, m3, b3⟩
  have hTd : ∀ w, T w → T w.drew := by rw [hT]; exact fun w h => ⟨bel_drew h.1, h.2⟩
  have hTb : ∀ w w', T w → Below w.heap.size w w' → T w' := by rw [hT]; exact fun w w' h k => ⟨bel_trans h.1 k, h.2.1.later k, h.2.2.1.later k, h.2.2.2.later k⟩
  have hTf : ∀ w', T w' → (loadSem 36 (.pointer (some ⟨w.heap.size, 0, none⟩))).run Try.prog w' = .ok (.agg v.cs) w' ∧ w'.cell? ⟨W1.heap.size, 4, none⟩ = some (.int .u64 (m.pi : Int)) ∧ w'.cell? ⟨W1.heap.size, 5, none⟩ = some (.int .u64 m.pe) ∧ w'.cell? ⟨W1.heap.size, 6, none⟩ = some (.slice m.a m.n m.c) ∧ w'.cell? ⟨w.heap.size, 1, none⟩ = some (.int .u64 (v.b.i : Int)) ∧ w'.cell? ⟨w.heap.size, 10, none⟩ = some (.slice v.a v.n v.c) := by
    rw [hT]
    exact fun w' h => ⟨ld_vw h.2.1, h.2.2.1.cell 4, h.2.2.1.cell 5, h.2.2.1.cell 6, h.2.1.cell 1, h.2.1.cell 10⟩
  have hTn : ∀ w', T w' → Below w.heap.size w w' ∧ Blk w' W2.heap.size 67 Ch.zero.cs := by rw [hT]; exact fun w' h => ⟨h.1, h.2.2.2⟩
  have HX := Lib.hid (And.intro hT0 (And.intro hle (And.intro hL (And.intro hM (And.intro hU (And.intro hzz hTn))))))
  have HN := Lib.hid (show v.b.i + v.n < 18446744073709551616 by omega)
  have HS := Lib.hid (And.intro s1 (And.intro s2 s3))
  have FL : ∀ w, (Instr.field 24 (.agg (acs (lastV v).1 (lastV v).2)) 0).run Try.prog w = .ok (.int .u64 (v.z : Int)) w := fun w => by rw [← lastV_z]; rfl
  clear hT hT0 hL hM hU hb03 v3 m3 b3 hle hzz hb1 b1 hb12 b2 hb23 s1 s2 s3 hTn
  have dz1 : gtU (m.pi : Int) (v.z : Int) = false := by rw [dz]; simp; omega
  have HW := Lib.hid (show ∀ c, FitR v m c → MadeR v m c from fun c hc => .inr (.inr ⟨h1, h2, hc⟩))
  obtain ⟨p1, p2, p3, hq⟩ : ∃ p1 p2 p3, placeR v m.pi = (p1, p2, p3) := ⟨_, _, _, rfl⟩
  have HQ := Lib.hid hq
  rw [hq] at h2
  dsimp only at h2
  have EA : p3 = true → (p2 != m.pe) = false := fun h => by
    have : p2 = m.pe := Classical.byContradiction fun hn => h2 ⟨h, hn⟩
    simp [this]
  obtain ⟨hh, hhv⟩ : ∃ hh, m.pi + m.n = hh := ⟨_, rfl⟩
  have f0 : adU (m.pi : Int) (m.n : Int) = (hh : Int) := by rw [← hhv]; exact adU_nat (by omega)
  have f1 : IntKind.u64.wrap (m.n : Int) = (m.n : Int) := by rw [IntKind.wrap_u64]; omega
  have f2 : adU (m.pi : Int) 1 = ((m.pi + 1 : Nat) : Int) := adU_nat (a := m.pi) (b := 1) (by omega)
  obtain ⟨p9, hp9⟩ : ∃ p9, m.pi + 1 = p9 := ⟨_, rfl⟩
  rw [hp9] at f2
  have BC := build_chok hh
  have HHV := Lib.hid (And.intro hhv hp9)
  clear dz h1 h2 hq hhv hp9
  go_enter Try.func24, Try.ntmps24
  go_upto_region 1 with (with_reducible refine wpList_alloc_z rfl 67 rfl Ch.zero.cs 4 z_ch ?_)
  rw [hW3]
  refine wp_region_linY T [4] [0, 1, 2, 3, 4, 5, 6] (by kernel_rfl) (by kernel_rfl) (hTd _ HX.out.1) ?_
  (repeat (first | (refine linX_off rfl rfl (by rfl) ?_; (try simp only [Act.put, List.getElem_toArray, List.getElem_cons_zero, List.getElem_cons_succ, List.setIfInBounds_toArray, List.set_cons_zero, List.set_cons_succ])) | (refine linX_op (v := ?_) rfl rfl (by rfl) (fun w9 hS9 => ?_) ?_; rotate_left; (focus (((try dsimp only at hS9); obtain ⟨z1, z2, z3, z4, z5, z6⟩ := hTf w9 hS9; go_simp; (try go_bits)) <;> with_reducible rfl)); (try simp only [Act.put, List.getElem_toArray, List.getElem_cons_zero, List.getElem_cons_succ, List.setIfInBounds_toArray, List.set_cons_zero, List.set_cons_succ]))))
  refine linX_call (f := 43) (args := #[.agg v.cs]) rfl rfl (by rfl) rfl rfl (enters_of Try.func43 (by kernel_rfl) rfl) (by simp [Act.eval]) ?_
  refine (last14_any v W3.drew (HX.out.2.2.1.later (HX.out.2.2.2.2.2.2 _ (hTd _ HX.out.1)).1) HN.out).mono ?_
  rintro e W4 ⟨rfl, hb4⟩
  have hT4 := hTb _ _ (hTd _ HX.out.1) hb4
  refine ⟨_, rfl, hT4, ?_⟩
  (try simp only [Act.put, List.getElem_toArray, List.getElem_cons_zero, List.getElem_cons_succ, List.setIfInBounds_toArray, List.set_cons_zero, List.set_cons_succ])
  (repeat (first | (refine linX_off rfl rfl (by rfl) ?_; (try simp only [Act.put, List.getElem_toArray, List.getElem_cons_zero, List.getElem_cons_succ, List.setIfInBounds_toArray, List.set_cons_zero, List.set_cons_succ])) | (refine linX_op (v := ?_) rfl rfl (by rfl) (fun w9 hS9 => ?_) ?_; rotate_left; (focus (((try dsimp only at hS9); obtain ⟨z1, z2, z3, z4, z5, z6⟩ := hTf w9 hS9; go_simp; (try go_bits)) <;> with_reducible rfl)); (try simp only [Act.put, List.getElem_toArray, List.getElem_cons_zero, List.getElem_cons_succ, List.setIfInBounds_toArray, List.set_cons_zero, List.set_cons_succ]))))
  refine linX_nil ?_
  obtain ⟨z1, z2, z3, z4, z5, z6⟩ := hTf W4 hT4
  have HPL := place14_any v m.pi W4 (HX.out.2.2.1.later (HX.out.2.2.2.2.2.2 W4 hT4).1) HN.out (by omega)
  rw [HQ.out] at HPL
  dsimp only at HPL
  go_wp2_with fail
  refine HPL.mono ?_
  rintro e W5 ⟨rfl, hb5⟩
  have hT5 := hTb _ _ hT4 hb5
  have SA := st_at (i2 := p1) (e2 := p2) (Blk.new W5 24 (acs 0 0))
  rw [World.setRow_alloc_new] at SA
  obtain ⟨W6, hW6⟩ : ∃ W6, W5.alloc (.cells (acs p1 p2) 24) = W6 := ⟨_, rfl⟩
  rw [hW6] at SA
  have hT6 : T W6 := hTb _ _ hT5 (by rw [← hW6]; exact below_alloc W5 _)
  have a6 : Blk W6 W5.heap.size 24 (acs p1 p2) := by rw [← hW6]; exact Blk.new W5 _ _
  have y0 : W6.cell? ⟨W5.heap.size, 1, none⟩ = some (.int .u64 p2) := a6.cell 1
  obtain ⟨y1, y2, y3, y4, y5, y6⟩ := hTf W6 hT6
  have HT6 := Lib.hid hT6
  clear hT4 hT5 hb5 hb4 a6
  have SC := st_ch (b2 := chOk hh) (Blk.new W6 67 Ch.zero.cs)
  obtain ⟨W7, hW7⟩ : ∃ W7, W6.alloc (.cells (chOk hh).cs 67) = W7 := ⟨_, rfl⟩
  rw [World.setRow_alloc_new, hW7] at SC
  have k67 : Below W6.heap.size W6 W7 := by rw [← hW7]; exact below_alloc W6 _
  have hT7 := hTb _ _ hT6 k67
  have c7 : Blk W7 W6.heap.size 67 (chOk hh).cs := by rw [← hW7]; exact Blk.new W6 _ _
  have m7 : W7.cell? ⟨W1.heap.size, 6, none⟩ = some (.slice m.a m.n m.c) := (hTf W7 hT7).2.2.2.1
  have H7 := Lib.hid (And.intro hT7 (And.intro c7 (show W2.heap.size < W6.heap.size from (HX.out.2.2.2.2.2.2 W6 hT6).2.lt)))
  clear hT6 k67 hT7 c7
  cases p3
  case' true => have EA2 := EA rfl
  all_goals
    clear EA
    go_wp2_with (first | (with_reducible refine wpList_alloc_z rfl 24 rfl (acs 0 0) 2 z_at ?_) | (with_reducible refine wpList_alloc_z rfl 67 rfl Ch.zero.cs 4 z_ch ?_))
    go_loopw [61] (fun i wr => ∃ q : Nat, q ≤ m.n ∧ i = .int .i64 (q : Int) ∧ (∀ j, j < q → v.b.i ≤ m.pi + j → there v m j = true) ∧ T wr ∧ Blk wr W6.heap.size 67 (chOk hh).cs ∧ W7.heap.size ≤ wr.heap.size) (fun i _ => m.n - (intOf i).toNat)
    case atStart => exact ⟨0, Nat.zero_le _, rfl, fun j hj => absurd hj (Nat.not_lt_zero _), H7.out.1, H7.out.2.1, Nat.le_refl _⟩
    case round =>
      obtain ⟨q, hq, rfl, hall, hTr, hcr, hsz⟩ := hrel
      by_cases hlt : q < m.n
      · have hql : q < m.L.length := by have := HX.out.2.2.2.1.1; omega
        have hbr := (HX.out.2.2.2.2.2.2 wr hTr).1
        obtain ⟨g, o, ha, hrow⟩ := (HX.out.2.2.2.1.later hbr).2.1.spot hql
        rw [ha]
        have LE : (loadSem 92 (.pointer (some ⟨g, o + q * 4, none⟩))).run Try.prog wr = .ok (.agg (eng m.L q).cs) wr := hrow.load hql
        have LE2 : (loadSem 92 (.pointer (some ⟨g, o + q * 4, none⟩))).run Try.prog (wr.alloc (.cells En.zero.cs 92)) = .ok (.agg (eng m.L q).cs) (wr.alloc (.cells En.zero.cs 92)) := (hrow.later (below_alloc wr (.cells En.zero.cs 92))).load hql
        have hUx : UpIn wr 0 (eng m.L q).a (eng m.L q).n (eng m.L q).c (eng m.L q).U := (HX.out.2.2.2.1.later hbr).2.2.2.2.2.2 _ (eng_mem hql)
        obtain ⟨x, hx⟩ : ∃ x, eng m.L q = x := ⟨_, rfl⟩
        rw [hx] at LE LE2 hUx
        have SE := st_en (q := x) (Blk.new wr 92 En.zero.cs)
        rw [World.setRow_alloc_new] at SE
        obtain ⟨Wx, hWx⟩ : ∃ Wx, wr.alloc (.cells x.cs 92) = Wx := ⟨_, rfl⟩
        rw [hWx] at SE
        have hbx : Below wr.heap.size wr Wx := by rw [← hWx]; exact below_alloc wr _
        have bx : Blk Wx wr.heap.size 92 x.cs := by rw [← hWx]; exact Blk.new wr _ _
        have hTx := hTb _ _ hTr hbx
        obtain ⟨ix, hix⟩ : ∃ ix, p9 + q = ix := ⟨_, rfl⟩
        have d0 : adU (p9 : Int) (q : Int) = (ix : Int) := by rw [← hix]; exact adU_nat (by have := HHV.out.2; omega)
        have d2 : IntKind.u64.wrap (q : Int) = (q : Int) := by rw [IntKind.wrap_u64]; omega
        have d3 := leU_nat ix v.b.i
        obtain ⟨w1, w2, w3, w4, w5, w6⟩ := hTf Wx hTx
        by_cases hsk : ix ≤ v.b.i
        · rw [decide_eq_true hsk] at d3
          have HXX := Lib.hid (show (∀ j, j < q + 1 → v.b.i ≤ m.pi + j → there v m j = true) ∧ T Wx ∧ Blk Wx W6.heap.size 67 (chOk hh).cs ∧ W7.heap.size ≤ Wx.heap.size from ⟨fun j hj hb => by
            by_cases e : j = q
            · exfalso; have := HHV.out.2; omega
            · exact hall j (by omega) hb, hTx, hcr.later hbx, Nat.le_trans hsz hbx.size⟩)
          clear hall hTr hcr hsz hbr hrow hUx hx hbx bx hTx hsk hix ha
          go_wp2_with (with_reducible refine wpList_alloc_z rfl 92 rfl En.zero.cs 4 z_en ?_)
          go_roundw
          case rel => exact ⟨q + 1, by omega, by go_num, HXX.out⟩
          case measure => (simp [intOf]; try omega)
        · rw [decide_eq_false hsk] at d3
          obtain ⟨k1, hk1⟩ : ∃ k1, ix - v.b.i = k1 := ⟨_, rfl⟩
          obtain ⟨k0, hk0⟩ : ∃ k0, k1 - 1 = k0 := ⟨_, rfl⟩
          have e0 : sbU (ix : Int) (v.b.i : Int) = (k1 : Int) := by rw [← hk1]; exact sbU_nat (by omega) (by have := HHV.out.2; omega)
          have e1 : sbU (k1 : Int) 1 = (k0 : Int) := by rw [← hk0]; exact sbU_nat (a := k1) (b := 1) (by omega) (by have := HHV.out.2; omega)
          have hk0e : m.pi + q - v.b.i = k0 := by have := HHV.out.2; omega
          have e2 : IntKind.u64.wrap (v.n : Int) = (v.n : Int) := by rw [IntKind.wrap_u64]; have := HX.out.2.2.2.2.2.1; omega
          have e3 := ltU_nat k0 v.n
          have HK := Lib.hid (show m.a = some ⟨g, o, none⟩ ∧ p9 + q = ix ∧ v.b.i ≤ m.pi + q ∧ Blk Wx W6.heap.size 67 (chOk hh).cs ∧ W7.heap.size ≤ Wx.heap.size ∧ ∀ j, j < q → v.b.i ≤ m.pi + j → there v m j = true from ⟨ha, hix, by have := HHV.out.2; omega, hcr.later hbx, Nat.le_trans hsz hbx.size, hall⟩)
          have hth : there v m q = decide (k0 < v.n ∧ con (eng v.L k0) = con x) := by
            unfold there
            rw [hk0e, hx]
            exact decide_eq_decide.2 (and_congr_left' (by unfold Vw.z; have := HHV.out.2; omega))
          have HT := Lib.hid (And.intro hTx (And.intro bx (hUx.later hbx)))
          clear hall hTr hcr hsz hbr hrow hUx hx hbx hTx hsk hix ha hk1 hk0 hk0e
          by_cases hkn : k0 < v.n
          · rw [decide_eq_true hkn] at e3
            have hvl : k0 < v.L.length := by have := HX.out.2.2.1.1; omega
            obtain ⟨g2, o2, ha2, _⟩ := HX.out.2.2.1.2.1.spot hvl
            obtain ⟨S, hS⟩ : ∃ S : World → Prop, S = fun w' => T w' ∧ Blk w' wr.heap.size 92 x.cs ∧ Below Wx.heap.size Wx w' := ⟨_, rfl⟩
            have hS0 : S Wx.drew := by rw [hS]; exact ⟨hTd _ HT.out.1, bx, bel_drew (Below.refl _ _)⟩
            have hSb : ∀ w w', S w → Below w.heap.size w w' → S w' := by rw [hS]; exact fun w w' h k => ⟨hTb _ _ h.1 k, h.2.1.later k, bel_trans h.2.2 k⟩
            have hSn : ∀ w', S w' → T w' ∧ Below Wx.heap.size Wx w' := by rw [hS]; exact fun w' h => ⟨h.1, h.2.2⟩
            have hSf : ∀ w', S w' → (loadSem 92 (.pointer (some ⟨wr.heap.size, 0, none⟩))).run Try.prog w' = .ok (.agg x.cs) w' ∧ w'.cell? ⟨w.heap.size, 10, none⟩ = some (.slice (some ⟨g2, o2, none⟩) v.n v.c) := by
              rw [hS]
              exact fun w' h => ⟨en_r h.2.1 w' (Below.refl _ _), by rw [← ha2]; exact (hTf w' h.1).2.2.2.2.2⟩
            have hvcc := HX.out.2.2.1.2.2.1
            have hvcm : v.c ≤ 9223372036854775807 := by have := HX.out.2.2.1.2.2.2.1; unfold maxLen at this; omega
            have u1 : adU (k0 : Int) 1 = ((k0 + 1 : Nat) : Int) := adU_nat (a := k0) (b := 1) (by omega)
            obtain ⟨k2, hk2⟩ : ∃ k2, k0 + 1 = k2 := ⟨_, rfl⟩
            rw [hk2] at u1
            have v1 : k0 ≤ k2 := by omega
            have v2 : k2 ≤ v.c := by omega
            have v3 : ¬ v.c = k0 := by omega
            have v4 : k2 - k0 = 1 := by omega
            obtain ⟨nc, hnc⟩ : ∃ nc, v.c - k0 = nc := ⟨_, rfl⟩
            have HV := Lib.hid (And.intro hvl (And.intro ha2 (And.intro hnc hk2)))
            clear hvl ha2 hS hk2 bx
            go_upto_region 13 with (with_reducible refine wpList_alloc_z rfl 92 rfl En.zero.cs 4 z_en ?_)
            refine wp_region_linY S [8, 15] [0, 1, 2, 3, 4, 5, 6, 7, 9, 10, 11, 12, 13, 14, 8, 15, 16] (by kernel_rfl) (by kernel_rfl) hS0 ?_
            (repeat (first | (refine linX_off rfl rfl (by rfl) ?_; (try simp only [Act.put, List.getElem_toArray, List.getElem_cons_zero, List.getElem_cons_succ, List.setIfInBounds_toArray, List.set_cons_zero, List.set_cons_succ])) | (refine linX_op (v := ?_) rfl rfl (by rfl) (fun w9 hS9 => ?_) ?_; rotate_left; (focus (((try dsimp only at hS9); obtain ⟨z1, z2⟩ := hSf w9 hS9; go_simp; (try go_bits)) <;> with_reducible rfl)); (try simp only [Act.put, List.getElem_toArray, List.getElem_cons_zero, List.getElem_cons_succ, List.setIfInBounds_toArray, List.set_cons_zero, List.set_cons_succ]))))
            have EB := enbuild1_run x Wx.drew
            obtain ⟨Wy, hWy⟩ : ∃ Wy, Wx.drew.alloc (.cells x.cs 92) = Wy := ⟨_, rfl⟩
            rw [hWy] at EB
            have hby : Below Wx.drew.heap.size Wx.drew Wy := by rw [← hWy]; exact below_alloc Wx.drew _
            have byy : Blk Wy Wx.drew.heap.size 92 x.cs := by rw [← hWy]; exact Blk.new Wx.drew _ _
            have hSy := hSb _ _ hS0 hby
            have I1 := en_in1 byy (HT.out.2.2.later (hSn _ hSy).2)
            have I0 := HX.out.2.2.1.later (HX.out.2.2.2.2.2.2 _ (hSn _ hSy).1).1
            rw [HV.out.2.1] at I0
            have I2 := I0.one hkn
            rw [HV.out.2.2.1] at I2
            refine linX_do (v := .slice (some ⟨Wx.drew.heap.size, 0, none⟩) 1 1) (w' := Wy) rfl rfl (by rfl) (by go_simp; done) hSy ?_
            (try simp only [Act.put, List.getElem_toArray, List.getElem_cons_zero, List.getElem_cons_succ, List.setIfInBounds_toArray, List.set_cons_zero, List.set_cons_succ])
            refine linX_call (f := 39) (args := #[.slice (some ⟨Wx.drew.heap.size, 0, none⟩) 1 1, .slice (some ⟨g2, o2 + k0 * 4, none⟩) 1 nc]) rfl rfl (by rfl) rfl rfl (enters_of Try.func39 (by kernel_rfl) rfl) (by simp [Act.eval]) ?_
            refine (sameentries_any _ _ _ _ _ _ _ _ Wy I1 I2).mono ?_
            rintro e Wz ⟨rfl, hbz⟩
            have hSz := hSb _ _ hSy hbz
            refine ⟨_, rfl, hSz, ?_⟩
            (try simp only [Act.put, List.getElem_toArray, List.getElem_cons_zero, List.getElem_cons_succ, List.setIfInBounds_toArray, List.set_cons_zero, List.set_cons_succ])
            (repeat (first | (refine linX_off rfl rfl (by rfl) ?_; (try simp only [Act.put, List.getElem_toArray, List.getElem_cons_zero, List.getElem_cons_succ, List.setIfInBounds_toArray, List.set_cons_zero, List.set_cons_succ])) | (refine linX_op (v := ?_) rfl rfl (by rfl) (fun w9 hS9 => ?_) ?_; rotate_left; (focus (((try dsimp only at hS9); obtain ⟨z1, z2⟩ := hSf w9 hS9; go_simp; (try go_bits)) <;> with_reducible rfl)); (try simp only [Act.put, List.getElem_toArray, List.getElem_cons_zero, List.getElem_cons_succ, List.setIfInBounds_toArray, List.set_cons_zero, List.set_cons_succ]))))
            refine linX_nil ?_
            by_cases heq : con (eng v.L k0) = con x
            · have hd : decide (Same' [x] [eng v.L k0]) = true := decide_eq_true (same_one.2 heq.symm)
              have hTh : there v m q = true := by rw [hth]; simp [hkn, heq]
              have HXX := Lib.hid (show (∀ j, j < q + 1 → v.b.i ≤ m.pi + j → there v m j = true) ∧ T Wz ∧ Blk Wz W6.heap.size 67 (chOk hh).cs ∧ W7.heap.size ≤ Wz.heap.size from ⟨fun j hj hb => by
                by_cases e : j = q
                · subst e; exact hTh
                · exact HK.out.2.2.2.2.2 j (by omega) hb, (hSn _ hSz).1, HK.out.2.2.2.1.later (hSn _ hSz).2, Nat.le_trans HK.out.2.2.2.2.1 (hSn _ hSz).2.size⟩)
              rw [hd]
              clear hth hTh heq hd hSz hbz I0 I1 I2 hSy byy hby hWy
              go_wp2_with fail
              go_roundw
              case rel => exact ⟨q + 1, by omega, by go_num, HXX.out⟩
              case measure => (simp [intOf]; try omega)
            · have hd : decide (Same' [x] [eng v.L k0]) = false := decide_eq_false (fun h => heq (same_one.1 h).symm)
              have HTH := Lib.hid (show there v m q = false by rw [hth]; simp [heq])
              have HZZ := Lib.hid (hSn _ hSz)
              rw [hd]
              clear hth heq hd hSz hbz I0 I1 I2 hSy byy hby hWy
              have hT9 := HZZ.out.1
              have c9 := HK.out.2.2.2.1.later HZZ.out.2
              have hbw9 := (HX.out.2.2.2.2.2.2 Wz hT9).1
              have hDr := (HX.out.2.2.2.1.later hbw9).drop (k := q) (by omega)
              have hmcc := HX.out.2.2.2.1.2.2.1
              have hmcm : m.c ≤ 9223372036854775807 := by have := HX.out.2.2.2.1.2.2.2.1; unfold maxLen at this; omega
              rw [if_neg (by omega), HK.out.1] at hDr
              simp only [Option.map_some, Addr.add_lit] at hDr
              have HCP := entries12_any _ _ _ _ Wz hDr (by omega) (fun x hx => HX.out.2.2.2.2.1 x (List.mem_of_mem_drop hx))
              have hqc : q ≤ m.n := by omega
              have hncq : ¬ m.c = q := by omega
              have z0 : (Wz).cell? ⟨W1.heap.size, 6, none⟩ = some (.slice (some ⟨g, o, none⟩) m.n m.c) := by rw [← HK.out.1]; exact (hTf Wz hT9).2.2.2.1
              obtain ⟨nn, hnn⟩ : ∃ nn, m.n - q = nn := ⟨_, rfl⟩
              obtain ⟨nc, hnc⟩ : ∃ nc, m.c - q = nc := ⟨_, rfl⟩
              rw [hnn, hnc] at HCP
              have HB := Lib.hid (And.intro hT9 (And.intro c9 (And.intro hbw9 hnn)))
              clear hT9 c9 hbw9 hDr 
              go_upto_region 14 with fail
              go_wp2_with fail
              clear hnc
              refine HCP.mono ?_
              rintro e6 X6 ⟨a6, c6, M6, rfl, hO6, hSm6, hb6⟩
              have c66 := HB.out.2.1.later hb6
              have x0 : X6.cell? ⟨W6.heap.size, 1, none⟩ = some (.int .u64 0) := c66.cell 1
              have x1 := c66.free 1
              have t1 := c66.set 1 (.int .u64 (ix : Int))
              obtain ⟨X7, hX7⟩ : ∃ X7, X6.setCell ⟨W6.heap.size, 1, none⟩ (.int .u64 (ix : Int)) = X7 := ⟨_, rfl⟩
              rw [hX7] at t1
              have x2 : X7.cell? ⟨W6.heap.size, 2, none⟩ = some (.slice none 0 0) := t1.cell 2
              have x3 := t1.free 2
              have t2 := t1.set 2 (.slice a6 nn c6)
              obtain ⟨X8, hX8⟩ : ∃ X8, X7.setCell ⟨W6.heap.size, 2, none⟩ (.slice a6 nn c6) = X8 := ⟨_, rfl⟩
              rw [hX8] at t2
              obtain ⟨c, hc⟩ : ∃ c : Ch, c = ⟨true, ix, a6, nn, c6, M6, hh⟩ := ⟨_, rfl⟩
              have t3 : Blk X8 W6.heap.size 67 c.cs := by rw [hc]; exact t2
              have k7 : Kept [W6.heap.size] X6 X7 := by rw [← hX7]; exact Kept.setCell (p := ⟨W6.heap.size, 1, none⟩) (Kept.refl _ _) (.inl (by simp)) _
              have k8 : Kept [W6.heap.size] X6 X8 := by rw [← hX8]; exact Kept.setCell (p := ⟨W6.heap.size, 2, none⟩) k7 (.inl (by simp)) _
              have LC := ld_ch t3
              have hT6 := hTb _ _ HB.out.1 hb6
              have r8 := (HX.out.2.2.2.2.2.2 X6 hT6).2.kept k8 (by have := H7.out.2.2; simp; omega)
              have ST8 := st_ch (b2 := c) r8
              have k9 : Kept [W2.heap.size] X8 (X8.setRow W2.heap.size c.cs) := (Kept.refl _ _).setRow (.inl (by simp)) _
              have hb06 := (HX.out.2.2.2.2.2.2 X6 hT6).1
              have hlt7 := H7.out.2.2
              have hle9 := HX.out.2.1
              have hb08 : Below w.heap.size w X8 := hb06.trans (k8.below (fun i hi => by simp at hi; omega) hb06.size)
              have hown : EnOwn X6 w.heap.size (.slice c.a c.n c.c) c.L := by rw [hc]; exact hO6.less HB.out.2.2.1.size
              have hown8 : EnOwn (X8.setRow W2.heap.size c.cs) w.heap.size (.slice c.a c.n c.c) c.L := (hown.turn (fun g t cs ht hb => hb.kept k8 (fun hm => by
                have e : g = W6.heap.size := by simpa using hm
                subst e
                exact (Blk.ne hb c66 ht) rfl))).turn (fun g t cs ht hb => hb.kept k9 (fun hm => by
                have e : g = W2.heap.size := by simpa using hm
                subst e
                exact (Blk.ne hb r8 ht) rfl))
              have hfit : FitR v m c := by
                have hsk := HK.out.2.2.1
                have e1 : v.b.i - m.pi + (q - (v.b.i - m.pi)) = q := by omega
                rw [hc]
                refine ⟨rfl, HHV.out.1.symm, .inr ⟨q - (v.b.i - m.pi), by omega, fun j hj => HK.out.2.2.2.2.2 _ (by omega) (by omega), ?_, ?_, ?_, ?_⟩⟩
                · rw [e1]; exact HTH.out
                · rw [e1]; show ix = _; have := HK.out.2.1; have := HHV.out.2; omega
                · rw [e1]; exact HB.out.2.2.2.symm
                · rw [e1]; exact hSm6
              have HF := Lib.hid (And.intro (r8.row c.cs) (And.intro (below_setRow hb08 HX.out.2.1 c.cs) (And.intro (HW.out c hfit) hown8)))
              clear hO6 hSm6 hb6 t1 t2 t3 k7 k8 c66 HCP hT6 r8 k9 hb06 hlt7 hle9 hb08 hown hown8 hfit hc
              go_wp2_with fail
              refine bodyPost_ret (results_cell_row rfl _ _ W2.heap.size 67 _ (0, 0) _ rfl HF.out.1 Try.underlying67 rfl (s_ch _)) rfl ?_
              exact ⟨c, rfl, HF.out.2.2.1, HF.out.2.2.2, HF.out.2.1⟩
          · rw [decide_eq_false hkn] at e3
            have HTH := Lib.hid (show there v m q = false by rw [hth]; simp [hkn])
            clear hth hkn
            go_upto_region 13 with (with_reducible refine wpList_alloc_z rfl 92 rfl En.zero.cs 4 z_en ?_)
            refine wp_region_linY T [] [0, 1, 2, 3, 4, 5, 6, 7, 8, 9, 10, 11, 12, 13, 14, 15, 16] (by kernel_rfl) (by kernel_rfl) (hTd _ HT.out.1) ?_
            (repeat (first | (refine linX_off rfl rfl (by rfl) ?_; (try simp only [Act.put, List.getElem_toArray, List.getElem_cons_zero, List.getElem_cons_succ, List.setIfInBounds_toArray, List.set_cons_zero, List.set_cons_succ])) | (refine linX_op (v := ?_) rfl rfl (by rfl) (fun w9 hS9 => ?_) ?_; rotate_left; (focus (((try dsimp only at hS9); obtain ⟨z1, z2, z3, z4, z5, z6⟩ := hTf w9 hS9; go_simp; (try go_bits)) <;> with_reducible rfl)); (try simp only [Act.put, List.getElem_toArray, List.getElem_cons_zero, List.getElem_cons_succ, List.setIfInBounds_toArray, List.set_cons_zero, List.set_cons_succ]))))
            refine linX_nil ?_
            have hT9 := hTd _ HT.out.1
            have c9 := HK.out.2.2.2.1.drew
            have hbw9 := (HX.out.2.2.2.2.2.2 Wx.drew hT9).1
            have hDr := (HX.out.2.2.2.1.later hbw9).drop (k := q) (by omega)
            have hmcc := HX.out.2.2.2.1.2.2.1
            have hmcm : m.c ≤ 9223372036854775807 := by have := HX.out.2.2.2.1.2.2.2.1; unfold maxLen at this; omega
            rw [if_neg (by omega), HK.out.1] at hDr
            simp only [Option.map_some, Addr.add_lit] at hDr
            have HCP := entries12_any _ _ _ _ Wx.drew hDr (by omega) (fun x hx => HX.out.2.2.2.2.1 x (List.mem_of_mem_drop hx))
            have hqc : q ≤ m.n := by omega
            have hncq : ¬ m.c = q := by omega
            have z0 : (Wx.drew).cell? ⟨W1.heap.size, 6, none⟩ = some (.slice (some ⟨g, o, none⟩) m.n m.c) := by rw [← HK.out.1]; exact (hTf Wx.drew hT9).2.2.2.1
            obtain ⟨nn, hnn⟩ : ∃ nn, m.n - q = nn := ⟨_, rfl⟩
            obtain ⟨nc, hnc⟩ : ∃ nc, m.c - q = nc := ⟨_, rfl⟩
            rw [hnn, hnc] at HCP
            have HB := Lib.hid (And.intro hT9 (And.intro c9 (And.intro hbw9 hnn)))
            clear hT9 c9 hbw9 hDr 
            go_upto_region 14 with fail
            go_wp2_with fail
            clear hnc
            refine HCP.mono ?_
            rintro e6 X6 ⟨a6, c6, M6, rfl, hO6, hSm6, hb6⟩
            have c66 := HB.out.2.1.later hb6
            have x0 : X6.cell? ⟨W6.heap.size, 1, none⟩ = some (.int .u64 0) := c66.cell 1
            have x1 := c66.free 1
            have t1 := c66.set 1 (.int .u64 (ix : Int))
            obtain ⟨X7, hX7⟩ : ∃ X7, X6.setCell ⟨W6.heap.size, 1, none⟩ (.int .u64 (ix : Int)) = X7 := ⟨_, rfl⟩
            rw [hX7] at t1
            have x2 : X7.cell? ⟨W6.heap.size, 2, none⟩ = some (.slice none 0 0) := t1.cell 2
            have x3 := t1.free 2
            have t2 := t1.set 2 (.slice a6 nn c6)
            obtain ⟨X8, hX8⟩ : ∃ X8, X7.setCell ⟨W6.heap.size, 2, none⟩ (.slice a6 nn c6) = X8 := ⟨_, rfl⟩
            rw [hX8] at t2
            obtain ⟨c, hc⟩ : ∃ c : Ch, c = ⟨true, ix, a6, nn, c6, M6, hh⟩ := ⟨_, rfl⟩
            have t3 : Blk X8 W6.heap.size 67 c.cs := by rw [hc]; exact t2
            have k7 : Kept [W6.heap.size] X6 X7 := by rw [← hX7]; exact Kept.setCell (p := ⟨W6.heap.size, 1, none⟩) (Kept.refl _ _) (.inl (by simp)) _
            have k8 : Kept [W6.heap.size] X6 X8 := by rw [← hX8]; exact Kept.setCell (p := ⟨W6.heap.size, 2, none⟩) k7 (.inl (by simp)) _
            have LC := ld_ch t3
            have hT6 := hTb _ _ HB.out.1 hb6
            have r8 := (HX.out.2.2.2.2.2.2 X6 hT6).2.kept k8 (by have := H7.out.2.2; simp; omega)
            have ST8 := st_ch (b2 := c) r8
            have k9 : Kept [W2.heap.size] X8 (X8.setRow W2.heap.size c.cs) := (Kept.refl _ _).setRow (.inl (by simp)) _
            have hb06 := (HX.out.2.2.2.2.2.2 X6 hT6).1
            have hlt7 := H7.out.2.2
            have hle9 := HX.out.2.1
            have hb08 : Below w.heap.size w X8 := hb06.trans (k8.below (fun i hi => by simp at hi; omega) hb06.size)
            have hown : EnOwn X6 w.heap.size (.slice c.a c.n c.c) c.L := by rw [hc]; exact hO6.less HB.out.2.2.1.size
            have hown8 : EnOwn (X8.setRow W2.heap.size c.cs) w.heap.size (.slice c.a c.n c.c) c.L := (hown.turn (fun g t cs ht hb => hb.kept k8 (fun hm => by
              have e : g = W6.heap.size := by simpa using hm
              subst e
              exact (Blk.ne hb c66 ht) rfl))).turn (fun g t cs ht hb => hb.kept k9 (fun hm => by
              have e : g = W2.heap.size := by simpa using hm
              subst e
              exact (Blk.ne hb r8 ht) rfl))
            have hfit : FitR v m c := by
              have hsk := HK.out.2.2.1
              have e1 : v.b.i - m.pi + (q - (v.b.i - m.pi)) = q := by omega
              rw [hc]
              refine ⟨rfl, HHV.out.1.symm, .inr ⟨q - (v.b.i - m.pi), by omega, fun j hj => HK.out.2.2.2.2.2 _ (by omega) (by omega), ?_, ?_, ?_, ?_⟩⟩
              · rw [e1]; exact HTH.out
              · rw [e1]; show ix = _; have := HK.out.2.1; have := HHV.out.2; omega
              · rw [e1]; exact HB.out.2.2.2.symm
              · rw [e1]; exact hSm6
            have HF := Lib.hid (And.intro (r8.row c.cs) (And.intro (below_setRow hb08 HX.out.2.1 c.cs) (And.intro (HW.out c hfit) hown8)))
            clear hO6 hSm6 hb6 t1 t2 t3 k7 k8 c66 HCP hT6 r8 k9 hb06 hlt7 hle9 hb08 hown hown8 hfit hc
            go_wp2_with fail
            refine bodyPost_ret (results_cell_row rfl _ _ W2.heap.size 67 _ (0, 0) _ rfl HF.out.1 Try.underlying67 rfl (s_ch _)) rfl ?_
            exact ⟨c, rfl, HF.out.2.2.1, HF.out.2.2.2, HF.out.2.1⟩
      · have hqn : q = m.n := by omega
        have i1 : ¬ ((q : Int) < (m.n : Int)) := by omega
        obtain ⟨c, hc⟩ : ∃ c : Ch, c = chOk hh := ⟨_, rfl⟩
        have hfit : FitR v m c := by
          subst hc
          exact ⟨rfl, HHV.out.1.symm, .inl ⟨rfl, rfl, rfl, fun k hk => hall _ (by omega) (by omega)⟩⟩
        rw [← hc] at hcr
        have LC := ld_ch hcr
        have r8 := (HX.out.2.2.2.2.2.2 wr hTr).2
        have hb8 := (HX.out.2.2.2.2.2.2 wr hTr).1
        have ST8 := st_ch (b2 := c) r8
        have hown : EnOwn (wr.setRow W2.heap.size c.cs) w.heap.size (.slice c.a c.n c.c) c.L := by rw [hc]; exact EnOwn.nil _ _
        have HF := Lib.hid (And.intro (r8.row c.cs) (And.intro (below_setRow hb8 HX.out.2.1 c.cs) (And.intro (HW.out c hfit) hown)))
        clear hall hTr hcr hsz hfit r8 hb8 hown hc hqn
        go_wp2_with fail
        refine bodyPost_ret (results_cell_row rfl _ _ W2.heap.size 67 _ (0, 0) _ rfl HF.out.1 Try.underlying67 rfl (s_ch _)) rfl ?_
        exact ⟨c, rfl, HF.out.2.2.1, HF.out.2.2.2, HF.out.2.1⟩
theorem raccept_any (v : Vw) (m : Ms) (w : World) (hv : v.ok = true) (hmi : m.pi ≤ 4611686018427387904) (hmn : m.n ≤ 8) (hL : EnIn w 0 v.a v.n v.c v.L) (hM : EnIn w 0 m.a m.n m.c m.L) (hU : ∀ x ∈ m.L, x.n ≤ 1000) :
    Calls Try.prog 24 #[.agg v.cs, .agg m.cs] w fun e w' => ∃ c : Ch, e = .returned (.agg c.cs) ∧ MadeR v m c ∧ EnOwn w' w.heap.size (.slice c.a c.n c.c) c.L ∧ Below w.heap.size w w' := by
  by_cases h1 : v.z < m.pi
  · exact racc_far v m w hv hmi hmn hL hM hU h1
  · by_cases h2 : (placeR v m.pi).2.2 = true ∧ (placeR v m.pi).2.1 ≠ m.pe
    · exact racc_other v m w hv hmi hmn hL hM hU h1 h2
    · exact racc_fits v m w hv hmi hmn hL hM hU h1 h2
end Go.Proofs.Ytkoenconjldojaa
