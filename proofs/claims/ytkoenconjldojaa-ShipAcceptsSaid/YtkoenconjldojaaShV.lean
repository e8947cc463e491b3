/-
  Bases, views, changes and messages that are the same are told to be the same. Nothing here is a statement of the document.
-/
import Derived.Test.YtkoenconjldojaaShR
import Derived.Test.YtkoenconjldojaaLinU
namespace Go.Proofs.Ytkoenconjldojaa
open Go.RowKit Go.Shelf
set_option linter.unusedVariables false
set_option linter.unusedSimpArgs false
set_option maxRecDepth 100000
attribute [local go_sem 10000] gtU_rule leU_rule ltU_rule geU_rule adU_rule sbU_rule mxU_rule mnU_rule mnI_rule
attribute [local go_sem ↓] load_at_rule store_at_rule load_la_rule store_la_rule load_bs_rule store_bs_rule load_vw_rule store_vw_rule load_jo_rule store_jo_rule load_ms_rule store_ms_rule load_ch_rule store_ch_rule load_hd_rule store_hd_rule load_rb_rule store_rb_rule load_en_rule store_en_rule
attribute [local go_sem ↓] build_hd_rule build_rb_rule build_en_rule build_at_rule build_jo_rule upbuild_rule upapp_rule robuild_rule roapp_rule enbuild_rule enapp_rule build_vw_rule eq_at_rule eq_la_rule build_ch_rule build_ms_rule
theorem enbuild3_run (x y z : En) (w : World) : (enbuildSem 3 #[(0, .agg x.cs), (1, .agg y.cs), (2, .agg z.cs)]).run Try.prog w = .ok (.slice (some ⟨w.heap.size, 0, none⟩) 3 3) (w.alloc (.cells (x.cs ++ y.cs ++ z.cs) 92)) := by kernel_rfl
theorem en_at3 {w : World} {g : Nat} {x y z : En} (h : Blk w g 92 (x.cs ++ y.cs ++ z.cs)) : EnAt w (some ⟨g, 0, none⟩) [x, y, z] := by
  refine .inr ⟨g, 0, rfl, enrow_cells _ _ _ 0 h.lt fun k u hk => ?_⟩
  rw [Nat.zero_add, h.cell, ← Array.getElem?_toList]
  simp only [encs_cons, encs_nil, List.append_nil] at hk
  simpa using hk
def wkV (a : Option Addr) (n c : Nat) (L : List En) : Vw := { Vw.zero with v := 2, a := a, n := n, c := c, L := L }
theorem build_wk (a : Option Addr) (n c : Nat) (L : List En) (w : World) : (buildSem 36 #[(0, .int .u64 2), (2, .slice a n c)]).run Try.prog w = .ok (.agg (wkV a n c L).cs) w := by kernel_rfl
theorem build_vw0 (w : World) : (buildSem 36 #[]).run Try.prog w = .ok (.agg Vw.zero.cs) w := by kernel_rfl
theorem same_lim {L M : List En} {w : World} {B k : Nat} (hs : Same' L M) (hL : ∀ x ∈ L, UpIn w B x.a x.n x.c x.U) (hM : ∀ y ∈ M, y.U.length ≤ k) : ∀ x ∈ L, x.n ≤ k := by
  intro x hx
  have h1 : con x ∈ M.map con := by
    have h9 : L.map con = M.map con := hs
    rw [← h9]
    exact List.mem_map_of_mem hx
  obtain ⟨y, hy, he⟩ := List.mem_map.1 h1
  have h2 := (con_eq.1 he).2.2.2
  have := (hL x hx).1
  have h3 := hM y hy
  rw [h2] at h3
  omega
theorem wk_offer {a : Option Addr} {c : Nat} {m : Ms} {er : Int} (h : OfferR (wkV a 3 c [oneE 1 1, oneE 1 2, oneE 2 3]) 1 m er) : er = 0 ∧ m.kd = 1 ∧ m.pi = 1 ∧ m.pe = 1 ∧ m.n = 2 ∧ ∃ L, m.L = L ∧ Same' L [oneE 1 2, oneE 2 3] := by
  rcases h with ⟨h, _⟩ | ⟨_, he, ho⟩
  · exact absurd h (by show ¬ true = false; decide)
  · rcases ho with ⟨h1, _⟩ | ⟨_, a, c, L, rfl, hs⟩
    · exact absurd h1 (Nat.not_lt_zero _)
    · exact ⟨he, rfl, rfl, rfl, rfl, L, rfl, hs⟩
theorem wk_acc {a : Option Addr} {c : Nat} {m : Ms} {ch : Ch} {f : Int} (k : m.kd = 1) (hi : m.pi = 1) (he : m.pe = 1) (hn : m.n = 2) (h : AcceptR (wkV a 1 c [oneE 1 1]) m ch f) : f = 0 ∧ ch.ok = true ∧ ch.ix = 2 ∧ ch.hv = 3 := by
  have hof : m.off = true := by unfold Ms.off; rw [k, hi, hn]; rfl
  rcases h with ⟨h, _⟩ | ⟨_, h, _⟩ | ⟨_, _, hf, h⟩
  · exact absurd h (by show ¬ true = false; decide)
  · rw [hof] at h; cases h
  · rcases h with ⟨h, _⟩ | ⟨_, h, _⟩ | ⟨_, _, hok, hhv, h⟩
    · rw [hi] at h; exact absurd h (by show ¬ (0 + 1 < 1); decide)
    · rw [hi, he] at h
      exact absurd (show (placeR (wkV a 1 c [oneE 1 1]) 1).2.1 = 1 from rfl) h.2
    · have ht : there (wkV a 1 c [oneE 1 1]) m ((wkV a 1 c [oneE 1 1]).b.i - m.pi + 0) = false := by
        unfold there
        rw [hi]
        exact decide_eq_false (fun h9 => absurd h9.1 (by show ¬ (1 + (0 - 1 + 0) + 1 ≤ 0 + 1); decide))
      refine ⟨hf, hok, ?_, by rw [hhv, hi, hn]⟩
      rw [hi, hn] at h
      rw [hi] at ht
      rcases h with ⟨_, _, _, h⟩ | ⟨k, _, h, _, hx, _⟩
      · have := h 0 (by show 0 < 2 - (0 - 1); decide)
        rw [ht] at this; cases this
      · cases k with
        | zero => rw [hx]; rfl
        | succ k =>
          have := h 0 (Nat.succ_pos _)
          rw [ht] at this; cases this
theorem wk_none {m : Ms} {ch : Ch} {f : Int} (k : m.kd = 1) (hi : m.pi = 1) (hn : m.n = 2) (h : AcceptR Vw.zero m ch f) : f = 0 ∧ ch.ok = false := by
  have hof : m.off = true := by unfold Ms.off; rw [k, hi, hn]; rfl
  rcases h with ⟨h, _⟩ | ⟨_, h, _⟩ | ⟨_, _, hf, h⟩
  · exact absurd h (by show ¬ true = false; decide)
  · rw [hof] at h; cases h
  · rcases h with ⟨_, h⟩ | ⟨h, _⟩ | ⟨h, _⟩
    · rw [h]; exact ⟨hf, rfl⟩
    · exact absurd (show Vw.zero.z < m.pi by rw [hi]; decide) h
    · exact absurd (show Vw.zero.z < m.pi by rw [hi]; decide) h
def wkF (v : Vw) (m : Ms) (B : Nat) (i : Nat) (u : Value) (w : World) : Prop :=
  (i = 5 → ∃ (c : Ch) (er : Int), u = .tuple #[.agg c.cs, .int .i64 er] ∧ AcceptR v m c er) ∧ (i = 9 → ∃ g, u = .pointer (some ⟨g, 0, none⟩) ∧ B ≤ g ∧ Blk w g 67 Ch.zero.cs)
theorem wkF.later {v : Vw} {m : Ms} {B i : Nat} {u : Value} {w w' : World} (h : wkF v m B i u w) (k : Below w.heap.size w w') : wkF v m B i u w' :=
  ⟨h.1, fun e => by obtain ⟨g, h1, h2, h3⟩ := h.2 e; exact ⟨g, h1, h2, h3.later k⟩⟩
set_option maxHeartbeats 4000000 in
theorem wakes_any (w : World) : Calls Try.prog 8 #[] w fun e w' => e = .returned (.bool true) ∧ Below w.heap.size w w' := by
  go_enter Try.func8, Try.ntmps8
  go_wp2_with fail
  refine (one_any 1 1 w).mono ?_
  rintro e W1 ⟨rfl, hb1⟩
  go_wp2_with fail
  refine (one_any 1 2 W1).mono ?_
  rintro e W2 ⟨rfl, hb2⟩
  go_wp2_with fail
  refine (one_any 2 3 W2).mono ?_
  rintro e W3 ⟨rfl, hb3⟩
  have hb03 : Below w.heap.size w W3 := bel_trans (bel_trans hb1 hb2) hb3
  clear hb1 hb2 hb3
  have EB := enbuild3_run (oneE 1 1) (oneE 1 2) (oneE 2 3) W3
  obtain ⟨W4, hW4⟩ : ∃ W4, W3.alloc (.cells ((oneE 1 1).cs ++ (oneE 1 2).cs ++ (oneE 2 3).cs) 92) = W4 := ⟨_, rfl⟩
  rw [hW4] at EB
  have hb34 : Below W3.heap.size W3 W4 := by rw [← hW4]; exact below_alloc W3 _
  have e4 : EnAt W4 (some ⟨W3.heap.size, 0, none⟩) [oneE 1 1, oneE 1 2, oneE 2 3] := by rw [← hW4]; exact en_at3 (Blk.new W3 _ _)
  obtain ⟨g3, hg3⟩ : ∃ g3, W3.heap.size = g3 := ⟨_, rfl⟩
  rw [hg3] at EB e4
  have BV := build_wk (some ⟨g3, 0, none⟩) 3 3 [oneE 1 1, oneE 1 2, oneE 2 3]
  have hU0 : ∀ W : World, ∀ x : En, x ∈ [oneE 1 1, oneE 1 2, oneE 2 3] → UpIn W 0 x.a x.n x.c x.U := by
    intro W x hx
    simp only [List.mem_cons, List.mem_nil_iff, or_false] at hx
    rcases hx with rfl | rfl | rfl <;> exact ⟨rfl, .inl rfl, Nat.le_refl _, by decide, fun _ => rfl, fun h => absurd rfl h⟩
  have hEn : EnIn W4 0 (some ⟨g3, 0, none⟩) 3 3 [oneE 1 1, oneE 1 2, oneE 2 3] := ⟨rfl, e4, Nat.le_refl _, by decide, fun h => (by cases h), fun _ _ _ => Nat.zero_le _, hU0 W4⟩
  have hEn1 : EnIn W4 0 (some ⟨g3, 0, none⟩) 1 3 [oneE 1 1] := hEn.take 1 (by decide)
  obtain ⟨v1, hv1⟩ : ∃ v1, wkV (some ⟨g3, 0, none⟩) 3 3 [oneE 1 1, oneE 1 2, oneE 2 3] = v1 := ⟨_, rfl⟩
  rw [hv1] at BV
  have SV := st_vw (b2 := v1) (Blk.new W4 36 Vw.zero.cs)
  rw [World.setRow_alloc_new] at SV
  obtain ⟨W5, hW5⟩ : ∃ W5, W4.alloc (.cells v1.cs 36) = W5 := ⟨_, rfl⟩
  rw [hW5] at SV
  have hb45 : Below W4.heap.size W4 W5 := by rw [← hW5]; exact below_alloc W4 _
  have v5 : Blk W5 W4.heap.size 36 v1.cs := by rw [← hW5]; exact Blk.new W4 _ _
  have LV := ld_vw v5
  have hb05 := bel_trans (bel_trans hb03 hb34) hb45
  have hIn : v1.In W5 0 := by rw [← hv1]; exact ⟨RoIn.nil _ _, hEn.later hb45⟩
  have HO : Calls Try.prog 12 #[.agg v1.cs, .int .u64 1] W5 fun e w' => ∃ (o : Ms) (er : Int), e = .returned (.tuple #[.agg o.cs, .int .i64 er]) ∧ OfferR v1 1 o er ∧ o.Own w' W5.heap.size ∧ Below W5.heap.size W5 w' := offer_any v1 1 W5 hIn (by rw [← hv1]; intro x hx; have := (hU0 W5 x hx).1; simp only [wkV, List.mem_cons, List.mem_nil_iff, or_false] at hx; rcases hx with rfl | rfl | rfl <;> exact Nat.zero_le _) (by rw [← hv1]; exact Nat.zero_le _) (by rw [← hv1]; show 3 ≤ 40; decide)
  have H5 := Lib.hid (And.intro hb05 (And.intro v5 (And.intro (hEn1.later hb45) hv1)))
  have c5 : W5.cell? ⟨W4.heap.size, 10, none⟩ = some (.slice v1.a v1.n v1.c) := v5.cell 10
  clear hb03 hb34 e4 hU0 hEn hEn1 hb45 hb05 hIn v5 hv1 c5
  go_wp2_with (with_reducible refine wpList_alloc_z rfl 36 rfl Vw.zero.cs 11 z_vw ?_)
  refine HO.mono ?_
  rintro e W6 ⟨m, er, rfl, hR, hOwn, hb56⟩
  rw [← H5.out.2.2.2] at hR
  obtain ⟨rfl, hk, hpi, hpe, hn, L, hL, hsame⟩ := wk_offer hR
  have hMi : EnIn W6 0 m.a m.n m.c m.L := hOwn.1.into.less (Nat.zero_le _)
  have hMu : ∀ x ∈ m.L, x.n ≤ 1000 := same_lim (k := 1000) (show Same' m.L [oneE 1 2, oneE 2 3] by rw [hL]; exact hsame) hMi.2.2.2.2.2.2 (by intro y hy; simp only [List.mem_cons, List.mem_nil_iff, or_false] at hy; rcases hy with rfl | rfl <;> exact Nat.zero_le _)
  have SM := st_ms (b2 := m) (Blk.new W6 47 Ms.zero.cs)
  rw [World.setRow_alloc_new] at SM
  obtain ⟨W7, hW7⟩ : ∃ W7, W6.alloc (.cells m.cs 47) = W7 := ⟨_, rfl⟩
  rw [hW7] at SM
  have hb67 : Below W6.heap.size W6 W7 := by rw [← hW7]; exact below_alloc W6 _
  have m7 : Blk W7 W6.heap.size 47 m.cs := by rw [← hW7]; exact Blk.new W6 _ _
  have hb57 := bel_trans hb56 hb67
  have HV1 := (H5.out.2.1.later hb57)
  have hW : v1.a = some ⟨g3, 0, none⟩ ∧ v1.n = 3 ∧ v1.c = 3 := by rw [← H5.out.2.2.2]; exact ⟨rfl, rfl, rfl⟩
  have q10 : W7.cell? ⟨W4.heap.size, 10, none⟩ = some (.slice (some ⟨g3, 0, none⟩) 3 3) := by rw [HV1.cell 10]; show some (Value.slice v1.a v1.n v1.c) = _; rw [hW.1, hW.2.1, hW.2.2]
  have CVq : ∀ w', Below W7.heap.size W7 w' → w'.cell? ⟨W4.heap.size, 10, none⟩ = some (.slice (some ⟨g3, 0, none⟩) 3 3) := fun w' k => by
    rw [(HV1.later k).cell 10]; show some (Value.slice v1.a v1.n v1.c) = _; rw [hW.1, hW.2.1, hW.2.2]
  have CMq : ∀ w', Below W7.heap.size W7 w' → (loadSem 47 (.pointer (some ⟨W6.heap.size, 0, none⟩))).run Try.prog w' = .ok (.agg m.cs) w' := fun w' k => ld_ms (m7.later k)
  have CKq : ∀ w', Below W7.heap.size W7 w' → w'.cell? ⟨W6.heap.size, 0, none⟩ = some (.int .i64 1) ∧ w'.cell? ⟨W6.heap.size, 6, none⟩ = some (.slice m.a 2 m.c) := fun w' k => by
    have z := ms_cells (m7.later k)
    have z1 := z.1
    have z2 := z.2.2.2.1
    rw [hk] at z1
    rw [hn] at z2
    exact ⟨z1, z2⟩
  have HM := Lib.hid (And.intro (hMi.later hb67) (And.intro hMu (And.intro hk (And.intro hpi (And.intro hpe (And.intro hn (And.intro (bel_trans H5.out.1 hb57) (H5.out.2.2.1.later hb57))))))))
  obtain ⟨v2, hv2⟩ : ∃ v2, wkV (some ⟨g3, 0, none⟩) 1 3 [oneE 1 1] = v2 := ⟨_, rfl⟩
  have BV2 := build_wk (some ⟨g3, 0, none⟩) 1 3 [oneE 1 1]
  rw [hv2] at BV2
  have HV2 := Lib.hid hv2
  have do5 : ∀ w', Below W7.heap.size W7 w' → Calls Try.prog 20 #[.agg v2.cs, .agg m.cs] w' fun e w2 => ∃ v, e = .returned v ∧ Below W7.heap.size W7 w2 ∧ (∀ d u, d ≠ 5 → wkF v2 m W7.heap.size d u w' → wkF v2 m W7.heap.size d u w2) ∧ wkF v2 m W7.heap.size 5 v w2 := fun w' k => by
    refine (accept_any v2 m w' (by rw [← HV2.out]; exact HM.out.2.2.2.2.2.2.2.later k) (HM.out.1.later k) HM.out.2.1).mono ?_
    rintro e W4 ⟨c, er, rfl, hA, hO, hb4⟩
    exact ⟨_, rfl, bel_trans k hb4, fun d u _ q => q.later hb4, fun _ => ⟨c, er, rfl, hA⟩, fun e => by cases e⟩
  have h00 : Below W7.heap.size W7 W7.drew := bel_drew (Below.refl _ _)
  have hne : ∀ i, [5, 9].contains i = true → ∃ v w, wkF v2 m W7.heap.size i v w := by
    intro i hi
    have hi2 : i = 5 ∨ i = 9 := by simpa using hi
    rcases hi2 with rfl | rfl
    · obtain ⟨e, w', fr, ⟨v, _, _, _, h5⟩, _⟩ := do5 W7.drew h00 []; exact ⟨v, w', h5⟩
    · exact ⟨.pointer (some ⟨W7.heap.size, 0, none⟩), W7.alloc (.cells Ch.zero.cs 67), ⟨fun e => (by cases e), fun _ => ⟨W7.heap.size, rfl, Nat.le_refl _, Blk.new W7 _ _⟩⟩⟩
  clear hR hk hpi hpe hn hL hsame hMi hMu hOwn hb56 hb67 m7 hb57 HV1 hW hv2 q10 HO BV LV
  go_upto_region 3 with (with_reducible refine wpList_alloc_z rfl 47 rfl Ms.zero.cs 23 z_ms ?_)
  refine wp_region_linU (fun w' => Below W7.heap.size W7 w') (fun _ _ => True) (wkF v2 m W7.heap.size) [5, 9] [10] [8] [0, 1, 2, 3, 4, 5, 6, 7, 8, 9] [10, 11] (by kernel_rfl) (by kernel_rfl) hne h00 (fun _ => trivial) ?_
  (repeat (first | (refine linU_off rfl rfl (by rfl) ?_; (try simp only [Act.put, List.getElem_toArray, List.getElem_cons_zero, List.getElem_cons_succ, List.setIfInBounds_toArray, List.set_cons_zero, List.set_cons_succ])) | (refine linU_op (v := ?_) rfl rfl rfl (by rfl) (fun w9 hS9 => ?_) ?_; rotate_left; (focus (((try dsimp only at hS9); have z1 := CVq w9 hS9; have z2 := CMq w9 hS9; go_simp; (try go_bits)) <;> with_reducible rfl)); (try simp only [Act.put, List.getElem_toArray, List.getElem_cons_zero, List.getElem_cons_succ, List.setIfInBounds_toArray, List.set_cons_zero, List.set_cons_succ]))))
  refine linU_call (f := 20) (args := #[.agg v2.cs, .agg m.cs]) rfl rfl (by rfl) rfl rfl (enters_of Try.func20 (by kernel_rfl) rfl) (by simp [Act.eval]) (fun w9 hS9 _ _ => (do5 w9 hS9).mono (fun e w' ⟨v, q1, q2, q3, q4⟩ => ⟨v, q1, q2, fun _ _ _ => trivial, q3, q4⟩)) (fun v5 hv5 => ?_)
  obtain ⟨c, er, rfl, hA⟩ : ∃ (c : Ch) (er : Int), v5 = .tuple #[.agg c.cs, .int .i64 er] ∧ AcceptR v2 m c er := by
    obtain ⟨_, h⟩ := hv5
    exact h.1 rfl
  rw [← HV2.out] at hA
  obtain ⟨rfl, ho, hx, hh⟩ := wk_acc HM.out.2.2.1 HM.out.2.2.2.1 HM.out.2.2.2.2.1 HM.out.2.2.2.2.2.1 hA
  (try simp only [Act.put, List.getElem_toArray, List.getElem_cons_zero, List.getElem_cons_succ, List.setIfInBounds_toArray, List.set_cons_zero, List.set_cons_succ])
  (repeat (first | (refine linU_off rfl rfl (by rfl) ?_; (try simp only [Act.put, List.getElem_toArray, List.getElem_cons_zero, List.getElem_cons_succ, List.setIfInBounds_toArray, List.set_cons_zero, List.set_cons_succ])) | (refine linU_op (v := ?_) rfl rfl rfl (by rfl) (fun w9 hS9 => ?_) ?_; rotate_left; (focus (((try dsimp only at hS9); have z1 := CVq w9 hS9; have z2 := CMq w9 hS9; go_simp; (try go_bits)) <;> with_reducible rfl)); (try simp only [Act.put, List.getElem_toArray, List.getElem_cons_zero, List.getElem_cons_succ, List.setIfInBounds_toArray, List.set_cons_zero, List.set_cons_succ]))))
  refine linU_fre (v := ?_) rfl rfl (by rfl) (fun w9 => ?_) ?_; rotate_left; (focus (go_simp <;> with_reducible rfl))
  (try simp only [Act.put, List.getElem_toArray, List.getElem_cons_zero, List.getElem_cons_succ, List.setIfInBounds_toArray, List.set_cons_zero, List.set_cons_succ])
  refine linU_do rfl rfl (by rfl) (fun w9 hS9 _ _ => ⟨.pointer (some ⟨w9.heap.size, 0, none⟩), w9.alloc (.cells Ch.zero.cs 67), ?_, bel_trans hS9 (below_alloc w9 _), fun _ _ _ => trivial, fun d u _ q => q.later (below_alloc w9 _), fun e => (by cases e), fun _ => ⟨w9.heap.size, rfl, hS9.size, Blk.new w9 _ _⟩⟩) (fun v9 hv9 => ?_)
  · have hrun := (zero_of_info z_ch).1 w9
    simp [execOp, hrun, newVar, newRow, newObj, Value.cells, Result.andThen, go_sem]
    rfl
  obtain ⟨g9, rfl⟩ : ∃ g9, v9 = .pointer (some ⟨g9, 0, none⟩) := by
    obtain ⟨_, h⟩ := hv9
    obtain ⟨g, h1, _⟩ := h.2 rfl
    exact ⟨g, h1⟩
  (try simp only [Act.put, List.getElem_toArray, List.getElem_cons_zero, List.getElem_cons_succ, List.setIfInBounds_toArray, List.set_cons_zero, List.set_cons_succ])
  refine linU_nil (fun w9 hS9 hF9 => ?_)
  have f9 := hF9 (9, .pointer (some ⟨g9, 0, none⟩)) (by simp)
  obtain ⟨g9', e9, hB9, b9⟩ := f9.2 rfl
  injection e9 with e9
  injection e9 with e9
  injection e9 with e9 _ _
  subst e9
  have SC := st_ch (b2 := c) b9
  obtain ⟨WA, hWA⟩ : ∃ WA, w9.setRow g9 c.cs = WA := ⟨_, rfl⟩
  rw [hWA] at SC
  have bA : Blk WA g9 67 c.cs := by rw [← hWA]; exact b9.row _
  have k9A : Kept [g9] w9 WA := by rw [← hWA]; exact (Kept.refl _ _).setRow (.inl (by simp)) _
  have hb7A : Below W7.heap.size W7 WA := hS9.trans (k9A.below (fun i hi => by simp at hi; omega) hS9.size)
  have HA := Lib.hid (And.intro bA hb7A)
  clear hF9 f9 hS9 b9 k9A bA hb7A hv5 hv9 hA hne h00 do5
  refine linX_store (w' := WA) rfl rfl (by rfl) (by go_simp; done) trivial ?_
  (try simp only [Act.put, List.getElem_toArray, List.getElem_cons_zero, List.getElem_cons_succ, List.setIfInBounds_toArray, List.set_cons_zero, List.set_cons_succ])
  (repeat (first | (refine linX_off rfl rfl (by rfl) ?_; (try simp only [Act.put, List.getElem_toArray, List.getElem_cons_zero, List.getElem_cons_succ, List.setIfInBounds_toArray, List.set_cons_zero, List.set_cons_succ])) | (refine linX_op (v := ?_) rfl rfl (by rfl) (fun w9 hS9 => ?_) ?_; rotate_left; (focus (((try dsimp only at hS9); go_simp; (try go_bits)) <;> with_reducible rfl)); (try simp only [Act.put, List.getElem_toArray, List.getElem_cons_zero, List.getElem_cons_succ, List.setIfInBounds_toArray, List.set_cons_zero, List.set_cons_succ]))))
  refine linX_nil ?_
  have z2 := CMq WA HA.out.2
  have B0 := build_vw0
  have HC2 := accept_any Vw.zero m WA (by exact (EnOwn.nil _ _).into) (HM.out.1.later HA.out.2) HM.out.2.1
  go_wp2_with fail
  refine HC2.mono ?_
  rintro e WB ⟨d, er2, rfl, hD, hDo, hbB⟩
  obtain ⟨rfl, hdo⟩ := wk_none HM.out.2.2.1 HM.out.2.2.2.1 HM.out.2.2.2.2.2.1 hD
  have SD := st_ch (b2 := d) (Blk.new WB 67 Ch.zero.cs)
  rw [World.setRow_alloc_new] at SD
  obtain ⟨WC, hWC⟩ : ∃ WC, WB.alloc (.cells d.cs 67) = WC := ⟨_, rfl⟩
  rw [hWC] at SD
  have hbBC : Below WB.heap.size WB WC := by rw [← hWC]; exact below_alloc WB _
  have dC : Blk WC WB.heap.size 67 d.cs := by rw [← hWC]; exact Blk.new WB _ _
  have hbAC := bel_trans hbB hbBC
  have cC := HA.out.1.later hbAC
  have y0 : WC.cell? ⟨g9, 0, none⟩ = some (.bool true) := by rw [cC.cell 0, ← ho]; rfl
  have y1 : WC.cell? ⟨g9, 1, none⟩ = some (.int .u64 2) := by rw [cC.cell 1, show c.cs[1]? = some (.int .u64 c.ix) from rfl, hx]; rfl
  have y3 : WC.cell? ⟨g9, 3, none⟩ = some (.int .u64 3) := by rw [cC.cell 3, show c.cs[3]? = some (.int .u64 c.hv) from rfl, hh]; rfl
  have y4 : WC.cell? ⟨WB.heap.size, 0, none⟩ = some (.bool false) := by rw [dC.cell 0, ← hdo]; rfl
  obtain ⟨u0, u6⟩ := CKq WC (bel_trans HA.out.2 hbAC)
  have HE := Lib.hid (bel_trans (bel_trans HM.out.2.2.2.2.2.2.1 HA.out.2) hbAC)
  go_wp2_with (with_reducible refine wpList_alloc_z rfl 67 rfl Ch.zero.cs 4 z_ch ?_)
  go_ret
  exact ⟨rfl, HE.out⟩
end Go.Proofs.Ytkoenconjldojaa
namespace Go.Proofs.Ytkoenconjldojaa
open Go.RowKit Go.Shelf
set_option linter.unusedVariables false
set_option linter.unusedSimpArgs false
set_option maxRecDepth 100000
attribute [local go_sem 10000] gtU_rule leU_rule ltU_rule geU_rule adU_rule sbU_rule mxU_rule mnU_rule mnI_rule
attribute [local go_sem ↓] load_at_rule store_at_rule load_la_rule store_la_rule load_bs_rule store_bs_rule load_vw_rule store_vw_rule load_jo_rule store_jo_rule load_ms_rule store_ms_rule load_ch_rule store_ch_rule load_hd_rule store_hd_rule load_rb_rule store_rb_rule load_en_rule store_en_rule
attribute [local go_sem ↓] build_hd_rule build_rb_rule build_en_rule build_at_rule build_jo_rule upbuild_rule upapp_rule robuild_rule roapp_rule enbuild_rule enapp_rule build_vw_rule eq_at_rule eq_la_rule build_ch_rule build_ms_rule
/-- Two bases say the same. -/
def Bs.As (b d : Bs) : Prop := b.i = d.i ∧ b.e = d.e ∧ b.l = d.l ∧ b.R = d.R
/-- Two views say the same. -/
def Vw.As (v u : Vw) : Prop := v.v = u.v ∧ v.b.As u.b ∧ Same' v.L u.L
/-- Two changes say the same. -/
def Ch.As (c d : Ch) : Prop := c.ok = d.ok ∧ c.ix = d.ix ∧ c.hv = d.hv ∧ Same' c.L d.L
/-- Two messages say the same. -/
def Ms.As (m o : Ms) : Prop := (m.kd = o.kd ∧ m.fr = o.fr ∧ m.to = o.to ∧ m.ep = o.ep ∧ m.pi = o.pi ∧ m.pe = o.pe ∧ m.dn = o.dn ∧ m.ok = o.ok ∧ m.ix = o.ix ∧ m.st = o.st ∧ m.sq = o.sq ∧ m.er = o.er ∧ m.un = o.un) ∧ Same' m.L o.L ∧ m.b.As o.b
theorem dec_same {L M : List En} (h : Same' L M) : decide (Same' L M) = true := decide_eq_true h
set_option maxRecDepth 100000 in
set_option maxHeartbeats 1600000 in
theorem samebase_as (b d : Bs) (w : World) (h : b.As d) (hb : RoIn w 0 b.a b.n b.c b.R) (hd : RoIn w 0 d.a d.n d.c d.R) : Calls Try.prog 40 #[.agg b.cs, .agg d.cs] w fun e w' => e = .returned (.bool true) ∧ Below w.heap.size w w' := by
  obtain ⟨i, e, a, n, c, l, R⟩ := b
  obtain ⟨i2, e2, a2, n2, c2, l2, R2⟩ := d
  obtain ⟨rfl, rfl, rfl, rfl⟩ : i = i2 ∧ e = e2 ∧ l = l2 ∧ R = R2 := h
  obtain ⟨b0, hb0⟩ : ∃ b0, (Bs.mk i e a n c l R) = b0 := ⟨_, rfl⟩
  obtain ⟨d0, hd0⟩ : ∃ d0, (Bs.mk i e a2 n2 c2 l R) = d0 := ⟨_, rfl⟩
  rw [hb0, hd0]
  obtain ⟨W1, hW1⟩ : ∃ W1, w.alloc (.cells b0.cs 33) = W1 := ⟨_, rfl⟩
  have hb1 : Below w.heap.size w W1 := by rw [← hW1]; exact below_alloc w _
  have b1 : Blk W1 w.heap.size 33 b0.cs := by rw [← hW1]; exact Blk.new w _ _
  obtain ⟨W2, hW2⟩ : ∃ W2, W1.alloc (.cells d0.cs 33) = W2 := ⟨_, rfl⟩
  have hb12 : Below W1.heap.size W1 W2 := by rw [← hW2]; exact below_alloc W1 _
  have b2 : Blk W2 W1.heap.size 33 d0.cs := by rw [← hW2]; exact Blk.new W1 _ _
  have b3 : Blk W2 w.heap.size 33 b0.cs := b1.later hb12
  have hb02 := bel_trans hb1 hb12
  clear b1 hb1 hb12
  have q1 := bs_at b3
  have q2 := bs_at b2
  have q3 := bs_la b3
  have q4 := bs_la b2
  have q5 := bs_rb b3
  have q6 := bs_rb b2
  simp only [← hb0] at q1 q3 q5
  simp only [← hd0] at q2 q4 q6
  have mx : ∀ {a : Option Addr} {n c : Nat}, RoIn w 0 a n c R → n ≤ 9223372036854775807 := fun h => by have h3 := h.2.2.1; have h4 := h.2.2.2.1; unfold maxLen at h4; omega
  have HS := rorsame_any a a2 n c n2 c2 R R W2 hb.1 (mx hb) (hb.later hb02).2.1 hd.1 (mx hd) (hd.later hb02).2.1
  have QA : ∀ w, (eqSem 24 (.agg (acs (i : Int) e)) (.agg (acs (i : Int) e))).run Try.prog w = .ok true w := fun w => by rw [eqAt]; simp
  have QL : ∀ w, (eqSem 31 (.agg l.cs) (.agg l.cs)).run Try.prog w = .ok true w := fun w => by rw [eqLa]; simp
  have E3 : decide (R = R) = true := by simp
  rw [E3] at HS
  have HB := Lib.hid hb02
  clear hb hd b2 b3 hb02 mx hb0 hd0
  go_enter Try.func40, Try.ntmps40
  go_wp2_with fail
  refine HS.mono ?_
  rintro e9 W5 ⟨rfl, hb5⟩
  have HE := Lib.hid (bel_trans HB.out hb5)
  clear hb5
  go_wp2_with fail
  go_ret
  exact ⟨rfl, HE.out⟩
set_option maxRecDepth 100000 in
set_option maxHeartbeats 1600000 in
theorem same_as (v u : Vw) (w : World) (h : v.As u) (hv : v.In w 0) (hu : u.In w 0) : Calls Try.prog 18 #[.agg v.cs, .agg u.cs] w fun e w' => e = .returned (.bool true) ∧ Below w.heap.size w w' := by
  obtain ⟨h1, h2, h3⟩ := h
  obtain ⟨W1, hW1⟩ : ∃ W1, w.alloc (.cells v.cs 36) = W1 := ⟨_, rfl⟩
  have hb1 : Below w.heap.size w W1 := by rw [← hW1]; exact below_alloc w _
  have b1 : Blk W1 w.heap.size 36 v.cs := by rw [← hW1]; exact Blk.new w _ _
  obtain ⟨W2, hW2⟩ : ∃ W2, W1.alloc (.cells u.cs 36) = W2 := ⟨_, rfl⟩
  have hb12 : Below W1.heap.size W1 W2 := by rw [← hW2]; exact below_alloc W1 _
  have b2 : Blk W2 W1.heap.size 36 u.cs := by rw [← hW2]; exact Blk.new W1 _ _
  have b3 : Blk W2 w.heap.size 36 v.cs := b1.later hb12
  have hb02 := bel_trans hb1 hb12
  clear b1 hb1 hb12
  have q1 : W2.cell? ⟨w.heap.size, 0, none⟩ = some (.int .u64 v.v) := b3.cell 0
  have q2 : W2.cell? ⟨W1.heap.size, 0, none⟩ = some (.int .u64 u.v) := b2.cell 0
  rw [h1] at q1
  have q3 := vw_bs b3
  have q4 := vw_bs b2
  have HS := samebase_as v.b u.b W2 h2 (hv.1.later hb02) (hu.1.later hb02)
  have E1 : decide (u.v = u.v) = true := by simp
  have HB := Lib.hid (And.intro hb02 (And.intro b3 (And.intro b2 (And.intro h3 (And.intro hv.2 hu.2)))))
  clear hv hu b2 b3 hb02 h1 h2 h3
  go_enter Try.func18, Try.ntmps18
  go_wp2_with fail
  refine HS.mono ?_
  rintro e9 W5 ⟨rfl, hb5⟩
  have k1 : W5.cell? ⟨w.heap.size, 10, none⟩ = some (.slice v.a v.n v.c) := (HB.out.2.1.later hb5).cell 10
  have k2 : W5.cell? ⟨W1.heap.size, 10, none⟩ = some (.slice u.a u.n u.c) := (HB.out.2.2.1.later hb5).cell 10
  have k05 := bel_trans HB.out.1 hb5
  have HS2 := sameentries_any _ _ _ _ _ _ _ _ W5 (HB.out.2.2.2.2.1.later k05) (HB.out.2.2.2.2.2.later k05)
  rw [dec_same HB.out.2.2.2.1] at HS2
  have HC := Lib.hid k05
  clear k05 hb5
  go_wp2_with fail
  refine HS2.mono ?_
  rintro e9 W6 ⟨rfl, hb6⟩
  have HE := Lib.hid (bel_trans HC.out hb6)
  clear hb6
  go_wp2_with fail
  go_ret
  exact ⟨rfl, HE.out⟩
set_option maxRecDepth 100000 in
set_option maxHeartbeats 1600000 in
theorem samechange_as (c d : Ch) (w : World) (h : c.As d) (hc : EnIn w 0 c.a c.n c.c c.L) (hd : EnIn w 0 d.a d.n d.c d.L) : Calls Try.prog 22 #[.agg c.cs, .agg d.cs] w fun e w' => e = .returned (.bool true) ∧ Below w.heap.size w w' := by
  obtain ⟨h1, h2, h3, h4⟩ := h
  obtain ⟨W1, hW1⟩ : ∃ W1, w.alloc (.cells c.cs 67) = W1 := ⟨_, rfl⟩
  have hb1 : Below w.heap.size w W1 := by rw [← hW1]; exact below_alloc w _
  have b1 : Blk W1 w.heap.size 67 c.cs := by rw [← hW1]; exact Blk.new w _ _
  obtain ⟨W2, hW2⟩ : ∃ W2, W1.alloc (.cells d.cs 67) = W2 := ⟨_, rfl⟩
  have hb12 : Below W1.heap.size W1 W2 := by rw [← hW2]; exact below_alloc W1 _
  have b2 : Blk W2 W1.heap.size 67 d.cs := by rw [← hW2]; exact Blk.new W1 _ _
  have b3 : Blk W2 w.heap.size 67 c.cs := b1.later hb12
  have hb02 := bel_trans hb1 hb12
  clear b1 hb1 hb12
  have q0 : W2.cell? ⟨w.heap.size, 0, none⟩ = some (.bool c.ok) := b3.cell 0
  have q1 : W2.cell? ⟨w.heap.size, 1, none⟩ = some (.int .u64 (c.ix : Int)) := b3.cell 1
  have q2 : W2.cell? ⟨w.heap.size, 2, none⟩ = some (.slice c.a c.n c.c) := b3.cell 2
  have q3 : W2.cell? ⟨w.heap.size, 3, none⟩ = some (.int .u64 (c.hv : Int)) := b3.cell 3
  have p0 : W2.cell? ⟨W1.heap.size, 0, none⟩ = some (.bool d.ok) := b2.cell 0
  have p1 : W2.cell? ⟨W1.heap.size, 1, none⟩ = some (.int .u64 (d.ix : Int)) := b2.cell 1
  have p2 : W2.cell? ⟨W1.heap.size, 2, none⟩ = some (.slice d.a d.n d.c) := b2.cell 2
  have p3 : W2.cell? ⟨W1.heap.size, 3, none⟩ = some (.int .u64 (d.hv : Int)) := b2.cell 3
  rw [h1] at q0
  rw [h2] at q1
  rw [h3] at q3
  have HS2 := sameentries_any _ _ _ _ _ _ _ _ W2 (hc.later hb02) (hd.later hb02)
  rw [dec_same h4] at HS2
  have HB := Lib.hid hb02
  clear hc hd b2 b3 hb02 h1 h2 h3 h4
  go_enter Try.func22, Try.ntmps22
  go_wp2_with fail
  refine HS2.mono ?_
  rintro e9 W6 ⟨rfl, hb6⟩
  have HE := Lib.hid (bel_trans HB.out hb6)
  clear hb6
  go_wp2_with fail
  go_ret
  exact ⟨rfl, HE.out⟩
set_option maxRecDepth 100000 in
set_option maxHeartbeats 8000000 in
theorem samemsg_as (m o : Ms) (w : World) (h : m.As o) (hm : m.In w 0) (ho : o.In w 0) : Calls Try.prog 14 #[.agg m.cs, .agg o.cs] w fun e w' => e = .returned (.bool true) ∧ Below w.heap.size w w' := by
  obtain ⟨⟨hkd, hfr, hto, hep, hpi, hpe, hdn, hok, hix, hst, hsq, her, hun⟩, h2, h3⟩ := h
  obtain ⟨W1, hW1⟩ : ∃ W1, w.alloc (.cells m.cs 47) = W1 := ⟨_, rfl⟩
  have hb1 : Below w.heap.size w W1 := by rw [← hW1]; exact below_alloc w _
  have b1 : Blk W1 w.heap.size 47 m.cs := by rw [← hW1]; exact Blk.new w _ _
  obtain ⟨W2, hW2⟩ : ∃ W2, W1.alloc (.cells o.cs 47) = W2 := ⟨_, rfl⟩
  have hb12 : Below W1.heap.size W1 W2 := by rw [← hW2]; exact below_alloc W1 _
  have b2 : Blk W2 W1.heap.size 47 o.cs := by rw [← hW2]; exact Blk.new W1 _ _
  have b3 : Blk W2 w.heap.size 47 m.cs := b1.later hb12
  have hb02 := bel_trans hb1 hb12
  clear b1 hb1 hb12
  have q0 : W2.cell? ⟨w.heap.size, 0, none⟩ = some (.int .i64 m.kd) := b3.cell 0
  have p0 : W2.cell? ⟨W1.heap.size, 0, none⟩ = some (.int .i64 o.kd) := b2.cell 0
  rw [hkd] at q0
  have q1 : W2.cell? ⟨w.heap.size, 1, none⟩ = some (.int .i64 m.fr) := b3.cell 1
  have p1 : W2.cell? ⟨W1.heap.size, 1, none⟩ = some (.int .i64 o.fr) := b2.cell 1
  rw [hfr] at q1
  have q2 : W2.cell? ⟨w.heap.size, 2, none⟩ = some (.int .i64 m.to) := b3.cell 2
  have p2 : W2.cell? ⟨W1.heap.size, 2, none⟩ = some (.int .i64 o.to) := b2.cell 2
  rw [hto] at q2
  have q3 : W2.cell? ⟨w.heap.size, 3, none⟩ = some (.int .u64 m.ep) := b3.cell 3
  have p3 : W2.cell? ⟨W1.heap.size, 3, none⟩ = some (.int .u64 o.ep) := b2.cell 3
  rw [hep] at q3
  have q6 : W2.cell? ⟨w.heap.size, 6, none⟩ = some (.slice m.a m.n m.c) := b3.cell 6
  have p6 : W2.cell? ⟨W1.heap.size, 6, none⟩ = some (.slice o.a o.n o.c) := b2.cell 6
  have q7 : W2.cell? ⟨w.heap.size, 7, none⟩ = some (.int .u64 m.dn) := b3.cell 7
  have p7 : W2.cell? ⟨W1.heap.size, 7, none⟩ = some (.int .u64 o.dn) := b2.cell 7
  rw [hdn] at q7
  have q8 : W2.cell? ⟨w.heap.size, 8, none⟩ = some (.bool m.ok) := b3.cell 8
  have p8 : W2.cell? ⟨W1.heap.size, 8, none⟩ = some (.bool o.ok) := b2.cell 8
  rw [hok] at q8
  have q9 : W2.cell? ⟨w.heap.size, 9, none⟩ = some (.int .u64 (m.ix : Int)) := b3.cell 9
  have p9 : W2.cell? ⟨W1.heap.size, 9, none⟩ = some (.int .u64 (o.ix : Int)) := b2.cell 9
  rw [hix] at q9
  have q10 : W2.cell? ⟨w.heap.size, 10, none⟩ = some (.int .u64 m.st) := b3.cell 10
  have p10 : W2.cell? ⟨W1.heap.size, 10, none⟩ = some (.int .u64 o.st) := b2.cell 10
  rw [hst] at q10
  have q20 : W2.cell? ⟨w.heap.size, 20, none⟩ = some (.int .u32 m.sq) := b3.cell 20
  have p20 : W2.cell? ⟨W1.heap.size, 20, none⟩ = some (.int .u32 o.sq) := b2.cell 20
  rw [hsq] at q20
  have q21 : W2.cell? ⟨w.heap.size, 21, none⟩ = some (.slice m.ua m.un m.uc) := b3.cell 21
  have p21 : W2.cell? ⟨W1.heap.size, 21, none⟩ = some (.slice o.ua o.un o.uc) := b2.cell 21
  rw [hun] at q21
  have q22 : W2.cell? ⟨w.heap.size, 22, none⟩ = some (.int .i64 m.er) := b3.cell 22
  have p22 : W2.cell? ⟨W1.heap.size, 22, none⟩ = some (.int .i64 o.er) := b2.cell 22
  rw [her] at q22
  have qa := ms_at b3
  have pa := ms_at b2
  rw [hpi, hpe] at qa
  have QA : ∀ w, (eqSem 24 (.agg (acs (o.pi : Int) o.pe)) (.agg (acs (o.pi : Int) o.pe))).run Try.prog w = .ok true w := fun w => by rw [eqAt]; simp
  have HS := sameentries_any _ _ _ _ _ _ _ _ W2 (hm.1.later hb02) (ho.1.later hb02)
  rw [dec_same h2] at HS
  have HB := Lib.hid (And.intro hb02 (And.intro b3 (And.intro b2 (And.intro h3 (And.intro hm.2 ho.2)))))
  clear hm ho b2 b3 hb02 h2 h3 hkd hfr hto hep hpi hpe hdn hok hix hst hsq her hun
  go_enter Try.func14, Try.ntmps14
  go_wp2_with fail
  refine HS.mono ?_
  rintro e9 W5 ⟨rfl, hb5⟩
  have k1 := ms_bs (HB.out.2.1.later hb5)
  have k2 := ms_bs (HB.out.2.2.1.later hb5)
  have k05 := bel_trans HB.out.1 hb5
  have HS2 := samebase_as _ _ W5 HB.out.2.2.2.1 (HB.out.2.2.2.2.1.later k05) (HB.out.2.2.2.2.2.later k05)
  have HC := Lib.hid k05
  clear k05 hb5
  go_wp2_with fail
  refine HS2.mono ?_
  rintro e9 W6 ⟨rfl, hb6⟩
  have HE := Lib.hid (bel_trans HC.out hb6)
  clear hb6
  go_wp2_with fail
  go_ret
  exact ⟨rfl, HE.out⟩
end Go.Proofs.Ytkoenconjldojaa
