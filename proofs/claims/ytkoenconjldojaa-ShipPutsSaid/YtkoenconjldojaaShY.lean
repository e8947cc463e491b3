/-
  Two copies of a view, or of a message, are laid into two variables. Nothing here is a statement of the document.
-/
import Derived.Test.YtkoenconjldojaaShR
import Derived.Test.YtkoenconjldojaaLinU
import Derived.Test.YtkoenconjldojaaShPp
namespace Go.Proofs.Ytkoenconjldojaa
open Go.RowKit Go.Shelf
set_option linter.unusedVariables false
set_option linter.unusedSimpArgs false
set_option maxRecDepth 100000
attribute [local go_sem 10000] gtU_rule leU_rule ltU_rule geU_rule adU_rule sbU_rule mxU_rule mnU_rule mnI_rule
attribute [local go_sem ↓] load_at_rule store_at_rule load_la_rule store_la_rule load_bs_rule store_bs_rule load_vw_rule store_vw_rule load_jo_rule store_jo_rule load_ms_rule store_ms_rule load_ch_rule store_ch_rule load_hd_rule store_hd_rule load_rb_rule store_rb_rule load_en_rule store_en_rule
attribute [local go_sem ↓] build_hd_rule build_rb_rule build_en_rule build_at_rule build_jo_rule upbuild_rule upapp_rule robuild_rule roapp_rule enbuild_rule enapp_rule build_vw_rule eq_at_rule eq_la_rule build_ch_rule build_ms_rule
theorem enbuild3_run (x y z : En) (w : World) : (enbuildSem 3 #[(0, .agg x.cs), (1, .agg y.cs), (2, .agg z.cs)]).run Try.prog w = .ok (.slice (some ⟨w.heap.size, 0, none⟩) 3 3) (w.alloc (.cells (x.cs ++ y.cs ++ z.cs) 92)) := by kernel_rfl
theorem en_at3 {w : World} {g : Nat} {x y z : En} (h : Blk w g 92 (x.cs ++ y.cs ++ z.cs)) : EnAt w (some ⟨g, 0, none⟩) [x, y, z] := by
  refine .inr ⟨g, 0, rfl, enrow_cells _ _ _ 0 h.lt fun k u hk => ?_⟩
  rw [Nat.zero_add, h.cell, ← Array.getElem?_toList]
  simp only [encs_cons, encs_nil, List.append_nil] at hk
  simpa using hk
def wkV (a : Option Addr) (n c : Nat) (L : List En) : Vw := { Vw.zero with v := 2, a := a, n := n, c := c, L := L }
theorem build_wk (a : Option Addr) (n c : Nat) (L : List En) (w : World) : (buildSem 36 #[(0, .int .u64 2), (2, .slice a n c)]).run Try.prog w = .ok (.agg (wkV a n c L).cs) w := by kernel_rfl
theorem build_vw0 (w : World) : (buildSem 36 #[]).run Try.prog w = .ok (.agg Vw.zero.cs) w := by kernel_rfl
theorem same_lim {L M : List En} {w : World} {B k : Nat} (hs : Same' L M) (hL : ∀ x ∈ L, UpIn w B x.a x.n x.c x.U) (hM : ∀ y ∈ M, y.U.length ≤ k) : ∀ x ∈ L, x.n ≤ k := by
  intro x hx
  have h1 : con x ∈ M.map con := by
    have h9 : L.map con = M.map con := hs
    rw [← h9]
    exact List.mem_map_of_mem hx
  obtain ⟨y, hy, he⟩ := List.mem_map.1 h1
  have h2 := (con_eq.1 he).2.2.2
  have := (hL x hx).1
  have h3 := hM y hy
  rw [h2] at h3
  omega
theorem wk_offer {a : Option Addr} {c : Nat} {m : Ms} {er : Int} (h : OfferR (wkV a 3 c [oneE 1 1, oneE 1 2, oneE 2 3]) 1 m er) : er = 0 ∧ m.kd = 1 ∧ m.pi = 1 ∧ m.pe = 1 ∧ m.n = 2 ∧ ∃ L, m.L = L ∧ Same' L [oneE 1 2, oneE 2 3] := by
  rcases h with ⟨h, _⟩ | ⟨_, he, ho⟩
  · exact absurd h (by show ¬ true = false; decide)
  · rcases ho with ⟨h1, _⟩ | ⟨_, a, c, L, rfl, hs⟩
    · exact absurd h1 (Nat.not_lt_zero _)
    · exact ⟨he, rfl, rfl, rfl, rfl, L, rfl, hs⟩
theorem wk_acc {a : Option Addr} {c : Nat} {m : Ms} {ch : Ch} {f : Int} (k : m.kd = 1) (hi : m.pi = 1) (he : m.pe = 1) (hn : m.n = 2) (h : AcceptR (wkV a 1 c [oneE 1 1]) m ch f) : f = 0 ∧ ch.ok = true ∧ ch.ix = 2 ∧ ch.hv = 3 := by
  have hof : m.off = true := by unfold Ms.off; rw [k, hi, hn]; rfl
  rcases h with ⟨h, _⟩ | ⟨_, h, _⟩ | ⟨_, _, hf, h⟩
  · exact absurd h (by show ¬ true = false; decide)
  · rw [hof] at h; cases h
  · rcases h with ⟨h, _⟩ | ⟨_, h, _⟩ | ⟨_, _, hok, hhv, h⟩
    · rw [hi] at h; exact absurd h (by show ¬ (0 + 1 < 1); decide)
    · rw [hi, he] at h
      exact absurd (show (placeR (wkV a 1 c [oneE 1 1]) 1).2.1 = 1 from rfl) h.2
    · have ht : there (wkV a 1 c [oneE 1 1]) m ((wkV a 1 c [oneE 1 1]).b.i - m.pi + 0) = false := by
        unfold there
        rw [hi]
        exact decide_eq_false (fun h9 => absurd h9.1 (by show ¬ (1 + (0 - 1 + 0) + 1 ≤ 0 + 1); decide))
      refine ⟨hf, hok, ?_, by rw [hhv, hi, hn]⟩
      rw [hi, hn] at h
      rw [hi] at ht
      rcases h with ⟨_, _, _, h⟩ | ⟨k, _, h, _, hx, _⟩
      · have := h 0 (by show 0 < 2 - (0 - 1); decide)
        rw [ht] at this; cases this
      · cases k with
        | zero => rw [hx]; rfl
        | succ k =>
          have := h 0 (Nat.succ_pos _)
          rw [ht] at this; cases this
theorem wk_none {m : Ms} {ch : Ch} {f : Int} (k : m.kd = 1) (hi : m.pi = 1) (hn : m.n = 2) (h : AcceptR Vw.zero m ch f) : f = 0 ∧ ch.ok = false := by
  have hof : m.off = true := by unfold Ms.off; rw [k, hi, hn]; rfl
  rcases h with ⟨h, _⟩ | ⟨_, h, _⟩ | ⟨_, _, hf, h⟩
  · exact absurd h (by show ¬ true = false; decide)
  · rw [hof] at h; cases h
  · rcases h with ⟨_, h⟩ | ⟨h, _⟩ | ⟨h, _⟩
    · rw [h]; exact ⟨hf, rfl⟩
    · exact absurd (show Vw.zero.z < m.pi by rw [hi]; decide) h
    · exact absurd (show Vw.zero.z < m.pi by rw [hi]; decide) h
def wkF (v : Vw) (m : Ms) (B : Nat) (i : Nat) (u : Value) (w : World) : Prop :=
  (i = 5 → ∃ (c : Ch) (er : Int), u = .tuple #[.agg c.cs, .int .i64 er] ∧ AcceptR v m c er) ∧ (i = 9 → ∃ g, u = .pointer (some ⟨g, 0, none⟩) ∧ B ≤ g ∧ Blk w g 67 Ch.zero.cs)
theorem wkF.later {v : Vw} {m : Ms} {B i : Nat} {u : Value} {w w' : World} (h : wkF v m B i u w) (k : Below w.heap.size w w') : wkF v m B i u w' :=
  ⟨h.1, fun e => by obtain ⟨g, h1, h2, h3⟩ := h.2 e; exact ⟨g, h1, h2, h3.later k⟩⟩
set_option maxHeartbeats 4000000 in
theorem wakes_any (w : World) : Calls Try.prog 8 #[] w fun e w' => e = .returned (.bool true) ∧ Below w.heap.size w w' := by
  go_enter Try.func8, Try.ntmps8
  go_wp2_with fail
  refine (one_any 1 1 w).mono ?_
  rintro e W1 ⟨rfl, hb1⟩
  go_wp2_with fail
  refine (one_any 1 2 W1).mono ?_
  rintro e W2 ⟨rfl, hb2⟩
  go_wp2_with fail
  refine (one_any 2 3 W2).mono ?_
  rintro e W3 ⟨rfl, hb3⟩
  have hb03 : Below w.heap.size w W3 := bel_trans (bel_trans hb1 hb2) hb3
  clear hb1 hb2 hb3
  have EB := enbuild3_run (oneE 1 1) (oneE 1 2) (oneE 2 3) W3
  obtain ⟨W4, hW4⟩ : ∃ W4, W3.alloc (.cells ((oneE 1 1).cs ++ (oneE 1 2).cs ++ (oneE 2 3).cs) 92) = W4 := ⟨_, rfl⟩
  rw [hW4] at EB
  have hb34 : Below W3.heap.size W3 W4 := by rw [← hW4]; exact below_alloc W3 _
  have e4 : EnAt W4 (some ⟨W3.heap.size, 0, none⟩) [oneE 1 1, oneE 1 2, oneE 2 3] := by rw [← hW4]; exact en_at3 (Blk.new W3 _ _)
  obtain ⟨g3, hg3⟩ : ∃ g3, W3.heap.size = g3 := ⟨_, rfl⟩
  rw [hg3] at EB e4
  have BV := build_wk (some ⟨g3, 0, none⟩) 3 3 [oneE 1 1, oneE 1 2, oneE 2 3]
  have hU0 : ∀ W : World, ∀ x : En, x ∈ [oneE 1 1, oneE 1 2, oneE 2 3] → UpIn W 0 x.a x.n x.c x.U := by
    intro W x hx
    simp only [List.mem_cons, List.mem_nil_iff, or_false] at hx
    rcases hx with rfl | rfl | rfl <;> exact ⟨rfl, .inl rfl, Nat.le_refl _, by decide, fun _ => rfl, fun h => absurd rfl h⟩
  have hEn : EnIn W4 0 (some ⟨g3, 0, none⟩) 3 3 [oneE 1 1, oneE 1 2, oneE 2 3] := ⟨rfl, e4, Nat.le_refl _, by decide, fun h => (by cases h), fun _ _ _ => Nat.zero_le _, hU0 W4⟩
  have hEn1 : EnIn W4 0 (some ⟨g3, 0, none⟩) 1 3 [oneE 1 1] := hEn.take 1 (by decide)
  obtain ⟨v1, hv1⟩ : ∃ v1, wkV (some ⟨g3, 0, none⟩) 3 3 [oneE 1 1, oneE 1 2, oneE 2 3] = v1 := ⟨_, rfl⟩
  rw [hv1] at BV
  have SV := st_vw (b2 := v1) (Blk.new W4 36 Vw.zero.cs)
  rw [World.setRow_alloc_new] at SV
  obtain ⟨W5, hW5⟩ : ∃ W5, W4.alloc (.cells v1.cs 36) = W5 := ⟨_, rfl⟩
  rw [hW5] at SV
  have hb45 : Below W4.heap.size W4 W5 := by rw [← hW5]; exact below_alloc W4 _
  have v5 : Blk W5 W4.heap.size 36 v1.cs := by rw [← hW5]; exact Blk.new W4 _ _
  have LV := ld_vw v5
  have hb05 := bel_trans (bel_trans hb03 hb34) hb45
  have hIn : v1.In W5 0 := by rw [← hv1]; exact ⟨RoIn.nil _ _, hEn.later hb45⟩
  have HO : Calls Try.prog 12 #[.agg v1.cs, .int .u64 1] W5 fun e w' => ∃ (o : Ms) (er : Int), e = .returned (.tuple #[.agg o.cs, .int .i64 er]) ∧ OfferR v1 1 o er ∧ o.Own w' W5.heap.size ∧ Below W5.heap.size W5 w' := offer_any v1 1 W5 hIn (by rw [← hv1]; intro x hx; have := (hU0 W5 x hx).1; simp only [wkV, List.mem_cons, List.mem_nil_iff, or_false] at hx; rcases hx with rfl | rfl | rfl <;> exact Nat.zero_le _) (by rw [← hv1]; exact Nat.zero_le _) (by rw [← hv1]; show 3 ≤ 40; decide)
  have H5 := Lib.hid (And.intro hb05 (And.intro v5 (And.intro (hEn1.later hb45) hv1)))
  have c5 : W5.cell? ⟨W4.heap.size, 10, none⟩ = some (.slice v1.a v1.n v1.c) := v5.cell 10
  clear hb03 hb34 e4 hU0 hEn hEn1 hb45 hb05 hIn v5 hv1 c5
  go_wp2_with (with_reducible refine wpList_alloc_z rfl 36 rfl Vw.zero.cs 11 z_vw ?_)
  refine HO.mono ?_
  rintro e W6 ⟨m, er, rfl, hR, hOwn, hb56⟩
  rw [← H5.out.2.2.2] at hR
  obtain ⟨rfl, hk, hpi, hpe, hn, L, hL, hsame⟩ := wk_offer hR
  have hMi : EnIn W6 0 m.a m.n m.c m.L := hOwn.1.into.less (Nat.zero_le _)
  have hMu : ∀ x ∈ m.L, x.n ≤ 1000 := same_lim (k := 1000) (show Same' m.L [oneE 1 2, oneE 2 3] by rw [hL]; exact hsame) hMi.2.2.2.2.2.2 (by intro y hy; simp only [List.mem_cons, List.mem_nil_iff, or_false] at hy; rcases hy with rfl | rfl <;> exact Nat.zero_le _)
  have SM := st_ms (b2 := m) (Blk.new W6 47 Ms.zero.cs)
  rw [World.setRow_alloc_new] at SM
  obtain ⟨W7, hW7⟩ : ∃ W7, W6.alloc (.cells m.cs 47) = W7 := ⟨_, rfl⟩
  rw [hW7] at SM
  have hb67 : Below W6.heap.size W6 W7 := by rw [← hW7]; exact below_alloc W6 _
  have m7 : Blk W7 W6.heap.size 47 m.cs := by rw [← hW7]; exact Blk.new W6 _ _
  have hb57 := bel_trans hb56 hb67
  have HV1 := (H5.out.2.1.later hb57)
  have hW : v1.a = some ⟨g3, 0, none⟩ ∧ v1.n = 3 ∧ v1.c = 3 := by rw [← H5.out.2.2.2]; exact ⟨rfl, rfl, rfl⟩
  have q10 : W7.cell? ⟨W4.heap.size, 10, none⟩ = some (.slice (some ⟨g3, 0, none⟩) 3 3) := by rw [HV1.cell 10]; show some (Value.slice v1.a v1.n v1.c) = _; rw [hW.1, hW.2.1, hW.2.2]
  have CVq : ∀ w', Below W7.heap.size W7 w' → w'.cell? ⟨W4.heap.size, 10, none⟩ = some (.slice (some ⟨g3, 0, none⟩) 3 3) := fun w' k => by
    rw [(HV1.later k).cell 10]; show some (Value.slice v1.a v1.n v1.c) = _; rw [hW.1, hW.2.1, hW.2.2]
  have CMq : ∀ w', Below W7.heap.size W7 w' → (loadSem 47 (.pointer (some ⟨W6.heap.size, 0, none⟩))).run Try.prog w' = .ok (.agg m.cs) w' := fun w' k => ld_ms (m7.later k)
  have CKq : ∀ w', Below W7.heap.size W7 w' → w'.cell? ⟨W6.heap.size, 0, none⟩ = some (.int .i64 1) ∧ w'.cell? ⟨W6.heap.size, 6, none⟩ = some (.slice m.a 2 m.c) := fun w' k => by
    have z := ms_cells (m7.later k)
    have z1 := z.1
    have z2 := z.2.2.2.1
    rw [hk] at z1
    rw [hn] at z2
    exact ⟨z1, z2⟩
  have HM := Lib.hid (And.intro (hMi.later hb67) (And.intro hMu (And.intro hk (And.intro hpi (And.intro hpe (And.intro hn (And.intro (bel_trans H5.out.1 hb57) (H5.out.2.2.1.later hb57))))))))
  obtain ⟨v2, hv2⟩ : ∃ v2, wkV (some ⟨g3, 0, none⟩) 1 3 [oneE 1 1] = v2 := ⟨_, rfl⟩
  have BV2 := build_wk (some ⟨g3, 0, none⟩) 1 3 [oneE 1 1]
  rw [hv2] at BV2
  have HV2 := Lib.hid hv2
  have do5 : ∀ w', Below W7.heap.size W7 w' → Calls Try.prog 20 #[.agg v2.cs, .agg m.cs] w' fun e w2 => ∃ v, e = .returned v ∧ Below W7.heap.size W7 w2 ∧ (∀ d u, d ≠ 5 → wkF v2 m W7.heap.size d u w' → wkF v2 m W7.heap.size d u w2) ∧ wkF v2 m W7.heap.size 5 v w2 := fun w' k => by
    refine (accept_any v2 m w' (by rw [← HV2.out]; exact HM.out.2.2.2.2.2.2.2.later k) (HM.out.1.later k) HM.out.2.1).mono ?_
    rintro e W4 ⟨c, er, rfl, hA, hO, hb4⟩
    exact ⟨_, rfl, bel_trans k hb4, fun d u _ q => q.later hb4, fun _ => ⟨c, er, rfl, hA⟩, fun e => by cases e⟩
  have h00 : Below W7.heap.size W7 W7.drew := bel_drew (Below.refl _ _)
  have hne : ∀ i, [5, 9].contains i = true → ∃ v w, wkF v2 m W7.heap.size i v w := by
    intro i hi
    have hi2 : i = 5 ∨ i = 9 := by simpa using hi
    rcases hi2 with rfl | rfl
    · obtain ⟨e, w', fr, ⟨v, _, _, _, h5⟩, _⟩ := do5 W7.drew h00 []; exact ⟨v, w', h5⟩
    · exact ⟨.pointer (some ⟨W7.heap.size, 0, none⟩), W7.alloc (.cells Ch.zero.cs 67), ⟨fun e => (by cases e), fun _ => ⟨W7.heap.size, rfl, Nat.le_refl _, Blk.new W7 _ _⟩⟩⟩
  clear hR hk hpi hpe hn hL hsame hMi hMu hOwn hb56 hb67 m7 hb57 HV1 hW hv2 q10 HO BV LV
  go_upto_region 3 with (with_reducible refine wpList_alloc_z rfl 47 rfl Ms.zero.cs 23 z_ms ?_)
  refine wp_region_linU (fun w' => Below W7.heap.size W7 w') (fun _ _ => True) (wkF v2 m W7.heap.size) [5, 9] [10] [8] [0, 1, 2, 3, 4, 5, 6, 7, 8, 9] [10, 11] (by kernel_rfl) (by kernel_rfl) hne h00 (fun _ => trivial) ?_
  (repeat (first | (refine linU_off rfl rfl (by rfl) ?_; (try simp only [Act.put, List.getElem_toArray, List.getElem_cons_zero, List.getElem_cons_succ, List.setIfInBounds_toArray, List.set_cons_zero, List.set_cons_succ])) | (refine linU_op (v := ?_) rfl rfl rfl (by rfl) (fun w9 hS9 => ?_) ?_; rotate_left; (focus (((try dsimp only at hS9); have z1 := CVq w9 hS9; have z2 := CMq w9 hS9; go_simp; (try go_bits)) <;> with_reducible rfl)); (try simp only [Act.put, List.getElem_toArray, List.getElem_cons_zero, List.getElem_cons_succ, List.setIfInBounds_toArray, List.set_cons_zero, List.set_cons_succ]))))
  refine linU_call (f := 20) (args := #[.agg v2.cs, .agg m.cs]) rfl rfl (by rfl) rfl rfl (enters_of Try.func20 (by kernel_rfl) rfl) (by simp [Act.eval]) (fun w9 hS9 _ _ => (do5 w9 hS9).mono (fun e w' ⟨v, q1, q2, q3, q4⟩ => ⟨v, q1, q2, fun _ _ _ => trivial, q3, q4⟩)) (fun v5 hv5 => ?_)
  obtain ⟨c, er, rfl, hA⟩ : ∃ (c : Ch) (er : Int), v5 = .tuple #[.agg c.cs, .int .i64 er] ∧ AcceptR v2 m c er := by
    obtain ⟨_, h⟩ := hv5
    exact h.1 rfl
  rw [← HV2.out] at hA
  obtain ⟨rfl, ho, hx, hh⟩ := wk_acc HM.out.2.2.1 HM.out.2.2.2.1 HM.out.2.2.2.2.1 HM.out.2.2.2.2.2.1 hA
  (try simp only [Act.put, List.getElem_toArray, List.getElem_cons_zero, List.getElem_cons_succ, List.setIfInBounds_toArray, List.set_cons_zero, List.set_cons_succ])
  (repeat (first | (refine linU_off rfl rfl (by rfl) ?_; (try simp only [Act.put, List.getElem_toArray, List.getElem_cons_zero, List.getElem_cons_succ, List.setIfInBounds_toArray, List.set_cons_zero, List.set_cons_succ])) | (refine linU_op (v := ?_) rfl rfl rfl (by rfl) (fun w9 hS9 => ?_) ?_; rotate_left; (focus (((try dsimp only at hS9); have z1 := CVq w9 hS9; have z2 := CMq w9 hS9; go_simp; (try go_bits)) <;> with_reducible rfl)); (try simp only [Act.put, List.getElem_toArray, List.getElem_cons_zero, List.getElem_cons_succ, List.setIfInBounds_toArray, List.set_cons_zero, List.set_cons_succ]))))
  refine linU_fre (v := ?_) rfl rfl (by rfl) (fun w9 => ?_) ?_; rotate_left; (focus (go_simp <;> with_reducible rfl))
  (try simp only [Act.put, List.getElem_toArray, List.getElem_cons_zero, List.getElem_cons_succ, List.setIfInBounds_toArray, List.set_cons_zero, List.set_cons_succ])
  refine linU_do rfl rfl (by rfl) (fun w9 hS9 _ _ => ⟨.pointer (some ⟨w9.heap.size, 0, none⟩), w9.alloc (.cells Ch.zero.cs 67), ?_, bel_trans hS9 (below_alloc w9 _), fun _ _ _ => trivial, fun d u _ q => q.later (below_alloc w9 _), fun e => (by cases e), fun _ => ⟨w9.heap.size, rfl, hS9.size, Blk.new w9 _ _⟩⟩) (fun v9 hv9 => ?_)
  · have hrun := (zero_of_info z_ch).1 w9
    simp [execOp, hrun, newVar, newRow, newObj, Value.cells, Result.andThen, go_sem]
    rfl
  obtain ⟨g9, rfl⟩ : ∃ g9, v9 = .pointer (some ⟨g9, 0, none⟩) := by
    obtain ⟨_, h⟩ := hv9
    obtain ⟨g, h1, _⟩ := h.2 rfl
    exact ⟨g, h1⟩
  (try simp only [Act.put, List.getElem_toArray, List.getElem_cons_zero, List.getElem_cons_succ, List.setIfInBounds_toArray, List.set_cons_zero, List.set_cons_succ])
  refine linU_nil (fun w9 hS9 hF9 => ?_)
  have f9 := hF9 (9, .pointer (some ⟨g9, 0, none⟩)) (by simp)
  obtain ⟨g9', e9, hB9, b9⟩ := f9.2 rfl
  injection e9 with e9
  injection e9 with e9
  injection e9 with e9 _ _
  subst e9
  have SC := st_ch (b2 := c) b9
  obtain ⟨WA, hWA⟩ : ∃ WA, w9.setRow g9 c.cs = WA := ⟨_, rfl⟩
  rw [hWA] at SC
  have bA : Blk WA g9 67 c.cs := by rw [← hWA]; exact b9.row _
  have k9A : Kept [g9] w9 WA := by rw [← hWA]; exact (Kept.refl _ _).setRow (.inl (by simp)) _
  have hb7A : Below W7.heap.size W7 WA := hS9.trans (k9A.below (fun i hi => by simp at hi; omega) hS9.size)
  have HA := Lib.hid (And.intro bA hb7A)
  clear hF9 f9 hS9 b9 k9A bA hb7A hv5 hv9 hA hne h00 do5
  refine linX_store (w' := WA) rfl rfl (by rfl) (by go_simp; done) trivial ?_
  (try simp only [Act.put, List.getElem_toArray, List.getElem_cons_zero, List.getElem_cons_succ, List.setIfInBounds_toArray, List.set_cons_zero, List.set_cons_succ])
  (repeat (first | (refine linX_off rfl rfl (by rfl) ?_; (try simp only [Act.put, List.getElem_toArray, List.getElem_cons_zero, List.getElem_cons_succ, List.setIfInBounds_toArray, List.set_cons_zero, List.set_cons_succ])) | (refine linX_op (v := ?_) rfl rfl (by rfl) (fun w9 hS9 => ?_) ?_; rotate_left; (focus (((try dsimp only at hS9); go_simp; (try go_bits)) <;> with_reducible rfl)); (try simp only [Act.put, List.getElem_toArray, List.getElem_cons_zero, List.getElem_cons_succ, List.setIfInBounds_toArray, List.set_cons_zero, List.set_cons_succ]))))
  refine linX_nil ?_
  have z2 := CMq WA HA.out.2
  have B0 := build_vw0
  have HC2 := accept_any Vw.zero m WA (by exact (EnOwn.nil _ _).into) (HM.out.1.later HA.out.2) HM.out.2.1
  go_wp2_with fail
  refine HC2.mono ?_
  rintro e WB ⟨d, er2, rfl, hD, hDo, hbB⟩
  obtain ⟨rfl, hdo⟩ := wk_none HM.out.2.2.1 HM.out.2.2.2.1 HM.out.2.2.2.2.2.1 hD
  have SD := st_ch (b2 := d) (Blk.new WB 67 Ch.zero.cs)
  rw [World.setRow_alloc_new] at SD
  obtain ⟨WC, hWC⟩ : ∃ WC, WB.alloc (.cells d.cs 67) = WC := ⟨_, rfl⟩
  rw [hWC] at SD
  have hbBC : Below WB.heap.size WB WC := by rw [← hWC]; exact below_alloc WB _
  have dC : Blk WC WB.heap.size 67 d.cs := by rw [← hWC]; exact Blk.new WB _ _
  have hbAC := bel_trans hbB hbBC
  have cC := HA.out.1.later hbAC
  have y0 : WC.cell? ⟨g9, 0, none⟩ = some (.bool true) := by rw [cC.cell 0, ← ho]; rfl
  have y1 : WC.cell? ⟨g9, 1, none⟩ = some (.int .u64 2) := by rw [cC.cell 1, show c.cs[1]? = some (.int .u64 c.ix) from rfl, hx]; rfl
  have y3 : WC.cell? ⟨g9, 3, none⟩ = some (.int .u64 3) := by rw [cC.cell 3, show c.cs[3]? = some (.int .u64 c.hv) from rfl, hh]; rfl
  have y4 : WC.cell? ⟨WB.heap.size, 0, none⟩ = some (.bool false) := by rw [dC.cell 0, ← hdo]; rfl
  obtain ⟨u0, u6⟩ := CKq WC (bel_trans HA.out.2 hbAC)
  have HE := Lib.hid (bel_trans (bel_trans HM.out.2.2.2.2.2.2.1 HA.out.2) hbAC)
  go_wp2_with (with_reducible refine wpList_alloc_z rfl 67 rfl Ch.zero.cs 4 z_ch ?_)
  go_ret
  exact ⟨rfl, HE.out⟩
end Go.Proofs.Ytkoenconjldojaa
namespace Go.Proofs.Ytkoenconjldojaa
open Go.RowKit Go.Shelf
set_option linter.unusedVariables false
set_option linter.unusedSimpArgs false
set_option maxRecDepth 100000
theorem EnOwn.turn2 {X Y : World} {B : Nat} {v : Value} {L : List En} (h : EnOwn X B v L) (k : ∀ g t cs, t = 92 ∨ t = 106 → Blk X g t cs → Blk Y g t cs) : EnOwn Y B v L := by
  refine ⟨⟨h.1.1, ?_⟩, fun x hx => ⟨(h.2 x hx).1, ?_⟩⟩
  · rcases h.1.2 with h | ⟨g, cap, cur, h1, h2, h3, h4⟩
    · exact .inl h
    · exact .inr ⟨g, cap, cur, h1, h2, k g _ _ (.inl rfl) h3, h4⟩
  · rcases (h.2 x hx).2 with h | ⟨g, cap, cur, h1, h2, h3, h4⟩
    · exact .inl h
    · exact .inr ⟨g, cap, cur, h1, h2, k g _ _ (.inr rfl) h3, h4⟩
theorem ro_byte (r : Ro) : ∃ n : Nat, r.cs[1]? = some (byc n) := by
  have h16 := r.p.a.b.len
  have e : r.p.a.b.cs[0]? = some (byc (r.p.a.b.l[0]'(by omega))) := by
    unfold B16.cs
    rw [List.getElem?_toArray, List.getElem?_map, List.getElem?_eq_getElem (by omega)]
    rfl
  exact ⟨_, (r.cp 1 (by omega)).trans ((r.p.cb 0 (by omega)).trans e)⟩
theorem RoIn.turn2 {X Y : World} {B g : Nat} {a : Option Addr} {n c : Nat} {R : List Ro} {t : TypeId} {cs : Array Value} (h : RoIn X B a n c R) (hb : Blk X g t cs) (hno : ∀ i k : Nat, cs[i]? ≠ some (byc k)) (k : Kept [g] X Y) : RoIn Y B a n c R := by
  obtain ⟨h1, h2, h3⟩ := h
  refine ⟨h1, ?_, h3⟩
  rcases h2 with rfl | ⟨q, o, e, hr⟩
  · exact .inl rfl
  · by_cases h0 : R = []
    · exact .inl h0
    · have hl : 0 < R.length := List.length_pos_iff.2 h0
      have hne : q ≠ g := fun e9 => by
        subst e9
        obtain ⟨z, hz⟩ := ro_byte (rog R 0)
        have h9 := hr.row 0 hl 1 (by omega)
        rw [hz, hb.cell] at h9
        exact hno _ _ h9
      refine .inr ⟨q, o, e, Nat.lt_of_lt_of_le hr.lt k.size, fun i hi j hj => ?_⟩
      rw [← hr.row i hi j hj]
      have hb := k.block q hr.lt (by simpa using hne)
      simp only [World.cell?, hb]
theorem Vw.Of.less {v x : Vw} {w : World} {B B' : Nat} (h : v.Of x w B) (k : B' ≤ B) : v.Of x w B' := ⟨h.v, ⟨h.b.i, h.b.e, h.b.l, h.b.R, h.b.n, h.b.at'.less k⟩, h.n, h.L, h.at'.less k⟩
theorem Ms.Of.less {v x : Ms} {w : World} {B B' : Nat} (h : v.Of x w B) (k : B' ≤ B) : v.Of x w B' := ⟨h.f, h.ub, ⟨h.b.i, h.b.e, h.b.l, h.b.R, h.b.n, h.b.at'.less k⟩, h.n, h.L, h.at'.less k⟩
theorem Vw.Of.lies {v x : Vw} {w : World} {B : Nat} (h : v.Of x w B) : v.In w 0 := ⟨h.b.at'.less (Nat.zero_le _), h.at'.into.less (Nat.zero_le _)⟩
theorem Ms.Of.lies {v x : Ms} {w : World} {B : Nat} (h : v.Of x w B) : v.In w 0 := ⟨h.at'.into.less (Nat.zero_le _), h.b.at'.less (Nat.zero_le _)⟩
theorem Ms.Of.lim {m x : Ms} {w : World} {B : Nat} (h : m.Of x w B) : ∀ e ∈ m.L, e.n ≤ 1000 := by
  intro e he
  have h1 : con e ∈ (x.L.map cut9).take 9 := by rw [← h.L]; exact List.mem_map_of_mem he
  obtain ⟨y, _, hy⟩ := List.mem_map.1 (List.mem_of_mem_take h1)
  have h2 : y.U.take 9 = e.U := congrArg Eq'.U hy
  have h3 := (h.lies.1.2.2.2.2.2.2 e he).1
  rw [← h3, ← h2, List.length_take]
  omega
theorem no_byte_vw (v : Vw) : ∀ i z : Nat, v.cs[i]? ≠ some (byc z) := by
  intro i z h
  have h9 := Array.mem_of_getElem? h
  simp [Vw.cs, byc] at h9
theorem Vw.Of.turn {v x y : Vw} {X Y : World} {B g : Nat} (h : v.Of x X B) (hb : Blk X g 36 y.cs) (k : Kept [g] X Y) : v.Of x Y B := by
  have hE : ∀ q t cs, t = 92 ∨ t = 106 → Blk X q t cs → Blk Y q t cs := fun q t cs ht h9 => h9.kept k (fun hm => by
    obtain rfl : q = g := by simpa using hm
    refine (Blk.ne h9 hb ?_) rfl
    rcases ht with rfl | rfl <;> decide)
  exact ⟨h.v, ⟨h.b.i, h.b.e, h.b.l, h.b.R, h.b.n, h.b.at'.turn2 hb (no_byte_vw y) k⟩, h.n, h.L, h.at'.turn2 hE⟩
theorem two_vw {x : Vw} {w : World} {B g4 g5 : Nat} {v u : Vw} (h4 : Blk w g4 36 Vw.zero.cs) (h5 : Blk w g5 36 Vw.zero.cs) (hv : v.Of x w B) (hu : u.Of x w B) :
    ∃ W1 W2, (storeSem 36 (.pointer (some ⟨g4, 0, none⟩)) (.agg v.cs)).run Try.prog w = .ok () W1 ∧ (storeSem 36 (.pointer (some ⟨g5, 0, none⟩)) (.agg u.cs)).run Try.prog W1 = .ok () W2 ∧ ∃ v4 : Vw, Blk W2 g4 36 v4.cs ∧ v4.Of x W2 B ∧ Blk W2 g5 36 u.cs ∧ u.Of x W2 B ∧ Kept [g4, g5] w W2 := by
  have s1 := st_vw (b2 := v) h4
  have k1 : Kept [g4] w (w.setRow g4 v.cs) := (Kept.refl _ _).setRow (.inl (by simp)) _
  have c4 := h4.row v.cs
  have hv1 := hv.turn h4 k1
  have hu1 := hu.turn h4 k1
  obtain ⟨b, hb⟩ : ∃ b : Vw, Blk (w.setRow g4 v.cs) g5 36 b.cs := by
    by_cases e : g5 = g4
    · subst e; exact ⟨v, c4⟩
    · exact ⟨Vw.zero, h5.kept k1 (by simpa using e)⟩
  have s2 := st_vw (b2 := u) hb
  have k2 : Kept [g5] (w.setRow g4 v.cs) ((w.setRow g4 v.cs).setRow g5 u.cs) := (Kept.refl _ _).setRow (.inl (by simp)) _
  have hv2 := hv1.turn hb k2
  have hu2 := hu1.turn hb k2
  have hk : Kept [g4, g5] w ((w.setRow g4 v.cs).setRow g5 u.cs) := ((Kept.refl _ _).setRow (.inl (by simp)) _).setRow (.inl (by simp)) _
  refine ⟨_, _, s1, s2, ?_⟩
  by_cases e : g4 = g5
  · subst e
    exact ⟨u, hb.row u.cs, hu2, hb.row u.cs, hu2, hk⟩
  · exact ⟨v, c4.kept k2 (by simpa using e), hv2, hb.row u.cs, hu2, hk⟩
/-- What the operations of such a region give. -/
def twVw (x : Vw) (B : Nat) (i : Nat) (u : Value) (w : World) : Prop :=
  (i = 1 ∨ i = 3 → ∃ v : Vw, u = .agg v.cs ∧ v.Of x w B) ∧ (i = 4 ∨ i = 5 → ∃ g, u = .pointer (some ⟨g, 0, none⟩) ∧ B ≤ g ∧ Blk w g 36 Vw.zero.cs)
theorem twVw.later {x : Vw} {B i : Nat} {u : Value} {w w' : World} (h : twVw x B i u w) (k : Below w.heap.size w w') : twVw x B i u w' :=
  ⟨fun e => by obtain ⟨v, h1, h2⟩ := h.1 e; exact ⟨v, h1, h2.later k⟩, fun e => by obtain ⟨g, h1, h2, h3⟩ := h.2 e; exact ⟨g, h1, h2, h3.later k⟩⟩
theorem no_byte_ms (v : Ms) : ∀ i z : Nat, v.cs[i]? ≠ some (byc z) := by
  intro i z h
  have h9 := Array.mem_of_getElem? h
  simp [Ms.cs, byc] at h9
theorem Ms.Of.turn {v x y : Ms} {X Y : World} {B g : Nat} (h : v.Of x X B) (hb : Blk X g 47 y.cs) (k : Kept [g] X Y) : v.Of x Y B := by
  have hE : ∀ q t cs, t = 92 ∨ t = 106 → Blk X q t cs → Blk Y q t cs := fun q t cs ht h9 => h9.kept k (fun hm => by
    obtain rfl : q = g := by simpa using hm
    refine (Blk.ne h9 hb ?_) rfl
    rcases ht with rfl | rfl <;> decide)
  exact ⟨h.f, h.ub, ⟨h.b.i, h.b.e, h.b.l, h.b.R, h.b.n, h.b.at'.turn2 hb (no_byte_ms y) k⟩, h.n, h.L, h.at'.turn2 hE⟩
theorem two_ms {x : Ms} {w : World} {B g4 g5 : Nat} {v u : Ms} (h4 : Blk w g4 47 Ms.zero.cs) (h5 : Blk w g5 47 Ms.zero.cs) (hv : v.Of x w B) (hu : u.Of x w B) :
    ∃ W1 W2, (storeSem 47 (.pointer (some ⟨g4, 0, none⟩)) (.agg v.cs)).run Try.prog w = .ok () W1 ∧ (storeSem 47 (.pointer (some ⟨g5, 0, none⟩)) (.agg u.cs)).run Try.prog W1 = .ok () W2 ∧ ∃ v4 : Ms, Blk W2 g4 47 v4.cs ∧ v4.Of x W2 B ∧ Blk W2 g5 47 u.cs ∧ u.Of x W2 B ∧ Kept [g4, g5] w W2 := by
  have s1 := st_ms (b2 := v) h4
  have k1 : Kept [g4] w (w.setRow g4 v.cs) := (Kept.refl _ _).setRow (.inl (by simp)) _
  have c4 := h4.row v.cs
  have hv1 := hv.turn h4 k1
  have hu1 := hu.turn h4 k1
  obtain ⟨b, hb⟩ : ∃ b : Ms, Blk (w.setRow g4 v.cs) g5 47 b.cs := by
    by_cases e : g5 = g4
    · subst e; exact ⟨v, c4⟩
    · exact ⟨Ms.zero, h5.kept k1 (by simpa using e)⟩
  have s2 := st_ms (b2 := u) hb
  have k2 : Kept [g5] (w.setRow g4 v.cs) ((w.setRow g4 v.cs).setRow g5 u.cs) := (Kept.refl _ _).setRow (.inl (by simp)) _
  have hv2 := hv1.turn hb k2
  have hu2 := hu1.turn hb k2
  have hk : Kept [g4, g5] w ((w.setRow g4 v.cs).setRow g5 u.cs) := ((Kept.refl _ _).setRow (.inl (by simp)) _).setRow (.inl (by simp)) _
  refine ⟨_, _, s1, s2, ?_⟩
  by_cases e : g4 = g5
  · subst e
    exact ⟨u, hb.row u.cs, hu2, hb.row u.cs, hu2, hk⟩
  · exact ⟨v, c4.kept k2 (by simpa using e), hv2, hb.row u.cs, hu2, hk⟩
/-- What the operations of such a region give. -/
def twMs (x : Ms) (B : Nat) (i : Nat) (u : Value) (w : World) : Prop :=
  (i = 1 ∨ i = 3 → ∃ v : Ms, u = .agg v.cs ∧ v.Of x w B) ∧ (i = 4 ∨ i = 5 → ∃ g, u = .pointer (some ⟨g, 0, none⟩) ∧ B ≤ g ∧ Blk w g 47 Ms.zero.cs)
theorem twMs.later {x : Ms} {B i : Nat} {u : Value} {w w' : World} (h : twMs x B i u w) (k : Below w.heap.size w w') : twMs x B i u w' :=
  ⟨fun e => by obtain ⟨v, h1, h2⟩ := h.1 e; exact ⟨v, h1, h2.later k⟩, fun e => by obtain ⟨g, h1, h2, h3⟩ := h.2 e; exact ⟨g, h1, h2, h3.later k⟩⟩
end Go.Proofs.Ytkoenconjldojaa
