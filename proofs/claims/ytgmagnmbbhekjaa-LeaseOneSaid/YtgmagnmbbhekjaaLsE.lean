/-
  The contracts of the reference's Tick, Grant, Granted, and what the law's wakes asks. Nothing here is a statement of the document.
-/
import Derived.Test.YtgmagnmbbhekjaaLsC
namespace Go.Proofs.Ytgmagnmbbhekjaa
open Go.RowKit
set_option linter.unusedVariables false
attribute [local go_sem 10000] gtU_rule leU_rule ltU_rule geU_rule adU_rule sbU_rule mxU_rule
attribute [local go_sem ↓] load_ls_rule store_ls_rule
theorem ls_zero_cs : Ls.zero.cs = #[.int .u64 0, .int .u64 0, .int .u64 0] := rfl

set_option maxRecDepth 100000 in
set_option maxHeartbeats 1600000 in
theorem behind_tick (l : Ls) (w : World) : Calls Try.prog 18 #[.agg l.cs, .func (.func 19) #[] #[]] w fun e w' => e = .returned (.tuple #[.agg (tickR l).1.cs, .int .i64 (tickR l).2]) ∧ Below w.heap.size w w' := by
  obtain ⟨W1, hW1⟩ : ∃ W1, w.alloc (.cells l.cs 24) = W1 := ⟨_, rfl⟩
  have s1 : W1.heap.size = w.heap.size + 1 := by rw [← hW1]; simp
  obtain ⟨W2, hW2⟩ : ∃ W2, W1.alloc (.cells #[.int .u64 0, .int .u64 0, .int .u64 0] 24) = W2 := ⟨_, rfl⟩
  have b1 : Blk W2 w.heap.size 24 l.cs := by rw [← hW2, ← hW1]; exact (Blk.new w _ _).alloc _
  have b2 : Blk W2 W1.heap.size 24 Ls.zero.cs := by rw [← hW2]; exact Blk.new W1 _ _
  have hb2 : Below w.heap.size w W2 := by rw [← hW2, ← hW1]; exact bel_al (below_alloc w _) _
  have C1 : ∀ W, Below W2.heap.size W2 W → Blk W w.heap.size 24 l.cs := fun W h => Kept.blk (Kept.of_below [] h) b1 (by simp)
  have C2 : ∀ W, Below W2.heap.size W2 W → Blk W W1.heap.size 24 Ls.zero.cs := fun W h => Kept.blk (Kept.of_below [] h) b2 (by simp)
  have hc := fun w => lready_any l w
  by_cases h0 : l.late = 0
  · have HE := Lib.hid (show (tickR l) = (tickL l, 0) by unfold tickR; rw [if_pos h0])
    have hl := late_zero h0
    rw [h0] at hc
    have lx := ld_ls b1
    have HB := Lib.hid hb2
    have H1 := Lib.hid C1
    have H2 := Lib.hid C2
    have H3 := Lib.hid s1
    clear hb2 b1 b2 s1 C1 C2 h0
    go_enter Try.func18, Try.ntmps18
    go_wp2_with fail
    refine (hc _).mono ?_
    rintro e w3 ⟨rfl, hb3⟩
    have B1 := H1.out w3 hb3
    have B2 := H2.out w3 hb3
    have hw3 := bel_tr HB.out hb3
    go_wp2_with fail
    refine (tick1_any B1 hl.2).mono ?_
    rintro e w4 ⟨rfl, B3, hk4⟩
    have B4 := B2.kept hk4 (by have := H3.out; simp; omega)
    have hb4 : Below w.heap.size w w4 := hw3.trans (Kept.below hk4 (by simp) hw3.size)
    have lx4 := ld_ls B3
    have st := st_ls (m := tickL l) B4
    have HR := Lib.hid (And.intro (B4.row (tickL l).cs) (below_setRow hb4 (g := W1.heap.size) (by have := H3.out; omega) (tickL l).cs))
    generalize w4.setRow W1.heap.size (tickL l).cs = w5 at *
    clear B1 B2 B3 B4
    go_wp2
    (try simp only [Exit.inBlock, Exit.then])
    refine bodyPost_ret (results_ls rfl _ _ W1.heap.size (tickL l) rfl HR.out.1) rfl ?_
    rw [HE.out]
    exact ⟨rfl, HR.out.2⟩
  · have lx := ld_ls b1
    have HB := Lib.hid hb2
    have H2 := Lib.hid C2
    have H3 := Lib.hid s1
    have hn : (l.late == 0) = false := by simpa using h0
    have HE := Lib.hid (show (tickR l) = (Ls.zero, l.late) by unfold tickR; rw [if_neg h0])
    generalize l.late = q at *
    clear hb2 b1 b2 s1 C1 C2 h0
    go_enter Try.func18, Try.ntmps18
    go_wp2_with fail
    refine (hc _).mono ?_
    rintro e w3 ⟨rfl, hb3⟩
    have st : (storeSem 24 (.pointer (some ⟨W1.heap.size, 0, none⟩)) (.agg #[.int .u64 0, .int .u64 0, .int .u64 0])).run Try.prog w3 = .ok () (w3.setRow W1.heap.size Ls.zero.cs) := st_ls (m := Ls.zero) (H2.out w3 hb3)
    have HR := Lib.hid (And.intro ((H2.out w3 hb3).row Ls.zero.cs) (below_setRow (bel_tr HB.out hb3) (g := W1.heap.size) (by have := H3.out; omega) Ls.zero.cs))
    generalize w3.setRow W1.heap.size Ls.zero.cs = w4 at *
    go_wp2
    (try simp only [Exit.inBlock, Exit.then])
    refine bodyPost_ret (results_ls rfl _ _ W1.heap.size (Ls.zero) rfl HR.out.1) rfl ?_
    rw [HE.out]
    exact ⟨rfl, HR.out.2⟩

set_option maxRecDepth 100000 in
set_option maxHeartbeats 1600000 in
theorem behind_grant (l : Ls) (w : World) : Calls Try.prog 18 #[.agg l.cs, .func (.func 21) #[] #[]] w fun e w' => e = .returned (.tuple #[.agg (grantR l).1.cs, .int .i64 (grantR l).2]) ∧ Below w.heap.size w w' := by
  obtain ⟨W1, hW1⟩ : ∃ W1, w.alloc (.cells l.cs 24) = W1 := ⟨_, rfl⟩
  have s1 : W1.heap.size = w.heap.size + 1 := by rw [← hW1]; simp
  obtain ⟨W2, hW2⟩ : ∃ W2, W1.alloc (.cells #[.int .u64 0, .int .u64 0, .int .u64 0] 24) = W2 := ⟨_, rfl⟩
  have b1 : Blk W2 w.heap.size 24 l.cs := by rw [← hW2, ← hW1]; exact (Blk.new w _ _).alloc _
  have b2 : Blk W2 W1.heap.size 24 Ls.zero.cs := by rw [← hW2]; exact Blk.new W1 _ _
  have hb2 : Below w.heap.size w W2 := by rw [← hW2, ← hW1]; exact bel_al (below_alloc w _) _
  have C1 : ∀ W, Below W2.heap.size W2 W → Blk W w.heap.size 24 l.cs := fun W h => Kept.blk (Kept.of_below [] h) b1 (by simp)
  have C2 : ∀ W, Below W2.heap.size W2 W → Blk W W1.heap.size 24 Ls.zero.cs := fun W h => Kept.blk (Kept.of_below [] h) b2 (by simp)
  have hc := fun w => lready_any l w
  by_cases h0 : l.late = 0
  · have HE := Lib.hid (show (grantR l) = (grantL l, 0) by unfold grantR; rw [if_pos h0])
    have hl := late_zero h0
    rw [h0] at hc
    have lx := ld_ls b1
    have HB := Lib.hid hb2
    have H1 := Lib.hid C1
    have H2 := Lib.hid C2
    have H3 := Lib.hid s1
    clear hb2 b1 b2 s1 C1 C2 h0
    go_enter Try.func18, Try.ntmps18
    go_wp2_with fail
    refine (hc _).mono ?_
    rintro e w3 ⟨rfl, hb3⟩
    have B1 := H1.out w3 hb3
    have B2 := H2.out w3 hb3
    have hw3 := bel_tr HB.out hb3
    go_wp2_with fail
    refine (grant1_any B1 hl.2).mono ?_
    rintro e w4 ⟨rfl, B3, hk4⟩
    have B4 := B2.kept hk4 (by have := H3.out; simp; omega)
    have hb4 : Below w.heap.size w w4 := hw3.trans (Kept.below hk4 (by simp) hw3.size)
    have lx4 := ld_ls B3
    have st := st_ls (m := grantL l) B4
    have HR := Lib.hid (And.intro (B4.row (grantL l).cs) (below_setRow hb4 (g := W1.heap.size) (by have := H3.out; omega) (grantL l).cs))
    generalize w4.setRow W1.heap.size (grantL l).cs = w5 at *
    clear B1 B2 B3 B4
    go_wp2
    (try simp only [Exit.inBlock, Exit.then])
    refine bodyPost_ret (results_ls rfl _ _ W1.heap.size (grantL l) rfl HR.out.1) rfl ?_
    rw [HE.out]
    exact ⟨rfl, HR.out.2⟩
  · have lx := ld_ls b1
    have HB := Lib.hid hb2
    have H2 := Lib.hid C2
    have H3 := Lib.hid s1
    have hn : (l.late == 0) = false := by simpa using h0
    have HE := Lib.hid (show (grantR l) = (Ls.zero, l.late) by unfold grantR; rw [if_neg h0])
    generalize l.late = q at *
    clear hb2 b1 b2 s1 C1 C2 h0
    go_enter Try.func18, Try.ntmps18
    go_wp2_with fail
    refine (hc _).mono ?_
    rintro e w3 ⟨rfl, hb3⟩
    have st : (storeSem 24 (.pointer (some ⟨W1.heap.size, 0, none⟩)) (.agg #[.int .u64 0, .int .u64 0, .int .u64 0])).run Try.prog w3 = .ok () (w3.setRow W1.heap.size Ls.zero.cs) := st_ls (m := Ls.zero) (H2.out w3 hb3)
    have HR := Lib.hid (And.intro ((H2.out w3 hb3).row Ls.zero.cs) (below_setRow (bel_tr HB.out hb3) (g := W1.heap.size) (by have := H3.out; omega) Ls.zero.cs))
    generalize w3.setRow W1.heap.size Ls.zero.cs = w4 at *
    go_wp2
    (try simp only [Exit.inBlock, Exit.then])
    refine bodyPost_ret (results_ls rfl _ _ W1.heap.size (Ls.zero) rfl HR.out.1) rfl ?_
    rw [HE.out]
    exact ⟨rfl, HR.out.2⟩

set_option maxRecDepth 100000 in
set_option maxHeartbeats 1600000 in
theorem behind_granted (l : Ls) (s sb : Nat) (w : World) (hs : Blk w sb 22 #[.int .u64 s]) : Calls Try.prog 18 #[.agg l.cs, .func (.func 22) #[] #[.pointer (some ⟨sb, 0, none⟩)]] w fun e w' => e = .returned (.tuple #[.agg (grantedR l s).1.cs, .int .i64 (grantedR l s).2]) ∧ Below w.heap.size w w' := by
  obtain ⟨W1, hW1⟩ : ∃ W1, w.alloc (.cells l.cs 24) = W1 := ⟨_, rfl⟩
  have s1 : W1.heap.size = w.heap.size + 1 := by rw [← hW1]; simp
  obtain ⟨W2, hW2⟩ : ∃ W2, W1.alloc (.cells #[.int .u64 0, .int .u64 0, .int .u64 0] 24) = W2 := ⟨_, rfl⟩
  have b1 : Blk W2 w.heap.size 24 l.cs := by rw [← hW2, ← hW1]; exact (Blk.new w _ _).alloc _
  have b2 : Blk W2 W1.heap.size 24 Ls.zero.cs := by rw [← hW2]; exact Blk.new W1 _ _
  have hb2 : Below w.heap.size w W2 := by rw [← hW2, ← hW1]; exact bel_al (below_alloc w _) _
  have C1 : ∀ W, Below W2.heap.size W2 W → Blk W w.heap.size 24 l.cs := fun W h => Kept.blk (Kept.of_below [] h) b1 (by simp)
  have C2 : ∀ W, Below W2.heap.size W2 W → Blk W W1.heap.size 24 Ls.zero.cs := fun W h => Kept.blk (Kept.of_below [] h) b2 (by simp)
  have hc := fun w => lready_any l w
  by_cases h0 : l.late = 0
  · by_cases hs1 : s ≤ l.n
    · have HE := Lib.hid (show grantedR l s = (grantedL l s, 0) by unfold grantedR; rw [if_pos h0, if_pos (by simpa using hs1)])
      have HSS : ∀ W, Below W2.heap.size W2 W → Blk W sb 22 #[.int .u64 s] := fun W h => Kept.blk (Kept.of_below [] h) (by rw [← hW2, ← hW1]; exact (hs.alloc _).alloc _) (by simp)
      clear hs
      have H7 := Lib.hid HSS
      clear HSS
      have hl := late_zero h0
      rw [h0] at hc
      have lx := ld_ls b1
      have HB := Lib.hid hb2
      have H1 := Lib.hid C1
      have H2 := Lib.hid C2
      have H3 := Lib.hid s1
      clear hb2 b1 b2 s1 C1 C2 h0
      go_enter Try.func18, Try.ntmps18
      go_wp2_with fail
      refine (hc _).mono ?_
      rintro e w3 ⟨rfl, hb3⟩
      have B1 := H1.out w3 hb3
      have B2 := H2.out w3 hb3
      have hw3 := bel_tr HB.out hb3
      go_wp2_with fail
      refine (granted1_any B1 (H7.out w3 hb3) hl.2 hs1).mono ?_
      rintro e w4 ⟨rfl, B3, hk4⟩
      have B4 := B2.kept hk4 (by have := H3.out; simp; omega)
      have hb4 : Below w.heap.size w w4 := hw3.trans (Kept.below hk4 (by simp) hw3.size)
      have lx4 := ld_ls B3
      have st := st_ls (m := grantedL l s) B4
      have HR := Lib.hid (And.intro (B4.row (grantedL l s).cs) (below_setRow hb4 (g := W1.heap.size) (by have := H3.out; omega) (grantedL l s).cs))
      generalize w4.setRow W1.heap.size (grantedL l s).cs = w5 at *
      clear B1 B2 B3 B4
      go_wp2
      (try simp only [Exit.inBlock, Exit.then])
      refine bodyPost_ret (results_ls rfl _ _ W1.heap.size (grantedL l s) rfl HR.out.1) rfl ?_
      rw [HE.out]
      exact ⟨rfl, HR.out.2⟩
    · have HE := Lib.hid (show grantedR l s = (Ls.zero, 2) by unfold grantedR; rw [if_pos h0, if_neg (by simpa using hs1)])
      have HSS : ∀ W, Below W2.heap.size W2 W → Blk W sb 22 #[.int .u64 s] := fun W h => Kept.blk (Kept.of_below [] h) (by rw [← hW2, ← hW1]; exact (hs.alloc _).alloc _) (by simp)
      clear hs
      have H7 := Lib.hid HSS
      clear HSS
      have hl := late_zero h0
      rw [h0] at hc
      have lx := ld_ls b1
      have HB := Lib.hid hb2
      have H1 := Lib.hid C1
      have H2 := Lib.hid C2
      have H3 := Lib.hid s1
      clear hb2 b1 b2 s1 C1 C2 h0
      go_enter Try.func18, Try.ntmps18
      go_wp2_with fail
      refine (hc _).mono ?_
      rintro e w3 ⟨rfl, hb3⟩
      have B1 := H1.out w3 hb3
      have B2 := H2.out w3 hb3
      have hw3 := bel_tr HB.out hb3
      go_wp2_with fail
      refine (granted1_bad B1 (H7.out w3 hb3) hs1).mono ?_
      rintro e w4 ⟨rfl, k4, rfl⟩
      have B4 : Blk (w3.drewN k4) W1.heap.size 24 Ls.zero.cs := B2
      have hb4 : Below w.heap.size w (w3.drewN k4) := ⟨hw3.os, hw3.tape, hw3.output, hw3.size, hw3.block⟩
      generalize w3.drewN k4 = w4 at *
      have st : (storeSem 24 (.pointer (some ⟨W1.heap.size, 0, none⟩)) (.agg #[.int .u64 0, .int .u64 0, .int .u64 0])).run Try.prog w4 = .ok () (w4.setRow W1.heap.size Ls.zero.cs) := st_ls (m := Ls.zero) B4
      have HR := Lib.hid (And.intro (B4.row Ls.zero.cs) (below_setRow hb4 (g := W1.heap.size) (by have := H3.out; omega) Ls.zero.cs))
      generalize w4.setRow W1.heap.size Ls.zero.cs = w5 at *
      clear B1 B2 B4
      go_wp2
      (try simp only [Exit.inBlock, Exit.then])
      refine bodyPost_ret (results_ls rfl _ _ W1.heap.size (Ls.zero) rfl HR.out.1) rfl ?_
      rw [HE.out]
      exact ⟨rfl, HR.out.2⟩
  · have lx := ld_ls b1
    have HB := Lib.hid hb2
    have H2 := Lib.hid C2
    have H3 := Lib.hid s1
    have hn : (l.late == 0) = false := by simpa using h0
    have HE := Lib.hid (show (grantedR l s) = (Ls.zero, l.late) by unfold grantedR; rw [if_neg h0])
    generalize l.late = q at *
    clear hb2 b1 b2 s1 C1 C2 h0
    go_enter Try.func18, Try.ntmps18
    go_wp2_with fail
    refine (hc _).mono ?_
    rintro e w3 ⟨rfl, hb3⟩
    have st : (storeSem 24 (.pointer (some ⟨W1.heap.size, 0, none⟩)) (.agg #[.int .u64 0, .int .u64 0, .int .u64 0])).run Try.prog w3 = .ok () (w3.setRow W1.heap.size Ls.zero.cs) := st_ls (m := Ls.zero) (H2.out w3 hb3)
    have HR := Lib.hid (And.intro ((H2.out w3 hb3).row Ls.zero.cs) (below_setRow (bel_tr HB.out hb3) (g := W1.heap.size) (by have := H3.out; omega) Ls.zero.cs))
    generalize w3.setRow W1.heap.size Ls.zero.cs = w4 at *
    go_wp2
    (try simp only [Exit.inBlock, Exit.then])
    refine bodyPost_ret (results_ls rfl _ _ W1.heap.size (Ls.zero) rfl HR.out.1) rfl ?_
    rw [HE.out]
    exact ⟨rfl, HR.out.2⟩

set_option maxRecDepth 100000 in
set_option maxHeartbeats 1600000 in
theorem ltick_any (l : Ls) (w : World) : Calls Try.prog 12 #[.agg l.cs] w fun e w' => e = .returned (.tuple #[.agg (tickR l).1.cs, .int .i64 (tickR l).2]) ∧ Below w.heap.size w w' := by
  obtain ⟨W1, hW1⟩ : ∃ W1, w.alloc (.cells l.cs 24) = W1 := ⟨_, rfl⟩
  have s1 : W1.heap.size = w.heap.size + 1 := by rw [← hW1]; simp
  obtain ⟨W2, hW2⟩ : ∃ W2, W1.alloc (.cells #[.int .u64 0, .int .u64 0, .int .u64 0] 24) = W2 := ⟨_, rfl⟩
  have b1 : Blk W2 w.heap.size 24 l.cs := by rw [← hW2, ← hW1]; exact (Blk.new w _ _).alloc _
  have b2 : Blk W2 W1.heap.size 24 Ls.zero.cs := by rw [← hW2]; exact Blk.new W1 _ _
  have hb2 : Below w.heap.size w W2 := by rw [← hW2, ← hW1]; exact bel_al (below_alloc w _) _
  have C1 : ∀ W, Below W2.heap.size W2 W → Blk W w.heap.size 24 l.cs := fun W h => Kept.blk (Kept.of_below [] h) b1 (by simp)
  have C2 : ∀ W, Below W2.heap.size W2 W → Blk W W1.heap.size 24 Ls.zero.cs := fun W h => Kept.blk (Kept.of_below [] h) b2 (by simp)
  have hc := fun w => behind_tick l w
  have lx := ld_ls b1
  have HB := Lib.hid hb2
  have H2 := Lib.hid C2
  have H3 := Lib.hid s1
  generalize tickR l = R at *
  obtain ⟨m, q⟩ := R
  clear hb2 b1 b2 s1 C1 C2
  go_enter Try.func12, Try.ntmps12
  go_wp2_with fail
  refine (hc _).mono ?_
  rintro e w3 ⟨rfl, hb3⟩
  have st := st_ls (m := m) (H2.out w3 hb3)
  have HR := Lib.hid (And.intro ((H2.out w3 hb3).row m.cs) (below_setRow (bel_tr HB.out hb3) (g := W1.heap.size) (by have := H3.out; omega) m.cs))
  generalize w3.setRow W1.heap.size m.cs = w4 at *
  go_wp2
  (try simp only [Exit.inBlock, Exit.then])
  refine bodyPost_ret (results_ls rfl _ _ W1.heap.size m rfl HR.out.1) rfl ?_
  exact ⟨rfl, HR.out.2⟩

set_option maxRecDepth 100000 in
set_option maxHeartbeats 1600000 in
theorem lgrant_any (l : Ls) (w : World) : Calls Try.prog 14 #[.agg l.cs] w fun e w' => e = .returned (.tuple #[.agg (grantR l).1.cs, .int .i64 (grantR l).2]) ∧ Below w.heap.size w w' := by
  obtain ⟨W1, hW1⟩ : ∃ W1, w.alloc (.cells l.cs 24) = W1 := ⟨_, rfl⟩
  have s1 : W1.heap.size = w.heap.size + 1 := by rw [← hW1]; simp
  obtain ⟨W2, hW2⟩ : ∃ W2, W1.alloc (.cells #[.int .u64 0, .int .u64 0, .int .u64 0] 24) = W2 := ⟨_, rfl⟩
  have b1 : Blk W2 w.heap.size 24 l.cs := by rw [← hW2, ← hW1]; exact (Blk.new w _ _).alloc _
  have b2 : Blk W2 W1.heap.size 24 Ls.zero.cs := by rw [← hW2]; exact Blk.new W1 _ _
  have hb2 : Below w.heap.size w W2 := by rw [← hW2, ← hW1]; exact bel_al (below_alloc w _) _
  have C1 : ∀ W, Below W2.heap.size W2 W → Blk W w.heap.size 24 l.cs := fun W h => Kept.blk (Kept.of_below [] h) b1 (by simp)
  have C2 : ∀ W, Below W2.heap.size W2 W → Blk W W1.heap.size 24 Ls.zero.cs := fun W h => Kept.blk (Kept.of_below [] h) b2 (by simp)
  have hc := fun w => behind_grant l w
  have lx := ld_ls b1
  have HB := Lib.hid hb2
  have H2 := Lib.hid C2
  have H3 := Lib.hid s1
  generalize grantR l = R at *
  obtain ⟨m, q⟩ := R
  clear hb2 b1 b2 s1 C1 C2
  go_enter Try.func14, Try.ntmps14
  go_wp2_with fail
  refine (hc _).mono ?_
  rintro e w3 ⟨rfl, hb3⟩
  have st := st_ls (m := m) (H2.out w3 hb3)
  have HR := Lib.hid (And.intro ((H2.out w3 hb3).row m.cs) (below_setRow (bel_tr HB.out hb3) (g := W1.heap.size) (by have := H3.out; omega) m.cs))
  generalize w3.setRow W1.heap.size m.cs = w4 at *
  go_wp2
  (try simp only [Exit.inBlock, Exit.then])
  refine bodyPost_ret (results_ls rfl _ _ W1.heap.size m rfl HR.out.1) rfl ?_
  exact ⟨rfl, HR.out.2⟩

set_option maxRecDepth 100000 in
set_option maxHeartbeats 1600000 in
theorem lgranted_any (l : Ls) (s : Nat) (w : World) : Calls Try.prog 16 #[.agg l.cs, .int .u64 s] w fun e w' => e = .returned (.tuple #[.agg (grantedR l s).1.cs, .int .i64 (grantedR l s).2]) ∧ Below w.heap.size w w' := by
  obtain ⟨W1, hW1⟩ : ∃ W1, w.alloc (.cells l.cs 24) = W1 := ⟨_, rfl⟩
  have s1 : W1.heap.size = w.heap.size + 1 := by rw [← hW1]; simp
  obtain ⟨W2, hW2⟩ : ∃ W2, W1.alloc (.cells #[.int .u64 s] 22) = W2 := ⟨_, rfl⟩
  have s2 : W2.heap.size = w.heap.size + 2 := by rw [← hW2]; simp [s1]
  obtain ⟨W3, hW3⟩ : ∃ W3, W2.alloc (.cells #[.int .u64 0, .int .u64 0, .int .u64 0] 24) = W3 := ⟨_, rfl⟩
  have b1 : Blk W3 w.heap.size 24 l.cs := by rw [← hW3, ← hW2, ← hW1]; exact ((Blk.new w _ _).alloc _).alloc _
  have bs : Blk W3 W1.heap.size 22 #[.int .u64 s] := by rw [← hW3, ← hW2]; exact (Blk.new W1 _ _).alloc _
  have b2 : Blk W3 W2.heap.size 24 Ls.zero.cs := by rw [← hW3]; exact Blk.new W2 _ _
  have hb2 : Below w.heap.size w W3 := by rw [← hW3, ← hW2, ← hW1]; exact bel_al (bel_al (below_alloc w _) _) _
  have C2 : ∀ W, Below W3.heap.size W3 W → Blk W W2.heap.size 24 Ls.zero.cs := fun W h => Kept.blk (Kept.of_below [] h) b2 (by simp)
  have hc := behind_granted l s W1.heap.size W3 bs
  have lx := ld_ls b1
  have HB := Lib.hid hb2
  have H2 := Lib.hid C2
  have H3 := Lib.hid s2
  generalize grantedR l s = R at *
  obtain ⟨m, q⟩ := R
  clear hb2 b1 b2 bs s1 s2 C2
  go_enter Try.func16, Try.ntmps16
  go_wp2_with fail
  refine hc.mono ?_
  rintro e w3 ⟨rfl, hb3⟩
  have st := st_ls (m := m) (H2.out w3 hb3)
  have HR := Lib.hid (And.intro ((H2.out w3 hb3).row m.cs) (below_setRow (bel_tr HB.out hb3) (g := W2.heap.size) (by have := H3.out; omega) m.cs))
  generalize w3.setRow W2.heap.size m.cs = w4 at *
  go_wp2
  (try simp only [Exit.inBlock, Exit.then])
  refine bodyPost_ret (results_ls rfl _ _ W2.heap.size m rfl HR.out.1) rfl ?_
  exact ⟨rfl, HR.out.2⟩

end Go.Proofs.Ytgmagnmbbhekjaa
namespace Go.Proofs.Ytgmagnmbbhekjaa
open Go.RowKit
set_option linter.unusedVariables false
attribute [local go_sem 10000] gtU_rule leU_rule ltU_rule geU_rule adU_rule sbU_rule mxU_rule
attribute [local go_sem ↓] load_ls_rule store_ls_rule

set_option maxRecDepth 100000 in
set_option maxHeartbeats 1600000 in
theorem rtick_any (l : Ls) (w : World) : Calls Try.prog 13 #[.agg l.cs] w fun e w' => e = .returned (.tuple #[.agg (tickR l).1.cs, .int .i64 (tickR l).2]) ∧ Below w.heap.size w w' := by
  obtain ⟨W1, hW1⟩ : ∃ W1, w.alloc (.cells l.cs 24) = W1 := ⟨_, rfl⟩
  have s1 : W1.heap.size = w.heap.size + 1 := by rw [← hW1]; simp
  obtain ⟨W2, hW2⟩ : ∃ W2, W1.alloc (.cells #[.int .u64 0, .int .u64 0, .int .u64 0] 24) = W2 := ⟨_, rfl⟩
  have b1 : Blk W2 w.heap.size 24 l.cs := by rw [← hW2, ← hW1]; exact (Blk.new w _ _).alloc _
  have b2 : Blk W2 W1.heap.size 24 Ls.zero.cs := by rw [← hW2]; exact Blk.new W1 _ _
  have hb2 : Below w.heap.size w W2 := by rw [← hW2, ← hW1]; exact bel_al (below_alloc w _) _
  have C1 : ∀ W, Below W2.heap.size W2 W → Blk W w.heap.size 24 l.cs := fun W h => Kept.blk (Kept.of_below [] h) b1 (by simp)
  have C2 : ∀ W, Below W2.heap.size W2 W → Blk W W1.heap.size 24 Ls.zero.cs := fun W h => Kept.blk (Kept.of_below [] h) b2 (by simp)
  have hc := fun w => llate_any l w
  by_cases h0 : l.late = 0
  · have HE := Lib.hid (show (tickR l) = (tickL l, 0) by unfold tickR; rw [if_pos h0])
    have d0 : adU (l.n : Int) 1 = ((l.n + 1 : Nat) : Int) := adU_nat (a := l.n) (b := 1) (by have := (late_zero h0).2; omega)
    have hl := late_zero h0
    rw [h0] at hc
    have lx := ld_ls b1
    have HB := Lib.hid hb2
    have H1 := Lib.hid C1
    have H2 := Lib.hid C2
    have H3 := Lib.hid s1
    clear hb2 b1 b2 s1 C1 C2 h0
    go_enter Try.func13, Try.ntmps13
    go_wp2_with fail
    refine (hc _).mono ?_
    rintro e w3 ⟨rfl, hb3⟩
    have B1 := H1.out w3 hb3
    have B2 := H2.out w3 hb3
    have hw3 := bel_tr HB.out hb3
    obtain ⟨c0, c1, c2⟩ := ls_cell B1
    have st : (storeSem 24 (.pointer (some ⟨W1.heap.size, 0, none⟩)) (.agg #[.int .u64 ((l.n + 1 : Nat) : Int), .int .u64 l.h, .int .u64 l.p])).run Try.prog w3 = .ok () (w3.setRow W1.heap.size (tickL l).cs) := st_ls (m := tickL l) B2
    have HR := Lib.hid (And.intro (B2.row (tickL l).cs) (below_setRow hw3 (g := W1.heap.size) (by have := H3.out; omega) (tickL l).cs))
    generalize ((l.n + 1 : Nat) : Int) = z at *
    generalize w3.setRow W1.heap.size (tickL l).cs = w5 at *
    clear B1 B2
    go_wp2
    (try simp only [Exit.inBlock, Exit.then])
    refine bodyPost_ret (results_ls rfl _ _ W1.heap.size (tickL l) rfl HR.out.1) rfl ?_
    rw [HE.out]
    exact ⟨rfl, HR.out.2⟩
  · have lx := ld_ls b1
    have HB := Lib.hid hb2
    have H2 := Lib.hid C2
    have H3 := Lib.hid s1
    have hn : (l.late == 0) = false := by simpa using h0
    have HE := Lib.hid (show (tickR l) = (Ls.zero, l.late) by unfold tickR; rw [if_neg h0])
    generalize l.late = q at *
    clear hb2 b1 b2 s1 C1 C2 h0
    go_enter Try.func13, Try.ntmps13
    go_wp2_with fail
    refine (hc _).mono ?_
    rintro e w3 ⟨rfl, hb3⟩
    have st : (storeSem 24 (.pointer (some ⟨W1.heap.size, 0, none⟩)) (.agg #[.int .u64 0, .int .u64 0, .int .u64 0])).run Try.prog w3 = .ok () (w3.setRow W1.heap.size Ls.zero.cs) := st_ls (m := Ls.zero) (H2.out w3 hb3)
    have HR := Lib.hid (And.intro ((H2.out w3 hb3).row Ls.zero.cs) (below_setRow (bel_tr HB.out hb3) (g := W1.heap.size) (by have := H3.out; omega) Ls.zero.cs))
    generalize w3.setRow W1.heap.size Ls.zero.cs = w4 at *
    go_wp2
    (try simp only [Exit.inBlock, Exit.then])
    refine bodyPost_ret (results_ls rfl _ _ W1.heap.size (Ls.zero) rfl HR.out.1) rfl ?_
    rw [HE.out]
    exact ⟨rfl, HR.out.2⟩

set_option maxRecDepth 100000 in
set_option maxHeartbeats 1600000 in
theorem rgrant_any (l : Ls) (w : World) : Calls Try.prog 15 #[.agg l.cs] w fun e w' => e = .returned (.tuple #[.agg (grantR l).1.cs, .int .i64 (grantR l).2]) ∧ Below w.heap.size w w' := by
  obtain ⟨W1, hW1⟩ : ∃ W1, w.alloc (.cells l.cs 24) = W1 := ⟨_, rfl⟩
  have s1 : W1.heap.size = w.heap.size + 1 := by rw [← hW1]; simp
  obtain ⟨W2, hW2⟩ : ∃ W2, W1.alloc (.cells #[.int .u64 0, .int .u64 0, .int .u64 0] 24) = W2 := ⟨_, rfl⟩
  have b1 : Blk W2 w.heap.size 24 l.cs := by rw [← hW2, ← hW1]; exact (Blk.new w _ _).alloc _
  have b2 : Blk W2 W1.heap.size 24 Ls.zero.cs := by rw [← hW2]; exact Blk.new W1 _ _
  have hb2 : Below w.heap.size w W2 := by rw [← hW2, ← hW1]; exact bel_al (below_alloc w _) _
  have C1 : ∀ W, Below W2.heap.size W2 W → Blk W w.heap.size 24 l.cs := fun W h => Kept.blk (Kept.of_below [] h) b1 (by simp)
  have C2 : ∀ W, Below W2.heap.size W2 W → Blk W W1.heap.size 24 Ls.zero.cs := fun W h => Kept.blk (Kept.of_below [] h) b2 (by simp)
  have hc := fun w => llate_any l w
  by_cases h0 : l.late = 0
  · have HE := Lib.hid (show (grantR l) = (grantL l, 0) by unfold grantR; rw [if_pos h0])
    have d0 : adU (l.n : Int) 12 = ((l.n + 12 : Nat) : Int) := adU_nat (a := l.n) (b := 12) (by have := (late_zero h0).2; omega)
    have d1 := gtU_nat (l.n + 12) l.p
    obtain ⟨zz, hzz⟩ : ∃ zz, l.n + 12 = zz := ⟨_, rfl⟩
    rw [hzz] at d0 d1
    by_cases hg : zz ≤ l.p
    · rw [decide_eq_true hg] at d1
      simp only [Bool.not_true] at d1
      have HN := Lib.hid (show grantL l = l by unfold grantL; rw [hzz, Nat.max_eq_left hg])
      clear hg hzz
      have hl := late_zero h0
      rw [h0] at hc
      have lx := ld_ls b1
      have HB := Lib.hid hb2
      have H1 := Lib.hid C1
      have H2 := Lib.hid C2
      have H3 := Lib.hid s1
      clear hb2 b1 b2 s1 C1 C2 h0
      go_enter Try.func15, Try.ntmps15
      go_wp2_with fail
      refine (hc _).mono ?_
      rintro e w3 ⟨rfl, hb3⟩
      have B1 := H1.out w3 hb3
      have B2 := H2.out w3 hb3
      have hw3 := bel_tr HB.out hb3
      obtain ⟨c0, c1, c2⟩ := ls_cell B1
      have lx4 := ld_ls B1
      have st := st_ls (m := l) B2
      have HR := Lib.hid (And.intro (B2.row l.cs) (below_setRow hw3 (g := W1.heap.size) (by have := H3.out; omega) l.cs))
      generalize w3.setRow W1.heap.size l.cs = w5 at *
      clear B1 B2
      go_wp2
      (try simp only [Exit.inBlock, Exit.then])
      refine bodyPost_ret (results_ls rfl _ _ W1.heap.size (l) rfl HR.out.1) rfl ?_
      rw [HE.out, HN.out]
      exact ⟨rfl, HR.out.2⟩
    · rw [decide_eq_false hg] at d1
      simp only [Bool.not_false] at d1
      have HN := Lib.hid (show grantL l = ⟨l.n, l.h, zz⟩ by unfold grantL; rw [hzz, Nat.max_eq_right (by omega)])
      clear hg hzz
      have hl := late_zero h0
      rw [h0] at hc
      have lx := ld_ls b1
      have HB := Lib.hid hb2
      have H1 := Lib.hid C1
      have H2 := Lib.hid C2
      have H3 := Lib.hid s1
      clear hb2 b1 b2 s1 C1 C2 h0
      go_enter Try.func15, Try.ntmps15
      go_wp2_with fail
      refine (hc _).mono ?_
      rintro e w3 ⟨rfl, hb3⟩
      have B1 := H1.out w3 hb3
      have B2 := H2.out w3 hb3
      have hw3 := bel_tr HB.out hb3
      obtain ⟨c0, c1, c2⟩ := ls_cell B1
      have f9 := B1.free 2
      have B3 : Blk (w3.setCell ⟨w.heap.size, 2, none⟩ (.int .u64 (zz : Int))) w.heap.size 24 (grantL l).cs := by rw [HN.out]; exact B1.set 2 _
      have k3 : Kept [w.heap.size] w3 (w3.setCell ⟨w.heap.size, 2, none⟩ (.int .u64 (zz : Int))) := Kept.setCell (p := ⟨w.heap.size, 2, none⟩) (Kept.refl [w.heap.size] w3) (.inl (by simp)) _
      have B4 := B2.kept k3 (by have := H3.out; simp; omega)
      have hb4 := hw3.trans (k3.below (by simp) hw3.size)
      have hlt := B1.lt
      obtain ⟨w4, hw4⟩ : ∃ w4, w3.setCell ⟨w.heap.size, 2, none⟩ (.int .u64 (zz : Int)) = w4 := ⟨_, rfl⟩
      rw [hw4] at B3 B4 hb4
      have lx4 := ld_ls B3
      have st := st_ls (m := grantL l) B4
      have HR := Lib.hid (And.intro (B4.row (grantL l).cs) (below_setRow hb4 (g := W1.heap.size) (by have := H3.out; omega) (grantL l).cs))
      generalize w4.setRow W1.heap.size (grantL l).cs = w5 at *
      clear B1 B2 B3 B4 k3
      go_wp2
      (try simp only [Exit.inBlock, Exit.then])
      refine bodyPost_ret (results_ls rfl _ _ W1.heap.size (grantL l) rfl HR.out.1) rfl ?_
      rw [HE.out]
      exact ⟨rfl, HR.out.2⟩
  · have lx := ld_ls b1
    have HB := Lib.hid hb2
    have H2 := Lib.hid C2
    have H3 := Lib.hid s1
    have hn : (l.late == 0) = false := by simpa using h0
    have HE := Lib.hid (show (grantR l) = (Ls.zero, l.late) by unfold grantR; rw [if_neg h0])
    generalize l.late = q at *
    clear hb2 b1 b2 s1 C1 C2 h0
    go_enter Try.func15, Try.ntmps15
    go_wp2_with fail
    refine (hc _).mono ?_
    rintro e w3 ⟨rfl, hb3⟩
    have st : (storeSem 24 (.pointer (some ⟨W1.heap.size, 0, none⟩)) (.agg #[.int .u64 0, .int .u64 0, .int .u64 0])).run Try.prog w3 = .ok () (w3.setRow W1.heap.size Ls.zero.cs) := st_ls (m := Ls.zero) (H2.out w3 hb3)
    have HR := Lib.hid (And.intro ((H2.out w3 hb3).row Ls.zero.cs) (below_setRow (bel_tr HB.out hb3) (g := W1.heap.size) (by have := H3.out; omega) Ls.zero.cs))
    generalize w3.setRow W1.heap.size Ls.zero.cs = w4 at *
    go_wp2
    (try simp only [Exit.inBlock, Exit.then])
    refine bodyPost_ret (results_ls rfl _ _ W1.heap.size (Ls.zero) rfl HR.out.1) rfl ?_
    rw [HE.out]
    exact ⟨rfl, HR.out.2⟩

set_option maxRecDepth 100000 in
set_option maxHeartbeats 1600000 in
theorem rgranted_any (l : Ls) (s : Nat) (w : World) : Calls Try.prog 17 #[.agg l.cs, .int .u64 s] w fun e w' => e = .returned (.tuple #[.agg (grantedR l s).1.cs, .int .i64 (grantedR l s).2]) ∧ Below w.heap.size w w' := by
  obtain ⟨W1, hW1⟩ : ∃ W1, w.alloc (.cells l.cs 24) = W1 := ⟨_, rfl⟩
  have s1 : W1.heap.size = w.heap.size + 1 := by rw [← hW1]; simp
  obtain ⟨W2, hW2⟩ : ∃ W2, W1.alloc (.cells #[.int .u64 0, .int .u64 0, .int .u64 0] 24) = W2 := ⟨_, rfl⟩
  have b1 : Blk W2 w.heap.size 24 l.cs := by rw [← hW2, ← hW1]; exact (Blk.new w _ _).alloc _
  have b2 : Blk W2 W1.heap.size 24 Ls.zero.cs := by rw [← hW2]; exact Blk.new W1 _ _
  have hb2 : Below w.heap.size w W2 := by rw [← hW2, ← hW1]; exact bel_al (below_alloc w _) _
  have C1 : ∀ W, Below W2.heap.size W2 W → Blk W w.heap.size 24 l.cs := fun W h => Kept.blk (Kept.of_below [] h) b1 (by simp)
  have C2 : ∀ W, Below W2.heap.size W2 W → Blk W W1.heap.size 24 Ls.zero.cs := fun W h => Kept.blk (Kept.of_below [] h) b2 (by simp)
  have hc := fun w => llate_any l w
  by_cases h0 : l.late = 0
  · have d2 := gtU_nat s l.n
    by_cases hs1 : s ≤ l.n
    · have HE := Lib.hid (show grantedR l s = (grantedL l s, 0) by unfold grantedR; rw [if_pos h0, if_pos (by simpa using hs1)])
      rw [decide_eq_true hs1] at d2
      simp only [Bool.not_true] at d2
      have d0 : adU (s : Int) 8 = ((s + 8 : Nat) : Int) := adU_nat (a := s) (b := 8) (by have := (late_zero h0).2; omega)
      have d1 := gtU_nat (s + 8) l.h
      obtain ⟨zz, hzz⟩ : ∃ zz, s + 8 = zz := ⟨_, rfl⟩
      rw [hzz] at d0 d1
      clear hs1
      by_cases hg : zz ≤ l.h
      · rw [decide_eq_true hg] at d1
        simp only [Bool.not_true] at d1
        have HN := Lib.hid (show grantedL l s = l by unfold grantedL; rw [hzz, Nat.max_eq_left hg])
        clear hg hzz
        have hl := late_zero h0
        rw [h0] at hc
        have lx := ld_ls b1
        have HB := Lib.hid hb2
        have H1 := Lib.hid C1
        have H2 := Lib.hid C2
        have H3 := Lib.hid s1
        clear hb2 b1 b2 s1 C1 C2 h0
        go_enter Try.func17, Try.ntmps17
        go_wp2_with fail
        refine (hc _).mono ?_
        rintro e w3 ⟨rfl, hb3⟩
        have B1 := H1.out w3 hb3
        have B2 := H2.out w3 hb3
        have hw3 := bel_tr HB.out hb3
        obtain ⟨c0, c1, c2⟩ := ls_cell B1
        have lx4 := ld_ls B1
        have st := st_ls (m := l) B2
        have HR := Lib.hid (And.intro (B2.row l.cs) (below_setRow hw3 (g := W1.heap.size) (by have := H3.out; omega) l.cs))
        generalize w3.setRow W1.heap.size l.cs = w5 at *
        clear B1 B2
        go_wp2
        (try simp only [Exit.inBlock, Exit.then])
        refine bodyPost_ret (results_ls rfl _ _ W1.heap.size (l) rfl HR.out.1) rfl ?_
        rw [HE.out, HN.out]
        exact ⟨rfl, HR.out.2⟩
      · rw [decide_eq_false hg] at d1
        simp only [Bool.not_false] at d1
        have HN := Lib.hid (show grantedL l s = ⟨l.n, zz, l.p⟩ by unfold grantedL; rw [hzz, Nat.max_eq_right (by omega)])
        clear hg hzz
        have hl := late_zero h0
        rw [h0] at hc
        have lx := ld_ls b1
        have HB := Lib.hid hb2
        have H1 := Lib.hid C1
        have H2 := Lib.hid C2
        have H3 := Lib.hid s1
        clear hb2 b1 b2 s1 C1 C2 h0
        go_enter Try.func17, Try.ntmps17
        go_wp2_with fail
        refine (hc _).mono ?_
        rintro e w3 ⟨rfl, hb3⟩
        have B1 := H1.out w3 hb3
        have B2 := H2.out w3 hb3
        have hw3 := bel_tr HB.out hb3
        obtain ⟨c0, c1, c2⟩ := ls_cell B1
        have f9 := B1.free 1
        have B3 : Blk (w3.setCell ⟨w.heap.size, 1, none⟩ (.int .u64 (zz : Int))) w.heap.size 24 (grantedL l s).cs := by rw [HN.out]; exact B1.set 1 _
        have k3 : Kept [w.heap.size] w3 (w3.setCell ⟨w.heap.size, 1, none⟩ (.int .u64 (zz : Int))) := Kept.setCell (p := ⟨w.heap.size, 1, none⟩) (Kept.refl [w.heap.size] w3) (.inl (by simp)) _
        have B4 := B2.kept k3 (by have := H3.out; simp; omega)
        have hb4 := hw3.trans (k3.below (by simp) hw3.size)
        have hlt := B1.lt
        obtain ⟨w4, hw4⟩ : ∃ w4, w3.setCell ⟨w.heap.size, 1, none⟩ (.int .u64 (zz : Int)) = w4 := ⟨_, rfl⟩
        rw [hw4] at B3 B4 hb4
        have lx4 := ld_ls B3
        have st := st_ls (m := grantedL l s) B4
        have HR := Lib.hid (And.intro (B4.row (grantedL l s).cs) (below_setRow hb4 (g := W1.heap.size) (by have := H3.out; omega) (grantedL l s).cs))
        generalize w4.setRow W1.heap.size (grantedL l s).cs = w5 at *
        clear B1 B2 B3 B4 k3
        go_wp2
        (try simp only [Exit.inBlock, Exit.then])
        refine bodyPost_ret (results_ls rfl _ _ W1.heap.size (grantedL l s) rfl HR.out.1) rfl ?_
        rw [HE.out]
        exact ⟨rfl, HR.out.2⟩
    · have HE := Lib.hid (show grantedR l s = (Ls.zero, 2) by unfold grantedR; rw [if_pos h0, if_neg (by simpa using hs1)])
      rw [decide_eq_false hs1] at d2
      simp only [Bool.not_false] at d2
      clear hs1
      have hl := late_zero h0
      rw [h0] at hc
      have lx := ld_ls b1
      have HB := Lib.hid hb2
      have H1 := Lib.hid C1
      have H2 := Lib.hid C2
      have H3 := Lib.hid s1
      clear hb2 b1 b2 s1 C1 C2 h0
      go_enter Try.func17, Try.ntmps17
      go_wp2_with fail
      refine (hc _).mono ?_
      rintro e w3 ⟨rfl, hb3⟩
      have B1 := H1.out w3 hb3
      have B2 := H2.out w3 hb3
      have hw3 := bel_tr HB.out hb3
      obtain ⟨c0, c1, c2⟩ := ls_cell B1
      have st : (storeSem 24 (.pointer (some ⟨W1.heap.size, 0, none⟩)) (.agg #[.int .u64 0, .int .u64 0, .int .u64 0])).run Try.prog w3 = .ok () (w3.setRow W1.heap.size Ls.zero.cs) := st_ls (m := Ls.zero) B2
      have HR := Lib.hid (And.intro (B2.row Ls.zero.cs) (below_setRow hw3 (g := W1.heap.size) (by have := H3.out; omega) Ls.zero.cs))
      generalize w3.setRow W1.heap.size Ls.zero.cs = w5 at *
      clear B1 B2
      go_wp2
      (try simp only [Exit.inBlock, Exit.then])
      refine bodyPost_ret (results_ls rfl _ _ W1.heap.size (Ls.zero) rfl HR.out.1) rfl ?_
      rw [HE.out]
      exact ⟨rfl, HR.out.2⟩
  · have lx := ld_ls b1
    have HB := Lib.hid hb2
    have H2 := Lib.hid C2
    have H3 := Lib.hid s1
    have hn : (l.late == 0) = false := by simpa using h0
    have HE := Lib.hid (show (grantedR l s) = (Ls.zero, l.late) by unfold grantedR; rw [if_neg h0])
    generalize l.late = q at *
    clear hb2 b1 b2 s1 C1 C2 h0
    go_enter Try.func17, Try.ntmps17
    go_wp2_with fail
    refine (hc _).mono ?_
    rintro e w3 ⟨rfl, hb3⟩
    have st : (storeSem 24 (.pointer (some ⟨W1.heap.size, 0, none⟩)) (.agg #[.int .u64 0, .int .u64 0, .int .u64 0])).run Try.prog w3 = .ok () (w3.setRow W1.heap.size Ls.zero.cs) := st_ls (m := Ls.zero) (H2.out w3 hb3)
    have HR := Lib.hid (And.intro ((H2.out w3 hb3).row Ls.zero.cs) (below_setRow (bel_tr HB.out hb3) (g := W1.heap.size) (by have := H3.out; omega) Ls.zero.cs))
    generalize w3.setRow W1.heap.size Ls.zero.cs = w4 at *
    go_wp2
    (try simp only [Exit.inBlock, Exit.then])
    refine bodyPost_ret (results_ls rfl _ _ W1.heap.size (Ls.zero) rfl HR.out.1) rfl ?_
    rw [HE.out]
    exact ⟨rfl, HR.out.2⟩

end Go.Proofs.Ytgmagnmbbhekjaa
