/-
  The walk of RouteApplies. Nothing here is a statement of the document.
-/
import Derived.Test.YtclkfmblogkakaaDoorRtZb
import Derived.Test.YtclkfmblogkakaaDoorRvD
import Derived.Test.YtclkfmblogkakaaDoorRtX
namespace Go.Proofs.YtclkfmblogkakaaDoor
open Go.RowKit Go.Shelf
set_option linter.unusedVariables false
set_option maxRecDepth 100000
theorem z_bat : (Tryd.prog.info? 27).map (fun i => (i.zero, i.size)) = some (some (.agg #[.slice none 0 0]), 1) := by kernel_rfl
theorem s_bat1 {a : Option Addr} {n c : Nat} : (Tryd.prog.info? 27).map (·.size) = some (#[Value.slice a n c] : Array Value).size := (zero_of_info z_bat).2
theorem st_bat {w : World} {g : Nat} {a a2 : Option Addr} {n c n2 c2 : Nat} (h : Blk w g 27 #[.slice a n c]) : (storeSem 27 (.pointer (some ⟨g, 0, none⟩)) (.agg #[.slice a2 n2 c2])).run Tryd.prog w = .ok () (w.setRow g #[.slice a2 n2 c2]) := by
  have := storeRes_of (P := Tryd.prog) (ty := 27) (o := 0) (vs := #[.slice a2 n2 c2]) h (by simp) s_bat1 (by simp [Value.oneCell'])
  rwa [over_all (by simp)] at this
def owF (B n n2 : Nat) (L : List Ro) (U : List Up) (i : Nat) (v : Value) (w : World) : Prop :=
  (i = 0 → ∃ g, v = .slice (some ⟨g, 0, none⟩) 0 0 ∧ B ≤ g ∧ Blk w g 67 #[]) ∧ (i = 3 → ∃ a c, v = .slice a n c ∧ OwnRo w B (.slice a n c) L) ∧
  (i = 5 → ∃ g, v = .slice (some ⟨g, 0, none⟩) 0 0 ∧ B ≤ g ∧ Blk w g 72 #[]) ∧ (i = 8 → ∃ a c, v = .slice a n2 c ∧ OwnUp w B (.slice a n2 c) U)
theorem owF.later {B n n2 : Nat} {L : List Ro} {U : List Up} {w w' : World} {i : Nat} {v : Value} (h : owF B n n2 L U i v w) (k : Below w.heap.size w w') : owF B n n2 L U i v w' := by
  refine ⟨fun e => ?_, fun e => ?_, fun e => ?_, fun e => ?_⟩
  · obtain ⟨g, h1, h2, h3⟩ := h.1 e; exact ⟨g, h1, h2, h3.later k⟩
  · obtain ⟨a, c, h1, h2⟩ := h.2.1 e; exact ⟨a, c, h1, h2.later k⟩
  · obtain ⟨g, h1, h2, h3⟩ := h.2.2.1 e; exact ⟨g, h1, h2, h3.later k⟩
  · obtain ⟨a, c, h1, h2⟩ := h.2.2.2 e; exact ⟨a, c, h1, h2.later k⟩
theorem OwnUp.lies9 {w : World} {B : Nat} {v : Value} {U : List Up} {n : Nat} (h : OwnUp w B v U) (hn : U.length = n) : ∃ a c, v = .slice a n c := by
  obtain ⟨a, c, h1, _⟩ := h.lies
  rw [hn] at h1; exact ⟨a, c, h1⟩
theorem OwnRo.lies9 {w : World} {B : Nat} {v : Value} {U : List Ro} {n : Nat} (h : OwnRo w B v U) (hn : U.length = n) : ∃ a c, v = .slice a n c := by
  obtain ⟨a, c, h1, _⟩ := h.lies
  rw [hn] at h1; exact ⟨a, c, h1⟩
attribute [local go_sem ↓] load_rib_rule store_rib_rule build_rib_rule build_bat_rule load_bat_rule store_bat_rule upbuild_rule robuild_rule roapp_rule upapp_rule
set_option maxHeartbeats 4000000 in
theorem own11_any (a : Option Addr) (n c : Nat) (L : List Ro) (a2 : Option Addr) (n2 c2 : Nat) (U : List Up) (w : World) (hn : L.length = n) (hs : n ≤ 1000) (hR : RoAt w a L) (h0 : a = none → c = 0)
    (hn2 : U.length = n2) (hs2 : n2 ≤ 1000) (hR2 : UpAt w a2 U) (h02 : a2 = none → c2 = 0) :
    Calls Tryd.prog 10 #[.agg #[.slice a n c], .agg #[.slice a2 n2 c2]] w fun e w' => ∃ a' c' b' d', e = .returned (.tuple #[.agg #[.slice a' n c'], .agg #[.slice b' n2 d']]) ∧ OwnRo w' w.heap.size (.slice a' n c') L ∧ OwnUp w' w.heap.size (.slice b' n2 d') U ∧ Below w.heap.size w w' := by
  obtain ⟨W0, hW0⟩ : ∃ W0, (w.alloc (.cells #[.slice a n c] 24)).alloc (.cells #[.slice a2 n2 c2] 27) = W0 := ⟨_, rfl⟩
  obtain ⟨Wa, hWa⟩ : ∃ Wa, W0.alloc (.cells #[.slice none 0 0] 24) = Wa := ⟨_, rfl⟩
  obtain ⟨W1, hW1⟩ : ∃ W1, Wa.alloc (.cells #[.slice none 0 0] 27) = W1 := ⟨_, rfl⟩
  have sz0 : W0.heap.size = w.heap.size + 2 := by rw [← hW0]; simp
  have sza : Wa.heap.size = w.heap.size + 3 := by rw [← hWa, World.size_alloc, sz0]
  have sz1 : W1.heap.size = w.heap.size + 4 := by rw [← hW1, World.size_alloc, sza]
  have hb0 : Below w.heap.size w W0 := by rw [← hW0]; exact (((Below.refl w.heap.size w).alloc (Nat.le_refl _) _).alloc (by simp) _)
  have hb0a : Below W0.heap.size W0 Wa := by rw [← hWa]; exact (Below.refl _ _).alloc (Nat.le_refl _) _
  have hba1 : Below Wa.heap.size Wa W1 := by rw [← hW1]; exact (Below.refl _ _).alloc (Nat.le_refl _) _
  have hb1 : Below w.heap.size w W1 := bel_trans hb0 (bel_trans hb0a hba1)
  have b3 : Blk W1 W0.heap.size 24 #[.slice none 0 0] := by
    have h9 := Blk.new W0 24 #[.slice none 0 0]
    rw [hWa] at h9; exact h9.later hba1
  have b4 : Blk W1 Wa.heap.size 27 #[.slice none 0 0] := by rw [← hW1]; exact Blk.new _ _ _
  have b1 : Blk W1 w.heap.size 24 #[.slice a n c] := by
    have h9 := (Blk.new w 24 #[.slice a n c]).alloc (.cells #[.slice a2 n2 c2] 27)
    rw [hW0] at h9
    exact h9.later (bel_trans hb0a hba1)
  have b2 : Blk W1 (w.heap.size + 1) 27 #[.slice a2 n2 c2] := by
    have h9 := Blk.new (w.alloc (.cells #[.slice a n c] 24)) 27 #[.slice a2 n2 c2]
    rw [World.size_alloc, hW0] at h9
    exact h9.later (bel_trans hb0a hba1)
  -- what every operation keeps
  obtain ⟨S, hSd⟩ : ∃ S : World → Prop, S = fun w' => Below w.heap.size w w' ∧ Blk w' w.heap.size 24 #[.slice a n c] ∧ Blk w' (w.heap.size + 1) 27 #[.slice a2 n2 c2] ∧ (∃ x y z, Blk w' W0.heap.size 24 #[.slice x y z]) ∧ (∃ x y z, Blk w' Wa.heap.size 27 #[.slice x y z]) ∧ W1.heap.size ≤ w'.heap.size := ⟨_, rfl⟩
  have S1 : S W1 := by rw [hSd]; exact ⟨hb1, b1, b2, ⟨_, _, _, b3⟩, ⟨_, _, _, b4⟩, Nat.le_refl _⟩
  have Sl : ∀ {p q : World}, S p → Below p.heap.size p q → S q := fun {p q} h k => by
    rw [hSd] at h ⊢
    obtain ⟨q1, q2, q3, ⟨x, y, z, q4⟩, ⟨x2, y2, z2, q5⟩, q6⟩ := h
    exact ⟨bel_trans q1 k, q2.later k, q3.later k, ⟨x, y, z, q4.later k⟩, ⟨x2, y2, z2, q5.later k⟩, Nat.le_trans q6 k.size⟩
  have CR : ∀ w', S w' → w'.cell? ⟨w.heap.size, 0, none⟩ = some (.slice a n c) := fun w' h => by rw [hSd] at h; exact h.2.1.cell 0
  have CB : ∀ w', S w' → w'.cell? ⟨w.heap.size + 1, 0, none⟩ = some (.slice a2 n2 c2) := fun w' h => by rw [hSd] at h; exact h.2.2.1.cell 0
  have do0 : ∀ w', S w' → S (w'.alloc (.cells #[] 67)) ∧ (∀ d u, d ≠ 0 → owF W1.heap.size n n2 L U d u w' → owF W1.heap.size n n2 L U d u (w'.alloc (.cells #[] 67))) ∧ owF W1.heap.size n n2 L U 0 (.slice (some ⟨w'.heap.size, 0, none⟩) 0 0) (w'.alloc (.cells #[] 67)) := fun w' h => by
    have k : Below w'.heap.size w' (w'.alloc (.cells #[] 67)) := (Below.refl _ _).alloc (Nat.le_refl _) _
    have hz : W1.heap.size ≤ w'.heap.size := by rw [hSd] at h; exact h.2.2.2.2.2
    exact ⟨Sl h k, fun d u _ h => h.later k, ⟨fun _ => ⟨_, rfl, hz, Blk.new _ _ _⟩, fun e => (by cases e), fun e => (by cases e), fun e => (by cases e)⟩⟩
  have do5 : ∀ w', S w' → S (w'.alloc (.cells #[] 72)) ∧ (∀ d u, d ≠ 5 → owF W1.heap.size n n2 L U d u w' → owF W1.heap.size n n2 L U d u (w'.alloc (.cells #[] 72))) ∧ owF W1.heap.size n n2 L U 5 (.slice (some ⟨w'.heap.size, 0, none⟩) 0 0) (w'.alloc (.cells #[] 72)) := fun w' h => by
    have k : Below w'.heap.size w' (w'.alloc (.cells #[] 72)) := (Below.refl _ _).alloc (Nat.le_refl _) _
    have hz : W1.heap.size ≤ w'.heap.size := by rw [hSd] at h; exact h.2.2.2.2.2
    exact ⟨Sl h k, fun d u _ h => h.later k, ⟨fun e => (by cases e), fun e => (by cases e), fun _ => ⟨_, rfl, hz, Blk.new _ _ _⟩, fun e => (by cases e)⟩⟩
  have do3 : ∀ w' g, S w' → W1.heap.size ≤ g → Blk w' g 67 #[] → ∃ v w2, (∀ ty : TypeId, (roappSem ty #[.slice (some ⟨g, 0, none⟩) 0 0, .slice a n c]).run Tryd.prog w' = .ok v w2) ∧ S w2 ∧ (∀ d u, d ≠ 3 → owF W1.heap.size n n2 L U d u w' → owF W1.heap.size n n2 L U d u w2) ∧ owF W1.heap.size n n2 L U 3 v w2 := fun w' g h hg hb => by
    have hbw : Below w.heap.size w w' := by rw [hSd] at h; exact h.1
    obtain ⟨v, w2, q1, q2, q3⟩ := roapp_zero hb hg hn hs (hR.later hbw) h0
    obtain ⟨x, y, rfl⟩ := q2.lies9 hn
    exact ⟨_, w2, q1, Sl h q3, fun d u _ h => h.later q3, ⟨fun e => (by cases e), fun _ => ⟨x, y, rfl, q2⟩, fun e => (by cases e), fun e => (by cases e)⟩⟩
  have do8 : ∀ w' g, S w' → W1.heap.size ≤ g → Blk w' g 72 #[] → ∃ v w2, (∀ ty : TypeId, (upappSem ty #[.slice (some ⟨g, 0, none⟩) 0 0, .slice a2 n2 c2]).run Tryd.prog w' = .ok v w2) ∧ S w2 ∧ (∀ d u, d ≠ 8 → owF W1.heap.size n n2 L U d u w' → owF W1.heap.size n n2 L U d u w2) ∧ owF W1.heap.size n n2 L U 8 v w2 := fun w' g h hg hb => by
    have hbw : Below w.heap.size w w' := by rw [hSd] at h; exact h.1
    obtain ⟨v, w2, q1, q2, q3⟩ := upapp_zero hb hg hn2 hs2 (hR2.later hbw) h02
    obtain ⟨x, y, rfl⟩ := q2.lies9 hn2
    exact ⟨_, w2, q1, Sl h q3, fun d u _ h => h.later q3, ⟨fun e => (by cases e), fun e => (by cases e), fun e => (by cases e), fun _ => ⟨x, y, rfl, q2⟩⟩⟩
  have hne : ∀ i, [0, 3, 5, 8].contains i = true → ∃ v w, owF W1.heap.size n n2 L U i v w := by
    intro i hi
    have hi2 : i = 0 ∨ i = 3 ∨ i = 5 ∨ i = 8 := by simpa using hi
    rcases hi2 with rfl | rfl | rfl | rfl
    · exact ⟨_, _, (do0 W1 S1).2.2⟩
    · obtain ⟨v, w2, _, _, _, h⟩ := do3 _ _ (do0 W1 S1).1 (Nat.le_refl _) (Blk.new W1 _ _)
      exact ⟨v, w2, h⟩
    · exact ⟨_, _, (do5 W1 S1).2.2⟩
    · obtain ⟨v, w2, _, _, _, h⟩ := do8 _ _ (do5 W1 S1).1 (Nat.le_refl _) (Blk.new W1 _ _)
      exact ⟨v, w2, h⟩
  have HS := Lib.hid hSd
  have HB := Lib.hid (And.intro sz0 (And.intro sza sz1))
  have Sdr : S W1.drew := Sl S1 (bel_drew (Below.refl _ _))
  clear hSd hR hR2 h0 h02 b1 b2 b3 b4 hb0 hb0a hba1 hb1 sz0 sza sz1 hn hn2
  go_enter Tryd.func10, Tryd.ntmps10
  go_upto_region 1 with (first | (with_reducible refine wpList_alloc_z rfl 24 rfl #[.slice none 0 0] 1 z_rib ?_) | (with_reducible refine wpList_alloc_z rfl 27 rfl #[.slice none 0 0] 1 z_bat ?_))
  rw [hWa, hW1]
  refine wp_region_linW S (fun _ _ => True) (owF W1.heap.size n n2 L U) [0, 3, 5, 8] [10, 11] [0, 1, 2, 3, 4, 5, 6, 7, 8, 9] [10, 11] (by kernel_rfl) (by kernel_rfl) hne Sdr (fun _ => trivial) ?_
  refine linW_do rfl rfl (by rfl) (fun w9 hS9 _ _ => ?_) (fun v0 hv0 => ?_)
  · have r9 := robuild0_run w9
    obtain ⟨q1, q2, q3⟩ := do0 w9 hS9
    exact ⟨_, _, by go_simp, q1, fun _ _ _ => trivial, q2, q3⟩
  obtain ⟨g0, rfl⟩ : ∃ g0, v0 = .slice (some ⟨g0, 0, none⟩) 0 0 := by
    obtain ⟨_, h⟩ := hv0
    obtain ⟨g, h1, _⟩ := h.1 rfl
    exact ⟨g, h1⟩
  (try simp only [Act.put, List.getElem_toArray, List.getElem_cons_zero, List.getElem_cons_succ, List.setIfInBounds_toArray, List.set_cons_zero, List.set_cons_succ])
  (refine linW_op (v := ?_) rfl rfl (by rfl) (fun w9 hS9 => ?_) ?_; rotate_left; (focus (((try dsimp only at hS9); have k1 := CR w9 hS9; have k2 := CB w9 hS9; go_simp; (try go_bits)) <;> with_reducible rfl)); (try simp only [Act.put, List.getElem_toArray, List.getElem_cons_zero, List.getElem_cons_succ, List.setIfInBounds_toArray, List.set_cons_zero, List.set_cons_succ]))
  (refine linW_op (v := ?_) rfl rfl (by rfl) (fun w9 hS9 => ?_) ?_; rotate_left; (focus (((try dsimp only at hS9); have k1 := CR w9 hS9; have k2 := CB w9 hS9; go_simp; (try go_bits)) <;> with_reducible rfl)); (try simp only [Act.put, List.getElem_toArray, List.getElem_cons_zero, List.getElem_cons_succ, List.setIfInBounds_toArray, List.set_cons_zero, List.set_cons_succ]))
  refine linW_do rfl rfl (by rfl) (fun w9 hS9 _ hF9 => ?_) (fun v3 hv3 => ?_)
  · have f0 := hF9 (0, .slice (some ⟨g0, 0, none⟩) 0 0) (by simp) (by kernel_rfl)
    obtain ⟨g, e1, e2, e3⟩ := f0.1 rfl
    injection e1 with e1a
    injection e1a with e1b
    injection e1b with e1c
    subst e1c
    obtain ⟨v, w8, r8, q1, q2, q3⟩ := do3 w9 _ hS9 e2 e3
    exact ⟨v, w8, by have r : (Builtin.append_ #[22, 22] 22 #[.slice (some ⟨g0, 0, none⟩) 0 0, .slice a n c]).run Tryd.prog w9 = .ok v w8 := r8 _; simp [execOp, resolve, invoke, builtin, Act.eval, r, Result.andThen], q1, fun _ _ _ => trivial, q2, q3⟩
  obtain ⟨a3, c3, rfl⟩ : ∃ a3 c3, v3 = .slice a3 n c3 := by
    obtain ⟨_, h⟩ := hv3
    obtain ⟨x, y, h1, _⟩ := h.2.1 rfl
    exact ⟨x, y, h1⟩
  (try simp only [Act.put, List.getElem_toArray, List.getElem_cons_zero, List.getElem_cons_succ, List.setIfInBounds_toArray, List.set_cons_zero, List.set_cons_succ])
  have BR := build_rib1 a3 n c3
  (refine linW_op (v := ?_) rfl rfl (by rfl) (fun w9 hS9 => ?_) ?_; rotate_left; (focus (((try dsimp only at hS9); have k1 := CR w9 hS9; have k2 := CB w9 hS9; go_simp; (try go_bits)) <;> with_reducible rfl)); (try simp only [Act.put, List.getElem_toArray, List.getElem_cons_zero, List.getElem_cons_succ, List.setIfInBounds_toArray, List.set_cons_zero, List.set_cons_succ]))
  refine linW_do rfl rfl (by rfl) (fun w9 hS9 _ _ => ?_) (fun v5 hv5 => ?_)
  · have r9 := upbuild0_run w9
    obtain ⟨q1, q2, q3⟩ := do5 w9 hS9
    exact ⟨_, _, by go_simp, q1, fun _ _ _ => trivial, q2, q3⟩
  obtain ⟨g5, rfl⟩ : ∃ g5, v5 = .slice (some ⟨g5, 0, none⟩) 0 0 := by
    obtain ⟨_, h⟩ := hv5
    obtain ⟨g, h1, _⟩ := h.2.2.1 rfl
    exact ⟨g, h1⟩
  (try simp only [Act.put, List.getElem_toArray, List.getElem_cons_zero, List.getElem_cons_succ, List.setIfInBounds_toArray, List.set_cons_zero, List.set_cons_succ])
  (refine linW_op (v := ?_) rfl rfl (by rfl) (fun w9 hS9 => ?_) ?_; rotate_left; (focus (((try dsimp only at hS9); have k1 := CR w9 hS9; have k2 := CB w9 hS9; go_simp; (try go_bits)) <;> with_reducible rfl)); (try simp only [Act.put, List.getElem_toArray, List.getElem_cons_zero, List.getElem_cons_succ, List.setIfInBounds_toArray, List.set_cons_zero, List.set_cons_succ]))
  (refine linW_op (v := ?_) rfl rfl (by rfl) (fun w9 hS9 => ?_) ?_; rotate_left; (focus (((try dsimp only at hS9); have k1 := CR w9 hS9; have k2 := CB w9 hS9; go_simp; (try go_bits)) <;> with_reducible rfl)); (try simp only [Act.put, List.getElem_toArray, List.getElem_cons_zero, List.getElem_cons_succ, List.setIfInBounds_toArray, List.set_cons_zero, List.set_cons_succ]))
  refine linW_do rfl rfl (by rfl) (fun w9 hS9 _ hF9 => ?_) (fun v8 hv8 => ?_)
  · have f5 := hF9 (5, .slice (some ⟨g5, 0, none⟩) 0 0) (by simp) (by kernel_rfl)
    obtain ⟨g, e1, e2, e3⟩ := f5.2.2.1 rfl
    injection e1 with e1a
    injection e1a with e1b
    injection e1b with e1c
    subst e1c
    obtain ⟨v, w8, r8, q1, q2, q3⟩ := do8 w9 _ hS9 e2 e3
    exact ⟨v, w8, by have r : (Builtin.append_ #[25, 25] 25 #[.slice (some ⟨g5, 0, none⟩) 0 0, .slice a2 n2 c2]).run Tryd.prog w9 = .ok v w8 := r8 _; simp [execOp, resolve, invoke, builtin, Act.eval, r, Result.andThen], q1, fun _ _ _ => trivial, q2, q3⟩
  obtain ⟨a8, c8, rfl⟩ : ∃ a8 c8, v8 = .slice a8 n2 c8 := by
    obtain ⟨_, h⟩ := hv8
    obtain ⟨x, y, h1, _⟩ := h.2.2.2 rfl
    exact ⟨x, y, h1⟩
  (try simp only [Act.put, List.getElem_toArray, List.getElem_cons_zero, List.getElem_cons_succ, List.setIfInBounds_toArray, List.set_cons_zero, List.set_cons_succ])
  have BB := build_bat1 a8 n2 c8
  (refine linW_op (v := ?_) rfl rfl (by rfl) (fun w9 hS9 => ?_) ?_; rotate_left; (focus (((try dsimp only at hS9); have k1 := CR w9 hS9; have k2 := CB w9 hS9; go_simp; (try go_bits)) <;> with_reducible rfl)); (try simp only [Act.put, List.getElem_toArray, List.getElem_cons_zero, List.getElem_cons_succ, List.setIfInBounds_toArray, List.set_cons_zero, List.set_cons_succ]))
  refine linW_nil (fun w9 hS9 hF9 => ?_)
  have f3 := hF9 (3, .slice a3 n c3) (by simp)
  have f8 := hF9 (8, .slice a8 n2 c8) (by simp)
  have S9 := hS9
  rw [HS.out] at S9
  obtain ⟨q1, q2, q3, ⟨x, y, z, q4⟩, ⟨x2, y2, z2, q5⟩, q6⟩ := S9
  obtain ⟨a3', c3', e3, hO3⟩ := f3.2.1 rfl
  obtain ⟨a8', c8', e8, hO8⟩ := f8.2.2.2 rfl
  injection e3 with e3a _ e3c
  injection e8 with e8a _ e8c
  subst e3a e3c e8a e8c
  have hsz := HB.out
  have SX := st_rib (a2 := a3) (n2 := n) (c2 := c3) q4
  obtain ⟨W10, hW10⟩ : ∃ W10, w9.setRow W0.heap.size #[.slice a3 n c3] = W10 := ⟨_, rfl⟩
  rw [hW10] at SX
  have kX : Kept [W0.heap.size] w9 W10 := by rw [← hW10]; exact (Kept.refl _ _).setRow (.inl (by simp)) _
  have b10 : Blk W10 W0.heap.size 24 #[.slice a3 n c3] := by rw [← hW10]; exact q4.row _
  have b11 := q5.kept kX (by simp; omega)
  have SY := st_bat (a2 := a8) (n2 := n2) (c2 := c8) b11
  obtain ⟨W11, hW11⟩ : ∃ W11, W10.setRow Wa.heap.size #[.slice a8 n2 c8] = W11 := ⟨_, rfl⟩
  rw [hW11] at SY
  have kY : Kept [Wa.heap.size] W10 W11 := by rw [← hW11]; exact (Kept.refl _ _).setRow (.inl (by simp)) _
  have b12 : Blk W11 Wa.heap.size 27 #[.slice a8 n2 c8] := by rw [← hW11]; exact b11.row _
  have b13 := b10.kept kY (by simp; omega)
  have SW10 : S W10 := by
    rw [HS.out]
    exact ⟨q1.trans (kX.below (fun k hk => by simp at hk; omega) q1.size), q2.kept kX (by simp; omega), q3.kept kX (by simp; omega), ⟨_, _, _, b10⟩, ⟨_, _, _, b11⟩, Nat.le_trans q6 kX.size⟩
  have SW11 : S W11 := by
    have h9 := SW10
    rw [HS.out] at h9 ⊢
    exact ⟨h9.1.trans (kY.below (fun k hk => by simp at hk; omega) h9.1.size), h9.2.1.kept kY (by simp; omega), h9.2.2.1.kept kY (by simp; omega), ⟨_, _, _, b13⟩, ⟨_, _, _, b12⟩, Nat.le_trans h9.2.2.2.2.2 kY.size⟩
  have hOA : OwnRo W11 w.heap.size (.slice a3 n c3) L := (((hO3.kept kX (fun g hg => by have := hO3.above g hg; simp; omega)).kept kY (fun g hg => by have := hO3.above g hg; simp; omega))).less (by omega)
  have hOB : OwnUp W11 w.heap.size (.slice a8 n2 c8) U := by
    refine ⟨hO8.1, ?_⟩
    rcases hO8.2 with h | ⟨g, cap, cur, h1, h2, h3, h4⟩
    · exact .inl h
    · exact .inr ⟨g, cap, cur, h1, by omega, kY.blk (kX.blk h3 (by simp; omega)) (by simp; omega), h4⟩
  have hbF : Below w.heap.size w W11 := by have h9 := SW11; rw [HS.out] at h9; exact h9.1
  have HF := Lib.hid (And.intro hOA (And.intro hOB (And.intro hbF (And.intro b13 b12))))
  clear hsz
  refine linX_store (w' := W10) rfl rfl (by rfl) ?_ SW10 ?_; (focus (go_simp; done))
  (try simp only [Act.put, List.getElem_toArray, List.getElem_cons_zero, List.getElem_cons_succ, List.setIfInBounds_toArray, List.set_cons_zero, List.set_cons_succ])
  refine linX_store (w' := W11) rfl rfl (by rfl) ?_ SW11 ?_; (focus (go_simp; done))
  (try simp only [Act.put, List.getElem_toArray, List.getElem_cons_zero, List.getElem_cons_succ, List.setIfInBounds_toArray, List.set_cons_zero, List.set_cons_succ])
  refine linX_nil ?_
  clear hOA hOB hbF
  go_wp2_with fail
  refine bodyPost_ret (results_blks rfl _ _ W0.heap.size Wa.heap.size _ _ _ _ rfl rfl HF.out.2.2.2.1 HF.out.2.2.2.2 Tryd.underlying24 rfl s_rib1 Tryd.underlying27 rfl s_bat1) rfl ?_
  exact ⟨a3, c3, a8, c8, rfl, HF.out.1, HF.out.2.1, HF.out.2.2.1⟩
end Go.Proofs.YtclkfmblogkakaaDoor
namespace Go.Proofs.YtclkfmblogkakaaDoor
open Go.RowKit Go.Shelf
set_option linter.unusedVariables false
set_option maxRecDepth 100000
/-- A RIB in a new box. -/
theorem rib_box (w : World) (a : Option Addr) (n c : Nat) : ∃ W, (storeSem 24 (.pointer (some ⟨w.heap.size, 0, none⟩)) (.agg #[.slice a n c])).run Tryd.prog (w.alloc (.cells #[.slice none 0 0] 24)) = .ok () W ∧ Blk W w.heap.size 24 #[.slice a n c] ∧ Below w.heap.size w W :=
  ⟨_, st_rib (Blk.new w _ _), Blk.row (Blk.new w _ _) _, below_setRow ((Below.refl _ _).alloc (Nat.le_refl _) _) (Nat.le_refl _) _⟩
/-- A RIB and a batch in two new boxes. -/
theorem rib_bat_box (w : World) (a : Option Addr) (n c : Nat) (a2 : Option Addr) (n2 c2 : Nat) : ∃ W5 W6, (storeSem 24 (.pointer (some ⟨w.heap.size, 0, none⟩)) (.agg #[.slice a n c])).run Tryd.prog ((w.alloc (.cells #[.slice none 0 0] 24)).alloc (.cells #[.slice none 0 0] 27)) = .ok () W5 ∧
    (storeSem 27 (.pointer (some ⟨w.heap.size + 1, 0, none⟩)) (.agg #[.slice a2 n2 c2])).run Tryd.prog W5 = .ok () W6 ∧ Blk W6 w.heap.size 24 #[.slice a n c] ∧ Blk W6 (w.heap.size + 1) 27 #[.slice a2 n2 c2] ∧ Below w.heap.size w W6 := by
  have b1 : Blk ((w.alloc (.cells #[.slice none 0 0] 24)).alloc (.cells #[.slice none 0 0] 27)) w.heap.size 24 #[.slice none 0 0] := (Blk.new _ _ _).alloc _
  have b2 := blk_new2 w (.cells #[.slice none 0 0] 24) 27 #[.slice none 0 0]
  have hb : Below w.heap.size w ((w.alloc (.cells #[.slice none 0 0] 24)).alloc (.cells #[.slice none 0 0] 27)) := ((Below.refl _ _).alloc (Nat.le_refl _) _).alloc (by simp) _
  have k1 : Kept [w.heap.size] _ (((w.alloc (.cells #[.slice none 0 0] 24)).alloc (.cells #[.slice none 0 0] 27)).setRow w.heap.size #[.slice a n c]) := (Kept.refl _ _).setRow (.inl (by simp)) _
  have b3 := b2.kept k1 (by simp)
  refine ⟨_, _, st_rib b1, st_bat b3, ?_, Blk.row b3 _, below_setRow (below_setRow hb (Nat.le_refl _) _) (by omega) _⟩
  exact (b1.row #[.slice a n c]).kept ((Kept.refl [w.heap.size + 1] _).setRow (.inl (by simp)) _) (by simp)
theorem OwnUp.lies2 {w : World} {B : Nat} {a : Option Addr} {n c : Nat} {U : List Up} (h : OwnUp w B (.slice a n c) U) : n = U.length ∧ n ≤ c ∧ c ≤ maxLen ∧ UpAt w a U ∧ (a = none → c = 0) := by
  obtain ⟨a', c', h1, h2, h3, h4, h5⟩ := h.lies
  injection h1 with e1 e2 e3
  subst e1 e2 e3
  refine ⟨rfl, h2, h3, h4, fun h0 => ?_⟩
  subst h0
  rcases h.2 with ⟨h9, _⟩ | ⟨g, cap, cur, h9, _⟩
  · injection h9
  · injection h9 with h8; cases h8
theorem OwnRo.lies2 {w : World} {B : Nat} {a : Option Addr} {n c : Nat} {U : List Ro} (h : OwnRo w B (.slice a n c) U) : n = U.length ∧ n ≤ c ∧ c ≤ maxLen ∧ RoAt w a U ∧ (a = none → c = 0) := by
  obtain ⟨a', c', h1, h2, h3, h4, h5⟩ := h.lies
  injection h1 with e1 e2 e3
  subst e1 e2 e3
  refine ⟨rfl, h2, h3, h4, fun h0 => ?_⟩
  subst h0
  rcases h.2 with ⟨h9, _⟩ | ⟨g, cap, cur, h9, _⟩
  · injection h9
  · injection h9 with h8; cases h8
attribute [local go_sem ↓] load_rib_rule store_rib_rule load_bat_rule store_bat_rule
set_option maxHeartbeats 4000000 in
theorem rapplies_walk (a : Option Addr) (n c : Nat) (L : List Ro) (a2 : Option Addr) (n2 c2 : Nat) (U : List Up) (w : World) (hW : Wid w) (hn : L.length = n) (hR : RoAt w a L) (hc : n ≤ c ∧ c ≤ maxLen ∧ (a = none → c = 0))
    (hn2 : U.length = n2) (hR2 : UpAt w a2 U) (hc2 : n2 ≤ c2 ∧ c2 ≤ maxLen ∧ (a2 = none → c2 = 0)) :
    Calls Tryd.prog 3 #[.agg #[.slice a n c], .agg #[.slice a2 n2 c2]] w fun e w' => e = .returned (.bool true) ∧ Below w.heap.size w w' := by
  obtain ⟨W1, hW1⟩ : ∃ W1, (w.alloc (.cells #[.slice a n c] 24)).alloc (.cells #[.slice a2 n2 c2] 27) = W1 := ⟨_, rfl⟩
  have hb1 : Below w.heap.size w W1 := by rw [← hW1]; exact ((Below.refl _ _).alloc (Nat.le_refl _) _).alloc (by simp) _
  have b1 : Blk W1 w.heap.size 24 #[.slice a n c] := by rw [← hW1]; exact (Blk.new _ _ _).alloc _
  have b2 : Blk W1 (w.heap.size + 1) 27 #[.slice a2 n2 c2] := by rw [← hW1]; exact blk_new2 _ _ _ _
  have LR := Lib.hid (rib_t b1)
  have LB := Lib.hid (bat_t b2)
  have HWK := wakes11_any W1 (hW.later hb1)
  have HB := Lib.hid (And.intro hb1 (And.intro hn hn2))
  have HR := Lib.hid (fun (w' : World) (h : Below W1.heap.size W1 w') => And.intro ((hW.later hb1).later h) (And.intro ((hR.later hb1).later h) ((hR2.later hb1).later h)))
  have HC := Lib.hid (And.intro hc hc2)
  clear hR hR2 b1 b2 hb1 hc hc2 hn hn2 hW
  go_enter Tryd.func3, Tryd.ntmps3
  go_wp2_with fail
  refine HWK.mono ?_
  rintro e w2 ⟨rfl, hb2⟩
  have LR2 := LR.out w2 hb2
  have LB2 := LB.out w2 hb2
  have HOV := over11_any a n c a2 n2 c2 w2 _ rfl
  clear HWK
  by_cases hov : 300 < n ∨ 100 < n2
  · rw [decide_eq_true hov] at HOV
    clear hov
    go_wp2_with fail
    refine HOV.mono ?_
    rintro e w3 ⟨rfl, hb3⟩
    go_wp2_with fail
    go_ret
    exact ⟨rfl, bel_trans HB.out.1 (bel_trans hb2 hb3)⟩
  · rw [decide_eq_false hov] at HOV
    have hl1 : n ≤ 300 := by omega
    have hl2 : n2 ≤ 100 := by omega
    clear hov
    go_wp2_with fail
    refine HOV.mono ?_
    rintro e w3 ⟨rfl, hb3⟩
    have hb13 := bel_trans hb2 hb3
    have LR3 := LR.out w3 hb13
    have LB3 := LB.out w3 hb13
    have HOW := own11_any a n c L a2 n2 c2 U w3 HB.out.2.1 (by omega) (HR.out w3 hb13).2.1 HC.out.1.2.2 HB.out.2.2 (by omega) (HR.out w3 hb13).2.2 HC.out.2.2.2
    clear HOV LR2 LB2 hb2 hb3
    go_wp2_with fail
    refine HOW.mono ?_
    rintro e w4 ⟨a4, c4, b4, d4, rfl, hO4, hU4, hb4⟩
    have hb14 := bel_trans hb13 hb4
    obtain ⟨W5, W6, SX, SY, bx, bY, hb6⟩ := rib_bat_box w4 a4 n c4 b4 n2 d4
    have hb16 := bel_trans hb14 hb6
    have hO6 := hO4.later hb6
    have hU6 := hU4.later hb6
    have HAP := rapply_any a4 n c4 L b4 n2 d4 U W6 (HR.out W6 hb16).1 HB.out.2.1 (by omega) hO6.lies2.2.2.2.1 hO6.lies2.2.2.2.2 HB.out.2.2 (by omega) hU6.lies2.2.1 hU6.lies2.2.2.2.1
    have LX6 := rib_t bx W6 (Below.refl _ _)
    have LY6 := bat_t bY W6 (Below.refl _ _)
    have HX := Lib.hid (And.intro hb16 (And.intro bx (And.intro bY (And.intro hO6 hU6))))
    clear HOW LR3 LB3 hb13 hb14 hb6 hb16 hO6 hU6 bx bY hO4 hU4 hb4
    go_wp2_with (first | (with_reducible refine wpList_alloc_z rfl 24 rfl #[.slice none 0 0] 1 z_rib ?_) | (with_reducible refine wpList_alloc_z rfl 27 rfl #[.slice none 0 0] 1 z_bat ?_))
    refine HAP.mono ?_
    rintro e W7 ⟨a7, c7, M, er, rfl, hO7, hA7, hb7⟩
    obtain ⟨W8, SN, bn, hb8⟩ := rib_box W7 a7 M.length c7
    have hb78 := bel_trans hb7 hb8
    have hb18 := bel_trans HX.out.1 hb78
    have LR8 := LR.out W8 hb18
    have LB8 := LB.out W8 hb18
    have HRA := rrapply_any a n c L a2 n2 c2 U W8 HB.out.2.1 (by omega) (HR.out W8 hb18).2.1 HB.out.2.2 (by omega) (HR.out W8 hb18).2.2
    have HY := Lib.hid (And.intro hb18 (And.intro bn (And.intro (hO7.later hb8) (And.intro hb78 hA7))))
    clear HAP LX6 LY6 hb7 hb8 hb78 hb18 bn hO7 hA7 SX SY
    go_wp2_with (first | (with_reducible refine wpList_alloc_z rfl 24 rfl #[.slice none 0 0] 1 z_rib ?_) | (with_reducible refine wpList_alloc_z rfl 27 rfl #[.slice none 0 0] 1 z_bat ?_))
    refine HRA.mono ?_
    rintro e W9 ⟨a9, c9, M9, er9, rfl, hR9, hA9, hb9⟩
    obtain ⟨rfl, rfl⟩ := app_same HY.out.2.2.2.2 hA9
    obtain ⟨W10, SW, bw, hb10⟩ := rib_box W9 a9 M.length c9
    have hb910 := bel_trans hb9 hb10
    have hb110 := bel_trans HY.out.1 hb910
    have hb610 := bel_trans HY.out.2.2.2.1 hb910
    have hMl := HY.out.2.2.1.lies2
    have hm1 : M.length ≤ 9223372036854775807 := by have := hMl.2.1; have := hMl.2.2.1; unfold maxLen at this; omega
    have HS1 := fun w' (h : Below W10.heap.size W10 w') => rorsame_any a7 a9 M.length c7 M.length c9 M M w' rfl hm1 ((hMl.2.2.2.1.later hb910).later h) rfl hm1 ((hR9.later hb10).later h)
    have HS2 := fun w' (h : Below W10.heap.size W10 w') => rorsame_any a4 a n c4 n c L L w' HB.out.2.1 (by omega) ((HX.out.2.2.2.1.lies2.2.2.2.1.later hb610).later h) HB.out.2.1 (by omega) ((HR.out W10 hb110).2.1.later h)
    have HS3 := fun w' (h : Below W10.heap.size W10 w') => uprsame_any b4 a2 n2 d4 n2 c2 U U w' HB.out.2.2 (by omega) ((HX.out.2.2.2.2.lies2.2.2.2.1.later hb610).later h) HB.out.2.2 (by omega) ((HR.out W10 hb110).2.2.later h)
    simp only [decide_true] at HS1 HS2 HS3
    have LN := rib_t (HY.out.2.1.later hb910)
    have LW := rib_t bw
    have LX := rib_t (HX.out.2.1.later hb610)
    have LY := bat_t (HX.out.2.2.1.later hb610)
    have LRx := fun w' (h : Below W10.heap.size W10 w') => LR.out w' (bel_trans hb110 h)
    have LBx := fun w' (h : Below W10.heap.size W10 w') => LB.out w' (bel_trans hb110 h)
    have h00 : Below W10.heap.size W10 W10 := Below.refl _ _
    have HZ := Lib.hid hb110
    clear HRA LR8 LB8 hb9 hb10 hb910 hb110 hb610 hMl bw hR9 hA9 SN hm1
    go_wp2_with (first | (with_reducible refine wpList_alloc_z rfl 24 rfl #[.slice none 0 0] 1 z_rib ?_) | (go_at_call 13; first | (refine (HS1 _ (by assumption)).mono ?_; rintro e w5 ⟨rfl, hb5⟩; have hk5 : Below W10.heap.size W10 w5 := bel_trans (by assumption) hb5; clear hb5 HS1) | (refine (HS2 _ (by assumption)).mono ?_; rintro e w6 ⟨rfl, hb5⟩; have hk6 : Below W10.heap.size W10 w6 := bel_trans (by assumption) hb5; clear hb5 HS2)) | (go_at_call 14; refine (HS3 _ (by assumption)).mono ?_; rintro e w7 ⟨rfl, hb5⟩; have hk7 : Below W10.heap.size W10 w7 := bel_trans (by assumption) hb5; clear hb5))
    go_ret
    exact ⟨rfl, bel_trans HB.out.1 (bel_trans HZ.out (by assumption))⟩
end Go.Proofs.YtclkfmblogkakaaDoor
