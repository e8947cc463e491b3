/-
  The root cell, published. Nothing here is a statement of the document.
-/
import Derived.Test.YtgnpoehcmlmajaaIt
namespace Go.Proofs.Ytgnpoehcmlmajaa
open Go.RowKit Go.Shelf
set_option linter.unusedVariables false

/-- The root cell may hold this place. -/
def Lead (ws : List Nat) (bs : List Bool) (x : Int) : Prop := (x = 0 ∧ No ws bs 0) ∨ ∃ y c : Nat, x = (y : Int) ∧ Yes ws bs y c
section
variable {w : World} {g p q : Nat} {ws : List Nat} {bs : List Bool}
theorem lead_ok (h : Ar w g p q ws bs) {x : Int} (hl : Lead ws bs x) : Calls Try.prog 45 #[.pointer (some ⟨g, 0, none⟩), .int .i64 x] w fun e w' => e = .returned (.bool true) ∧ ∃ n, w' = w.drewN n := by
  rcases hl with ⟨rfl, hn⟩ | ⟨y, c, rfl, hy⟩
  · exact (lead_zero h hn).mono fun e w' h => ⟨h.1, 0, h.2.symm⟩
  · exact lead_yes h hy
theorem Lead.small {x : Int} (hl : Lead ws bs x) (hh : ws.length ≤ 16384) : 0 ≤ x ∧ x < 16384 := by
  rcases hl with ⟨rfl, _⟩ | ⟨y, c, rfl, hy⟩
  · omega
  · have := hy.lt; omega
theorem below_refl_drew {a b : World} {B : Nat} (h : Below B a b) : Below B a b.drew := ⟨h.os, h.tape, h.output, h.size, h.block⟩

set_option maxRecDepth 100000 in
set_option maxHeartbeats 2000000 in
theorem pub_nil (v e : Nat) (four six : Int) (w : World) : Calls Try.prog 15 #[.pointer none, .agg (rtcs v e four six)] w fun e w' => e = .returned (.int .i64 1) ∧ Below w.heap.size w w' := by
  obtain ⟨W1, hW1⟩ : ∃ W1, w.alloc (.cells #[.int .u64 (v : Int), .int .u64 (e : Int), .int .i64 four, .int .i64 six] 34) = W1 := ⟨_, rfl⟩
  have hb1 : Below w.heap.size w W1 := by rw [← hW1]; exact (Below.refl _ _).alloc (Nat.le_refl _) _
  unfold rtcs
  go_enter Try.func15, Try.ntmps15
  go_wp2
  go_ret
  exact ⟨rfl, hb1⟩
set_option maxRecDepth 100000 in
set_option maxHeartbeats 2000000 in
theorem pub_fence (h : Ar w g p q ws bs) (v e : Nat) (four six : Int) (he : e < twoN ws 7) : Calls Try.prog 15 #[.pointer (some ⟨g, 0, none⟩), .agg (rtcs v e four six)] w fun e w' => e = .returned (.int .i64 161) ∧ Below w.heap.size w w' := by
  obtain ⟨W1, hW1⟩ : ∃ W1, w.alloc (.cells #[.int .u64 (v : Int), .int .u64 (e : Int), .int .i64 four, .int .i64 six] 34) = W1 := ⟨_, rfl⟩
  have hb1 : Below w.heap.size w W1 := by rw [← hW1]; exact (Below.refl _ _).alloc (Nat.le_refl _) _
  have b1 : Blk W1 w.heap.size 34 (rtcs v e four six) := by rw [← hW1]; exact Blk.new _ _ _
  have A1 : Ar W1 g p q ws bs := h.later hb1
  obtain ⟨S, hS⟩ : ∃ S : World → Prop, S = fun w' => Below W1.heap.size W1 w' := ⟨_, rfl⟩
  have hSb : ∀ w', S w' → Below W1.heap.size W1 w' := fun w' h' => by rw [hS] at h'; exact h'
  have hSs : ∀ w', Below W1.heap.size W1 w' → S w' := fun w' h' => by rw [hS]; exact h'
  have r0 : ∀ w', S w' → w'.cell? ⟨w.heap.size, 0, none⟩ = some (.int .u64 (v : Int)) := fun w' h' => (b1.kept (Kept.of_below [] (hSb w' h')) (by simp)).cell 0
  have r1 : ∀ w', S w' → w'.cell? ⟨w.heap.size, 1, none⟩ = some (.int .u64 (e : Int)) := fun w' h' => (b1.kept (Kept.of_below [] (hSb w' h')) (by simp)).cell 1
  have r2 : ∀ w', S w' → w'.cell? ⟨w.heap.size, 2, none⟩ = some (.int .i64 four) := fun w' h' => (b1.kept (Kept.of_below [] (hSb w' h')) (by simp)).cell 2
  have r3 : ∀ w', S w' → w'.cell? ⟨w.heap.size, 3, none⟩ = some (.int .i64 six) := fun w' h' => (b1.kept (Kept.of_below [] (hSb w' h')) (by simp)).cell 3
  have hAS : ∀ w', S w' → Ar w' g p q ws bs := fun w' h' => A1.later (hSb w' h')
  have hfe := fun w' (h' : S w') => (fence_any (hAS w' h')).mono (R' := fun e w2 => e = .returned (.int .u64 ((twoN ws 7 : Nat) : Int)) ∧ S w2) fun e w2 ⟨h1, n, h2⟩ => ⟨h1, by rw [h2]; exact hSs _ (below_drewN (hSb w' h') n)⟩
  have hro := fun w' (h' : S w') => (root_any (hAS w' h')).mono (R' := fun e w2 => e = .returned (.agg (rtcs (twoN ws 1) (twoN ws 3) ((ws.getD 5 0 : Nat) : Int) ((ws.getD 6 0 : Nat) : Int))) ∧ S w2) fun e w2 ⟨h1, h2⟩ => ⟨h1, hSs _ ((hSb w' h').trans (h2.mono (hSb w' h').size))⟩
  have hS1d : S W1.drew := hSs _ (below_refl_drew (Below.refl _ _))
  have hSd : ∀ w', S w' → S w'.drew := fun w' h' => hSs _ (below_refl_drew (hSb w' h'))
  clear h A1 hAS hro b1 r0 r2 r3
  generalize twoN ws 7 = fe at *
  have d1 : decide (e < fe) = true := decide_eq_true he
  unfold rtcs
  go_enter Try.func15, Try.ntmps15
  go_wp2_with fail
  refine wp_region_lin S (by kernel_rfl) (by kernel_rfl) hS1d ?_
  (repeat (first | (refine lin_off (by rfl) ?_; (try simp only [Act.put, List.setIfInBounds_toArray, List.set_cons_zero, List.set_cons_succ])) | (refine lin_op (v := ?_) (by rfl) (fun w9 hS9 => ?_) ?_; rotate_left; (focus ((have k0 := r1 w9 hS9; (try dsimp only at hS9); go_simp; (try go_bits)) <;> with_reducible rfl)); (try simp only [Act.put, List.setIfInBounds_toArray, List.set_cons_zero, List.set_cons_succ])) | (refine lin_fn (f := 18) (by rfl) rfl rfl (enters_of Try.func18 (by kernel_rfl) rfl) (fun w9 hS9 => hfe w9 hS9) ?_ ?_; (focus (simp [Act.eval]; done)); (try simp only [Act.put, List.setIfInBounds_toArray, List.set_cons_zero, List.set_cons_succ]))))
  refine lin_nil (fun w8 hS8 => ?_)
  have h8 := Lib.hid (hb1.trans ((hSb _ hS8).mono hb1.size))
  clear hfe hb1 hSb hSs hS
  go_wp2
  go_ret
  exact ⟨rfl, h8.out⟩
set_option maxRecDepth 100000 in
set_option maxHeartbeats 2000000 in
theorem pub_version (h : Ar w g p q ws bs) (v e : Nat) (four six : Int) (he : twoN ws 7 ≤ e) (hv : v < 18446744073709551616) (hn : v = 0 ∨ v - 1 ≠ twoN ws 1) : Calls Try.prog 15 #[.pointer (some ⟨g, 0, none⟩), .agg (rtcs v e four six)] w fun e w' => e = .returned (.int .i64 162) ∧ Below w.heap.size w w' := by
  obtain ⟨W1, hW1⟩ : ∃ W1, w.alloc (.cells #[.int .u64 (v : Int), .int .u64 (e : Int), .int .i64 four, .int .i64 six] 34) = W1 := ⟨_, rfl⟩
  have hb1 : Below w.heap.size w W1 := by rw [← hW1]; exact (Below.refl _ _).alloc (Nat.le_refl _) _
  have b1 : Blk W1 w.heap.size 34 (rtcs v e four six) := by rw [← hW1]; exact Blk.new _ _ _
  have A1 : Ar W1 g p q ws bs := h.later hb1
  obtain ⟨S, hS⟩ : ∃ S : World → Prop, S = fun w' => Below W1.heap.size W1 w' := ⟨_, rfl⟩
  have hSb : ∀ w', S w' → Below W1.heap.size W1 w' := fun w' h' => by rw [hS] at h'; exact h'
  have hSs : ∀ w', Below W1.heap.size W1 w' → S w' := fun w' h' => by rw [hS]; exact h'
  have r0 : ∀ w', S w' → w'.cell? ⟨w.heap.size, 0, none⟩ = some (.int .u64 (v : Int)) := fun w' h' => (b1.kept (Kept.of_below [] (hSb w' h')) (by simp)).cell 0
  have r1 : ∀ w', S w' → w'.cell? ⟨w.heap.size, 1, none⟩ = some (.int .u64 (e : Int)) := fun w' h' => (b1.kept (Kept.of_below [] (hSb w' h')) (by simp)).cell 1
  have r2 : ∀ w', S w' → w'.cell? ⟨w.heap.size, 2, none⟩ = some (.int .i64 four) := fun w' h' => (b1.kept (Kept.of_below [] (hSb w' h')) (by simp)).cell 2
  have r3 : ∀ w', S w' → w'.cell? ⟨w.heap.size, 3, none⟩ = some (.int .i64 six) := fun w' h' => (b1.kept (Kept.of_below [] (hSb w' h')) (by simp)).cell 3
  have hAS : ∀ w', S w' → Ar w' g p q ws bs := fun w' h' => A1.later (hSb w' h')
  have hfe := fun w' (h' : S w') => (fence_any (hAS w' h')).mono (R' := fun e w2 => e = .returned (.int .u64 ((twoN ws 7 : Nat) : Int)) ∧ S w2) fun e w2 ⟨h1, n, h2⟩ => ⟨h1, by rw [h2]; exact hSs _ (below_drewN (hSb w' h') n)⟩
  have hro := fun w' (h' : S w') => (root_any (hAS w' h')).mono (R' := fun e w2 => e = .returned (.agg (rtcs (twoN ws 1) (twoN ws 3) ((ws.getD 5 0 : Nat) : Int) ((ws.getD 6 0 : Nat) : Int))) ∧ S w2) fun e w2 ⟨h1, h2⟩ => ⟨h1, hSs _ ((hSb w' h').trans (h2.mono (hSb w' h').size))⟩
  have hS1d : S W1.drew := hSs _ (below_refl_drew (Below.refl _ _))
  have hSd : ∀ w', S w' → S w'.drew := fun w' h' => hSs _ (below_refl_drew (hSb w' h'))
  clear h A1 hAS b1 r2 r3
  generalize twoN ws 7 = fe at *
  generalize twoN ws 1 = vv at *
  generalize twoN ws 3 = ve at *
  generalize ((ws.getD 5 0 : Nat) : Int) = x5 at *
  generalize ((ws.getD 6 0 : Nat) : Int) = x6 at *
  have d1 : decide (e < fe) = false := decide_eq_false (by omega)
  unfold rtcs at *
  by_cases hz : v = 0
  · have d2 : ((v : Int) == 0) = true := by simpa using hz
    have d3 : (v == 0) = true := by simpa using hz
    clear hn hz
    go_enter Try.func15, Try.ntmps15
    go_wp2_with fail
    refine wp_region_lin S (by kernel_rfl) (by kernel_rfl) hS1d ?_
    (repeat (first | (refine lin_off (by rfl) ?_; (try simp only [Act.put, List.setIfInBounds_toArray, List.set_cons_zero, List.set_cons_succ])) | (refine lin_op (v := ?_) (by rfl) (fun w9 hS9 => ?_) ?_; rotate_left; (focus ((have k0 := r1 w9 hS9; (try dsimp only at hS9); go_simp; (try go_bits)) <;> with_reducible rfl)); (try simp only [Act.put, List.setIfInBounds_toArray, List.set_cons_zero, List.set_cons_succ])) | (refine lin_fn (f := 18) (by rfl) rfl rfl (enters_of Try.func18 (by kernel_rfl) rfl) (fun w9 hS9 => hfe w9 hS9) ?_ ?_; (focus (simp [Act.eval]; done)); (try simp only [Act.put, List.setIfInBounds_toArray, List.set_cons_zero, List.set_cons_succ]))))
    refine lin_nil (fun w8 hS8 => ?_)
    go_wp2_with fail
    refine wp_region_lin S (by kernel_rfl) (by kernel_rfl) (hSd _ hS8) ?_
    (repeat (first | (refine lin_off (by rfl) ?_; (try simp only [Act.put, List.setIfInBounds_toArray, List.set_cons_zero, List.set_cons_succ])) | (refine lin_op (v := ?_) (by rfl) (fun w9 hS9 => ?_) ?_; rotate_left; (focus ((have k0 := r0 w9 hS9; (try dsimp only at hS9); go_simp; (try go_bits)) <;> with_reducible rfl)); (try simp only [Act.put, List.setIfInBounds_toArray, List.set_cons_zero, List.set_cons_succ])) | (refine lin_fn (f := 30) (by rfl) rfl rfl (enters_of Try.func30 (by kernel_rfl) rfl) (fun w9 hS9 => hro w9 hS9) ?_ ?_; (focus (simp [Act.eval]; done)); (try simp only [Act.put, List.setIfInBounds_toArray, List.set_cons_zero, List.set_cons_succ]))))
    refine lin_nil (fun w10 hS10 => ?_)
    have h8 := Lib.hid (hb1.trans ((hSb _ hS10).mono hb1.size))
    clear hfe hro hb1 hSb hSs hS
    go_wp2
    go_ret
    exact ⟨rfl, h8.out⟩
  · have d2 : ((v : Int) == 0) = false := by simpa using hz
    have d3 : (v == 0) = false := by simpa using hz
    obtain ⟨u, hu⟩ : ∃ u, v - 1 = u := ⟨_, rfl⟩
    rw [hu] at hn
    have d4 : ((u : Int) != (vv : Int)) = true := by rcases hn with h1 | h1; exact absurd h1 hz; simp; omega
    have d5 : (u != vv) = true := by rcases hn with h1 | h1; exact absurd h1 hz; simpa using h1
    have ew : IntKind.u64.wrap ((v : Int) - 1) = (u : Int) := by rw [IntKind.wrap_u64]; omega
    have ew2 : (v : Int) - 1 = (u : Int) := by omega
    have hfld : ∀ w', (Instr.field 34 (.agg #[.int .u64 (vv : Int), .int .u64 (ve : Int), .int .i64 x5, .int .i64 x6]) 0).run Try.prog w' = .ok (.int .u64 (vv : Int)) w' := fun w' => by kernel_rfl
    clear hn hz hu
    go_enter Try.func15, Try.ntmps15
    go_wp2_with fail
    refine wp_region_lin S (by kernel_rfl) (by kernel_rfl) hS1d ?_
    (repeat (first | (refine lin_off (by rfl) ?_; (try simp only [Act.put, List.setIfInBounds_toArray, List.set_cons_zero, List.set_cons_succ])) | (refine lin_op (v := ?_) (by rfl) (fun w9 hS9 => ?_) ?_; rotate_left; (focus ((have k0 := r1 w9 hS9; (try dsimp only at hS9); go_simp; (try go_bits)) <;> with_reducible rfl)); (try simp only [Act.put, List.setIfInBounds_toArray, List.set_cons_zero, List.set_cons_succ])) | (refine lin_fn (f := 18) (by rfl) rfl rfl (enters_of Try.func18 (by kernel_rfl) rfl) (fun w9 hS9 => hfe w9 hS9) ?_ ?_; (focus (simp [Act.eval]; done)); (try simp only [Act.put, List.setIfInBounds_toArray, List.set_cons_zero, List.set_cons_succ]))))
    refine lin_nil (fun w8 hS8 => ?_)
    go_wp2_with fail
    refine wp_region_lin S (by kernel_rfl) (by kernel_rfl) (hSd _ hS8) ?_
    (repeat (first | (refine lin_off (by rfl) ?_; (try simp only [Act.put, List.setIfInBounds_toArray, List.set_cons_zero, List.set_cons_succ])) | (refine lin_op (v := ?_) (by rfl) (fun w9 hS9 => ?_) ?_; rotate_left; (focus ((have k0 := r0 w9 hS9; (try dsimp only at hS9); go_simp; (try go_bits)) <;> with_reducible rfl)); (try simp only [Act.put, List.setIfInBounds_toArray, List.set_cons_zero, List.set_cons_succ])) | (refine lin_fn (f := 30) (by rfl) rfl rfl (enters_of Try.func30 (by kernel_rfl) rfl) (fun w9 hS9 => hro w9 hS9) ?_ ?_; (focus (simp [Act.eval]; done)); (try simp only [Act.put, List.setIfInBounds_toArray, List.set_cons_zero, List.set_cons_succ]))))
    refine lin_nil (fun w10 hS10 => ?_)
    have h8 := Lib.hid (hb1.trans ((hSb _ hS10).mono hb1.size))
    clear hfe hro hb1 hSb hSs hS
    go_wp2
    go_ret
    exact ⟨rfl, h8.out⟩
set_option maxRecDepth 100000 in
set_option maxHeartbeats 2000000 in
theorem pub_none (h : Ar w g p q ws bs) (v e : Nat) (four six : Int) (he : twoN ws 7 ≤ e) (hv : v < 18446744073709551616) (hz : v ≠ 0) (hn : v - 1 = twoN ws 1) (hl : (four ≠ 0 ∧ No ws bs four) ∨ (Lead ws bs four ∧ six ≠ 0 ∧ No ws bs six)) : Calls Try.prog 15 #[.pointer (some ⟨g, 0, none⟩), .agg (rtcs v e four six)] w fun e w' => e = .returned (.int .i64 4) ∧ Below w.heap.size w w' := by
  obtain ⟨W1, hW1⟩ : ∃ W1, w.alloc (.cells #[.int .u64 (v : Int), .int .u64 (e : Int), .int .i64 four, .int .i64 six] 34) = W1 := ⟨_, rfl⟩
  have hb1 : Below w.heap.size w W1 := by rw [← hW1]; exact (Below.refl _ _).alloc (Nat.le_refl _) _
  have b1 : Blk W1 w.heap.size 34 (rtcs v e four six) := by rw [← hW1]; exact Blk.new _ _ _
  have A1 : Ar W1 g p q ws bs := h.later hb1
  obtain ⟨S, hS⟩ : ∃ S : World → Prop, S = fun w' => Below W1.heap.size W1 w' := ⟨_, rfl⟩
  have hSb : ∀ w', S w' → Below W1.heap.size W1 w' := fun w' h' => by rw [hS] at h'; exact h'
  have hSs : ∀ w', Below W1.heap.size W1 w' → S w' := fun w' h' => by rw [hS]; exact h'
  have r0 : ∀ w', S w' → w'.cell? ⟨w.heap.size, 0, none⟩ = some (.int .u64 (v : Int)) := fun w' h' => (b1.kept (Kept.of_below [] (hSb w' h')) (by simp)).cell 0
  have r1 : ∀ w', S w' → w'.cell? ⟨w.heap.size, 1, none⟩ = some (.int .u64 (e : Int)) := fun w' h' => (b1.kept (Kept.of_below [] (hSb w' h')) (by simp)).cell 1
  have r2 : ∀ w', S w' → w'.cell? ⟨w.heap.size, 2, none⟩ = some (.int .i64 four) := fun w' h' => (b1.kept (Kept.of_below [] (hSb w' h')) (by simp)).cell 2
  have r3 : ∀ w', S w' → w'.cell? ⟨w.heap.size, 3, none⟩ = some (.int .i64 six) := fun w' h' => (b1.kept (Kept.of_below [] (hSb w' h')) (by simp)).cell 3
  have hAS : ∀ w', S w' → Ar w' g p q ws bs := fun w' h' => A1.later (hSb w' h')
  have hfe := fun w' (h' : S w') => (fence_any (hAS w' h')).mono (R' := fun e w2 => e = .returned (.int .u64 ((twoN ws 7 : Nat) : Int)) ∧ S w2) fun e w2 ⟨h1, n, h2⟩ => ⟨h1, by rw [h2]; exact hSs _ (below_drewN (hSb w' h') n)⟩
  have hro := fun w' (h' : S w') => (root_any (hAS w' h')).mono (R' := fun e w2 => e = .returned (.agg (rtcs (twoN ws 1) (twoN ws 3) ((ws.getD 5 0 : Nat) : Int) ((ws.getD 6 0 : Nat) : Int))) ∧ S w2) fun e w2 ⟨h1, h2⟩ => ⟨h1, hSs _ ((hSb w' h').trans (h2.mono (hSb w' h').size))⟩
  have hS1d : S W1.drew := hSs _ (below_refl_drew (Below.refl _ _))
  have hSd : ∀ w', S w' → S w'.drew := fun w' h' => hSs _ (below_refl_drew (hSb w' h'))
  generalize hfe0 : twoN ws 7 = fe at *
  generalize hvv0 : twoN ws 1 = vv at *
  have HX := Lib.hid (And.intro hfe0 hvv0)
  clear hfe0 hvv0
  generalize twoN ws 3 = ve at *
  generalize hx5 : ((ws.getD 5 0 : Nat) : Int) = x5 at *
  generalize hx6 : ((ws.getD 6 0 : Nat) : Int) = x6 at *
  clear hx5 hx6
  have d1 : decide (e < fe) = false := decide_eq_false (by omega)
  have d2 : ((v : Int) == 0) = false := by simpa using hz
  have d3 : (v == 0) = false := by simpa using hz
  have ew : IntKind.u64.wrap ((v : Int) - 1) = (vv : Int) := by rw [IntKind.wrap_u64]; omega
  have ew2 : (v : Int) - 1 = (vv : Int) := by omega
  have hfld : ∀ w', (Instr.field 34 (.agg #[.int .u64 (vv : Int), .int .u64 (ve : Int), .int .i64 x5, .int .i64 x6]) 0).run Try.prog w' = .ok (.int .u64 (vv : Int)) w' := fun w' => by kernel_rfl
  clear hz hn he
  unfold rtcs at *
  clear h A1 b1
  rcases hl with ⟨hl1, hl2⟩ | ⟨hl1, hl2, hl3⟩
  · have hlead := fun w' (h' : S w') => lead_no (hAS w' h') four hl1 hl2
    clear hAS
    go_enter Try.func15, Try.ntmps15
    go_wp2_with fail
    refine wp_region_lin S (by kernel_rfl) (by kernel_rfl) hS1d ?_
    (repeat (first | (refine lin_off (by rfl) ?_; (try simp only [Act.put, List.setIfInBounds_toArray, List.set_cons_zero, List.set_cons_succ])) | (refine lin_op (v := ?_) (by rfl) (fun w9 hS9 => ?_) ?_; rotate_left; (focus ((have k0 := r1 w9 hS9; (try dsimp only at hS9); go_simp; (try go_bits)) <;> with_reducible rfl)); (try simp only [Act.put, List.setIfInBounds_toArray, List.set_cons_zero, List.set_cons_succ])) | (refine lin_fn (f := 18) (by rfl) rfl rfl (enters_of Try.func18 (by kernel_rfl) rfl) (fun w9 hS9 => hfe w9 hS9) ?_ ?_; (focus (simp [Act.eval]; done)); (try simp only [Act.put, List.setIfInBounds_toArray, List.set_cons_zero, List.set_cons_succ]))))
    refine lin_nil (fun w8 hS8 => ?_)
    go_wp2_with fail
    refine wp_region_lin S (by kernel_rfl) (by kernel_rfl) (hSd _ hS8) ?_
    (repeat (first | (refine lin_off (by rfl) ?_; (try simp only [Act.put, List.setIfInBounds_toArray, List.set_cons_zero, List.set_cons_succ])) | (refine lin_op (v := ?_) (by rfl) (fun w9 hS9 => ?_) ?_; rotate_left; (focus ((have k0 := r0 w9 hS9; (try dsimp only at hS9); go_simp; (try go_bits)) <;> with_reducible rfl)); (try simp only [Act.put, List.setIfInBounds_toArray, List.set_cons_zero, List.set_cons_succ])) | (refine lin_fn (f := 30) (by rfl) rfl rfl (enters_of Try.func30 (by kernel_rfl) rfl) (fun w9 hS9 => hro w9 hS9) ?_ ?_; (focus (simp [Act.eval]; done)); (try simp only [Act.put, List.setIfInBounds_toArray, List.set_cons_zero, List.set_cons_succ]))))
    refine lin_nil (fun w10 hS10 => ?_)
    have q2 := r2 _ hS10
    have q3 := r3 _ hS10
    have q2n := fun n => r2 _ (hSs _ (below_drewN (hSb _ hS10) n))
    have q3n := fun n => r3 _ (hSs _ (below_drewN (hSb _ hS10) n))
    clear hfe hro
    have h8 := Lib.hid (hb1.trans ((hSb _ hS10).mono hb1.size))
    go_wp2_with fail
    refine (hlead _ hS10).mono ?_
    rintro e w' ⟨rfl, rfl⟩
    clear hlead hb1 hSb hSs hS
    go_wp2
    go_ret
    exact ⟨rfl, h8.out⟩
  · have hlead := fun w' (h' : S w') => lead_ok (hAS w' h') hl1
    have hlead2 := fun w' (h' : S w') => lead_no (hAS w' h') six hl2 hl3
    clear hAS
    go_enter Try.func15, Try.ntmps15
    go_wp2_with fail
    refine wp_region_lin S (by kernel_rfl) (by kernel_rfl) hS1d ?_
    (repeat (first | (refine lin_off (by rfl) ?_; (try simp only [Act.put, List.setIfInBounds_toArray, List.set_cons_zero, List.set_cons_succ])) | (refine lin_op (v := ?_) (by rfl) (fun w9 hS9 => ?_) ?_; rotate_left; (focus ((have k0 := r1 w9 hS9; (try dsimp only at hS9); go_simp; (try go_bits)) <;> with_reducible rfl)); (try simp only [Act.put, List.setIfInBounds_toArray, List.set_cons_zero, List.set_cons_succ])) | (refine lin_fn (f := 18) (by rfl) rfl rfl (enters_of Try.func18 (by kernel_rfl) rfl) (fun w9 hS9 => hfe w9 hS9) ?_ ?_; (focus (simp [Act.eval]; done)); (try simp only [Act.put, List.setIfInBounds_toArray, List.set_cons_zero, List.set_cons_succ]))))
    refine lin_nil (fun w8 hS8 => ?_)
    go_wp2_with fail
    refine wp_region_lin S (by kernel_rfl) (by kernel_rfl) (hSd _ hS8) ?_
    (repeat (first | (refine lin_off (by rfl) ?_; (try simp only [Act.put, List.setIfInBounds_toArray, List.set_cons_zero, List.set_cons_succ])) | (refine lin_op (v := ?_) (by rfl) (fun w9 hS9 => ?_) ?_; rotate_left; (focus ((have k0 := r0 w9 hS9; (try dsimp only at hS9); go_simp; (try go_bits)) <;> with_reducible rfl)); (try simp only [Act.put, List.setIfInBounds_toArray, List.set_cons_zero, List.set_cons_succ])) | (refine lin_fn (f := 30) (by rfl) rfl rfl (enters_of Try.func30 (by kernel_rfl) rfl) (fun w9 hS9 => hro w9 hS9) ?_ ?_; (focus (simp [Act.eval]; done)); (try simp only [Act.put, List.setIfInBounds_toArray, List.set_cons_zero, List.set_cons_succ]))))
    refine lin_nil (fun w10 hS10 => ?_)
    have q2 := r2 _ hS10
    have q3 := r3 _ hS10
    have q2n := fun n => r2 _ (hSs _ (below_drewN (hSb _ hS10) n))
    have q3n := fun n => r3 _ (hSs _ (below_drewN (hSb _ hS10) n))
    clear hfe hro
    go_wp2_with fail
    refine (hlead _ hS10).mono ?_
    rintro e w' ⟨rfl, n, rfl⟩
    have hS11 := hSs _ (below_drewN (hSb _ hS10) n)
    have h8 := Lib.hid (hb1.trans ((hSb _ hS11).mono hb1.size))
    go_wp2_with fail
    refine (hlead2 _ hS11).mono ?_
    rintro e w' ⟨rfl, rfl⟩
    clear hlead hlead2 hb1 hSb hSs hS
    go_wp2
    go_ret
    exact ⟨rfl, h8.out⟩
set_option maxRecDepth 100000 in
set_option maxHeartbeats 2000000 in
theorem pub_yes (h : Ar w g p q ws bs) (v ep : Nat) (four six : Int) (he : twoN ws 7 ≤ ep) (he2 : ep < 18446744073709551616) (hv : v < 18446744073709551616) (hz : v ≠ 0) (hn : v - 1 = twoN ws 1) (hl1 : Lead ws bs four) (hl2 : Lead ws bs six) : Calls Try.prog 15 #[.pointer (some ⟨g, 0, none⟩), .agg (rtcs v ep four six)] w fun e w' => e = .returned (.int .i64 0) ∧ Ar w' g p q (((setN (setN ws 1 v) 3 ep).set 5 four.toNat).set 6 six.toNat) bs ∧ Kept [p] w w' := by
  obtain ⟨W1, hW1⟩ : ∃ W1, w.alloc (.cells #[.int .u64 (v : Int), .int .u64 (ep : Int), .int .i64 four, .int .i64 six] 34) = W1 := ⟨_, rfl⟩
  have hb1 : Below w.heap.size w W1 := by rw [← hW1]; exact (Below.refl _ _).alloc (Nat.le_refl _) _
  have b1 : Blk W1 w.heap.size 34 (rtcs v ep four six) := by rw [← hW1]; exact Blk.new _ _ _
  have A1 : Ar W1 g p q ws bs := h.later hb1
  obtain ⟨S, hS⟩ : ∃ S : World → Prop, S = fun w' => Below W1.heap.size W1 w' := ⟨_, rfl⟩
  have hSb : ∀ w', S w' → Below W1.heap.size W1 w' := fun w' h' => by rw [hS] at h'; exact h'
  have hSs : ∀ w', Below W1.heap.size W1 w' → S w' := fun w' h' => by rw [hS]; exact h'
  have r0 : ∀ w', S w' → w'.cell? ⟨w.heap.size, 0, none⟩ = some (.int .u64 (v : Int)) := fun w' h' => (b1.kept (Kept.of_below [] (hSb w' h')) (by simp)).cell 0
  have r1 : ∀ w', S w' → w'.cell? ⟨w.heap.size, 1, none⟩ = some (.int .u64 (ep : Int)) := fun w' h' => (b1.kept (Kept.of_below [] (hSb w' h')) (by simp)).cell 1
  have r2 : ∀ w', S w' → w'.cell? ⟨w.heap.size, 2, none⟩ = some (.int .i64 four) := fun w' h' => (b1.kept (Kept.of_below [] (hSb w' h')) (by simp)).cell 2
  have r3 : ∀ w', S w' → w'.cell? ⟨w.heap.size, 3, none⟩ = some (.int .i64 six) := fun w' h' => (b1.kept (Kept.of_below [] (hSb w' h')) (by simp)).cell 3
  have hAS : ∀ w', S w' → Ar w' g p q ws bs := fun w' h' => A1.later (hSb w' h')
  have hfe := fun w' (h' : S w') => (fence_any (hAS w' h')).mono (R' := fun e w2 => e = .returned (.int .u64 ((twoN ws 7 : Nat) : Int)) ∧ S w2) fun e w2 ⟨h1, n, h2⟩ => ⟨h1, by rw [h2]; exact hSs _ (below_drewN (hSb w' h') n)⟩
  have hro := fun w' (h' : S w') => (root_any (hAS w' h')).mono (R' := fun e w2 => e = .returned (.agg (rtcs (twoN ws 1) (twoN ws 3) ((ws.getD 5 0 : Nat) : Int) ((ws.getD 6 0 : Nat) : Int))) ∧ S w2) fun e w2 ⟨h1, h2⟩ => ⟨h1, hSs _ ((hSb w' h').trans (h2.mono (hSb w' h').size))⟩
  have hS1d : S W1.drew := hSs _ (below_refl_drew (Below.refl _ _))
  have hSd : ∀ w', S w' → S w'.drew := fun w' h' => hSs _ (below_refl_drew (hSb w' h'))
  generalize hfe0 : twoN ws 7 = fe at *
  generalize hvv0 : twoN ws 1 = vv at *
  have HX := Lib.hid (And.intro hfe0 hvv0)
  clear hfe0 hvv0
  generalize twoN ws 3 = ve at *
  generalize hx5 : ((ws.getD 5 0 : Nat) : Int) = x5 at *
  generalize hx6 : ((ws.getD 6 0 : Nat) : Int) = x6 at *
  clear hx5 hx6
  have d1 : decide (ep < fe) = false := decide_eq_false (by omega)
  have d2 : ((v : Int) == 0) = false := by simpa using hz
  have d3 : (v == 0) = false := by simpa using hz
  have ew : IntKind.u64.wrap ((v : Int) - 1) = (vv : Int) := by rw [IntKind.wrap_u64]; omega
  have ew2 : (v : Int) - 1 = (vv : Int) := by omega
  have hfld : ∀ w', (Instr.field 34 (.agg #[.int .u64 (vv : Int), .int .u64 (ve : Int), .int .i64 x5, .int .i64 x6]) 0).run Try.prog w' = .ok (.int .u64 (vv : Int)) w' := fun w' => by kernel_rfl
  clear hz hn he
  unfold rtcs at *
  have hpn : w.heap.size ∉ [p] := by have := h.wds.lt; simp; omega
  have hf1 := hl1.small h.hi
  have hf2 := hl2.small h.hi
  obtain ⟨a4, rfl⟩ := Int.eq_ofNat_of_zero_le hf1.1
  obtain ⟨a6, rfl⟩ := Int.eq_ofNat_of_zero_le hf2.1
  rw [Int.toNat_natCast, Int.toNat_natCast]
  have hhi := h.hi
  have hlo := h.lo
  have hlead := fun w' (h' : S w') => lead_ok (hAS w' h') hl1
  have hlead2 := fun w' (h' : S w') => lead_ok (hAS w' h') hl2
  clear h
  go_enter Try.func15, Try.ntmps15
  go_wp2_with fail
  refine wp_region_lin S (by kernel_rfl) (by kernel_rfl) hS1d ?_
  (repeat (first | (refine lin_off (by rfl) ?_; (try simp only [Act.put, List.setIfInBounds_toArray, List.set_cons_zero, List.set_cons_succ])) | (refine lin_op (v := ?_) (by rfl) (fun w9 hS9 => ?_) ?_; rotate_left; (focus ((have k0 := r1 w9 hS9; (try dsimp only at hS9); go_simp; (try go_bits)) <;> with_reducible rfl)); (try simp only [Act.put, List.setIfInBounds_toArray, List.set_cons_zero, List.set_cons_succ])) | (refine lin_fn (f := 18) (by rfl) rfl rfl (enters_of Try.func18 (by kernel_rfl) rfl) (fun w9 hS9 => hfe w9 hS9) ?_ ?_; (focus (simp [Act.eval]; done)); (try simp only [Act.put, List.setIfInBounds_toArray, List.set_cons_zero, List.set_cons_succ]))))
  refine lin_nil (fun w8 hS8 => ?_)
  go_wp2_with fail
  refine wp_region_lin S (by kernel_rfl) (by kernel_rfl) (hSd _ hS8) ?_
  (repeat (first | (refine lin_off (by rfl) ?_; (try simp only [Act.put, List.setIfInBounds_toArray, List.set_cons_zero, List.set_cons_succ])) | (refine lin_op (v := ?_) (by rfl) (fun w9 hS9 => ?_) ?_; rotate_left; (focus ((have k0 := r0 w9 hS9; (try dsimp only at hS9); go_simp; (try go_bits)) <;> with_reducible rfl)); (try simp only [Act.put, List.setIfInBounds_toArray, List.set_cons_zero, List.set_cons_succ])) | (refine lin_fn (f := 30) (by rfl) rfl rfl (enters_of Try.func30 (by kernel_rfl) rfl) (fun w9 hS9 => hro w9 hS9) ?_ ?_; (focus (simp [Act.eval]; done)); (try simp only [Act.put, List.setIfInBounds_toArray, List.set_cons_zero, List.set_cons_succ]))))
  refine lin_nil (fun w10 hS10 => ?_)
  have q2 := r2 _ hS10
  have q3 := r3 _ hS10
  have q2n := fun n => r2 _ (hSs _ (below_drewN (hSb _ hS10) n))
  have q3n := fun n => r3 _ (hSs _ (below_drewN (hSb _ hS10) n))
  clear hfe hro
  go_wp2_with fail
  refine (hlead _ hS10).mono ?_
  rintro e w' ⟨rfl, n1, rfl⟩
  have hS11 := hSs _ (below_drewN (hSb _ hS10) n1)
  have q11 := r3 _ hS11
  go_wp2_with fail
  refine (hlead2 _ hS11).mono ?_
  rintro e w' ⟨rfl, n2, rfl⟩
  have hS12 := hSs _ (below_drewN (hSb _ hS11) n2)
  clear q2 q3 q2n q3n q11
  have A12 := hAS _ hS12
  have K12 : Kept [p] w ((w10.drewN n1).drewN n2) := ⟨(hSb _ hS12).os.trans hb1.os, (hSb _ hS12).tape.trans hb1.tape, (hSb _ hS12).output.trans hb1.output, Nat.le_trans hb1.size (hSb _ hS12).size, fun k hk _ => (hb1.trans ((hSb _ hS12).mono hb1.size)).block k hk⟩
  have B12 : Blk ((w10.drewN n1).drewN n2) w.heap.size 34 #[.int .u64 (v : Int), .int .u64 (ep : Int), .int .i64 (a4 : Int), .int .i64 (a6 : Int)] := b1.kept (Kept.of_below [] (hSb _ hS12)) (by simp)
  simp only [World.drewN_drewN] at A12 K12 B12
  generalize hw12 : w10.drewN (n1 + n2) = w12 at *
  clear hlead hlead2 hb1 hSb hSs hS hS1d hSd hS8 hS10 hS11 hS12 hAS A1 b1 r0 r1 r2 r3 hl1 hl2 d1 d2 d3 ew ew2 hfld

  obtain ⟨Ta, hTa⟩ : ∃ T : World → Prop, T = fun w' => Blk w' w.heap.size 34 #[.int .u64 (v : Int), .int .u64 (ep : Int), .int .i64 (a4 : Int), .int .i64 (a6 : Int)] ∧ ∃ ws', Ar w' g p q ws' bs := ⟨_, rfl⟩
  have hTda : ∀ w' n, Ta w' → Ta (w'.drewN n) := by rw [hTa]; exact fun w' n ⟨h1, ws', h2⟩ => ⟨h1, ws', h2.drewN n⟩
  have hT0a : Ta w12.drew := by rw [hTa]; exact ⟨B12, _, A12.drew⟩
  have za : ∀ w', Ta w' → w'.cell? ⟨w.heap.size, 0, none⟩ = some (.int .u64 (v : Int)) := by rw [hTa]; exact fun w' h' => h'.1.cell 0
  have hpra := fun w' (h' : Ta w') => (show Calls Try.prog 55 #[.pointer (some ⟨g, 0, none⟩), .int .i64 ((1 : Nat) : Int)] w' (fun e w2 => e = .returned (.pointer (some ⟨p, 1, none⟩)) ∧ ∃ n, w2 = w'.drewN n) by
    rw [hTa] at h'
    obtain ⟨_, ws', h2⟩ := h'
    exact (pair_any h2 1 (by omega)).mono fun e w2 h => ⟨h.1, 0, h.2.symm⟩)
  have hlaya := fun n => (lay_any (A12.drew.drewN n) (k := 1) (x := v) (by have := A12.lo; omega) hv).mono (R' := fun e w2 => e = .returned (.tuple #[]) ∧ Ta w2 ∧ Ar w2 g p q (setN ws 1 v) bs ∧ Kept [p] w w2 ∧ Blk w2 w.heap.size 34 #[.int .u64 (v : Int), .int .u64 (ep : Int), .int .i64 (a4 : Int), .int .i64 (a6 : Int)]) fun e w2 ⟨h1, h2, h3⟩ =>
    have hk : Kept [p] w12 w2 := ((Kept.refl [p] w12).drew.drewN n).trans h3
    ⟨h1, by rw [hTa]; exact ⟨B12.kept hk hpn, _, h2⟩, h2, K12.trans hk, B12.kept hk hpn⟩
  clear hTa A12 K12 B12
  go_wp2_with fail
  refine wp_region_linD Ta [4] [0, 1, 2, 3, 4] (by kernel_rfl) (by kernel_rfl) hTda hT0a ?_
  (repeat (first | (refine linD_off rfl rfl (by rfl) ?_; (try simp only [Act.put, List.getElem_toArray, List.getElem_cons_zero, List.getElem_cons_succ, List.setIfInBounds_toArray, List.set_cons_zero, List.set_cons_succ])) | (refine linD_op (v := ?_) rfl rfl (by rfl) (fun w9 hS9 => ?_) ?_; rotate_left; (focus ((have k0 := za w9 hS9; (try dsimp only at hS9); go_simp; (try go_bits)) <;> with_reducible rfl)); (try simp only [Act.put, List.getElem_toArray, List.getElem_cons_zero, List.getElem_cons_succ, List.setIfInBounds_toArray, List.set_cons_zero, List.set_cons_succ])) | (refine linD_fn (f := 55) rfl rfl (by rfl) rfl rfl (enters_of Try.func55 (by kernel_rfl) rfl) (fun w9 hS9 => hpra w9 hS9) ?_ ?_; (focus (simp [Act.eval]; done)); (try simp only [Act.put, List.getElem_toArray, List.getElem_cons_zero, List.getElem_cons_succ, List.setIfInBounds_toArray, List.set_cons_zero, List.set_cons_succ]))))
  refine linD_call (f := 54) (args := #[.pointer (some ⟨p, 1, none⟩), .int .u64 (v : Int)]) rfl rfl (by rfl) rfl rfl (enters_of Try.func54 (by kernel_rfl) rfl) ?_ ?_
  · simp [Act.eval]
  intro n
  refine (hlaya n).mono ?_
  rintro e w13 ⟨rfl, hta, Aa, Ka, Ba⟩
  refine ⟨_, rfl, hta, ?_⟩
  (try simp only [Act.put, List.getElem_toArray, List.getElem_cons_zero, List.getElem_cons_succ, List.setIfInBounds_toArray, List.set_cons_zero, List.set_cons_succ])
  refine linD_nil (fun n2 => ?_)
  have Aa := Aa.drewN n2
  have Ka := Ka.drewN n2
  have Ba : Blk (w13.drewN n2) w.heap.size 34 #[.int .u64 (v : Int), .int .u64 (ep : Int), .int .i64 (a4 : Int), .int .i64 (a6 : Int)] := Ba
  generalize w13.drewN n2 = w13d at *
  clear hTda hT0a za hpra hlaya hta
  obtain ⟨Tb, hTb⟩ : ∃ T : World → Prop, T = fun w' => Blk w' w.heap.size 34 #[.int .u64 (v : Int), .int .u64 (ep : Int), .int .i64 (a4 : Int), .int .i64 (a6 : Int)] ∧ ∃ ws', Ar w' g p q ws' bs := ⟨_, rfl⟩
  have hTdb : ∀ w' n, Tb w' → Tb (w'.drewN n) := by rw [hTb]; exact fun w' n ⟨h1, ws', h2⟩ => ⟨h1, ws', h2.drewN n⟩
  have hT0b : Tb w13d.drew := by rw [hTb]; exact ⟨Ba, _, Aa.drew⟩
  have zb : ∀ w', Tb w' → w'.cell? ⟨w.heap.size, 1, none⟩ = some (.int .u64 (ep : Int)) := by rw [hTb]; exact fun w' h' => h'.1.cell 1
  have hprb := fun w' (h' : Tb w') => (show Calls Try.prog 55 #[.pointer (some ⟨g, 0, none⟩), .int .i64 ((3 : Nat) : Int)] w' (fun e w2 => e = .returned (.pointer (some ⟨p, 3, none⟩)) ∧ ∃ n, w2 = w'.drewN n) by
    rw [hTb] at h'
    obtain ⟨_, ws', h2⟩ := h'
    exact (pair_any h2 3 (by omega)).mono fun e w2 h => ⟨h.1, 0, h.2.symm⟩)
  have hlayb := fun n => (lay_any (Aa.drew.drewN n) (k := 3) (x := ep) (by have := Aa.lo; omega) he2).mono (R' := fun e w2 => e = .returned (.tuple #[]) ∧ Tb w2 ∧ Ar w2 g p q (setN (setN ws 1 v) 3 ep) bs ∧ Kept [p] w w2 ∧ Blk w2 w.heap.size 34 #[.int .u64 (v : Int), .int .u64 (ep : Int), .int .i64 (a4 : Int), .int .i64 (a6 : Int)]) fun e w2 ⟨h1, h2, h3⟩ =>
    have hk : Kept [p] w13d w2 := ((Kept.refl [p] w13d).drew.drewN n).trans h3
    ⟨h1, by rw [hTb]; exact ⟨Ba.kept hk hpn, _, h2⟩, h2, Ka.trans hk, Ba.kept hk hpn⟩
  clear hTb Aa Ka Ba
  go_wp2_with fail
  refine wp_region_linD Tb [4] [0, 1, 2, 3, 4] (by kernel_rfl) (by kernel_rfl) hTdb hT0b ?_
  (repeat (first | (refine linD_off rfl rfl (by rfl) ?_; (try simp only [Act.put, List.getElem_toArray, List.getElem_cons_zero, List.getElem_cons_succ, List.setIfInBounds_toArray, List.set_cons_zero, List.set_cons_succ])) | (refine linD_op (v := ?_) rfl rfl (by rfl) (fun w9 hS9 => ?_) ?_; rotate_left; (focus ((have k0 := zb w9 hS9; (try dsimp only at hS9); go_simp; (try go_bits)) <;> with_reducible rfl)); (try simp only [Act.put, List.getElem_toArray, List.getElem_cons_zero, List.getElem_cons_succ, List.setIfInBounds_toArray, List.set_cons_zero, List.set_cons_succ])) | (refine linD_fn (f := 55) rfl rfl (by rfl) rfl rfl (enters_of Try.func55 (by kernel_rfl) rfl) (fun w9 hS9 => hprb w9 hS9) ?_ ?_; (focus (simp [Act.eval]; done)); (try simp only [Act.put, List.getElem_toArray, List.getElem_cons_zero, List.getElem_cons_succ, List.setIfInBounds_toArray, List.set_cons_zero, List.set_cons_succ]))))
  refine linD_call (f := 54) (args := #[.pointer (some ⟨p, 3, none⟩), .int .u64 (ep : Int)]) rfl rfl (by rfl) rfl rfl (enters_of Try.func54 (by kernel_rfl) rfl) ?_ ?_
  · simp [Act.eval]
  intro n
  refine (hlayb n).mono ?_
  rintro e w14 ⟨rfl, htb, Ab, Kb, Bb⟩
  refine ⟨_, rfl, htb, ?_⟩
  (try simp only [Act.put, List.getElem_toArray, List.getElem_cons_zero, List.getElem_cons_succ, List.setIfInBounds_toArray, List.set_cons_zero, List.set_cons_succ])
  refine linD_nil (fun n2 => ?_)
  have Ab := Ab.drewN n2
  have Kb := Kb.drewN n2
  have Bb : Blk (w14.drewN n2) w.heap.size 34 #[.int .u64 (v : Int), .int .u64 (ep : Int), .int .i64 (a4 : Int), .int .i64 (a6 : Int)] := Bb
  generalize w14.drewN n2 = w14d at *
  clear hTdb hT0b zb hprb hlayb htb
  have hlen : (setN (setN ws 1 v) 3 ep).length = ws.length := by simp [setN]
  have c0 := Ab.c0
  rw [hlen] at c0
  have c5 := Ab.word (i := 5) (by rw [hlen]; omega)
  have c6 := Ab.word (i := 6) (by rw [hlen]; omega)
  have f5 := Ab.wds.free 5
  have f6 := Ab.wds.free 6
  have z2 : w14d.cell? ⟨w.heap.size, 2, none⟩ = some (.int .i64 (a4 : Int)) := Bb.cell 2
  have z3 : w14d.cell? ⟨w.heap.size, 3, none⟩ = some (.int .i64 (a6 : Int)) := Bb.cell 3
  have HQ := Lib.hid (And.intro ((Ab.set 5 a4 (by omega)).set 6 a6 (by omega)) ((Kb.setCell (p := ⟨p, 5, none⟩) (.inl (by simp)) (.int .u32 (a4 : Int))).setCell (p := ⟨p, 6, none⟩) (.inl (by simp)) (.int .u32 (a6 : Int))))
  generalize (setN (setN ws 1 v) 3 ep).getD 5 0 = y5 at *
  generalize (setN (setN ws 1 v) 3 ep).getD 6 0 = y6 at *
  clear Ab Kb Bb hlen
  generalize ws.length = m at *
  have i5 : (5 : Int) < (m : Int) := by omega
  have i6 : (6 : Int) < (m : Int) := by omega
  go_wp2_with fail
  go_region
  go_wp2
  go_ret
  exact ⟨rfl, HQ.out.1.drew, HQ.out.2.drew⟩
end
end Go.Proofs.Ytgnpoehcmlmajaa
