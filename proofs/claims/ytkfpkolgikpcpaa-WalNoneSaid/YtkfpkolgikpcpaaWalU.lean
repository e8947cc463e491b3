/-
  All of no log, gone through; what the law's told makes of it. Nothing here is a statement of the document.
-/
import Derived.Test.YtkfpkolgikpcpaaWalT
namespace Go.Proofs.Ytkfpkolgikpcpaa
open Go.RowKit Go.Shelf
set_option linter.unusedVariables false
theorem marks_cells {fn : Func} {R : Ending → World → Prop} {tmps : Array Value} {v : Value} :
    ∀ (ds : List Nat) (w : World), ds.Nodup → (∀ d ∈ ds, w.heap[d]? = some (.deferred (some []))) → (∀ w', w'.heap.size = w.heap.size → w'.os = w.os → w'.tape = w.tape → w'.output = w.output → (∀ k, k ∉ ds → w'.heap[k]? = w.heap[k]?) → (results fn tmps).run Try.prog w' = .ok v w' ∧ R (.returned v) w') →
      LeavesInM Fence.wide 10 Try.prog fn tmps R (marks ds) .returning w := by
  intro ds
  induction ds with
  | nil => exact fun w _ _ h => ⟨_, (h w rfl rfl rfl rfl (fun _ _ => rfl)).1, (h w rfl rfl rfl rfl (fun _ _ => rfl)).2⟩
  | cons d ds ih =>
    intro w hn hd h
    refine ⟨by simp, .inl ⟨d, _, rfl, run_takeDeferred (hd d (by simp)), ?_⟩⟩
    refine ih _ (List.nodup_cons.1 hn).2 (fun d' hd' => ?_) (fun w' h1 h2 h3 h4 h5 => h w' (h1.trans (by simp [World.putObj])) h2 h3 h4 (fun k hk => ?_))
    · exact (World.putObj_heap_other (fun e => (List.nodup_cons.1 hn).1 (by rw [← e]; exact hd'))).trans (hd d' (by simp [hd']))
    · simp only [List.mem_cons, not_or] at hk
      exact (h5 k hk.2).trans (World.putObj_heap_other hk.1)
theorem results_told {fn : Func} (h : fn.results = #[.cell 2 29, .cell 3 4]) (tmps : Array Value) (w : World) (g2 g3 : Nat) (v : Value) (b : Bool) (hp : tmps.getD 2 undef = .pointer (some ⟨g2, 0, none⟩)) (hq : tmps.getD 3 undef = .pointer (some ⟨g3, 0, none⟩)) (h2 : Blk w g2 29 #[v]) (h3 : Blk w g3 4 #[.bool b]) :
    (results fn tmps).run Try.prog w = .ok (.tuple #[v, .bool b]) w := by
  have c2 : w.cell? ⟨g2, 0, none⟩ = some v := h2.cell 0
  have c3 : w.cell? ⟨g3, 0, none⟩ = some (.bool b) := h3.cell 0
  have hp2 : tmps[2]?.getD undef = .pointer (some ⟨g2, 0, none⟩) := by rw [← hp]; simp
  have hq2 : tmps[3]?.getD undef = .pointer (some ⟨g3, 0, none⟩) := by rw [← hq]; simp
  simp only [results, h]
  simp [Sem.run_bind, Result.andThen, asAddr, hp2, hq2, c2, c3, go_sem]
theorem all_nil_tells {w : World} {tb : Nat} {S : List Nat} (ht : Blk w tb 29 #[.slice none 0 0]) (htS : tb ∉ S) (enc : Nat → Value × Value) : Tells 69 #[.pointer (some ⟨tb, 0, none⟩)] S 0 enc w := by
  intro l J Jx W hW hlw hl hJ hJx hY h0
  have ht1 := hW.blk ht htS (by decide)
  have c1 : W.cell? ⟨tb, 0, none⟩ = some (.slice none 0 0) := ht1.cell 0
  refine callsIn_of_wp Try.func69 rfl trivial ?_ rfl
  simp only [Try.ntmps69, List.size_toArray, List.length_cons, List.length_nil, Nat.reduceAdd, Nat.reduceSub, Array.replicate_succ, Array.replicate_zero, List.push_toArray, List.append_toArray, List.nil_append, List.cons_append]
  gi_wp2
  gi_loopw [7] (fun i wr => i = .int .i64 0 ∧ J 0 wr) (fun i _ => 0)
  case atStart => exact ⟨rfl, h0⟩
  case round =>
    obtain ⟨rfl, hJs⟩ := hrel
    gi_wp2
    go_end0
    exact ⟨⟨_, rfl⟩, .inl hJs⟩
set_option maxHeartbeats 1000000 in
theorem all_nil (w : World) : Calls Try.prog 44 #[.pointer none] w fun e w' => e = .returned (.func (.func 69) #[] #[.pointer (some ⟨w.heap.size, 0, none⟩)]) ∧ Blk w' w.heap.size 29 #[.slice none 0 0] ∧ Below w.heap.size w w' ∧ w'.heap.size = w.heap.size + 1 := by
  have hmf : ∀ (fn : Fn) (first cap : Array Value) (w : World), (Instr.makeFunc fn first cap).run Try.prog w = .ok (.func fn first cap) w := fun _ _ _ _ => rfl
  go_enter Try.func44, Try.ntmps44
  go_wp2
  go_ret
  exact ⟨rfl, Blk.new _ _ _, (Below.refl _ _).alloc (Nat.le_refl _) _, by simp⟩
set_option maxRecDepth 100000 in
set_option maxHeartbeats 2000000 in
theorem told_nil (w : World) : Calls Try.prog 10 #[.pointer none] w fun e w' => e = .returned (.tuple #[.slice none 0 0, .bool true]) ∧ Below w.heap.size w w' := by
  have han := fun w' => all_nil w'
  refine calls_of_wp_marks Try.func10 rfl ?_
  simp only [Try.ntmps10, List.size_toArray, List.length_cons, List.length_nil, Nat.reduceAdd, Nat.reduceSub, Array.replicate_succ, Array.replicate_zero, List.push_toArray, List.append_toArray, List.nil_append, List.cons_append]
  go_wp2_with fail
  generalize hW1 : World.alloc (World.alloc (World.alloc w _) _) _ = W1
  have b2 : Blk W1 w.heap.size 29 #[.slice none 0 0] := by rw [← hW1]; exact ((Blk.new w _ _).alloc _).alloc _
  have b3 : Blk W1 (w.heap.size + 1) 4 #[.bool false] := by rw [← hW1]; exact (Blk.wnew2 w _ _ _).alloc _
  have b4 : Blk W1 (w.heap.size + 2) 29 #[.slice none 0 0] := by
    rw [← hW1]
    have := Blk.new ((w.alloc (.cells #[.slice none 0 0] 29)).alloc (.cells #[.bool false] 4)) 29 #[.slice none 0 0]
    simpa using this
  have hb1 : Below w.heap.size w W1 := by rw [← hW1]; exact (((Below.refl _ w).alloc (Nat.le_refl _) _).alloc (by simp) _).alloc (by simp; omega) _
  clear hW1
  refine (han _).mono ?_
  rintro e W2 ⟨rfl, bt, hb2, hs2⟩
  go_wp2_with fail
  have H := Lib.hid (And.intro (b2.kept (Kept.of_below [] hb2) (by simp)) (And.intro (b3.kept (Kept.of_below [] hb2) (by simp)) (And.intro (b4.kept (Kept.of_below [] hb2) (by simp)) (bel_lat hb1 hb2))))
  clear b2 b3 b4 hb1 han
  refine wp_range_row (S := []) (N := 0) (enc := fun _ => (undef, undef)) (gf := 69) (lb := #[.pointer (some ⟨W1.heap.size, 0, none⟩)]) none rfl (enters_of Try.func69 (by kernel_rfl) rfl) (all_nil_tells bt (by simp) _) (by simp)
    (fun _ X => Kept [] W2 X) (fun _ _ => False) (own_kept [] (Nat.le_refl _)) (fun _ _ _ _ h => h.elim) (Kept.refl _ _) (fun _ _ _ => False) (fun _ _ _ _ _ _ h => h.elim)
    (fun k _ _ hk => absurd hk (Nat.not_lt_zero _)) (fun k _ _ _ _ hk => absurd hk (Nat.not_lt_zero _)) ?done (fun k _ hk => absurd hk (Nat.not_lt_zero _))
  case done =>
    intro X hk hd
    have c2 := H.out.1.kept hk (by simp)
    have c3 := H.out.2.1.kept hk (by simp)
    have c4 := H.out.2.2.1.kept hk (by simp)
    have hbX : Below w.heap.size w X := bel_lat H.out.2.2.2 (hk.below (by simp) (Nat.le_refl _))
    have d2 : X.cell? ⟨w.heap.size, 0, none⟩ = some (.slice none 0 0) := c2.cell 0
    have f2 := c2.free 0
    have d4 : X.cell? ⟨w.heap.size + 2, 0, none⟩ = some (.slice none 0 0) := c4.cell 0
    obtain ⟨X2, hX2⟩ : ∃ X2, X.setCell ⟨w.heap.size, 0, none⟩ (.slice none 0 0) = X2 := ⟨_, rfl⟩
    have c32 : Blk X2 (w.heap.size + 1) 4 #[.bool false] := by rw [← hX2]; exact c3.far (by simp) _
    have d3 : X2.cell? ⟨w.heap.size + 1, 0, none⟩ = some (.bool false) := c32.cell 0
    have f3 := c32.free 0
    have HX := Lib.hid (And.intro (show Blk X2 w.heap.size 29 #[.slice none 0 0] by rw [← hX2]; exact c2.set 0 _) (And.intro c32 (And.intro (show Below w.heap.size w X2 by rw [← hX2]; exact hbX.setCell (Nat.le_refl _) _) (And.intro hd (And.intro hX2 hk)))))
    clear c2 c3 c4 c32 hbX hk hd
    go_wp2_with fail
    obtain ⟨X3, hX3⟩ : ∃ X3, X2.setCell ⟨w.heap.size + 1, 0, none⟩ (.bool true) = X3 := ⟨_, rfl⟩
    rw [hX3]
    have e2 : Blk X3 w.heap.size 29 #[.slice none 0 0] := by rw [← hX3]; exact HX.out.1.far (by simp) _
    have e3 : Blk X3 (w.heap.size + 1) 4 #[.bool true] := by rw [← hX3]; exact HX.out.2.1.set 0 _
    have eb : Below w.heap.size w X3 := by rw [← hX3]; exact HX.out.2.2.1.setCell (by show w.heap.size ≤ w.heap.size + 1; omega) _
    have hw2 : w.heap.size + 1 < W2.heap.size := H.out.2.1.lt
    have hd3 : X3.heap[W2.heap.size]? = some (.deferred (some [])) := by
      rw [← hX3, ← HX.out.2.2.2.2.1]
      exact (Below.heap_setCell _ _ _ _ (by show W2.heap.size ≠ w.heap.size + 1; omega)).trans ((Below.heap_setCell _ _ _ _ (by show W2.heap.size ≠ w.heap.size; omega)).trans HX.out.2.2.2.1)
    refine marks_cells (v := .tuple #[.slice none 0 0, .bool true]) [W2.heap.size] _ (by simp) (fun d hd => by rw [List.mem_singleton.1 hd]; exact hd3) (fun w' h1 h2 h3 h4 h5 => ⟨results_told rfl _ w' w.heap.size (w.heap.size + 1) _ _ rfl rfl ?_ ?_, rfl, ?_⟩)
    · exact (h5 _ (by simp; omega)).trans e2
    · exact (h5 _ (by simp; omega)).trans e3
    · exact ⟨h2.trans eb.os, h3.trans eb.tape, h4.trans eb.output, by rw [h1]; exact eb.size, fun k hk => (h5 k (by simp; omega)).trans (eb.block k hk)⟩
end Go.Proofs.Ytkfpkolgikpcpaa
