/-
  The contracts of a row's questions, and of table.last. Nothing here is a statement of the document.
-/
import Derived.Test.YtdbdmnahgkkjiaaDoorTbC
namespace Go.Proofs.YtdbdmnahgkkjiaaDoor
open Go.RowKit Go.Shelf
set_option linter.unusedVariables false
set_option maxRecDepth 100000

theorem row_p {W : World} {g : Nat} {r : Rt} (h : Blk W g 79 r.cs) : ∀ w', Below W.heap.size W w' → (loadSem 38 (.pointer (some ⟨g, 0, none⟩))).run Tryd.prog w' = .ok (.agg r.p.cs) w' :=
  fun w' k => loadRes_of (o := 0) (h.later k) (fun q hq => by rw [Nat.zero_add]; exact r.cp q (by rw [Px.size] at hq; exact hq)) _ Tryd.underlying38 rfl (s_px r.p)
attribute [local go_sem ↓] load_b16_rule store_b16_rule load_ad_rule store_ad_rule load_px_rule store_px_rule eq_b16_rule eq_ad_rule eq_px_rule load_rt_rule store_rt_rule

set_option maxHeartbeats 1600000 in
theorem ris_any (r : Rt) (x : Px) (w : World) : Calls Tryd.prog 41 #[.agg r.cs, .agg x.cs] w fun e w' => e = .returned (.bool (isQ x r)) ∧ Below w.heap.size w w' := by
  obtain ⟨W1, hW1⟩ : ∃ W1, (w.alloc (.cells r.cs 79)).alloc (.cells x.cs 38) = W1 := ⟨_, rfl⟩
  have hb1 : Below w.heap.size w W1 := by rw [← hW1]; exact (((Below.refl w.heap.size w).alloc (Nat.le_refl _) _).alloc (by simp) _)
  have b1 : Blk W1 w.heap.size 79 r.cs := by
    have h9 := Blk.new w 79 r.cs
    rw [← hW1]; exact (h9.alloc _)
  have b2 : Blk W1 (w.heap.size + 1) 38 x.cs := by
    have h9 := Blk.new (w.alloc (.cells r.cs 79)) 38 x.cs
    rw [World.size_alloc] at h9
    rw [← hW1]; exact h9
  have LP := row_p b1
  have LX := px_p b2
  have h0 : Below W1.heap.size W1 W1 := Below.refl _ _
  have EQ := eqP r.p x
  have HB := Lib.hid hb1
  clear hb1 b1 b2
  go_enter Tryd.func41, Tryd.ntmps41
  go_wp2
  all_goals go_ret
  all_goals exact ⟨by simp_all [isQ], bel_trans HB.out (by assumption)⟩

set_option maxHeartbeats 1600000 in
theorem rahead_any (r : Rt) (x : Px) (w : World) : Calls Tryd.prog 42 #[.agg r.cs, .agg x.cs] w fun e w' => e = .returned (.bool (aheadQ x r)) ∧ Below w.heap.size w w' := by
  obtain ⟨W1, hW1⟩ : ∃ W1, (w.alloc (.cells r.cs 79)).alloc (.cells x.cs 38) = W1 := ⟨_, rfl⟩
  have hb1 : Below w.heap.size w W1 := by rw [← hW1]; exact (((Below.refl w.heap.size w).alloc (Nat.le_refl _) _).alloc (by simp) _)
  have b1 : Blk W1 w.heap.size 79 r.cs := by
    have h9 := Blk.new w 79 r.cs
    rw [← hW1]; exact (h9.alloc _)
  have b2 : Blk W1 (w.heap.size + 1) 38 x.cs := by
    have h9 := Blk.new (w.alloc (.cells r.cs 79)) 38 x.cs
    rw [World.size_alloc] at h9
    rw [← hW1]; exact h9
  have LP := row_p b1
  have LX := px_p b2
  have h0 : Below W1.heap.size W1 W1 := Below.refl _ _
  have HCM := compare_any r.p x
  have HB := Lib.hid hb1
  clear hb1 b1 b2
  go_enter Tryd.func42, Tryd.ntmps42
  go_wp2_with (first | (go_at_call 49; refine (HCM _).mono ?_; rintro e w2 ⟨rfl, hb2⟩; have hk2 : Below W1.heap.size W1 w2 := bel_trans (by assumption) hb2; clear hb2) | (refine wp_region_lin (fun w' => Below W1.heap.size W1 w') (by kernel_rfl) (by kernel_rfl) (bel_drew (by assumption)) ?_; (repeat (first | (refine lin_off (by rfl) ?_; (try simp only [Act.put, List.setIfInBounds_toArray, List.set_cons_zero, List.set_cons_succ])) | (refine lin_op (v := ?_) (by rfl) (fun w9 hS9 => ?_) ?_; rotate_left; (focus (((try dsimp only at hS9); go_simp; (try go_bits)) <;> with_reducible rfl)); (try simp only [Act.put, List.setIfInBounds_toArray, List.set_cons_zero, List.set_cons_succ])) | (refine lin_fn (f := 49) (by rfl) rfl rfl (enters_of Tryd.func49 (by kernel_rfl) rfl) (fun w9 hS9 => (HCM w9).mono (fun e w' h => ⟨h.1, bel_trans hS9 h.2⟩)) ?_ ?_; (focus (simp [Act.eval]; done)); (try simp only [Act.put, List.setIfInBounds_toArray, List.set_cons_zero, List.set_cons_succ])))); refine lin_nil (fun w8 hS8 => ?_)))
  all_goals go_ret
  all_goals exact ⟨by simp_all [aheadQ], bel_trans HB.out (by assumption)⟩

set_option maxHeartbeats 1600000 in
theorem rhas_any (r : Rt) (x : Ad) (w : World) (hW : Wid w) : Calls Tryd.prog 48 #[.agg r.cs, .agg x.cs] w fun e w' => e = .returned (.bool (hasQ x r)) ∧ Below w.heap.size w w' := by
  obtain ⟨W1, hW1⟩ : ∃ W1, (w.alloc (.cells r.cs 79)).alloc (.cells x.cs 36) = W1 := ⟨_, rfl⟩
  have hb1 : Below w.heap.size w W1 := by rw [← hW1]; exact (((Below.refl w.heap.size w).alloc (Nat.le_refl _) _).alloc (by simp) _)
  have b1 : Blk W1 w.heap.size 79 r.cs := by
    have h9 := Blk.new w 79 r.cs
    rw [← hW1]; exact (h9.alloc _)
  have b2 : Blk W1 (w.heap.size + 1) 36 x.cs := by
    have h9 := Blk.new (w.alloc (.cells r.cs 79)) 36 x.cs
    rw [World.size_alloc] at h9
    rw [← hW1]; exact h9
  have LP := row_p b1
  have LX := ad_a b2
  have h0 : Below W1.heap.size W1 W1 := Below.refl _ _
  have HH := fun w' (h : Below W1.heap.size W1 w') => has_any r.p x w' ((hW.later hb1).later h)
  have HB := Lib.hid hb1
  clear hb1 b1 b2
  go_enter Tryd.func48, Tryd.ntmps48
  go_wp2_with (first | (go_at_call 64; refine (HH _ (by assumption)).mono ?_; rintro e w2 ⟨rfl, hb2⟩; have hk2 : Below W1.heap.size W1 w2 := bel_trans (by assumption) hb2; clear hb2) | (refine wp_region_lin (fun w' => Below W1.heap.size W1 w') (by kernel_rfl) (by kernel_rfl) (bel_drew (by assumption)) ?_; (repeat (first | (refine lin_off (by rfl) ?_; (try simp only [Act.put, List.setIfInBounds_toArray, List.set_cons_zero, List.set_cons_succ])) | (refine lin_op (v := ?_) (by rfl) (fun w9 hS9 => ?_) ?_; rotate_left; (focus (((try dsimp only at hS9); go_simp; (try go_bits)) <;> with_reducible rfl)); (try simp only [Act.put, List.setIfInBounds_toArray, List.set_cons_zero, List.set_cons_succ])) | (refine lin_fn (f := 64) (by rfl) rfl rfl (enters_of Tryd.func64 (by kernel_rfl) rfl) (fun w9 hS9 => (HH w9 hS9).mono (fun e w' h => ⟨h.1, bel_trans hS9 h.2⟩)) ?_ ?_; (focus (simp [Act.eval]; done)); (try simp only [Act.put, List.setIfInBounds_toArray, List.set_cons_zero, List.set_cons_succ])))); refine lin_nil (fun w8 hS8 => ?_)))
  all_goals go_ret
  all_goals exact ⟨by simp_all [hasQ], bel_trans HB.out (by assumption)⟩

/-- A function that has gone over ranges returns what lies in cells: their marks are taken. -/
theorem marks_cells {fn : Func} {R : Ending → World → Prop} {tmps : Array Value} {v : Value} :
    ∀ (ds : List Nat) (w : World), ds.Nodup → (∀ d ∈ ds, w.heap[d]? = some (.deferred (some []))) → (∀ w', w'.heap.size = w.heap.size → w'.os = w.os → w'.tape = w.tape → w'.output = w.output → (∀ k, k ∉ ds → w'.heap[k]? = w.heap[k]?) → (results fn tmps).run Tryd.prog w' = .ok v w' ∧ R (.returned v) w') →
      LeavesInM Fence.wide 10 Tryd.prog fn tmps R (marks ds) .returning w := by
  intro ds
  induction ds with
  | nil => exact fun w _ _ h => ⟨_, (h w rfl rfl rfl rfl (fun _ _ => rfl)).1, (h w rfl rfl rfl rfl (fun _ _ => rfl)).2⟩
  | cons d ds ih =>
    intro w hn hd h
    refine ⟨by simp, .inl ⟨d, _, rfl, run_takeDeferred (hd d (by simp)), ?_⟩⟩
    refine ih _ (List.nodup_cons.1 hn).2 (fun d' hd' => ?_) (fun w' h1 h2 h3 h4 h5 => h w' (h1.trans (by simp [World.putObj])) h2 h3 h4 (fun k hk => ?_))
    · exact (World.putObj_heap_other (fun e => (List.nodup_cons.1 hn).1 (by rw [← e]; exact hd'))).trans (hd d' (by simp [hd']))
    · simp only [List.mem_cons, not_or] at hk
      exact (h5 k hk.2).trans (World.putObj_heap_other hk.1)
theorem results_one {fn : Func} {p : Tmp} (h : fn.results = #[.cell p 3]) (tmps : Array Value) (w : World) (g : Nat) (v : Int) (hp : tmps.getD p undef = .pointer (some ⟨g, 0, none⟩)) (hg : Blk w g 3 #[.int .i64 v]) :
    (results fn tmps).run Tryd.prog w = .ok (.int .i64 v) w := by
  have d0 : w.cell? ⟨g, 0, none⟩ = some (.int .i64 v) := hg.cell 0
  have hp2 : tmps[p]?.getD undef = .pointer (some ⟨g, 0, none⟩) := by rw [← hp]; simp
  simp only [results, h]
  simp [Sem.run_bind, Result.andThen, asAddr, hp2, d0, go_sem]
theorem last_hit {q : Rt → Bool} {L : List Rt} {n k : Nat} (hk : k < n) (h : q (rt L (n - 1 - k)) = true) (hn : ∀ j, j < k → q (rt L (n - 1 - j)) = false) : lastM q L n = ((n - 1 - k : Nat) : Int) := by
  rcases last_spec q L n with ⟨i, h1, h2, h3, h4⟩ | ⟨h1, h2⟩
  · rw [h2]
    rcases Nat.lt_trichotomy i (n - 1 - k) with h5 | h5 | h5
    · have := h4 _ h5 (by omega); rw [h] at this; cases this
    · rw [h5]
    · have := hn (n - 1 - i) (by omega)
      rw [show n - 1 - (n - 1 - i) = i by omega, h3] at this; cases this
  · have := h2 (n - 1 - k) (by omega); rw [h] at this; cases this
theorem last_miss {q : Rt → Bool} {L : List Rt} {n : Nat} (hn : ∀ j, j < n → q (rt L (n - 1 - j)) = false) : lastM q L n = -1 := by
  rcases last_spec q L n with ⟨i, h1, h2, h3, h4⟩ | ⟨h1, h2⟩
  · have := hn (n - 1 - i) (by omega)
    rw [show n - 1 - (n - 1 - i) = i by omega, h3] at this; cases this
  · exact h1

theorem kept_more {S : List Nat} {w w' : World} (h : Kept [] w w') : Kept S w w' := ⟨h.os, h.tape, h.output, h.size, fun k hk _ => h.block k hk (by simp)⟩
attribute [local go_sem] Oper.semAt_some
theorem own_step {β : Type} {B : Nat} {P : β → Prop} : OwnFrom B (fun s (_ : World) => P s) := fun s X Y row h hg hr => h
theorem after_marks {w W w' : World} (h : Below w.heap.size w W) (h1 : w'.heap.size = W.heap.size) (h2 : w'.os = W.os) (h3 : w'.tape = W.tape) (h4 : w'.output = W.output) (h5 : ∀ k, k < w.heap.size → w'.heap[k]? = W.heap[k]?) : Below w.heap.size w w' :=
  ⟨h2.trans h.os, h3.trans h.tape, h4.trans h.output, by rw [h1]; exact h.size, fun k hk => (h5 k hk).trans (h.block k hk)⟩

set_option maxHeartbeats 4000000 in
theorem last_is (a : Option Addr) (n c : Nat) (L : List Rt) (x : Px) (w : World) (hn : L.length = n) (hm : n ≤ 9223372036854775807) (hR : RowsAt w a L) :
    Calls Tryd.prog 40 #[.agg #[.slice a n c], .func (.func 41) #[] #[], .agg x.cs] w fun e w' => e = .returned (.int .i64 (lastM (isQ x) L n)) ∧ Below w.heap.size w w' := by
  obtain ⟨Y1, hY1⟩ : ∃ Y1, w.alloc (.cells #[.slice a n c] 24) = Y1 := ⟨_, rfl⟩
  obtain ⟨Y2, hY2⟩ : ∃ Y2, Y1.alloc (.cells #[.func (.func 41) #[] #[]] 78) = Y2 := ⟨_, rfl⟩
  obtain ⟨Y3, hY3⟩ : ∃ Y3, Y2.alloc (.cells x.cs 38) = Y3 := ⟨_, rfl⟩
  obtain ⟨Y4, hY4⟩ : ∃ Y4, Y3.alloc (.cells #[.int .i64 0] 3) = Y4 := ⟨_, rfl⟩
  have s1 : Y1.heap.size = w.heap.size + 1 := by rw [← hY1]; simp
  have s2 : Y2.heap.size = w.heap.size + 2 := by rw [← hY2]; simp [s1]
  have s3 : Y3.heap.size = w.heap.size + 3 := by rw [← hY3]; simp [s2]
  have s4 : Y4.heap.size = w.heap.size + 4 := by rw [← hY4]; simp [s3]
  have k1 : Below w.heap.size w Y1 := by rw [← hY1]; exact (Below.refl _ _).alloc (Nat.le_refl _) _
  have k2 : Below Y1.heap.size Y1 Y2 := by rw [← hY2]; exact (Below.refl _ _).alloc (Nat.le_refl _) _
  have k3 : Below Y2.heap.size Y2 Y3 := by rw [← hY3]; exact (Below.refl _ _).alloc (Nat.le_refl _) _
  have k4 : Below Y3.heap.size Y3 Y4 := by rw [← hY4]; exact (Below.refl _ _).alloc (Nat.le_refl _) _
  have b1 : Blk Y4 w.heap.size 24 #[.slice a n c] := by
    have h : Blk Y1 w.heap.size 24 #[.slice a n c] := by rw [← hY1]; exact Blk.new _ _ _
    exact ((h.later k2).later k3).later k4
  have b2 : Blk Y4 Y1.heap.size 78 #[.func (.func 41) #[] #[]] := by
    have h := Blk.new Y1 78 #[.func (.func 41) #[] #[]]
    rw [hY2] at h
    exact (h.later k3).later k4
  have b3 : Blk Y4 Y2.heap.size 38 x.cs := by
    have h := Blk.new Y2 38 x.cs
    rw [hY3] at h
    exact h.later k4
  have b4 : Blk Y4 Y3.heap.size 3 #[.int .i64 0] := by
    have h := Blk.new Y3 3 #[.int .i64 0]
    rw [hY4] at h
    exact h
  have kb : Below w.heap.size w Y4 := bel_trans (bel_trans (bel_trans k1 k2) k3) k4
  have hR4 : L = [] ∨ ∃ g o, a = some ⟨g, o, none⟩ ∧ Rws Y4 g o L ∧ g ∉ [Y3.heap.size] := by
    rcases hR with h | ⟨g, o, h1, h2⟩
    · exact .inl h
    · exact .inr ⟨g, o, h1, h2.later kb, by have := h2.lt; simp; omega⟩
  have c1 : Y4.cell? ⟨w.heap.size, 0, none⟩ = some (.slice a n c) := b1.cell 0
  have H := Lib.hid (And.intro kb (And.intro b2 (And.intro b3 (And.intro b4 (And.intro hR4 (And.intro hn (And.intro s1 (And.intro s2 (And.intro s3 s4)))))))))
  clear k1 k2 k3 k4 kb b1 b2 b3 b4 hR hR4 s2 s3 s4 s1
  refine calls_of_wp_marks Tryd.func40 rfl ?_
  simp only [Tryd.ntmps40, List.size_toArray, List.length_cons, List.length_nil, Nat.reduceAdd, Nat.reduceSub, Array.replicate_succ, Array.replicate_zero, List.push_toArray, List.append_toArray, List.nil_append, List.cons_append]
  go_wp2_with fail
  refine (backward_any a n c Y4).mono ?_
  rintro e3 W ⟨rfl, hW⟩
  obtain ⟨Y5, hY5⟩ : ∃ Y5, Y4.alloc (.cells #[.slice a n c] 22) = Y5 := ⟨_, rfl⟩
  rw [hY5] at hW
  subst hW
  have k5 : Below Y4.heap.size Y4 W := by rw [← hY5]; exact (Below.refl _ _).alloc (Nat.le_refl _) _
  have b5 : Blk W Y4.heap.size 22 #[.slice a n c] := by rw [← hY5]; exact Blk.new _ _ _
  have s5 : W.heap.size = w.heap.size + 5 := by rw [← hY5]; simp [H.out.2.2.2.2.2.2.2.2.2]
  have hR5 : L = [] ∨ ∃ g o, a = some ⟨g, o, none⟩ ∧ Rws W g o L ∧ g ∉ [Y3.heap.size] := by
    rcases H.out.2.2.2.2.1 with h | ⟨g, o, h1, h2, h3⟩
    · exact .inl h
    · exact .inr ⟨g, o, h1, h2.later k5, h3⟩
  have hseq := backward_low (S := [Y3.heap.size]) H.out.2.2.2.2.2.1 hm hR5 b5 (by have := H.out.2.2.2.2.2.2.2.2; simp; omega)
  have H5 := Lib.hid (And.intro (bel_trans H.out.1 k5) (And.intro (H.out.2.1.later k5) (And.intro (H.out.2.2.1.later k5) (And.intro (H.out.2.2.2.1.later k5) s5))))
  clear k5 b5 s5 hR5 hY5 c1
  go_wp2_with fail
  refine wp_range_low (S := [Y3.heap.size]) (N := n) (enc := encT L) none (fun _ => rfl) rfl (fun _ _ => by simp [go_sem, enters_of Tryd.func75 (by kernel_rfl) rfl]) hseq (fun k hk => by have := H.out.2.2.2.2.2.2.2.2; have := H5.out.2.2.2.2; simp at hk; omega)
    (fun k X => Kept [] W X ∧ ∀ j, j < k → isQ x (rt L (n - 1 - j)) = false)
    (fun k X => Kept [Y3.heap.size] W X ∧ Blk X Y3.heap.size 3 #[.int .i64 ((n - 1 - k : Nat) : Int)] ∧ isQ x (rt L (n - 1 - k)) = true ∧ ∀ j, j < k → isQ x (rt L (n - 1 - j)) = false)
    ?hI ?hIx ⟨Kept.refl _ _, fun j hj => by omega⟩
    (fun k a' X => ∃ Bx, Blk X Bx 48 (rt L (n - 1 - k)).cs ∧ a' = { tmps := #[.agg #[.slice a n c], .func (.func 41) #[] #[], .agg x.cs, .pointer (some ⟨w.heap.size, 0, none⟩), .pointer (some ⟨Y1.heap.size, 0, none⟩), .pointer (some ⟨Y2.heap.size, 0, none⟩), .pointer (some ⟨Y3.heap.size, 0, none⟩), .int .i64 ((n - 1 - k : Nat) : Int), .pointer (some ⟨Bx, 0, none⟩), .pointer (some ⟨w.heap.size, 0, none⟩), .slice a n c, .func (.func 75) #[] #[.pointer (some ⟨Y4.heap.size, 0, none⟩)], .int .i64 ((n - 1 - k : Nat) : Int), .agg (rt L (n - 1 - k)).cs, undef, undef, undef, undef, undef], defers := [] })
    ?hAx ?assign ?body ?done ?stop
  case hI => exact fun s X Y row hs hg hrow => ⟨own_kept (β := Unit) _ (Nat.le_refl _) () X Y row hs.1 hg hrow, hs.2⟩
  case hIx => exact fun s X Y row hs hg hrow => ⟨own_kept (β := Unit) _ (Nat.le_refl _) () X Y row hs.1 hg hrow, own_blk (β := Unit) _ _ _ (fun _ => _) () X Y row hs.2.1 hg hrow, hs.2.2⟩
  case hAx => exact fun k a' s X Y row hs hg hrow => by obtain ⟨Bx, e1, e2⟩ := hs; exact ⟨Bx, own_blk (β := Unit) _ _ _ (fun _ => (rt L (n - 1 - k)).cs) () X Y row e1 hg hrow, e2⟩
  case assign =>
    intro k X K hk hX hI hK
    have HN := H.out.2.2.2.2.2.1
    simp only [List.zip_toArray, List.zip_cons_cons, List.zip_nil_right, List.zip_nil_left, List.size_toArray, List.foldl_toArray', List.foldl_toArray, List.foldl_cons, List.foldl_nil, List.setIfInBounds_toArray, List.set_cons_zero, List.set_cons_succ, encT]
    rw [HN]
    clear HN
    have HZ := Lib.hid (show Rt.zero.cs.size = (rt L (n - 1 - k)).cs.size by rw [Rt.size, Rt.size])
    have HP2 := Lib.hid (s_rt (rt L (n - 1 - k)))
    gi_wp2_with (first | (with_reducible refine wpListIn_alloc_z rfl 48 rfl Rt.zero.cs 19 z_rt ?_) | (with_reducible refine wpListIn_store_new rfl 48 (.tmp 8) (.tmp 13) rfl (rt L (n - 1 - k)).cs Rt.zero.cs _ rfl rfl HZ.out HP2.out (Rt.one _) ?_))
    have hB1 : Below X.heap.size X (X.alloc (.cells (rt L (n - 1 - k)).cs 48)) := (Below.refl _ _).alloc (Nat.le_refl _) _
    exact hK _ _ (KL.below hB1 hX) ⟨hI.1.trans2 (Kept.of_below [] hB1) (by simp), hI.2⟩ ⟨_, Blk.new _ _ _, rfl⟩
  case body =>
    rintro k _ X ⟨hkX, hall⟩ ⟨Bx, bx, rfl⟩ hk hX
    have hX5 : Below W.heap.size W X := hkX.below (by simp) (Nat.le_refl _)
    have z2 := H5.out.2.1.later hX5
    have z3 := H5.out.2.2.1.later hX5
    have z4 := H5.out.2.2.2.1.later hX5
    have K2 : X.cell? ⟨Y1.heap.size, 0, none⟩ = some (.func (.func 41) #[] #[]) := z2.cell 0
    have KP := px_p z3 X (Below.refl _ _)
    have KR := rt_r bx X (Below.refl _ _)
    have HQ := ris_any (rt L (n - 1 - k)) x X
    obtain ⟨q, hq⟩ : ∃ q, isQ x (rt L (n - 1 - k)) = q := ⟨_, rfl⟩
    rw [hq] at HQ
    have HB := Lib.hid (And.intro hkX (And.intro hall (And.intro hX5 (And.intro z4 hq))))
    clear hkX hall hX5 z2 z3 z4 bx hq
    gi_wp2_with fail
    refine ⟨trivial, ?_⟩
    refine (CallsIn.inRound (W.heap.size + 1) (callsIn_wide.2 HQ)).mono ?_
    rintro e6 X6 ⟨rfl, hb6⟩
    have hK6 : Kept [] W X6 := HB.out.1.trans2 (Kept.of_below [] hb6) (by simp)
    have z6 := HB.out.2.2.2.1.later hb6
    have HC := Lib.hid (And.intro hK6 (And.intro (KL.below (B := W.heap.size + 2) (S := [Y3.heap.size]) hb6 hX) z6))
    clear hK6 hb6 z6 K2 KP KR HQ
    cases q with
    | true =>
      have cz : X6.cell? ⟨Y3.heap.size, 0, none⟩ = some (.int .i64 0) := HC.out.2.2.cell 0
      have fz := HC.out.2.2.free 0
      gi_wp2
      have k9 : Kept [Y3.heap.size] X6 (X6.setCell ⟨Y3.heap.size, 0, none⟩ (.int .i64 ((n - 1 - k : Nat) : Int))) := (Kept.refl [Y3.heap.size] X6).setCell (p := ⟨Y3.heap.size, 0, none⟩) (.inl (by simp)) _
      refine ⟨HC.out.2.1.trans (KL.kept k9 (by have := HC.out.2.1.size; omega)), .inr ⟨rfl, (kept_more HC.out.1).trans k9, ?_, HB.out.2.2.2.2, HB.out.2.1⟩⟩
      have := HC.out.2.2.set 0 (.int .i64 ((n - 1 - k : Nat) : Int))
      simpa using this
    | false =>
      gi_wp2
      refine ⟨HC.out.2.1, .inl ⟨HC.out.1, fun j hj => ?_⟩⟩
      by_cases e : j = k
      · rw [e]; exact HB.out.2.2.2.2
      · exact HB.out.2.1 j (by omega)
  case done =>
    rintro X ⟨hkX, hall⟩ hd
    have hX5 : Below W.heap.size W X := hkX.below (by simp) (Nat.le_refl _)
    have z4 := H5.out.2.2.2.1.later hX5
    have cz : X.cell? ⟨Y3.heap.size, 0, none⟩ = some (.int .i64 0) := z4.cell 0
    have fz := z4.free 0
    have HD := Lib.hid (And.intro z4 (And.intro hall (And.intro hd (bel_trans H5.out.1 hX5))))
    clear hkX hall hd hX5 z4
    go_wp2_with fail
    have bz : Blk (X.setCell ⟨Y3.heap.size, 0, none⟩ (.int .i64 (-1))) Y3.heap.size 3 #[.int .i64 (-1)] := by
      have := HD.out.1.set 0 (.int .i64 (-1))
      simpa using this
    have k9 : Kept [Y3.heap.size] X (X.setCell ⟨Y3.heap.size, 0, none⟩ (.int .i64 (-1))) := (Kept.refl [Y3.heap.size] X).setCell (p := ⟨Y3.heap.size, 0, none⟩) (.inl (by simp)) _
    have hbX : Below w.heap.size w (X.setCell ⟨Y3.heap.size, 0, none⟩ (.int .i64 (-1))) := HD.out.2.2.2.trans (k9.below (by have := H.out.2.2.2.2.2.2.2.2; simp; omega) HD.out.2.2.2.size)
    have hd9 : (X.setCell ⟨Y3.heap.size, 0, none⟩ (.int .i64 (-1))).heap[W.heap.size]? = some (.deferred (some [])) := (k9.block _ (Array.getElem?_eq_some_iff.1 HD.out.2.2.1).1 (by have := H5.out.2.2.2.2; have := H.out.2.2.2.2.2.2.2.2; simp; omega)).trans HD.out.2.2.1
    refine marks_cells (v := .int .i64 (-1)) [W.heap.size] _ (by simp) (fun d hd => by rw [List.mem_singleton.1 hd]; exact hd9) (fun w' h1 h2 h3 h4 h5 => ⟨results_one rfl _ w' Y3.heap.size _ rfl ?_, ?_, after_marks hbX h1 h2 h3 h4 (fun k hk => h5 k (by have := H5.out.2.2.2.2; simp; omega))⟩)
    · exact (h5 _ (by have := H5.out.2.2.2.2; have := H.out.2.2.2.2.2.2.2.2; simp; omega)).trans bz
    · rw [last_miss HD.out.2.1]
  case stop =>
    rintro k X hk ⟨hkX, hz, hq, hall⟩ hd
    rw [show outE none = Exit.ret from rfl]
    have HS := Lib.hid (And.intro hkX (And.intro hz (And.intro hq (And.intro hall hd))))
    clear hkX hz hq hall hd hseq
    simp only [Exit.inBlock, Exit.then]
    have hbX : Below w.heap.size w X := H5.out.1.trans (HS.out.1.below (by have := H.out.2.2.2.2.2.2.2.2; simp; omega) H5.out.1.size)
    refine marks_cells (v := .int .i64 ((n - 1 - k : Nat) : Int)) [W.heap.size] _ (by simp) (fun d hd => by rw [List.mem_singleton.1 hd]; exact HS.out.2.2.2.2) (fun w' h1 h2 h3 h4 h5 => ⟨results_one rfl _ w' Y3.heap.size _ rfl ?_, ?_, after_marks hbX h1 h2 h3 h4 (fun k hk => h5 k (by have := H5.out.2.2.2.2; simp; omega))⟩)
    · exact (h5 _ (by have := H5.out.2.2.2.2; have := H.out.2.2.2.2.2.2.2.2; simp; omega)).trans HS.out.2.1
    · rw [last_hit hk HS.out.2.2.1 HS.out.2.2.2.1]

set_option maxHeartbeats 4000000 in
theorem last_ahead (a : Option Addr) (n c : Nat) (L : List Rt) (x : Px) (w : World) (hn : L.length = n) (hm : n ≤ 9223372036854775807) (hR : RowsAt w a L) :
    Calls Tryd.prog 40 #[.agg #[.slice a n c], .func (.func 42) #[] #[], .agg x.cs] w fun e w' => e = .returned (.int .i64 (lastM (aheadQ x) L n)) ∧ Below w.heap.size w w' := by
  obtain ⟨Y1, hY1⟩ : ∃ Y1, w.alloc (.cells #[.slice a n c] 24) = Y1 := ⟨_, rfl⟩
  obtain ⟨Y2, hY2⟩ : ∃ Y2, Y1.alloc (.cells #[.func (.func 42) #[] #[]] 78) = Y2 := ⟨_, rfl⟩
  obtain ⟨Y3, hY3⟩ : ∃ Y3, Y2.alloc (.cells x.cs 38) = Y3 := ⟨_, rfl⟩
  obtain ⟨Y4, hY4⟩ : ∃ Y4, Y3.alloc (.cells #[.int .i64 0] 3) = Y4 := ⟨_, rfl⟩
  have s1 : Y1.heap.size = w.heap.size + 1 := by rw [← hY1]; simp
  have s2 : Y2.heap.size = w.heap.size + 2 := by rw [← hY2]; simp [s1]
  have s3 : Y3.heap.size = w.heap.size + 3 := by rw [← hY3]; simp [s2]
  have s4 : Y4.heap.size = w.heap.size + 4 := by rw [← hY4]; simp [s3]
  have k1 : Below w.heap.size w Y1 := by rw [← hY1]; exact (Below.refl _ _).alloc (Nat.le_refl _) _
  have k2 : Below Y1.heap.size Y1 Y2 := by rw [← hY2]; exact (Below.refl _ _).alloc (Nat.le_refl _) _
  have k3 : Below Y2.heap.size Y2 Y3 := by rw [← hY3]; exact (Below.refl _ _).alloc (Nat.le_refl _) _
  have k4 : Below Y3.heap.size Y3 Y4 := by rw [← hY4]; exact (Below.refl _ _).alloc (Nat.le_refl _) _
  have b1 : Blk Y4 w.heap.size 24 #[.slice a n c] := by
    have h : Blk Y1 w.heap.size 24 #[.slice a n c] := by rw [← hY1]; exact Blk.new _ _ _
    exact ((h.later k2).later k3).later k4
  have b2 : Blk Y4 Y1.heap.size 78 #[.func (.func 42) #[] #[]] := by
    have h := Blk.new Y1 78 #[.func (.func 42) #[] #[]]
    rw [hY2] at h
    exact (h.later k3).later k4
  have b3 : Blk Y4 Y2.heap.size 38 x.cs := by
    have h := Blk.new Y2 38 x.cs
    rw [hY3] at h
    exact h.later k4
  have b4 : Blk Y4 Y3.heap.size 3 #[.int .i64 0] := by
    have h := Blk.new Y3 3 #[.int .i64 0]
    rw [hY4] at h
    exact h
  have kb : Below w.heap.size w Y4 := bel_trans (bel_trans (bel_trans k1 k2) k3) k4
  have hR4 : L = [] ∨ ∃ g o, a = some ⟨g, o, none⟩ ∧ Rws Y4 g o L ∧ g ∉ [Y3.heap.size] := by
    rcases hR with h | ⟨g, o, h1, h2⟩
    · exact .inl h
    · exact .inr ⟨g, o, h1, h2.later kb, by have := h2.lt; simp; omega⟩
  have c1 : Y4.cell? ⟨w.heap.size, 0, none⟩ = some (.slice a n c) := b1.cell 0
  have H := Lib.hid (And.intro kb (And.intro b2 (And.intro b3 (And.intro b4 (And.intro hR4 (And.intro hn (And.intro s1 (And.intro s2 (And.intro s3 s4)))))))))
  clear k1 k2 k3 k4 kb b1 b2 b3 b4 hR hR4 s2 s3 s4 s1
  refine calls_of_wp_marks Tryd.func40 rfl ?_
  simp only [Tryd.ntmps40, List.size_toArray, List.length_cons, List.length_nil, Nat.reduceAdd, Nat.reduceSub, Array.replicate_succ, Array.replicate_zero, List.push_toArray, List.append_toArray, List.nil_append, List.cons_append]
  go_wp2_with fail
  refine (backward_any a n c Y4).mono ?_
  rintro e3 W ⟨rfl, hW⟩
  obtain ⟨Y5, hY5⟩ : ∃ Y5, Y4.alloc (.cells #[.slice a n c] 22) = Y5 := ⟨_, rfl⟩
  rw [hY5] at hW
  subst hW
  have k5 : Below Y4.heap.size Y4 W := by rw [← hY5]; exact (Below.refl _ _).alloc (Nat.le_refl _) _
  have b5 : Blk W Y4.heap.size 22 #[.slice a n c] := by rw [← hY5]; exact Blk.new _ _ _
  have s5 : W.heap.size = w.heap.size + 5 := by rw [← hY5]; simp [H.out.2.2.2.2.2.2.2.2.2]
  have hR5 : L = [] ∨ ∃ g o, a = some ⟨g, o, none⟩ ∧ Rws W g o L ∧ g ∉ [Y3.heap.size] := by
    rcases H.out.2.2.2.2.1 with h | ⟨g, o, h1, h2, h3⟩
    · exact .inl h
    · exact .inr ⟨g, o, h1, h2.later k5, h3⟩
  have hseq := backward_low (S := [Y3.heap.size]) H.out.2.2.2.2.2.1 hm hR5 b5 (by have := H.out.2.2.2.2.2.2.2.2; simp; omega)
  have H5 := Lib.hid (And.intro (bel_trans H.out.1 k5) (And.intro (H.out.2.1.later k5) (And.intro (H.out.2.2.1.later k5) (And.intro (H.out.2.2.2.1.later k5) s5))))
  clear k5 b5 s5 hR5 hY5 c1
  go_wp2_with fail
  refine wp_range_low (S := [Y3.heap.size]) (N := n) (enc := encT L) none (fun _ => rfl) rfl (fun _ _ => by simp [go_sem, enters_of Tryd.func75 (by kernel_rfl) rfl]) hseq (fun k hk => by have := H.out.2.2.2.2.2.2.2.2; have := H5.out.2.2.2.2; simp at hk; omega)
    (fun k X => Kept [] W X ∧ ∀ j, j < k → aheadQ x (rt L (n - 1 - j)) = false)
    (fun k X => Kept [Y3.heap.size] W X ∧ Blk X Y3.heap.size 3 #[.int .i64 ((n - 1 - k : Nat) : Int)] ∧ aheadQ x (rt L (n - 1 - k)) = true ∧ ∀ j, j < k → aheadQ x (rt L (n - 1 - j)) = false)
    ?hI ?hIx ⟨Kept.refl _ _, fun j hj => by omega⟩
    (fun k a' X => ∃ Bx, Blk X Bx 48 (rt L (n - 1 - k)).cs ∧ a' = { tmps := #[.agg #[.slice a n c], .func (.func 42) #[] #[], .agg x.cs, .pointer (some ⟨w.heap.size, 0, none⟩), .pointer (some ⟨Y1.heap.size, 0, none⟩), .pointer (some ⟨Y2.heap.size, 0, none⟩), .pointer (some ⟨Y3.heap.size, 0, none⟩), .int .i64 ((n - 1 - k : Nat) : Int), .pointer (some ⟨Bx, 0, none⟩), .pointer (some ⟨w.heap.size, 0, none⟩), .slice a n c, .func (.func 75) #[] #[.pointer (some ⟨Y4.heap.size, 0, none⟩)], .int .i64 ((n - 1 - k : Nat) : Int), .agg (rt L (n - 1 - k)).cs, undef, undef, undef, undef, undef], defers := [] })
    ?hAx ?assign ?body ?done ?stop
  case hI => exact fun s X Y row hs hg hrow => ⟨own_kept (β := Unit) _ (Nat.le_refl _) () X Y row hs.1 hg hrow, hs.2⟩
  case hIx => exact fun s X Y row hs hg hrow => ⟨own_kept (β := Unit) _ (Nat.le_refl _) () X Y row hs.1 hg hrow, own_blk (β := Unit) _ _ _ (fun _ => _) () X Y row hs.2.1 hg hrow, hs.2.2⟩
  case hAx => exact fun k a' s X Y row hs hg hrow => by obtain ⟨Bx, e1, e2⟩ := hs; exact ⟨Bx, own_blk (β := Unit) _ _ _ (fun _ => (rt L (n - 1 - k)).cs) () X Y row e1 hg hrow, e2⟩
  case assign =>
    intro k X K hk hX hI hK
    have HN := H.out.2.2.2.2.2.1
    simp only [List.zip_toArray, List.zip_cons_cons, List.zip_nil_right, List.zip_nil_left, List.size_toArray, List.foldl_toArray', List.foldl_toArray, List.foldl_cons, List.foldl_nil, List.setIfInBounds_toArray, List.set_cons_zero, List.set_cons_succ, encT]
    rw [HN]
    clear HN
    have HZ := Lib.hid (show Rt.zero.cs.size = (rt L (n - 1 - k)).cs.size by rw [Rt.size, Rt.size])
    have HP2 := Lib.hid (s_rt (rt L (n - 1 - k)))
    gi_wp2_with (first | (with_reducible refine wpListIn_alloc_z rfl 48 rfl Rt.zero.cs 19 z_rt ?_) | (with_reducible refine wpListIn_store_new rfl 48 (.tmp 8) (.tmp 13) rfl (rt L (n - 1 - k)).cs Rt.zero.cs _ rfl rfl HZ.out HP2.out (Rt.one _) ?_))
    have hB1 : Below X.heap.size X (X.alloc (.cells (rt L (n - 1 - k)).cs 48)) := (Below.refl _ _).alloc (Nat.le_refl _) _
    exact hK _ _ (KL.below hB1 hX) ⟨hI.1.trans2 (Kept.of_below [] hB1) (by simp), hI.2⟩ ⟨_, Blk.new _ _ _, rfl⟩
  case body =>
    rintro k _ X ⟨hkX, hall⟩ ⟨Bx, bx, rfl⟩ hk hX
    have hX5 : Below W.heap.size W X := hkX.below (by simp) (Nat.le_refl _)
    have z2 := H5.out.2.1.later hX5
    have z3 := H5.out.2.2.1.later hX5
    have z4 := H5.out.2.2.2.1.later hX5
    have K2 : X.cell? ⟨Y1.heap.size, 0, none⟩ = some (.func (.func 42) #[] #[]) := z2.cell 0
    have KP := px_p z3 X (Below.refl _ _)
    have KR := rt_r bx X (Below.refl _ _)
    have HQ := rahead_any (rt L (n - 1 - k)) x X
    obtain ⟨q, hq⟩ : ∃ q, aheadQ x (rt L (n - 1 - k)) = q := ⟨_, rfl⟩
    rw [hq] at HQ
    have HB := Lib.hid (And.intro hkX (And.intro hall (And.intro hX5 (And.intro z4 hq))))
    clear hkX hall hX5 z2 z3 z4 bx hq
    gi_wp2_with fail
    refine ⟨trivial, ?_⟩
    refine (CallsIn.inRound (W.heap.size + 1) (callsIn_wide.2 HQ)).mono ?_
    rintro e6 X6 ⟨rfl, hb6⟩
    have hK6 : Kept [] W X6 := HB.out.1.trans2 (Kept.of_below [] hb6) (by simp)
    have z6 := HB.out.2.2.2.1.later hb6
    have HC := Lib.hid (And.intro hK6 (And.intro (KL.below (B := W.heap.size + 2) (S := [Y3.heap.size]) hb6 hX) z6))
    clear hK6 hb6 z6 K2 KP KR HQ
    cases q with
    | true =>
      have cz : X6.cell? ⟨Y3.heap.size, 0, none⟩ = some (.int .i64 0) := HC.out.2.2.cell 0
      have fz := HC.out.2.2.free 0
      gi_wp2
      have k9 : Kept [Y3.heap.size] X6 (X6.setCell ⟨Y3.heap.size, 0, none⟩ (.int .i64 ((n - 1 - k : Nat) : Int))) := (Kept.refl [Y3.heap.size] X6).setCell (p := ⟨Y3.heap.size, 0, none⟩) (.inl (by simp)) _
      refine ⟨HC.out.2.1.trans (KL.kept k9 (by have := HC.out.2.1.size; omega)), .inr ⟨rfl, (kept_more HC.out.1).trans k9, ?_, HB.out.2.2.2.2, HB.out.2.1⟩⟩
      have := HC.out.2.2.set 0 (.int .i64 ((n - 1 - k : Nat) : Int))
      simpa using this
    | false =>
      gi_wp2
      refine ⟨HC.out.2.1, .inl ⟨HC.out.1, fun j hj => ?_⟩⟩
      by_cases e : j = k
      · rw [e]; exact HB.out.2.2.2.2
      · exact HB.out.2.1 j (by omega)
  case done =>
    rintro X ⟨hkX, hall⟩ hd
    have hX5 : Below W.heap.size W X := hkX.below (by simp) (Nat.le_refl _)
    have z4 := H5.out.2.2.2.1.later hX5
    have cz : X.cell? ⟨Y3.heap.size, 0, none⟩ = some (.int .i64 0) := z4.cell 0
    have fz := z4.free 0
    have HD := Lib.hid (And.intro z4 (And.intro hall (And.intro hd (bel_trans H5.out.1 hX5))))
    clear hkX hall hd hX5 z4
    go_wp2_with fail
    have bz : Blk (X.setCell ⟨Y3.heap.size, 0, none⟩ (.int .i64 (-1))) Y3.heap.size 3 #[.int .i64 (-1)] := by
      have := HD.out.1.set 0 (.int .i64 (-1))
      simpa using this
    have k9 : Kept [Y3.heap.size] X (X.setCell ⟨Y3.heap.size, 0, none⟩ (.int .i64 (-1))) := (Kept.refl [Y3.heap.size] X).setCell (p := ⟨Y3.heap.size, 0, none⟩) (.inl (by simp)) _
    have hbX : Below w.heap.size w (X.setCell ⟨Y3.heap.size, 0, none⟩ (.int .i64 (-1))) := HD.out.2.2.2.trans (k9.below (by have := H.out.2.2.2.2.2.2.2.2; simp; omega) HD.out.2.2.2.size)
    have hd9 : (X.setCell ⟨Y3.heap.size, 0, none⟩ (.int .i64 (-1))).heap[W.heap.size]? = some (.deferred (some [])) := (k9.block _ (Array.getElem?_eq_some_iff.1 HD.out.2.2.1).1 (by have := H5.out.2.2.2.2; have := H.out.2.2.2.2.2.2.2.2; simp; omega)).trans HD.out.2.2.1
    refine marks_cells (v := .int .i64 (-1)) [W.heap.size] _ (by simp) (fun d hd => by rw [List.mem_singleton.1 hd]; exact hd9) (fun w' h1 h2 h3 h4 h5 => ⟨results_one rfl _ w' Y3.heap.size _ rfl ?_, ?_, after_marks hbX h1 h2 h3 h4 (fun k hk => h5 k (by have := H5.out.2.2.2.2; simp; omega))⟩)
    · exact (h5 _ (by have := H5.out.2.2.2.2; have := H.out.2.2.2.2.2.2.2.2; simp; omega)).trans bz
    · rw [last_miss HD.out.2.1]
  case stop =>
    rintro k X hk ⟨hkX, hz, hq, hall⟩ hd
    rw [show outE none = Exit.ret from rfl]
    have HS := Lib.hid (And.intro hkX (And.intro hz (And.intro hq (And.intro hall hd))))
    clear hkX hz hq hall hd hseq
    simp only [Exit.inBlock, Exit.then]
    have hbX : Below w.heap.size w X := H5.out.1.trans (HS.out.1.below (by have := H.out.2.2.2.2.2.2.2.2; simp; omega) H5.out.1.size)
    refine marks_cells (v := .int .i64 ((n - 1 - k : Nat) : Int)) [W.heap.size] _ (by simp) (fun d hd => by rw [List.mem_singleton.1 hd]; exact HS.out.2.2.2.2) (fun w' h1 h2 h3 h4 h5 => ⟨results_one rfl _ w' Y3.heap.size _ rfl ?_, ?_, after_marks hbX h1 h2 h3 h4 (fun k hk => h5 k (by have := H5.out.2.2.2.2; simp; omega))⟩)
    · exact (h5 _ (by have := H5.out.2.2.2.2; have := H.out.2.2.2.2.2.2.2.2; simp; omega)).trans HS.out.2.1
    · rw [last_hit hk HS.out.2.2.1 HS.out.2.2.2.1]

set_option maxHeartbeats 4000000 in
theorem last_has (a : Option Addr) (n c : Nat) (L : List Rt) (x : Ad) (w : World) (hW : Wid w) (hn : L.length = n) (hm : n ≤ 9223372036854775807) (hR : RowsAt w a L) :
    Calls Tryd.prog 47 #[.agg #[.slice a n c], .func (.func 48) #[] #[], .agg x.cs] w fun e w' => e = .returned (.int .i64 (lastM (hasQ x) L n)) ∧ Below w.heap.size w w' := by
  obtain ⟨Y1, hY1⟩ : ∃ Y1, w.alloc (.cells #[.slice a n c] 24) = Y1 := ⟨_, rfl⟩
  obtain ⟨Y2, hY2⟩ : ∃ Y2, Y1.alloc (.cells #[.func (.func 48) #[] #[]] 84) = Y2 := ⟨_, rfl⟩
  obtain ⟨Y3, hY3⟩ : ∃ Y3, Y2.alloc (.cells x.cs 36) = Y3 := ⟨_, rfl⟩
  obtain ⟨Y4, hY4⟩ : ∃ Y4, Y3.alloc (.cells #[.int .i64 0] 3) = Y4 := ⟨_, rfl⟩
  have s1 : Y1.heap.size = w.heap.size + 1 := by rw [← hY1]; simp
  have s2 : Y2.heap.size = w.heap.size + 2 := by rw [← hY2]; simp [s1]
  have s3 : Y3.heap.size = w.heap.size + 3 := by rw [← hY3]; simp [s2]
  have s4 : Y4.heap.size = w.heap.size + 4 := by rw [← hY4]; simp [s3]
  have k1 : Below w.heap.size w Y1 := by rw [← hY1]; exact (Below.refl _ _).alloc (Nat.le_refl _) _
  have k2 : Below Y1.heap.size Y1 Y2 := by rw [← hY2]; exact (Below.refl _ _).alloc (Nat.le_refl _) _
  have k3 : Below Y2.heap.size Y2 Y3 := by rw [← hY3]; exact (Below.refl _ _).alloc (Nat.le_refl _) _
  have k4 : Below Y3.heap.size Y3 Y4 := by rw [← hY4]; exact (Below.refl _ _).alloc (Nat.le_refl _) _
  have b1 : Blk Y4 w.heap.size 24 #[.slice a n c] := by
    have h : Blk Y1 w.heap.size 24 #[.slice a n c] := by rw [← hY1]; exact Blk.new _ _ _
    exact ((h.later k2).later k3).later k4
  have b2 : Blk Y4 Y1.heap.size 84 #[.func (.func 48) #[] #[]] := by
    have h := Blk.new Y1 84 #[.func (.func 48) #[] #[]]
    rw [hY2] at h
    exact (h.later k3).later k4
  have b3 : Blk Y4 Y2.heap.size 36 x.cs := by
    have h := Blk.new Y2 36 x.cs
    rw [hY3] at h
    exact h.later k4
  have b4 : Blk Y4 Y3.heap.size 3 #[.int .i64 0] := by
    have h := Blk.new Y3 3 #[.int .i64 0]
    rw [hY4] at h
    exact h
  have kb : Below w.heap.size w Y4 := bel_trans (bel_trans (bel_trans k1 k2) k3) k4
  have hR4 : L = [] ∨ ∃ g o, a = some ⟨g, o, none⟩ ∧ Rws Y4 g o L ∧ g ∉ [Y3.heap.size] := by
    rcases hR with h | ⟨g, o, h1, h2⟩
    · exact .inl h
    · exact .inr ⟨g, o, h1, h2.later kb, by have := h2.lt; simp; omega⟩
  have c1 : Y4.cell? ⟨w.heap.size, 0, none⟩ = some (.slice a n c) := b1.cell 0
  have H := Lib.hid (And.intro kb (And.intro b2 (And.intro b3 (And.intro b4 (And.intro hR4 (And.intro hn (And.intro s1 (And.intro s2 (And.intro s3 s4)))))))))
  clear k1 k2 k3 k4 kb b1 b2 b3 b4 hR hR4 s2 s3 s4 s1
  refine calls_of_wp_marks Tryd.func47 rfl ?_
  simp only [Tryd.ntmps47, List.size_toArray, List.length_cons, List.length_nil, Nat.reduceAdd, Nat.reduceSub, Array.replicate_succ, Array.replicate_zero, List.push_toArray, List.append_toArray, List.nil_append, List.cons_append]
  go_wp2_with fail
  refine (backward_any a n c Y4).mono ?_
  rintro e3 W ⟨rfl, hW⟩
  obtain ⟨Y5, hY5⟩ : ∃ Y5, Y4.alloc (.cells #[.slice a n c] 22) = Y5 := ⟨_, rfl⟩
  rw [hY5] at hW
  subst hW
  have k5 : Below Y4.heap.size Y4 W := by rw [← hY5]; exact (Below.refl _ _).alloc (Nat.le_refl _) _
  have b5 : Blk W Y4.heap.size 22 #[.slice a n c] := by rw [← hY5]; exact Blk.new _ _ _
  have s5 : W.heap.size = w.heap.size + 5 := by rw [← hY5]; simp [H.out.2.2.2.2.2.2.2.2.2]
  have hR5 : L = [] ∨ ∃ g o, a = some ⟨g, o, none⟩ ∧ Rws W g o L ∧ g ∉ [Y3.heap.size] := by
    rcases H.out.2.2.2.2.1 with h | ⟨g, o, h1, h2, h3⟩
    · exact .inl h
    · exact .inr ⟨g, o, h1, h2.later k5, h3⟩
  have hseq := backward_low (S := [Y3.heap.size]) H.out.2.2.2.2.2.1 hm hR5 b5 (by have := H.out.2.2.2.2.2.2.2.2; simp; omega)
  have H5 := Lib.hid (And.intro (bel_trans H.out.1 k5) (And.intro (H.out.2.1.later k5) (And.intro (H.out.2.2.1.later k5) (And.intro (H.out.2.2.2.1.later k5) s5))))
  clear k5 b5 s5 hR5 hY5 c1
  go_wp2_with fail
  refine wp_range_low (S := [Y3.heap.size]) (N := n) (enc := encT L) none (fun _ => rfl) rfl (fun _ _ => by simp [go_sem, enters_of Tryd.func75 (by kernel_rfl) rfl]) hseq (fun k hk => by have := H.out.2.2.2.2.2.2.2.2; have := H5.out.2.2.2.2; simp at hk; omega)
    (fun k X => Kept [] W X ∧ ∀ j, j < k → hasQ x (rt L (n - 1 - j)) = false)
    (fun k X => Kept [Y3.heap.size] W X ∧ Blk X Y3.heap.size 3 #[.int .i64 ((n - 1 - k : Nat) : Int)] ∧ hasQ x (rt L (n - 1 - k)) = true ∧ ∀ j, j < k → hasQ x (rt L (n - 1 - j)) = false)
    ?hI ?hIx ⟨Kept.refl _ _, fun j hj => by omega⟩
    (fun k a' X => ∃ Bx, Blk X Bx 48 (rt L (n - 1 - k)).cs ∧ a' = { tmps := #[.agg #[.slice a n c], .func (.func 48) #[] #[], .agg x.cs, .pointer (some ⟨w.heap.size, 0, none⟩), .pointer (some ⟨Y1.heap.size, 0, none⟩), .pointer (some ⟨Y2.heap.size, 0, none⟩), .pointer (some ⟨Y3.heap.size, 0, none⟩), .int .i64 ((n - 1 - k : Nat) : Int), .pointer (some ⟨Bx, 0, none⟩), .pointer (some ⟨w.heap.size, 0, none⟩), .slice a n c, .func (.func 75) #[] #[.pointer (some ⟨Y4.heap.size, 0, none⟩)], .int .i64 ((n - 1 - k : Nat) : Int), .agg (rt L (n - 1 - k)).cs, undef, undef, undef, undef, undef], defers := [] })
    ?hAx ?assign ?body ?done ?stop
  case hI => exact fun s X Y row hs hg hrow => ⟨own_kept (β := Unit) _ (Nat.le_refl _) () X Y row hs.1 hg hrow, hs.2⟩
  case hIx => exact fun s X Y row hs hg hrow => ⟨own_kept (β := Unit) _ (Nat.le_refl _) () X Y row hs.1 hg hrow, own_blk (β := Unit) _ _ _ (fun _ => _) () X Y row hs.2.1 hg hrow, hs.2.2⟩
  case hAx => exact fun k a' s X Y row hs hg hrow => by obtain ⟨Bx, e1, e2⟩ := hs; exact ⟨Bx, own_blk (β := Unit) _ _ _ (fun _ => (rt L (n - 1 - k)).cs) () X Y row e1 hg hrow, e2⟩
  case assign =>
    intro k X K hk hX hI hK
    have HN := H.out.2.2.2.2.2.1
    simp only [List.zip_toArray, List.zip_cons_cons, List.zip_nil_right, List.zip_nil_left, List.size_toArray, List.foldl_toArray', List.foldl_toArray, List.foldl_cons, List.foldl_nil, List.setIfInBounds_toArray, List.set_cons_zero, List.set_cons_succ, encT]
    rw [HN]
    clear HN
    have HZ := Lib.hid (show Rt.zero.cs.size = (rt L (n - 1 - k)).cs.size by rw [Rt.size, Rt.size])
    have HP2 := Lib.hid (s_rt (rt L (n - 1 - k)))
    gi_wp2_with (first | (with_reducible refine wpListIn_alloc_z rfl 48 rfl Rt.zero.cs 19 z_rt ?_) | (with_reducible refine wpListIn_store_new rfl 48 (.tmp 8) (.tmp 13) rfl (rt L (n - 1 - k)).cs Rt.zero.cs _ rfl rfl HZ.out HP2.out (Rt.one _) ?_))
    have hB1 : Below X.heap.size X (X.alloc (.cells (rt L (n - 1 - k)).cs 48)) := (Below.refl _ _).alloc (Nat.le_refl _) _
    exact hK _ _ (KL.below hB1 hX) ⟨hI.1.trans2 (Kept.of_below [] hB1) (by simp), hI.2⟩ ⟨_, Blk.new _ _ _, rfl⟩
  case body =>
    rintro k _ X ⟨hkX, hall⟩ ⟨Bx, bx, rfl⟩ hk hX
    have hX5 : Below W.heap.size W X := hkX.below (by simp) (Nat.le_refl _)
    have z2 := H5.out.2.1.later hX5
    have z3 := H5.out.2.2.1.later hX5
    have z4 := H5.out.2.2.2.1.later hX5
    have K2 : X.cell? ⟨Y1.heap.size, 0, none⟩ = some (.func (.func 48) #[] #[]) := z2.cell 0
    have KP := ad_a z3 X (Below.refl _ _)
    have KR := rt_r bx X (Below.refl _ _)
    have HQ := rhas_any (rt L (n - 1 - k)) x X (hW.later (bel_trans H5.out.1 hX5))
    obtain ⟨q, hq⟩ : ∃ q, hasQ x (rt L (n - 1 - k)) = q := ⟨_, rfl⟩
    rw [hq] at HQ
    have HB := Lib.hid (And.intro hkX (And.intro hall (And.intro hX5 (And.intro z4 hq))))
    clear hkX hall hX5 z2 z3 z4 bx hq
    gi_wp2_with fail
    refine ⟨trivial, ?_⟩
    refine (CallsIn.inRound (W.heap.size + 1) (callsIn_wide.2 HQ)).mono ?_
    rintro e6 X6 ⟨rfl, hb6⟩
    have hK6 : Kept [] W X6 := HB.out.1.trans2 (Kept.of_below [] hb6) (by simp)
    have z6 := HB.out.2.2.2.1.later hb6
    have HC := Lib.hid (And.intro hK6 (And.intro (KL.below (B := W.heap.size + 2) (S := [Y3.heap.size]) hb6 hX) z6))
    clear hK6 hb6 z6 K2 KP KR HQ
    cases q with
    | true =>
      have cz : X6.cell? ⟨Y3.heap.size, 0, none⟩ = some (.int .i64 0) := HC.out.2.2.cell 0
      have fz := HC.out.2.2.free 0
      gi_wp2
      have k9 : Kept [Y3.heap.size] X6 (X6.setCell ⟨Y3.heap.size, 0, none⟩ (.int .i64 ((n - 1 - k : Nat) : Int))) := (Kept.refl [Y3.heap.size] X6).setCell (p := ⟨Y3.heap.size, 0, none⟩) (.inl (by simp)) _
      refine ⟨HC.out.2.1.trans (KL.kept k9 (by have := HC.out.2.1.size; omega)), .inr ⟨rfl, (kept_more HC.out.1).trans k9, ?_, HB.out.2.2.2.2, HB.out.2.1⟩⟩
      have := HC.out.2.2.set 0 (.int .i64 ((n - 1 - k : Nat) : Int))
      simpa using this
    | false =>
      gi_wp2
      refine ⟨HC.out.2.1, .inl ⟨HC.out.1, fun j hj => ?_⟩⟩
      by_cases e : j = k
      · rw [e]; exact HB.out.2.2.2.2
      · exact HB.out.2.1 j (by omega)
  case done =>
    rintro X ⟨hkX, hall⟩ hd
    have hX5 : Below W.heap.size W X := hkX.below (by simp) (Nat.le_refl _)
    have z4 := H5.out.2.2.2.1.later hX5
    have cz : X.cell? ⟨Y3.heap.size, 0, none⟩ = some (.int .i64 0) := z4.cell 0
    have fz := z4.free 0
    have HD := Lib.hid (And.intro z4 (And.intro hall (And.intro hd (bel_trans H5.out.1 hX5))))
    clear hkX hall hd hX5 z4
    go_wp2_with fail
    have bz : Blk (X.setCell ⟨Y3.heap.size, 0, none⟩ (.int .i64 (-1))) Y3.heap.size 3 #[.int .i64 (-1)] := by
      have := HD.out.1.set 0 (.int .i64 (-1))
      simpa using this
    have k9 : Kept [Y3.heap.size] X (X.setCell ⟨Y3.heap.size, 0, none⟩ (.int .i64 (-1))) := (Kept.refl [Y3.heap.size] X).setCell (p := ⟨Y3.heap.size, 0, none⟩) (.inl (by simp)) _
    have hbX : Below w.heap.size w (X.setCell ⟨Y3.heap.size, 0, none⟩ (.int .i64 (-1))) := HD.out.2.2.2.trans (k9.below (by have := H.out.2.2.2.2.2.2.2.2; simp; omega) HD.out.2.2.2.size)
    have hd9 : (X.setCell ⟨Y3.heap.size, 0, none⟩ (.int .i64 (-1))).heap[W.heap.size]? = some (.deferred (some [])) := (k9.block _ (Array.getElem?_eq_some_iff.1 HD.out.2.2.1).1 (by have := H5.out.2.2.2.2; have := H.out.2.2.2.2.2.2.2.2; simp; omega)).trans HD.out.2.2.1
    refine marks_cells (v := .int .i64 (-1)) [W.heap.size] _ (by simp) (fun d hd => by rw [List.mem_singleton.1 hd]; exact hd9) (fun w' h1 h2 h3 h4 h5 => ⟨results_one rfl _ w' Y3.heap.size _ rfl ?_, ?_, after_marks hbX h1 h2 h3 h4 (fun k hk => h5 k (by have := H5.out.2.2.2.2; simp; omega))⟩)
    · exact (h5 _ (by have := H5.out.2.2.2.2; have := H.out.2.2.2.2.2.2.2.2; simp; omega)).trans bz
    · rw [last_miss HD.out.2.1]
  case stop =>
    rintro k X hk ⟨hkX, hz, hq, hall⟩ hd
    rw [show outE none = Exit.ret from rfl]
    have HS := Lib.hid (And.intro hkX (And.intro hz (And.intro hq (And.intro hall hd))))
    clear hkX hz hq hall hd hseq
    simp only [Exit.inBlock, Exit.then]
    have hbX : Below w.heap.size w X := H5.out.1.trans (HS.out.1.below (by have := H.out.2.2.2.2.2.2.2.2; simp; omega) H5.out.1.size)
    refine marks_cells (v := .int .i64 ((n - 1 - k : Nat) : Int)) [W.heap.size] _ (by simp) (fun d hd => by rw [List.mem_singleton.1 hd]; exact HS.out.2.2.2.2) (fun w' h1 h2 h3 h4 h5 => ⟨results_one rfl _ w' Y3.heap.size _ rfl ?_, ?_, after_marks hbX h1 h2 h3 h4 (fun k hk => h5 k (by have := H5.out.2.2.2.2; simp; omega))⟩)
    · exact (h5 _ (by have := H5.out.2.2.2.2; have := H.out.2.2.2.2.2.2.2.2; simp; omega)).trans HS.out.2.1
    · rw [last_hit hk HS.out.2.2.1 HS.out.2.2.2.1]
end Go.Proofs.YtdbdmnahgkkjiaaDoor
