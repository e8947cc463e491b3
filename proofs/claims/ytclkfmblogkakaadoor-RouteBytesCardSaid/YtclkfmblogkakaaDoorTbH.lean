/-
  The contract of table.Set. Nothing here is a statement of the document.
-/
import Derived.Test.YtclkfmblogkakaaDoorTbC
import Derived.Laws.CopyRow
import Derived.Laws.OwnMore
import Derived.Lib.AppendZerosOnto
import Derived.Lib.SliceRun
import Derived.Lib.Overlaps
import Derived.Deep.DeepCutAuto
namespace Go.Proofs.YtclkfmblogkakaaDoor
open Go.RowKit Go.Shelf
set_option linter.unusedVariables false
set_option maxRecDepth 100000

theorem row_p {W : World} {g : Nat} {r : Rt} (h : Blk W g 104 r.cs) : ∀ w', Below W.heap.size W w' → (loadSem 65 (.pointer (some ⟨g, 0, none⟩))).run Tryd.prog w' = .ok (.agg r.p.cs) w' :=
  fun w' k => loadRes_of (o := 0) (h.later k) (fun q hq => by rw [Nat.zero_add]; exact r.cp q (by rw [Px.size] at hq; exact hq)) _ Tryd.underlying65 rfl (s_px r.p)
attribute [local go_sem ↓] load_b16_rule store_b16_rule load_ad_rule store_ad_rule load_px_rule store_px_rule eq_b16_rule eq_ad_rule eq_px_rule load_rt_rule store_rt_rule

set_option maxHeartbeats 1600000 in
theorem ris_any (r : Rt) (x : Px) (w : World) : Calls Tryd.prog 63 #[.agg r.cs, .agg x.cs] w fun e w' => e = .returned (.bool (isQ x r)) ∧ Below w.heap.size w w' := by
  obtain ⟨W1, hW1⟩ : ∃ W1, (w.alloc (.cells r.cs 104)).alloc (.cells x.cs 65) = W1 := ⟨_, rfl⟩
  have hb1 : Below w.heap.size w W1 := by rw [← hW1]; exact (((Below.refl w.heap.size w).alloc (Nat.le_refl _) _).alloc (by simp) _)
  have b1 : Blk W1 w.heap.size 104 r.cs := by
    have h9 := Blk.new w 104 r.cs
    rw [← hW1]; exact (h9.alloc _)
  have b2 : Blk W1 (w.heap.size + 1) 65 x.cs := by
    have h9 := Blk.new (w.alloc (.cells r.cs 104)) 65 x.cs
    rw [World.size_alloc] at h9
    rw [← hW1]; exact h9
  have LP := row_p b1
  have LX := px_p b2
  have h0 : Below W1.heap.size W1 W1 := Below.refl _ _
  have EQ := eqP r.p x
  have HB := Lib.hid hb1
  clear hb1 b1 b2
  go_enter Tryd.func63, Tryd.ntmps63
  go_wp2
  all_goals go_ret
  all_goals exact ⟨by simp_all [isQ], bel_trans HB.out (by assumption)⟩

/-- A function that has gone over ranges returns what lies in cells: their marks are taken. -/
theorem marks_cells {fn : Func} {R : Ending → World → Prop} {tmps : Array Value} {v : Value} :
    ∀ (ds : List Nat) (w : World), ds.Nodup → (∀ d ∈ ds, w.heap[d]? = some (.deferred (some []))) → (∀ w', w'.heap.size = w.heap.size → w'.os = w.os → w'.tape = w.tape → w'.output = w.output → (∀ k, k ∉ ds → w'.heap[k]? = w.heap[k]?) → (results fn tmps).run Tryd.prog w' = .ok v w' ∧ R (.returned v) w') →
      LeavesInM Fence.wide 10 Tryd.prog fn tmps R (marks ds) .returning w := by
  intro ds
  induction ds with
  | nil => exact fun w _ _ h => ⟨_, (h w rfl rfl rfl rfl (fun _ _ => rfl)).1, (h w rfl rfl rfl rfl (fun _ _ => rfl)).2⟩
  | cons d ds ih =>
    intro w hn hd h
    refine ⟨by simp, .inl ⟨d, _, rfl, run_takeDeferred (hd d (by simp)), ?_⟩⟩
    refine ih _ (List.nodup_cons.1 hn).2 (fun d' hd' => ?_) (fun w' h1 h2 h3 h4 h5 => h w' (h1.trans (by simp [World.putObj])) h2 h3 h4 (fun k hk => ?_))
    · exact (World.putObj_heap_other (fun e => (List.nodup_cons.1 hn).1 (by rw [← e]; exact hd'))).trans (hd d' (by simp [hd']))
    · simp only [List.mem_cons, not_or] at hk
      exact (h5 k hk.2).trans (World.putObj_heap_other hk.1)
theorem results_one {fn : Func} {p : Tmp} (h : fn.results = #[.cell p 3]) (tmps : Array Value) (w : World) (g : Nat) (v : Int) (hp : tmps.getD p undef = .pointer (some ⟨g, 0, none⟩)) (hg : Blk w g 3 #[.int .i64 v]) :
    (results fn tmps).run Tryd.prog w = .ok (.int .i64 v) w := by
  have d0 : w.cell? ⟨g, 0, none⟩ = some (.int .i64 v) := hg.cell 0
  have hp2 : tmps[p]?.getD undef = .pointer (some ⟨g, 0, none⟩) := by rw [← hp]; simp
  simp only [results, h]
  simp [Sem.run_bind, Result.andThen, asAddr, hp2, d0, go_sem]
theorem last_hit {q : Rt → Bool} {L : List Rt} {n k : Nat} (hk : k < n) (h : q (rt L (n - 1 - k)) = true) (hn : ∀ j, j < k → q (rt L (n - 1 - j)) = false) : lastM q L n = ((n - 1 - k : Nat) : Int) := by
  rcases last_spec q L n with ⟨i, h1, h2, h3, h4⟩ | ⟨h1, h2⟩
  · rw [h2]
    rcases Nat.lt_trichotomy i (n - 1 - k) with h5 | h5 | h5
    · have := h4 _ h5 (by omega); rw [h] at this; cases this
    · rw [h5]
    · have := hn (n - 1 - i) (by omega)
      rw [show n - 1 - (n - 1 - i) = i by omega, h3] at this; cases this
  · have := h2 (n - 1 - k) (by omega); rw [h] at this; cases this
theorem last_miss {q : Rt → Bool} {L : List Rt} {n : Nat} (hn : ∀ j, j < n → q (rt L (n - 1 - j)) = false) : lastM q L n = -1 := by
  rcases last_spec q L n with ⟨i, h1, h2, h3, h4⟩ | ⟨h1, h2⟩
  · have := hn (n - 1 - i) (by omega)
    rw [show n - 1 - (n - 1 - i) = i by omega, h3] at this; cases this
  · exact h1

theorem kept_more {S : List Nat} {w w' : World} (h : Kept [] w w') : Kept S w w' := ⟨h.os, h.tape, h.output, h.size, fun k hk _ => h.block k hk (by simp)⟩
attribute [local go_sem] Oper.semAt_some
theorem own_step {β : Type} {B : Nat} {P : β → Prop} : OwnFrom B (fun s (_ : World) => P s) := fun s X Y row h hg hr => h
theorem after_marks {w W w' : World} (h : Below w.heap.size w W) (h1 : w'.heap.size = W.heap.size) (h2 : w'.os = W.os) (h3 : w'.tape = W.tape) (h4 : w'.output = W.output) (h5 : ∀ k, k < w.heap.size → w'.heap[k]? = W.heap[k]?) : Below w.heap.size w w' :=
  ⟨h2.trans h.os, h3.trans h.tape, h4.trans h.output, by rw [h1]; exact h.size, fun k hk => (h5 k hk).trans (h.block k hk)⟩

set_option maxHeartbeats 4000000 in
theorem last_is (a : Option Addr) (n c : Nat) (L : List Rt) (x : Px) (w : World) (hn : L.length = n) (hm : n ≤ 9223372036854775807) (hR : RowsAt w a L) :
    Calls Tryd.prog 62 #[.agg #[.slice a n c], .func (.func 63) #[] #[], .agg x.cs] w fun e w' => e = .returned (.int .i64 (lastM (isQ x) L n)) ∧ Below w.heap.size w w' := by
  obtain ⟨Y1, hY1⟩ : ∃ Y1, w.alloc (.cells #[.slice a n c] 41) = Y1 := ⟨_, rfl⟩
  obtain ⟨Y2, hY2⟩ : ∃ Y2, Y1.alloc (.cells #[.func (.func 63) #[] #[]] 102) = Y2 := ⟨_, rfl⟩
  obtain ⟨Y3, hY3⟩ : ∃ Y3, Y2.alloc (.cells x.cs 65) = Y3 := ⟨_, rfl⟩
  obtain ⟨Y4, hY4⟩ : ∃ Y4, Y3.alloc (.cells #[.int .i64 0] 3) = Y4 := ⟨_, rfl⟩
  have s1 : Y1.heap.size = w.heap.size + 1 := by rw [← hY1]; simp
  have s2 : Y2.heap.size = w.heap.size + 2 := by rw [← hY2]; simp [s1]
  have s3 : Y3.heap.size = w.heap.size + 3 := by rw [← hY3]; simp [s2]
  have s4 : Y4.heap.size = w.heap.size + 4 := by rw [← hY4]; simp [s3]
  have k1 : Below w.heap.size w Y1 := by rw [← hY1]; exact (Below.refl _ _).alloc (Nat.le_refl _) _
  have k2 : Below Y1.heap.size Y1 Y2 := by rw [← hY2]; exact (Below.refl _ _).alloc (Nat.le_refl _) _
  have k3 : Below Y2.heap.size Y2 Y3 := by rw [← hY3]; exact (Below.refl _ _).alloc (Nat.le_refl _) _
  have k4 : Below Y3.heap.size Y3 Y4 := by rw [← hY4]; exact (Below.refl _ _).alloc (Nat.le_refl _) _
  have b1 : Blk Y4 w.heap.size 41 #[.slice a n c] := by
    have h : Blk Y1 w.heap.size 41 #[.slice a n c] := by rw [← hY1]; exact Blk.new _ _ _
    exact ((h.later k2).later k3).later k4
  have b2 : Blk Y4 Y1.heap.size 102 #[.func (.func 63) #[] #[]] := by
    have h := Blk.new Y1 102 #[.func (.func 63) #[] #[]]
    rw [hY2] at h
    exact (h.later k3).later k4
  have b3 : Blk Y4 Y2.heap.size 65 x.cs := by
    have h := Blk.new Y2 65 x.cs
    rw [hY3] at h
    exact h.later k4
  have b4 : Blk Y4 Y3.heap.size 3 #[.int .i64 0] := by
    have h := Blk.new Y3 3 #[.int .i64 0]
    rw [hY4] at h
    exact h
  have kb : Below w.heap.size w Y4 := bel_trans (bel_trans (bel_trans k1 k2) k3) k4
  have hR4 : L = [] ∨ ∃ g o, a = some ⟨g, o, none⟩ ∧ Rws Y4 g o L ∧ g ∉ [Y3.heap.size] := by
    rcases hR with h | ⟨g, o, h1, h2⟩
    · exact .inl h
    · exact .inr ⟨g, o, h1, h2.later kb, by have := h2.lt; simp; omega⟩
  have c1 : Y4.cell? ⟨w.heap.size, 0, none⟩ = some (.slice a n c) := b1.cell 0
  have H := Lib.hid (And.intro kb (And.intro b2 (And.intro b3 (And.intro b4 (And.intro hR4 (And.intro hn (And.intro s1 (And.intro s2 (And.intro s3 s4)))))))))
  clear k1 k2 k3 k4 kb b1 b2 b3 b4 hR hR4 s2 s3 s4 s1
  refine calls_of_wp_marks Tryd.func62 rfl ?_
  simp only [Tryd.ntmps62, List.size_toArray, List.length_cons, List.length_nil, Nat.reduceAdd, Nat.reduceSub, Array.replicate_succ, Array.replicate_zero, List.push_toArray, List.append_toArray, List.nil_append, List.cons_append]
  go_wp2_with fail
  refine (backward_any a n c Y4).mono ?_
  rintro e3 W ⟨rfl, hW⟩
  obtain ⟨Y5, hY5⟩ : ∃ Y5, Y4.alloc (.cells #[.slice a n c] 39) = Y5 := ⟨_, rfl⟩
  rw [hY5] at hW
  subst hW
  have k5 : Below Y4.heap.size Y4 W := by rw [← hY5]; exact (Below.refl _ _).alloc (Nat.le_refl _) _
  have b5 : Blk W Y4.heap.size 39 #[.slice a n c] := by rw [← hY5]; exact Blk.new _ _ _
  have s5 : W.heap.size = w.heap.size + 5 := by rw [← hY5]; simp [H.out.2.2.2.2.2.2.2.2.2]
  have hR5 : L = [] ∨ ∃ g o, a = some ⟨g, o, none⟩ ∧ Rws W g o L ∧ g ∉ [Y3.heap.size] := by
    rcases H.out.2.2.2.2.1 with h | ⟨g, o, h1, h2, h3⟩
    · exact .inl h
    · exact .inr ⟨g, o, h1, h2.later k5, h3⟩
  have hseq := backward_low (S := [Y3.heap.size]) H.out.2.2.2.2.2.1 hm hR5 b5 (by have := H.out.2.2.2.2.2.2.2.2; simp; omega)
  have H5 := Lib.hid (And.intro (bel_trans H.out.1 k5) (And.intro (H.out.2.1.later k5) (And.intro (H.out.2.2.1.later k5) (And.intro (H.out.2.2.2.1.later k5) s5))))
  clear k5 b5 s5 hR5 hY5 c1
  go_wp2_with fail
  refine wp_range_low (S := [Y3.heap.size]) (N := n) (enc := encT L) none (fun _ => rfl) rfl (fun _ _ => by simp [go_sem, enters_of Tryd.func102 (by kernel_rfl) rfl]) hseq (fun k hk => by have := H.out.2.2.2.2.2.2.2.2; have := H5.out.2.2.2.2; simp at hk; omega)
    (fun k X => Kept [] W X ∧ ∀ j, j < k → isQ x (rt L (n - 1 - j)) = false)
    (fun k X => Kept [Y3.heap.size] W X ∧ Blk X Y3.heap.size 3 #[.int .i64 ((n - 1 - k : Nat) : Int)] ∧ isQ x (rt L (n - 1 - k)) = true ∧ ∀ j, j < k → isQ x (rt L (n - 1 - j)) = false)
    ?hI ?hIx ⟨Kept.refl _ _, fun j hj => by omega⟩
    (fun k a' X => ∃ Bx, Blk X Bx 74 (rt L (n - 1 - k)).cs ∧ a' = { tmps := #[.agg #[.slice a n c], .func (.func 63) #[] #[], .agg x.cs, .pointer (some ⟨w.heap.size, 0, none⟩), .pointer (some ⟨Y1.heap.size, 0, none⟩), .pointer (some ⟨Y2.heap.size, 0, none⟩), .pointer (some ⟨Y3.heap.size, 0, none⟩), .int .i64 ((n - 1 - k : Nat) : Int), .pointer (some ⟨Bx, 0, none⟩), .pointer (some ⟨w.heap.size, 0, none⟩), .slice a n c, .func (.func 102) #[] #[.pointer (some ⟨Y4.heap.size, 0, none⟩)], .int .i64 ((n - 1 - k : Nat) : Int), .agg (rt L (n - 1 - k)).cs, undef, undef, undef, undef, undef], defers := [] })
    ?hAx ?assign ?body ?done ?stop
  case hI => exact fun s X Y row hs hg hrow => ⟨own_kept (β := Unit) _ (Nat.le_refl _) () X Y row hs.1 hg hrow, hs.2⟩
  case hIx => exact fun s X Y row hs hg hrow => ⟨own_kept (β := Unit) _ (Nat.le_refl _) () X Y row hs.1 hg hrow, own_blk (β := Unit) _ _ _ (fun _ => _) () X Y row hs.2.1 hg hrow, hs.2.2⟩
  case hAx => exact fun k a' s X Y row hs hg hrow => by obtain ⟨Bx, e1, e2⟩ := hs; exact ⟨Bx, own_blk (β := Unit) _ _ _ (fun _ => (rt L (n - 1 - k)).cs) () X Y row e1 hg hrow, e2⟩
  case assign =>
    intro k X K hk hX hI hK
    have HN := H.out.2.2.2.2.2.1
    simp only [List.zip_toArray, List.zip_cons_cons, List.zip_nil_right, List.zip_nil_left, List.size_toArray, List.foldl_toArray', List.foldl_toArray, List.foldl_cons, List.foldl_nil, List.setIfInBounds_toArray, List.set_cons_zero, List.set_cons_succ, encT]
    rw [HN]
    clear HN
    have HZ := Lib.hid (show Rt.zero.cs.size = (rt L (n - 1 - k)).cs.size by rw [Rt.size, Rt.size])
    have HP2 := Lib.hid (s_rt (rt L (n - 1 - k)))
    gi_wp2_with (first | (with_reducible refine wpListIn_alloc_z rfl 74 rfl Rt.zero.cs 19 z_rt ?_) | (with_reducible refine wpListIn_store_new rfl 74 (.tmp 8) (.tmp 13) rfl (rt L (n - 1 - k)).cs Rt.zero.cs _ rfl rfl HZ.out HP2.out (Rt.one _) ?_))
    have hB1 : Below X.heap.size X (X.alloc (.cells (rt L (n - 1 - k)).cs 74)) := (Below.refl _ _).alloc (Nat.le_refl _) _
    exact hK _ _ (KL.below hB1 hX) ⟨hI.1.trans2 (Kept.of_below [] hB1) (by simp), hI.2⟩ ⟨_, Blk.new _ _ _, rfl⟩
  case body =>
    rintro k _ X ⟨hkX, hall⟩ ⟨Bx, bx, rfl⟩ hk hX
    have hX5 : Below W.heap.size W X := hkX.below (by simp) (Nat.le_refl _)
    have z2 := H5.out.2.1.later hX5
    have z3 := H5.out.2.2.1.later hX5
    have z4 := H5.out.2.2.2.1.later hX5
    have K2 : X.cell? ⟨Y1.heap.size, 0, none⟩ = some (.func (.func 63) #[] #[]) := z2.cell 0
    have KP := px_p z3 X (Below.refl _ _)
    have KR := rt_r bx X (Below.refl _ _)
    have HQ := ris_any (rt L (n - 1 - k)) x X
    obtain ⟨q, hq⟩ : ∃ q, isQ x (rt L (n - 1 - k)) = q := ⟨_, rfl⟩
    rw [hq] at HQ
    have HB := Lib.hid (And.intro hkX (And.intro hall (And.intro hX5 (And.intro z4 hq))))
    clear hkX hall hX5 z2 z3 z4 bx hq
    gi_wp2_with fail
    refine ⟨trivial, ?_⟩
    refine (CallsIn.inRound (W.heap.size + 1) (callsIn_wide.2 HQ)).mono ?_
    rintro e6 X6 ⟨rfl, hb6⟩
    have hK6 : Kept [] W X6 := HB.out.1.trans2 (Kept.of_below [] hb6) (by simp)
    have z6 := HB.out.2.2.2.1.later hb6
    have HC := Lib.hid (And.intro hK6 (And.intro (KL.below (B := W.heap.size + 2) (S := [Y3.heap.size]) hb6 hX) z6))
    clear hK6 hb6 z6 K2 KP KR HQ
    cases q with
    | true =>
      have cz : X6.cell? ⟨Y3.heap.size, 0, none⟩ = some (.int .i64 0) := HC.out.2.2.cell 0
      have fz := HC.out.2.2.free 0
      gi_wp2
      have k9 : Kept [Y3.heap.size] X6 (X6.setCell ⟨Y3.heap.size, 0, none⟩ (.int .i64 ((n - 1 - k : Nat) : Int))) := (Kept.refl [Y3.heap.size] X6).setCell (p := ⟨Y3.heap.size, 0, none⟩) (.inl (by simp)) _
      refine ⟨HC.out.2.1.trans (KL.kept k9 (by have := HC.out.2.1.size; omega)), .inr ⟨rfl, (kept_more HC.out.1).trans k9, ?_, HB.out.2.2.2.2, HB.out.2.1⟩⟩
      have := HC.out.2.2.set 0 (.int .i64 ((n - 1 - k : Nat) : Int))
      simpa using this
    | false =>
      gi_wp2
      refine ⟨HC.out.2.1, .inl ⟨HC.out.1, fun j hj => ?_⟩⟩
      by_cases e : j = k
      · rw [e]; exact HB.out.2.2.2.2
      · exact HB.out.2.1 j (by omega)
  case done =>
    rintro X ⟨hkX, hall⟩ hd
    have hX5 : Below W.heap.size W X := hkX.below (by simp) (Nat.le_refl _)
    have z4 := H5.out.2.2.2.1.later hX5
    have cz : X.cell? ⟨Y3.heap.size, 0, none⟩ = some (.int .i64 0) := z4.cell 0
    have fz := z4.free 0
    have HD := Lib.hid (And.intro z4 (And.intro hall (And.intro hd (bel_trans H5.out.1 hX5))))
    clear hkX hall hd hX5 z4
    go_wp2_with fail
    have bz : Blk (X.setCell ⟨Y3.heap.size, 0, none⟩ (.int .i64 (-1))) Y3.heap.size 3 #[.int .i64 (-1)] := by
      have := HD.out.1.set 0 (.int .i64 (-1))
      simpa using this
    have k9 : Kept [Y3.heap.size] X (X.setCell ⟨Y3.heap.size, 0, none⟩ (.int .i64 (-1))) := (Kept.refl [Y3.heap.size] X).setCell (p := ⟨Y3.heap.size, 0, none⟩) (.inl (by simp)) _
    have hbX : Below w.heap.size w (X.setCell ⟨Y3.heap.size, 0, none⟩ (.int .i64 (-1))) := HD.out.2.2.2.trans (k9.below (by have := H.out.2.2.2.2.2.2.2.2; simp; omega) HD.out.2.2.2.size)
    have hd9 : (X.setCell ⟨Y3.heap.size, 0, none⟩ (.int .i64 (-1))).heap[W.heap.size]? = some (.deferred (some [])) := (k9.block _ (Array.getElem?_eq_some_iff.1 HD.out.2.2.1).1 (by have := H5.out.2.2.2.2; have := H.out.2.2.2.2.2.2.2.2; simp; omega)).trans HD.out.2.2.1
    refine marks_cells (v := .int .i64 (-1)) [W.heap.size] _ (by simp) (fun d hd => by rw [List.mem_singleton.1 hd]; exact hd9) (fun w' h1 h2 h3 h4 h5 => ⟨results_one rfl _ w' Y3.heap.size _ rfl ?_, ?_, after_marks hbX h1 h2 h3 h4 (fun k hk => h5 k (by have := H5.out.2.2.2.2; simp; omega))⟩)
    · exact (h5 _ (by have := H5.out.2.2.2.2; have := H.out.2.2.2.2.2.2.2.2; simp; omega)).trans bz
    · rw [last_miss HD.out.2.1]
  case stop =>
    rintro k X hk ⟨hkX, hz, hq, hall⟩ hd
    rw [show outE none = Exit.ret from rfl]
    have HS := Lib.hid (And.intro hkX (And.intro hz (And.intro hq (And.intro hall hd))))
    clear hkX hz hq hall hd hseq
    simp only [Exit.inBlock, Exit.then]
    have hbX : Below w.heap.size w X := H5.out.1.trans (HS.out.1.below (by have := H.out.2.2.2.2.2.2.2.2; simp; omega) H5.out.1.size)
    refine marks_cells (v := .int .i64 ((n - 1 - k : Nat) : Int)) [W.heap.size] _ (by simp) (fun d hd => by rw [List.mem_singleton.1 hd]; exact HS.out.2.2.2.2) (fun w' h1 h2 h3 h4 h5 => ⟨results_one rfl _ w' Y3.heap.size _ rfl ?_, ?_, after_marks hbX h1 h2 h3 h4 (fun k hk => h5 k (by have := H5.out.2.2.2.2; simp; omega))⟩)
    · exact (h5 _ (by have := H5.out.2.2.2.2; have := H.out.2.2.2.2.2.2.2.2; simp; omega)).trans HS.out.2.1
    · rw [last_hit hk HS.out.2.2.1 HS.out.2.2.2.1]

end Go.Proofs.YtclkfmblogkakaaDoor
namespace Go.Proofs.YtclkfmblogkakaaDoor
open Go.RowKit Go.Shelf
set_option linter.unusedVariables false
set_option maxRecDepth 100000

def rtcs (L : List Rt) : List Value := L.flatMap (fun r => r.cs.toList)
theorem rtcs_nil : rtcs [] = [] := rfl
theorem rtcs_append (L M : List Rt) : rtcs (L ++ M) = rtcs L ++ rtcs M := by simp [rtcs]
theorem rtcs_one (r : Rt) : rtcs [r] = r.cs.toList := by simp [rtcs]
theorem rtcs_cons (r : Rt) (L : List Rt) : rtcs (r :: L) = r.cs.toList ++ rtcs L := by simp [rtcs]
theorem rtcs_len : ∀ L : List Rt, (rtcs L).length = L.length * 19
  | [] => rfl
  | r :: L => by rw [rtcs_cons, List.length_append, rtcs_len L]; simp [r.size]; omega
theorem rtcs_all (L : List Rt) : ∀ u ∈ rtcs L, u.oneCell' = true := fun u hu => by
  obtain ⟨r, _, h⟩ := List.mem_flatMap.1 hu
  exact Array.all_eq_true_iff_forall_mem.1 r.one u (by simpa using h)
theorem rtcs_get : ∀ (L : List Rt) {i j : Nat}, i < L.length → j < 19 → (rtcs L)[i * 19 + j]? = (rt L i).cs[j]?
  | [], i, j, h, _ => by simp at h
  | r :: L, 0, j, _, hj => by
    rw [rtcs_cons, Nat.zero_mul, Nat.zero_add, List.getElem?_append_left (by simp [r.size]; exact hj)]
    simp [rt]
  | r :: L, i + 1, j, h, hj => by
    rw [rtcs_cons, List.getElem?_append_right (by simp [r.size]; omega)]
    rw [show (i + 1) * 19 + j - r.cs.toList.length = i * 19 + j by simp [r.size]; omega, rtcs_get L (by simpa using h) hj]
    simp [rt]
theorem rtcs_take : ∀ (L : List Rt) (i : Nat), (rtcs L).take (i * 19) = rtcs (L.take i)
  | [], i => by simp [rtcs]
  | r :: L, 0 => by simp [rtcs]
  | r :: L, i + 1 => by
    rw [rtcs_cons, List.take_succ_cons, rtcs_cons, List.take_append, List.take_of_length_le (by simp [r.size]; omega)]
    rw [show (i + 1) * 19 - r.cs.toList.length = i * 19 by simp [r.size]; omega, rtcs_take L i]
theorem rtcs_drop : ∀ (L : List Rt) (i : Nat), (rtcs L).drop (i * 19) = rtcs (L.drop i)
  | [], i => by simp [rtcs]
  | r :: L, 0 => by simp [rtcs]
  | r :: L, i + 1 => by
    rw [rtcs_cons, List.drop_succ_cons, List.drop_append, List.drop_eq_nil_of_le (by simp [r.size]; omega), List.nil_append]
    rw [show (i + 1) * 19 - r.cs.toList.length = i * 19 by simp [r.size]; omega, rtcs_drop L i]
theorem row_cells (w : World) (g : Nat) (L : List Rt) (o : Nat) (hg : g < w.heap.size) (h : ∀ k u, (rtcs L)[k]? = some u → w.cell? ⟨g, o + k, none⟩ = some u) : Rws w g o L := by
  refine ⟨hg, fun i hi j hj => ?_⟩
  have h1 := rtcs_get L hi hj
  have h2 : j < (rt L i).cs.size := by rw [Rt.size]; exact hj
  rw [Array.getElem?_eq_getElem h2] at h1 ⊢
  rw [Nat.add_assoc]
  exact h _ _ h1
theorem Rws.cells {w : World} {g o : Nat} {L : List Rt} (h : Rws w g o L) : ∀ k u, (rtcs L)[k]? = some u → w.cell? ⟨g, o + k, none⟩ = some u := by
  intro k u hk
  have hl : k < L.length * 19 := by rw [← rtcs_len]; exact (List.getElem?_eq_some_iff.1 hk).1
  have e := rtcs_get L (i := k / 19) (j := k % 19) (by omega) (by omega)
  rw [show k / 19 * 19 + k % 19 = k by omega] at e
  have h1 := h.row (k / 19) (by omega) (k % 19) (by omega)
  rw [← e, hk, Nat.add_assoc, show k / 19 * 19 + k % 19 = k by omega] at h1
  exact h1

/-- Rows that a call owns, from block B on. -/
abbrev OwnT (w : World) (B : Nat) (v : Value) (L : List Rt) : Prop := w.ownsRow B 74 19 v L.length (rtcs L)
theorem OwnT.lies {w : World} {B : Nat} {v : Value} {L : List Rt} (h : OwnT w B v L) : ∃ a c, v = .slice a L.length c ∧ L.length ≤ c ∧ c ≤ maxLen ∧ RowsAt w a L ∧ ∀ x, a = some x → B ≤ x.block := by
  rcases h.2 with ⟨rfl, h0⟩ | ⟨g, cap, cur, rfl, hb, hg, hc, hm, hs, ht⟩
  · have : L = [] := List.eq_nil_of_length_eq_zero h0
    subst this
    exact ⟨none, 0, rfl, by simp, by unfold maxLen; omega, .inl rfl, fun x hx => by cases hx⟩
  · refine ⟨_, cap, rfl, hc, hm, .inr ⟨g, 0, rfl, row_cells w g L 0 (Array.getElem?_eq_some_iff.1 hg).1 fun k u hk => ?_⟩, fun x hx => by cases hx; exact hb⟩
    rw [Nat.zero_add, cell_of_row w g k cur _ _ hg, ← Array.getElem?_toList]
    have hl : k < L.length * 19 := by rw [← rtcs_len]; exact (List.getElem?_eq_some_iff.1 hk).1
    rw [← ht, List.getElem?_take, if_pos hl] at hk
    exact hk
theorem info_rt : (Tryd.prog.info? 74).map (fun i => (i.zero, i.size, i.bytes)) = some (some (.agg Rt.zero.cs), 19, 40) := by kernel_rfl

/-! ### Nothing built, appended to -/
def tbuildSem (n : Nat) (parts : Array (Nat × Value)) : Sem Value := Instr.buildSlice 39 n parts
theorem tbuild_rule (n : Nat) (parts : Array (Nat × Value)) : Instr.buildSlice 39 n parts = tbuildSem n parts := rfl
theorem tbuild0_run (w : World) : (tbuildSem 0 #[]).run Tryd.prog w = .ok (.slice (some ⟨w.heap.size, 0, none⟩) 0 0) (w.alloc (.cells #[] 74)) := by
  have hu := run_underlying (P := Tryd.prog) Tryd.underlying39 w
  have hz := (zero_of_info z_rt).1 w
  unfold tbuildSem Instr.buildSlice
  simp only [Sem.run_bind, hu, Result.andThen_ok]
  go_simp
def tappSem (ty : TypeId) (args : Array Value) : Sem Value := Builtin.append_ #[39, 39] ty args
theorem tapp_rule (ty : TypeId) (args : Array Value) : Builtin.append_ #[39, 39] ty args = tappSem ty args := rfl
theorem own0 (w : World) (B : Nat) (hB : B ≤ w.heap.size) : OwnT (w.alloc (.cells #[] 74)) B (.slice (some ⟨w.heap.size, 0, none⟩) 0 0) [] :=
  ⟨rfl, .inr ⟨_, 0, #[], rfl, hB, heap_alloc_new w _, Nat.le_refl _, by simp, rfl, rfl⟩⟩
/-- Rows that lie anywhere are appended to rows that a call owns. -/
theorem tapp_run {w : World} (ty : TypeId) {B : Nat} {v : Value} {L M : List Rt} {x : Addr} {m c : Nat} (h : OwnT w B v L) (hm : M.length = m) (hM : RowsAt w (some x) M) (hs : L.length + m ≤ 1000000) (hB : B ≤ w.heap.size) :
    ∃ v' w', (tappSem ty #[v, .slice (some x) m c]).run Tryd.prog w = .ok v' w' ∧ OwnT w' B v' (L ++ M) ∧ w.grownBy w' v.ownBlock ∧ (v' = .slice none 0 0 ↔ v = .slice none 0 0 ∧ m = 0) := by
  obtain ⟨i0, hi, hz0, hz1, hz2⟩ := info_parts info_rt
  have hsrc : ∀ j u, (rtcs M)[j]? = some u → w.cell? (x.add j) = some u := by
    intro j u hj
    rcases hM with rfl | ⟨g, o, e, hr⟩
    · simp [rtcs] at hj
    · cases e
      rw [Addr.add_lit]
      exact hr.cells j u hj
  obtain ⟨v', w', h1, h2, h3, h4⟩ := run_append_own (P := Tryd.prog) w B 39 ty 74 i0 (.agg Rt.zero.cs) 19 40 Tryd.underlying39 hi hz0 hz1 hz2 (Rt.size _) (by decide) v L.length (rtcs L) h x m c (rtcs M) (by rw [rtcs_len, hm]) hsrc (rtcs_all M) (by unfold maxLen; omega) (by omega) hB
  refine ⟨v', w', h1, ?_, h3, h4⟩
  show w'.ownsRow B _ 19 v' (L ++ M).length (rtcs (L ++ M))
  rw [List.length_append, hm, rtcs_append]
  exact h2

/-! ### Rows copied into a block -/
def layC (o : Nat) (vs cur : List Value) : List Value := cur.take o ++ vs ++ cur.drop (o + vs.length)
def tcopySem (ty : TypeId) (args : Array Value) : Sem Value := Builtin.copy_ #[39, 39] ty args
theorem tcopy_rule (ty : TypeId) (args : Array Value) : Builtin.copy_ #[39, 39] ty args = tcopySem ty args := rfl
theorem tcopy_run {w : World} {g o : Nat} {a : Addr} {cur : Array Value} {cs : List Value} {n dl sl : Nat} (ty : TypeId) (dc sc : Nat) (hg : Blk w g 74 cur) (hn : Nat.min sl dl = n) (hcs : cs.length = n * 19) (hcur : o + n * 19 ≤ cur.size)
    (hsrc : ∀ j v, cs[j]? = some v → w.cell? (a.add j) = some v) (hone : ∀ v ∈ cs, v.oneCell' = true) :
    (tcopySem ty #[.slice (some ⟨g, o, none⟩) dl dc, .slice (some a) sl sc]).run Tryd.prog w = .ok (.int .i64 (n : Int)) (w.setRow g (layC o cs cur.toList).toArray) := by
  have hl := run_loadCells_list (P := Tryd.prog) w a cs hsrc
  have hst := run_storeCells_at Tryd.prog g o 74 cs 0 cur w hg (by omega) hone
  obtain ⟨i0, hi, hz0, hz1, hz2⟩ := info_parts info_rt
  rw [hcs] at hl
  rw [Nat.add_zero] at hst
  unfold tcopySem layC
  simp [Builtin.copy_, run_underlying Tryd.underlying39, Builtin.lenOf, Builtin.firstCells, sizeOf, typeInfo, hi, hz1, hn, hl, hst]
  rfl

theorem eql_nil_rt (a : Option Addr) (l c : Nat) (w : World) : (binOp .eql 39 (.slice a l c) (.slice none 0 0)).run Tryd.prog w = .ok (.bool a.isNone) w :=
  Lib.run_eql_slice_nil w _ _ a l c 0 0 Tryd.underlying39
attribute [local go_sem ↓] tbuild_rule tapp_rule tcopy_rule
end Go.Proofs.YtclkfmblogkakaaDoor
namespace Go.Proofs.YtclkfmblogkakaaDoor
open Go.RowKit Go.Shelf
set_option linter.unusedVariables false
set_option maxRecDepth 100000

theorem layC_len {o : Nat} {vs cur : List Value} (h : o + vs.length ≤ cur.length) : (layC o vs cur).length = cur.length := by
  unfold layC
  simp
  omega
theorem layC_get {o : Nat} {vs cur : List Value} (h : o + vs.length ≤ cur.length) (k : Nat) : (layC o vs cur)[k]? = if k < o then cur[k]? else if k < o + vs.length then vs[k - o]? else cur[k]? := by
  unfold layC
  by_cases h1 : k < o
  · rw [if_pos h1, List.append_assoc, List.getElem?_append_left (by simp; omega), List.getElem?_take, if_pos h1]
  · rw [if_neg h1]
    by_cases h2 : k < o + vs.length
    · rw [if_pos h2, List.append_assoc, List.getElem?_append_right (by simp; omega)]
      have e : (cur.take o).length = o := by simp; omega
      rw [e, List.getElem?_append_left (by omega)]
    · rw [if_neg h2, List.getElem?_append_right (by simp; omega)]
      have e : (cur.take o ++ vs).length = o + vs.length := by simp; omega
      rw [e, List.getElem?_drop]
      congr 1
      omega
theorem ins_cells {cur xs X D : List Value} {n i : Nat} (hi : i ≤ n) (hX : X.length = 19) (hD : D.length = (n - i) * 19) (hc : (n + 1) * 19 ≤ cur.length) (hxs : cur.take (i * 19) = xs) (cur2 : List Value)
    (h2 : cur2.length = cur.length) (hg : ∀ k, k < (n + 1) * 19 → cur2[k]? = if k < i * 19 then cur[k]? else if k < (i + 1) * 19 then X[k - i * 19]? else D[k - (i + 1) * 19]?) : cur2.take ((n + 1) * 19) = xs ++ X ++ D := by
  have hxl : xs.length = i * 19 := by rw [← hxs]; simp; omega
  apply List.ext_getElem?
  intro k
  by_cases hk : k < (n + 1) * 19
  · rw [List.getElem?_take, if_pos hk, hg k hk]
    by_cases h3 : k < i * 19
    · rw [if_pos h3, List.append_assoc, List.getElem?_append_left (by omega), ← hxs, List.getElem?_take, if_pos h3]
    · rw [if_neg h3]
      by_cases h4 : k < (i + 1) * 19
      · rw [if_pos h4, List.append_assoc, List.getElem?_append_right (by omega), hxl, List.getElem?_append_left (by omega)]
      · rw [if_neg h4, List.getElem?_append_right (by simp [hxl, hX]; omega)]
        congr 1
        simp [hxl, hX]
        omega
  · rw [List.getElem?_eq_none (by simp; omega), List.getElem?_eq_none (by simp [hxl, hX, hD]; omega)]
theorem own_of {w : World} {B g cap : Nat} {cur : List Value} {L : List Rt} (hb : B ≤ g) (hg : Blk w g 74 cur.toArray) (hn : L.length ≤ cap) (hm : cap ≤ maxLen) (hs : cur.length = cap * 19) (ht : cur.take (L.length * 19) = rtcs L) : OwnT w B (.slice (some ⟨g, 0, none⟩) L.length cap) L :=
  ⟨rtcs_len L, .inr ⟨g, cap, cur.toArray, rfl, hb, hg, hn, hm, by simpa using hs, by simpa using ht⟩⟩
def insL (L : List Rt) (i : Nat) (x : Rt) : List Rt := L.take i ++ x :: L.drop i
theorem insL_len {L : List Rt} {i : Nat} (h : i ≤ L.length) (x : Rt) : (insL L i x).length = L.length + 1 := by simp [insL]; omega
theorem insL_cells (L : List Rt) (i : Nat) (x : Rt) : rtcs (insL L i x) = rtcs (L.take i) ++ x.cs.toList ++ rtcs (L.drop i) := by rw [insL, rtcs_append, rtcs_cons, List.append_assoc]
theorem insL_end {L : List Rt} {x : Rt} : insL L L.length x = L ++ [x] := by simp [insL]

attribute [local go_sem ↓] tbuild_rule tapp_rule tcopy_rule
theorem wrap_next {n : Nat} (h : n ≤ 1000000) : wrap64 ((n : Int) + 1) = (n : Int) + 1 := by unfold wrap64; omega
theorem wrap_nat {n : Nat} (h : n ≤ 1000000) : wrap64 (n : Int) = (n : Int) := by unfold wrap64; omega
theorem sizeof_rt (w : World) : (Go.sizeOf 74).run Tryd.prog w = .ok 19 w := by kernel_rfl
/-- What lies ahead, the row, what lay from there on. -/
theorem own_cells {w : World} {g : Nat} {L : List Rt} {cur : Array Value} (hg : Blk w g 74 cur) (ht : cur.toList.take (L.length * 19) = rtcs L) : ∀ j u, (rtcs L)[j]? = some u → w.cell? ⟨g, j, none⟩ = some u := fun j u hj => by
  rw [hg.cell, ← Array.getElem?_toList]
  have hl : j < L.length * 19 := by rw [← rtcs_len]; exact (List.getElem?_eq_some_iff.1 hj).1
  rw [← ht, List.getElem?_take, if_pos hl] at hj
  exact hj
def tapzSem (ty : TypeId) (args : Array Value) : Sem Value := Builtin.append_ #[39, 3] ty args
theorem tapz_rule (ty : TypeId) (args : Array Value) : Builtin.append_ #[39, 3] ty args = tapzSem ty args := rfl
attribute [local go_sem ↓] tapz_rule
end Go.Proofs.YtclkfmblogkakaaDoor
namespace Go.Proofs.YtclkfmblogkakaaDoor
open Go.RowKit Go.Shelf
set_option linter.unusedVariables false
set_option maxRecDepth 100000

theorem load_tab_rule (v : Value) : Instr.loadAt 41 v = loadSem 41 v := rfl
theorem build_tab_rule (ps : Array (Nat × Value)) : Instr.build 41 ps = buildSem 41 ps := rfl
theorem build_rt_rule (ps : Array (Nat × Value)) : Instr.build 74 ps = buildSem 74 ps := rfl
theorem build_tab0 (w : World) : (buildSem 41 #[]).run Tryd.prog w = .ok (.agg #[.slice none 0 0]) w := by kernel_rfl
theorem build_tab1 (a : Option Addr) (n c : Nat) (w : World) : (buildSem 41 #[(0, .slice a n c)]).run Tryd.prog w = .ok (.agg #[.slice a n c]) w := by kernel_rfl
theorem build_rt0 (w : World) : (buildSem 74 #[]).run Tryd.prog w = .ok (.agg Rt.zero.cs) w := by kernel_rfl
theorem build_rt (p : Px) (h : Int) (w : World) : (buildSem 74 #[(0, .agg p.cs), (1, .int .i64 h)]).run Tryd.prog w = .ok (.agg (Rt.mk p h).cs) w := by
  unfold Rt.cs
  show (buildSem 74 #[(0, .agg p.cs), (1, .int .i64 h)]).run Tryd.prog w = .ok (.agg (p.cs ++ #[.int .i64 h])) w
  unfold Px.cs Ad.cs
  obtain ⟨a0, a1, a2, a3, a4, a5, a6, a7, a8, a9, a10, a11, a12, a13, a14, a15, hh⟩ := p.a.b.out
  rw [hh]
  kernel_rfl
theorem tab_t {W : World} {g : Nat} {a : Option Addr} {n c : Nat} (h : Blk W g 41 #[.slice a n c]) : ∀ w', Below W.heap.size W w' → (loadSem 41 (.pointer (some ⟨g, 0, none⟩))).run Tryd.prog w' = .ok (.agg #[.slice a n c]) w' :=
  fun w' k => loadRes_of (o := 0) (h.later k) (fun q _ => by rw [Nat.zero_add]) _ Tryd.underlying41 rfl (zero_of_info z_tab).2
theorem tab_c {W : World} {g : Nat} {a : Option Addr} {n c : Nat} (h : Blk W g 41 #[.slice a n c]) : ∀ w', Below W.heap.size W w' → w'.cell? ⟨g, 0, none⟩ = some (.slice a n c) := fun w' k => (h.later k).cell 0

noncomputable def lgE (L : List Rt) (x : Ad) : Int := if ¬ okT L then 190 else if ¬ okA x then 150 else 0
noncomputable def lgR (L : List Rt) (x : Ad) : Rt := if lgE L x = 0 then longR L x else Rt.zero
noncomputable def lgB (L : List Rt) (x : Ad) : Bool := if lgE L x = 0 then longB L x else false
attribute [local go_sem ↓] load_b16_rule store_b16_rule load_ad_rule store_ad_rule load_px_rule store_px_rule eq_b16_rule eq_ad_rule eq_px_rule load_rt_rule store_rt_rule build_ad_rule build_px_rule build_b16_rule build_rt_rule load_tab_rule build_tab_rule

end Go.Proofs.YtclkfmblogkakaaDoor
namespace Go.Proofs.YtclkfmblogkakaaDoor
open Go.RowKit Go.Shelf
set_option linter.unusedVariables false
set_option maxRecDepth 100000

theorem s_tab1 {a : Option Addr} {n c : Nat} : (Tryd.prog.info? 41).map (·.size) = some (#[Value.slice a n c]).size := (zero_of_info z_tab).2
theorem store_tab_rule (v x : Value) : Instr.storeAt 41 v x = storeSem 41 v x := rfl
theorem st_tab {w : World} {g : Nat} {a a2 : Option Addr} {n c n2 c2 : Nat} (h : Blk w g 41 #[.slice a n c]) : (storeSem 41 (.pointer (some ⟨g, 0, none⟩)) (.agg #[.slice a2 n2 c2])).run Tryd.prog w = .ok () (w.setRow g #[.slice a2 n2 c2]) := by
  have := storeRes_of (P := Tryd.prog) (ty := 41) (o := 0) (vs := #[.slice a2 n2 c2]) h (by simp) s_tab1 (by simp [Value.oneCell'])
  rwa [over_all (by simp)] at this
/-- A table that lies: where, and with how much room. -/
structure Tbl (w : World) (a : Option Addr) (c : Nat) (L : List Rt) : Prop where
  at' : RowsAt w a L
  le : L.length ≤ c
  cap : c ≤ maxLen
  nil : a = none → c = 0
theorem Tbl.none (w : World) : Tbl w none 0 [] := ⟨.inl rfl, by simp, by unfold maxLen; omega, fun _ => rfl⟩
theorem Tbl.later {w w' : World} {a : Option Addr} {c : Nat} {L : List Rt} (h : Tbl w a c L) (k : Below w.heap.size w w') : Tbl w' a c L := ⟨h.at'.later k, h.le, h.cap, h.nil⟩
theorem RowsAt.kept {S : List Nat} {w w' : World} {a : Option Addr} {L : List Rt} (h : RowsAt w a L) (k : Kept S w w') (hS : ∀ x, a = some x → x.block ∉ S) : RowsAt w' a L := by
  rcases h with h | ⟨g, o, h1, h2⟩
  · exact .inl h
  · exact .inr ⟨g, o, h1, Nat.lt_of_lt_of_le h2.lt k.size, fun i hi j hj => (World.cell?_of_block (w := w) (k.block g h2.lt (hS _ h1))).trans (h2.row i hi j hj)⟩
theorem Tbl.kept {S : List Nat} {w w' : World} {a : Option Addr} {c : Nat} {L : List Rt} (h : Tbl w a c L) (k : Kept S w w') (hS : ∀ x, a = some x → x.block ∉ S) : Tbl w' a c L := ⟨h.at'.kept k hS, h.le, h.cap, h.nil⟩
theorem OwnT.later {w w' : World} {B : Nat} {v : Value} {L : List Rt} (h : OwnT w B v L) (k : Below w.heap.size w w') : OwnT w' B v L := by
  refine ⟨h.1, ?_⟩
  rcases h.2 with h | ⟨g, cap, cur, h1, h2, h3, h4⟩
  · exact .inl h
  · exact .inr ⟨g, cap, cur, h1, h2, (k.block _ (Array.getElem?_eq_some_iff.1 h3).1).trans h3, h4⟩
theorem OwnT.tbl {w : World} {B : Nat} {v : Value} {L : List Rt} (h : OwnT w B v L) : ∃ a c, v = .slice a L.length c ∧ Tbl w a c L := by
  obtain ⟨a, c, h1, h2, h3, h4, _⟩ := h.lies
  refine ⟨a, c, h1, h4, h2, h3, fun h0 => ?_⟩
  subst h0
  rcases h.2 with ⟨h5, _⟩ | ⟨g, cap, cur, h5, _⟩
  · rw [h1] at h5; injection h5
  · rw [h1] at h5; injection h5 with h6; cases h6
theorem OwnT.tbl2 {w : World} {B : Nat} {a : Option Addr} {n c : Nat} {L : List Rt} (h : OwnT w B (.slice a n c) L) : Tbl w a c L ∧ n = L.length ∧ ∀ x, a = some x → B ≤ x.block := by
  obtain ⟨a2, c2, h1, h2⟩ := h.tbl
  obtain ⟨a3, c3, h3, _, _, _, h4⟩ := h.lies
  injection h1 with e1 e2 e3
  injection h3 with f1 f2 f3
  subst e1 e3 f1
  exact ⟨h2, e2, h4⟩
theorem rtcs_set : ∀ (L : List Rt) (i : Nat) (h : Int), i < L.length → (rtcs L).set (i * 19 + 18) (.int .i64 h) = rtcs (L.set i ⟨(rt L i).p, h⟩)
  | [], i, h, hi => by simp at hi
  | r :: L, 0, h, _ => by
    rw [rtcs_cons, List.set_cons_zero, rtcs_cons, List.set_append, if_pos (by simp [r.size])]
    have e : rt (r :: L) 0 = r := rfl
    have h18 : (r.p.cs).toList.length = 18 := by simp [r.p.size]
    rw [e]
    congr 1
    simp only [Rt.cs, Array.toList_append]
    rw [List.set_append, if_neg (by rw [h18]; omega), h18]
    rfl
  | r :: L, i + 1, h, hi => by
    have h19 : r.cs.toList.length = 19 := by simp [r.size]
    rw [rtcs_cons, List.set_cons_succ, rtcs_cons, List.set_append, if_neg (by rw [h19]; omega), h19, show (i + 1) * 19 + 18 - 19 = i * 19 + 18 by omega, rtcs_set L i h (by simpa using hi)]
    rfl
/-- A hop is set. -/
theorem OwnT.hop {w : World} {B : Nat} {L : List Rt} {g c i : Nat} (h : OwnT w B (.slice (some ⟨g, 0, none⟩) L.length c) L) (hi : i < L.length) (x : Int) : OwnT (w.setCell ⟨g, i * 19 + 18, none⟩ (.int .i64 x)) B (.slice (some ⟨g, 0, none⟩) L.length c) (L.set i ⟨(rt L i).p, x⟩) ∧ Below B w (w.setCell ⟨g, i * 19 + 18, none⟩ (.int .i64 x)) ∧ (∃ u, w.cell? ⟨g, i * 19 + 18, none⟩ = some u) ∧ w.frozen? ⟨g, i * 19 + 18, none⟩ = false := by
  rcases h.2 with ⟨h9, _⟩ | ⟨g', cap, cur, h9, hb, hg, hc, hm, hs, ht⟩
  · cases h9
  · cases h9
    have hb2 : Blk w g 74 cur := hg
    have hlt : i * 19 + 18 < cur.size := by rw [hs]; omega
    have hset := hb2.set (i * 19 + 18) (.int .i64 x)
    refine ⟨⟨rtcs_len _, .inr ⟨g, c, _, by simp, hb, hset, by simpa using hc, hm, by simpa using hs, ?_⟩⟩, ?_, ⟨_, by rw [hb2.cell, Array.getElem?_eq_getElem hlt]⟩, hb2.free _⟩
    · rw [← rtcs_set L i x hi, ← ht]
      simp only [List.length_set, Array.toList_setIfInBounds]
      rw [List.take_set]
    · exact ((Kept.refl [g] w).setCell (p := ⟨g, i * 19 + 18, none⟩) (.inl (by simp)) _).below (by simpa using hb) (Nat.le_of_lt (Nat.lt_of_le_of_lt hb hb2.lt))
theorem tbuild1_run (r : Rt) (w : World) : (tbuildSem 1 #[(0, .agg r.cs)]).run Tryd.prog w = .ok (.slice (some ⟨w.heap.size, 0, none⟩) 1 1) (w.alloc (.cells r.cs 74)) := by
  unfold Rt.cs Px.cs Ad.cs
  obtain ⟨a0, a1, a2, a3, a4, a5, a6, a7, a8, a9, a10, a11, a12, a13, a14, a15, hh⟩ := r.p.a.b.out
  rw [hh]
  kernel_rfl
attribute [local go_sem ↓] load_b16_rule store_b16_rule load_ad_rule store_ad_rule load_px_rule store_px_rule eq_b16_rule eq_ad_rule eq_px_rule load_rt_rule store_rt_rule build_ad_rule build_px_rule build_b16_rule build_rt_rule load_tab_rule build_tab_rule store_tab_rule tbuild_rule tapp_rule tcopy_rule

end Go.Proofs.YtclkfmblogkakaaDoor
