/-
  Decode, in parts: the free lists (inLists). Nothing here is a statement of the document.
-/
import Derived.Test.YtgnpoehcmlmajaaArpE
import Derived.Deep.LoopGhost
namespace Go.Proofs.Ytgnpoehcmlmajaa
open Go.RowKit Go.Shelf
set_option linter.unusedVariables false

/-- A function that has gone over ranges returns what lies in cells: their marks are taken. -/
theorem marks_cells {fn : Func} {R : Ending → World → Prop} {tmps : Array Value} {v : Value} :
    ∀ (ds : List Nat) (w : World), ds.Nodup → (∀ d ∈ ds, w.heap[d]? = some (.deferred (some []))) → (∀ w', w'.heap.size = w.heap.size → w'.os = w.os → w'.tape = w.tape → w'.output = w.output → (∀ k, k ∉ ds → w'.heap[k]? = w.heap[k]?) → (results fn tmps).run Try.prog w' = .ok v w' ∧ R (.returned v) w') →
      LeavesInM Fence.wide 10 Try.prog fn tmps R (marks ds) .returning w := by
  intro ds
  induction ds with
  | nil => exact fun w _ _ h => ⟨_, (h w rfl rfl rfl rfl (fun _ _ => rfl)).1, (h w rfl rfl rfl rfl (fun _ _ => rfl)).2⟩
  | cons d ds ih =>
    intro w hn hd h
    refine ⟨by simp, .inl ⟨d, _, rfl, run_takeDeferred (hd d (by simp)), ?_⟩⟩
    refine ih _ (List.nodup_cons.1 hn).2 (fun d' hd' => ?_) (fun w' h1 h2 h3 h4 h5 => h w' (h1.trans (by simp [World.putObj])) h2 h3 h4 (fun k hk => ?_))
    · exact (World.putObj_heap_other (fun e => (List.nodup_cons.1 hn).1 (by rw [← e]; exact hd'))).trans (hd d' (by simp [hd']))
    · simp only [List.mem_cons, not_or] at hk
      exact (h5 k hk.2).trans (World.putObj_heap_other hk.1)

/-- Which places have been met. -/
def metB (n : Nat) (xs : List Nat) : List Bool := xs.foldl (fun m x => m.set x true) (List.replicate n false)
theorem metB_snoc (n : Nat) (xs : List Nat) (x : Nat) : metB n (xs ++ [x]) = (metB n xs).set x true := by simp [metB]
theorem metB_len (n : Nat) (xs : List Nat) : (metB n xs).length = n := by
  unfold metB
  have : ∀ (xs : List Nat) (m : List Bool), (xs.foldl (fun m x => m.set x true) m).length = m.length := by
    intro xs; induction xs with
    | nil => exact fun _ => rfl
    | cons x xs ih => intro m; simp [ih]
  simp [this]
theorem metB_get (n : Nat) (xs : List Nat) (i : Nat) (hi : i < n) : (metB n xs).getD i false = decide (i ∈ xs) := by
  have : ∀ (xs : List Nat) (m : List Bool), i < m.length → (xs.foldl (fun m x => m.set x true) m).getD i false = (m.getD i false || decide (i ∈ xs)) := by
    intro xs; induction xs with
    | nil => intro m _; simp
    | cons x xs ih =>
      intro m hm
      rw [List.foldl_cons, ih _ (by simpa using hm)]
      by_cases hx : x = i
      · subst hx; simp [hm]
      · have hx2 : ¬ i = x := fun e => hx e.symm
        simp [List.getElem?_set, hx, hx2]
  unfold metB
  rw [this _ _ (by simpa using hi)]
  simp [hi]
/-- The places of the first c lists. -/
def catL (L : Nat → List Nat) (c : Nat) : List Nat := (List.range c).flatMap L
theorem catL_succ (L : Nat → List Nat) (c : Nat) : catL L (c + 1) = catL L c ++ L c := by simp [catL, List.range_succ]
theorem mem_catL {L : Nat → List Nat} {c x : Nat} : x ∈ catL L c ↔ ∃ d, d < c ∧ x ∈ L d := by simp [catL]
theorem hdN_inj {c d : Nat} (h : hdN c false = hdN d false) : c = d := by simp [hdN] at h; omega

/-- What the free lists are. -/
structure Fl (ws : List Nat) (bs : List Bool) (L : Nat → List Nat) : Prop where
  lst : ∀ c, c ≤ 5 → Lst ws (ws.getD (9 + c) 0) (L c)
  mem : ∀ c, c ≤ 5 → ∀ x ∈ L c, 1 ≤ x ∧ x < ws.length ∧ bs.getD x false = true ∧ ws.getD (x - 1) 0 = hdN c false
  nodup : ∀ c, c ≤ 5 → (L c).Nodup
theorem Fl.fresh {ws : List Nat} {bs : List Bool} {L : Nat → List Nat} (h : Fl ws bs L) {c k : Nat} (hc : c ≤ 5) (hk : k < (L c).length) : (L c)[k] ∉ catL L c ++ (L c).take k := by
  intro hm
  rcases List.mem_append.1 hm with hm | hm
  · obtain ⟨d, hd, hx⟩ := mem_catL.1 hm
    have h1 := (h.mem d (by omega) _ hx).2.2.2
    have h2 := (h.mem c hc _ (List.getElem_mem hk)).2.2.2
    have := hdN_inj (h1.symm.trans h2)
    omega
  · rw [List.mem_take_iff_getElem] at hm
    obtain ⟨i, hi, he⟩ := hm
    have h1 := (h.nodup c hc).idxOf_getElem i (by omega)
    have h2 := (h.nodup c hc).idxOf_getElem k hk
    rw [he, h2] at h1
    omega

/-- A walk over the lists under way: c classes are done, and k of the next. -/
structure Mt (w0 : World) (g p q : Nat) (ws : List Nat) (bs : List Bool) (b1 b2 b3 mb : Nat) (xs : List Nat) (ds : List Nat) (W : World) : Prop where
  ar : Ar W g p q ws bs
  x1 : Blk W b1 25 #[.pointer (some ⟨g, 0, none⟩)]
  x2 : Blk W b2 4 #[.bool false]
  x3 : Blk W b3 63 #[.slice (some ⟨mb, 0, none⟩) ws.length ws.length]
  m : Blk W mb 4 (bcs (metB ws.length xs))
  lo1 : w0.heap.size ≤ b1 ∧ w0.heap.size ≤ b2 ∧ w0.heap.size ≤ b3 ∧ w0.heap.size ≤ mb
  nd : ds.Nodup
  dd : ∀ d ∈ ds, w0.heap.size ≤ d ∧ W.heap[d]? = some (.deferred (some []))
  kept : Kept [] w0 W
  ne : b1 ≠ mb ∧ b2 ≠ mb ∧ b3 ≠ mb

section
variable {w0 W W' : World} {g p q b1 b2 b3 mb : Nat} {ws : List Nat} {bs : List Bool} {xs ds : List Nat}
theorem Mt.later (h : Mt w0 g p q ws bs b1 b2 b3 mb xs ds W) (k : Below W.heap.size W W') : Mt w0 g p q ws bs b1 b2 b3 mb xs ds W' :=
  ⟨h.ar.later k, (k.block _ h.x1.lt).trans h.x1, (k.block _ h.x2.lt).trans h.x2, (k.block _ h.x3.lt).trans h.x3, (k.block _ h.m.lt).trans h.m, h.lo1, h.nd, fun d hd => ⟨(h.dd d hd).1, (k.block _ (Array.getElem?_eq_some_iff.1 (h.dd d hd).2).1).trans (h.dd d hd).2⟩, h.kept.trans (Kept.of_below [] k), h.ne⟩
theorem Mt.set (h : Mt w0 g p q ws bs b1 b2 b3 mb xs ds W) (x : Nat) (hg : g ≠ mb) (hp : p ≠ mb) (hq : q ≠ mb) : Mt w0 g p q ws bs b1 b2 b3 mb (xs ++ [x]) ds (W.setCell ⟨mb, x, none⟩ (.bool true)) := by
  have K9 : Kept [mb] W (W.setCell ⟨mb, x, none⟩ (.bool true)) := (Kept.refl [mb] W).setCell (p := ⟨mb, x, none⟩) (.inl (by simp)) _
  refine ⟨h.ar.kept K9 (by simpa using hg) (by simpa using hp) (by simpa using hq), h.x1.kept K9 (by simpa using h.ne.1), h.x2.kept K9 (by simpa using h.ne.2.1), h.x3.kept K9 (by simpa using h.ne.2.2), ?_, h.lo1, h.nd, fun d hd => ⟨(h.dd d hd).1, ?_⟩, h.kept.setCell (p := ⟨mb, x, none⟩) (.inr h.lo1.2.2.2) _, h.ne⟩
  · have := h.m.set x (.bool true)
    rwa [bcs_set, ← metB_snoc] at this
  · refine (K9.block _ (Array.getElem?_eq_some_iff.1 (h.dd d hd).2).1 ?_).trans (h.dd d hd).2
    intro hm
    obtain rfl : d = mb := by simpa using hm
    have h1 := (h.dd d hd).2
    rw [show W.heap[d]? = _ from h.m] at h1
    cases h1
end
theorem own_mt {β : Type} {w0 : World} {g p q b1 b2 b3 mb : Nat} {ws : List Nat} {bs : List Bool} {ds : List Nat} (B : Nat) (f : β → List Nat) (hd : ∀ d ∈ ds, d < B) (hB : w0.heap.size ≤ B) : OwnFrom B (fun s W => Mt w0 g p q ws bs b1 b2 b3 mb (f s) ds W) := fun s X Y row h hg hr =>
  ⟨own_ar (β := Unit) _ _ _ _ _ (fun _ => bs) () X Y row h.ar hg hr, own_blk (β := Unit) _ _ _ (fun _ => _) () X Y row h.x1 hg hr, own_blk (β := Unit) _ _ _ (fun _ => _) () X Y row h.x2 hg hr, own_blk (β := Unit) _ _ _ (fun _ => _) () X Y row h.x3 hg hr, own_blk (β := Unit) _ _ _ (fun _ => _) () X Y row h.m hg hr, h.lo1, h.nd, fun d hd' => ⟨(h.dd d hd').1, own_obj (β := Unit) (hd d hd') () X Y row (h.dd d hd').2 hg hr⟩, kept_own (β := Unit) hB () X Y row h.kept hg hr, h.ne⟩

attribute [local go_sem] Oper.semAt_some
set_option maxRecDepth 100000 in
set_option maxHeartbeats 4000000 in
theorem inlists_any {w : World} {g p q : Nat} {ws : List Nat} {bs : List Bool} {B : List Bl} {L : Nat → List Nat} (h : Ar w g p q ws bs) (hF : Fl ws bs L) (hC : Chain ws 16 B) (he : ws.getD 15 0 ≤ ws.length)
    (hfree : ∀ b ∈ B, b.t = false → b.x ∈ L b.c) (hz : ∀ b ∈ B, b.t = false → ∀ i, b.x < i → i < b.x + 2 ^ b.c → ws.getD i 0 = 0) :
    Calls Try.prog 44 #[.pointer (some ⟨g, 0, none⟩)] w fun e w' => e = .returned (.bool true) ∧ Ar w' g p q ws bs ∧ Kept [] w w' := by
  obtain ⟨W1, hW1⟩ : ∃ W1, w.alloc (.cells #[.pointer (some ⟨g, 0, none⟩)] 25) = W1 := ⟨_, rfl⟩
  have hb1 : Below w.heap.size w W1 := by rw [← hW1]; exact (Below.refl _ _).alloc (Nat.le_refl _) _
  have b1 : Blk W1 w.heap.size 25 #[.pointer (some ⟨g, 0, none⟩)] := by rw [← hW1]; exact Blk.new _ _ _
  have s1 : W1.heap.size = w.heap.size + 1 := by rw [← hW1]; simp
  obtain ⟨W2, hW2⟩ : ∃ W2, W1.alloc (.cells #[.bool false] 4) = W2 := ⟨_, rfl⟩
  have hb12 : Below W1.heap.size W1 W2 := by rw [← hW2]; exact (Below.refl _ _).alloc (Nat.le_refl _) _
  have b2 : Blk W2 W1.heap.size 4 #[.bool false] := by rw [← hW2]; exact Blk.new _ _ _
  have b1' : Blk W2 w.heap.size 25 #[.pointer (some ⟨g, 0, none⟩)] := (hb12.block _ b1.lt).trans b1
  have hb2 : Below w.heap.size w W2 := hb1.trans (hb12.mono hb1.size)
  have s2 : W2.heap.size = W1.heap.size + 1 := by rw [← hW2]; simp
  have hA2 := h.later hb2
  have cb : W2.cell? ⟨w.heap.size, 0, none⟩ = some (.pointer (some ⟨g, 0, none⟩)) := b1'.cell 0
  have c0 := hA2.c0
  have hlo := h.lo
  have H := Lib.hid (And.intro h (And.intro hF (And.intro hC (And.intro he (And.intro hfree (And.intro hz (And.intro h.hi (And.intro hb2 (And.intro b1' (And.intro b2 (And.intro hA2 (And.intro s1 s2))))))))))))
  have n1 : (0 : Int) ≤ (ws.length : Int) := by omega
  obtain ⟨i0, hi, hi0, hi1, hi2⟩ := info_parts i_boo
  have hhi16 := h.hi
  have hmk := run_make (P := Try.prog) W2 63 4 i0 (.bool false) Try.underlying63 hi hi0 .i64 .i64 (ws.length : Int) (ws.length : Int) (by omega) (by omega) (by rw [hi2]; omega) (by omega)
  rw [hi1, show (ws.length : Int).toNat = ws.length from by omega, made_begins] at hmk
  clear hi hi0 hi1 hi2 hhi16
  obtain ⟨W3, hW3⟩ : ∃ W3, W2.alloc (.cells (bcs (List.replicate ws.length false)) 4) = W3 := ⟨_, rfl⟩
  rw [hW3] at hmk
  have d1 : decide (((ws.length : Nat) : Int) < 0) = false := decide_eq_false (by omega)
  have HN := Lib.hid hlo
  clear h hF hC he hfree hz hb1 b1 hb12 b2 b1' hb2 hA2 s1 s2 hlo
  refine calls_of_wp_marks Try.func44 rfl ?_
  simp only [Try.ntmps44, List.size_toArray, List.length_cons, List.length_nil, Nat.reduceAdd, Nat.reduceSub, Array.replicate_succ, Array.replicate_zero, List.push_toArray, List.append_toArray, List.nil_append, List.cons_append]
  go_wp2_with fail
  obtain ⟨W4, hW4⟩ : ∃ W4, W3.alloc (.cells #[.slice (some ⟨W2.heap.size, 0, none⟩) ws.length ws.length] 63) = W4 := ⟨_, rfl⟩
  rw [hW4]
  have hM0 : Mt w g p q ws bs w.heap.size W1.heap.size W3.heap.size W2.heap.size (catL L 0) [] W4 := by
    have s1 := H.out.2.2.2.2.2.2.2.2.2.2.2.1
    have s2 := H.out.2.2.2.2.2.2.2.2.2.2.2.2
    have s3 : W3.heap.size = W2.heap.size + 1 := by rw [← hW3]; simp
    have k3 : Below W2.heap.size W2 W3 := by rw [← hW3]; exact (Below.refl _ _).alloc (Nat.le_refl _) _
    have k4 : Below W3.heap.size W3 W4 := by rw [← hW4]; exact (Below.refl _ _).alloc (Nat.le_refl _) _
    have k34 := k3.trans (k4.mono k3.size)
    have hbb := H.out.2.2.2.2.2.2.2.1
    have m3 : Blk W3 W2.heap.size 4 (bcs (metB ws.length (catL L 0))) := by rw [← hW3]; exact Blk.new _ _ _
    have m4 : Blk W4 W3.heap.size 63 #[.slice (some ⟨W2.heap.size, 0, none⟩) ws.length ws.length] := by rw [← hW4]; exact Blk.new _ _ _
    exact ⟨H.out.2.2.2.2.2.2.2.2.2.2.1.later k34, (k34.block _ H.out.2.2.2.2.2.2.2.2.1.lt).trans H.out.2.2.2.2.2.2.2.2.1, (k34.block _ H.out.2.2.2.2.2.2.2.2.2.1.lt).trans H.out.2.2.2.2.2.2.2.2.2.1, m4, (k4.block _ m3.lt).trans m3, by omega, List.nodup_nil, by simp, Kept.of_below [] (hbb.trans (k34.mono hbb.size)), by omega⟩
  have HW := Lib.hid hW3
  clear hW1 hW2 hW3 hW4 hmk cb c0
  refine wp_loop_ghost_k (fun k a W => ∃ (c : Nat) (u4 u15 u16 u17 u18 u19 u42 : Value) (ds : List Nat), k + c = 6 ∧ a = { tmps := #[.pointer (some ⟨g, 0, none⟩), .pointer (some ⟨w.heap.size, 0, none⟩), .pointer (some ⟨W1.heap.size, 0, none⟩), .pointer (some ⟨W3.heap.size, 0, none⟩), u4, undef, undef, undef, .pointer (some ⟨g, 0, none⟩), .pointer (some ⟨g, 0, none⟩), .pointer (some ⟨g, 0, none⟩), .slice (some ⟨p, 0, none⟩) ws.length ws.length, .int .i64 (ws.length : Int), .slice (some ⟨W2.heap.size, 0, none⟩) ws.length ws.length, .int .i64 (c : Int), u15, u16, u17, u18, u19, undef, undef, undef, undef, undef, undef, undef, undef, undef, undef, undef, undef, undef, undef, undef, undef, undef, undef, undef, undef, undef, undef, u42, undef, undef, undef, undef, undef, undef, undef, undef, undef, undef, undef, undef, undef, undef, undef, undef, undef, undef, undef, undef, undef, undef, undef, undef, undef, undef, undef, undef, undef, undef], defers := marks ds } ∧ Mt w g p q ws bs w.heap.size W1.heap.size W3.heap.size W2.heap.size (catL L c) ds W) 6 ⟨0, undef, undef, undef, undef, undef, undef, undef, [], rfl, rfl, hM0⟩ ?_
  rintro k a W ⟨c, u4, u15, u16, u17, u18, u19, u42, ds, hkc, rfl, hM⟩ J K hJ hK
  by_cases hc : c < 6
  · have d1 : decide ((c : Int) < 6) = true := decide_eq_true (by omega)
    obtain ⟨V, hV⟩ : ∃ V, W.alloc (.cells #[.int .i64 (c : Int)] 3) = V := ⟨_, rfl⟩
    have kV : Below W.heap.size W V := by rw [← hV]; exact (Below.refl _ _).alloc (Nat.le_refl _) _
    have bV : Blk V W.heap.size 3 #[.int .i64 (c : Int)] := by rw [← hV]; exact Blk.new _ _ _
    have hMV := hM.later kV
    have cb := hMV.x1.cell 0
    have cc := bV.cell 0
    have HM := Lib.hid (And.intro hMV (And.intro bV (And.intro hkc (And.intro hM.m.lt (show V.heap.size = W.heap.size + 1 by rw [← hV]; simp)))))
    clear hM kV bV hMV hkc
    go_wp2_with fail
    refine (list_any (some ⟨g, 0, none⟩) (c : Int) V).mono ?_
    rintro e3 X ⟨rfl, hX⟩
    obtain ⟨X1, hX1⟩ : ∃ X1, V.alloc (.cells #[.pointer (some ⟨g, 0, none⟩)] 25) = X1 := ⟨_, rfl⟩
    rw [hX1] at hX
    have x1 : Blk X1 V.heap.size 25 #[.pointer (some ⟨g, 0, none⟩)] := by rw [← hX1]; exact Blk.new _ _ _
    have xs1 : X1.heap.size = V.heap.size + 1 := by rw [← hX1]; simp
    have kX1 : Below V.heap.size V X1 := by rw [← hX1]; exact (Below.refl _ _).alloc (Nat.le_refl _) _
    have kX2 : Below X1.heap.size X1 X := by rw [hX]; exact (Below.refl _ _).alloc (Nat.le_refl _) _
    have x2 : Blk X (V.heap.size + 1) 3 #[.int .i64 (c : Int)] := by rw [← xs1, hX]; exact Blk.new _ _ _
    have x1' := (kX2.block _ x1.lt).trans x1
    have kX := kX1.trans (kX2.mono kX1.size)
    have hMX := HM.out.1.later kX
    have bX : Blk X W.heap.size 3 #[.int .i64 (c : Int)] := (kX.block _ HM.out.2.1.lt).trans HM.out.2.1
    have hF := H.out.2.1
    have hmem := hF.mem c (by omega)
    have hMXs : W.heap.size < X.heap.size := bX.lt
    have hmb : W2.heap.size < W.heap.size := HM.out.2.2.2.1
    have hVs := HM.out.2.2.2.2
    have hgg := H.out.1.box.lt
    have hpp := H.out.1.wds.lt
    have hl1 := HM.out.1.lo1
    have hseq := list_low (S := [W2.heap.size]) hMX.ar.aw (by omega) (hF.lst c (by omega)) (fun k hk => by have := hmem _ (List.getElem_mem hk); simp [hk]; exact this.2.1) x1' x2 (by simp; omega) (by simp; omega) (by simp; omega) (by simp; omega) (hF.nodup c (by omega))
    have HX := Lib.hid (And.intro hMX (And.intro bX (And.intro hF (And.intro hMXs hmb))))
    clear hMX bX hF hmem hMXs hmb hVs hgg hpp hl1 x1 x1' x2 xs1 kX1 kX2 kX hX1 hX cb cc
    go_wp2_with fail
    refine wp_range_low (S := [W2.heap.size]) (N := (L c).length) (enc := encL (L c)) none (fun _ => rfl) rfl (fun _ _ => by simp [go_sem, enters_of Try.func85 (by kernel_rfl) rfl]) hseq (fun k hk => by simp at hk; rw [hk]; exact HX.out.1.m.lt)
      (fun k Y => Mt w g p q ws bs w.heap.size W1.heap.size W3.heap.size W2.heap.size (catL L c ++ (L c).take k) ds Y ∧ Blk Y W.heap.size 3 #[.int .i64 (c : Int)])
      (fun _ _ => False) ?hI ?hIx ⟨by rw [List.take_zero, List.append_nil]; exact HX.out.1, HX.out.2.1⟩
      (fun k a' Y => a' = { tmps := #[.pointer (some ⟨g, 0, none⟩), .pointer (some ⟨w.heap.size, 0, none⟩), .pointer (some ⟨W1.heap.size, 0, none⟩), .pointer (some ⟨W3.heap.size, 0, none⟩), .pointer (some ⟨W.heap.size, 0, none⟩), .int .i64 (((L c).getD k 0 : Nat) : Int), undef, undef, .pointer (some ⟨g, 0, none⟩), .pointer (some ⟨g, 0, none⟩), .pointer (some ⟨g, 0, none⟩), .slice (some ⟨p, 0, none⟩) ws.length ws.length, .int .i64 (ws.length : Int), .slice (some ⟨W2.heap.size, 0, none⟩) ws.length ws.length, .int .i64 (c : Int), .bool true, .int .i64 (c : Int), .pointer (some ⟨g, 0, none⟩), .int .i64 (c : Int), .func (.func 85) #[] #[.pointer (some ⟨V.heap.size, 0, none⟩), .pointer (some ⟨V.heap.size + 1, 0, none⟩)], .int .i64 (((L c).getD k 0 : Nat) : Int), undef, undef, undef, undef, undef, undef, undef, undef, undef, undef, undef, undef, undef, undef, undef, undef, undef, undef, undef, undef, undef, u42, undef, undef, undef, undef, undef, undef, undef, undef, undef, undef, undef, undef, undef, undef, undef, undef, undef, undef, undef, undef, undef, undef, undef, undef, undef, undef, undef, undef, undef, undef], defers := [] })
      ?hAx ?assign ?body ?done ?stop
    case hI => exact OwnFrom.and (own_mt _ _ (fun d hd => (Array.getElem?_eq_some_iff.1 (HX.out.1.dd d hd).2).1) HX.out.1.kept.size) (own_blk _ _ _ _)
    case hIx => exact fun s X Y row hs hg hr => hs
    case hAx => exact fun k a' s X Y row hs hg hr => hs
    case assign =>
      rintro k Y K9 hk hX hI hK9
      simp only [List.zip_toArray, List.zip_cons_cons, List.zip_nil_right, List.zip_nil_left, List.size_toArray, List.foldl_toArray', List.foldl_toArray, List.foldl_cons, List.foldl_nil, List.setIfInBounds_toArray, List.set_cons_zero, List.set_cons_succ, encL]
      generalize (L c).getD k 0 = x at *
      gi_wp2
      exact hK9 _ _ (KL.refl _ _ _) hI rfl
    case body =>
      rintro k a' Y ⟨hY, bY⟩ rfl hk hWs
      have hx0 : (L c).getD k 0 = (L c)[k] := by simp [hk]
      obtain ⟨m1, m2, m3, m4⟩ := HX.out.2.2.1.mem c (by omega) _ (List.getElem_mem hk)
      have hfr := HX.out.2.2.1.fresh (c := c) (by omega) hk
      have htk : catL L c ++ (L c).take (k + 1) = (catL L c ++ (L c).take k) ++ [(L c)[k]] := by rw [List.append_assoc, List.take_append_getElem]
      have hgt := metB_get ws.length (catL L c ++ (L c).take k) _ m2
      rw [decide_eq_false hfr] at hgt
      rw [hx0]
      have hho := fun w' => (headof_any c false (by omega) w').mono (R' := fun e w2 => e = .returned (.int .u32 ((hdN c false : Nat) : Int)) ∧ ∃ n, w2 = w'.drewN n) fun e w2 h => ⟨h.1, 0, h.2.symm⟩
      generalize (L c)[k] = x at *
      generalize hys : catL L c ++ (L c).take k = ys at *
      obtain ⟨T, hT⟩ : ∃ T : World → Prop, T = fun w' => Ar w' g p q ws bs ∧ Blk w' w.heap.size 25 #[.pointer (some ⟨g, 0, none⟩)] ∧ Blk w' W3.heap.size 63 #[.slice (some ⟨W2.heap.size, 0, none⟩) ws.length ws.length] ∧ Blk w' W2.heap.size 4 (bcs (metB ws.length ys)) ∧ Blk w' W.heap.size 3 #[.int .i64 (c : Int)] := ⟨_, rfl⟩
      have hTd : ∀ w' n, T w' → T (w'.drewN n) := by rw [hT]; exact fun w' n h => ⟨h.1.drewN n, h.2⟩
      have hT0 : T Y.drew := by rw [hT]; exact ⟨hY.ar.drew, hY.x1, hY.x3, hY.m, bY⟩
      have q0 : ∀ w', T w' → w'.cell? ⟨w.heap.size, 0, none⟩ = some (.pointer (some ⟨g, 0, none⟩)) := by rw [hT]; exact fun w' h' => h'.2.1.cell 0
      have q1 : ∀ w', T w' → w'.cell? ⟨W.heap.size, 0, none⟩ = some (.int .i64 (c : Int)) := by rw [hT]; exact fun w' h' => h'.2.2.2.2.cell 0
      have q2 : ∀ w', T w' → w'.cell? ⟨W3.heap.size, 0, none⟩ = some (.slice (some ⟨W2.heap.size, 0, none⟩) ws.length ws.length) := by rw [hT]; exact fun w' h' => h'.2.2.1.cell 0
      have q3 : ∀ w', T w' → w'.cell? ⟨W2.heap.size, x, none⟩ = some (.bool false) := by rw [hT]; exact fun w' h' => by rw [← hgt]; exact (h'.2.2.2.1.cell x).trans (bcs_get (by rw [metB_len]; exact m2))
      have hib := fun w' (h' : T w') => (isblock_any (show Ar w' g p q ws bs by rw [hT] at h'; exact h'.1) (x : Int)).mono (R' := fun e' w2 => e' = .returned (.bool true) ∧ ∃ n, w2 = w'.drewN n) fun e' w2 h => ⟨by rw [h.1]; unfold isB; simp only [Int.toNat_natCast, m3]; simp, 0, h.2.symm⟩
      have hhd := fun w' (h' : T w') => (head_any (show Ar w' g p q ws bs by rw [hT] at h'; exact h'.1) x m1 m2).mono (R' := fun e' w2 => e' = .returned (.int .u32 ((hdN c false : Nat) : Int)) ∧ ∃ n, w2 = w'.drewN n) fun e' w2 h => ⟨by rw [h.1, m4], 0, h.2.symm⟩
      have hho2 := fun w' (_ : T w') => hho w'
      have d5 : decide ((x : Int) < (ws.length : Int)) = true := decide_eq_true (by omega)
      have d6 : decide (x < ws.length) = true := decide_eq_true (by omega)
      have hTT : ∀ n, Mt w g p q ws bs w.heap.size W1.heap.size W3.heap.size W2.heap.size ys ds (Y.drew.drewN n) ∧ Blk (Y.drew.drewN n) W.heap.size 3 #[.int .i64 (c : Int)] ∧ Kept [W2.heap.size] Y (Y.drew.drewN n) := fun n => ⟨hY.later ⟨rfl, rfl, rfl, Nat.le_refl _, fun _ _ => rfl⟩, bY, ((Kept.refl _ Y).drew).drewN n⟩
      have HT := Lib.hid (And.intro hTT htk)
      clear hT hTT htk hY bY hho hgt hfr m3 m4 hseq hys
      generalize hdN c false = hv at *
      gi_wp2_with fail
      refine wp_region_linI T [] [0, 1, 2, 3, 4, 5, 6, 7, 8, 9, 10, 11, 12, 13, 14, 15, 16, 17] (by kernel_rfl) (by kernel_rfl) (by kernel_rfl) hTd hT0 ?_
      (repeat (first | (refine linI_off rfl rfl (by rfl) ?_; (try simp only [Act.put, List.getElem_toArray, List.getElem_cons_zero, List.getElem_cons_succ, List.setIfInBounds_toArray, List.set_cons_zero, List.set_cons_succ])) | (refine linI_op (v := ?_) rfl rfl (by rfl) (fun w9 hS9 => ?_) ?_; rotate_left; (focus ((have k0 := q0 w9 hS9; have k1 := q1 w9 hS9; have k2 := q2 w9 hS9; have k3 := q3 w9 hS9; (try dsimp only at hS9); go_simp; (try go_bits)) <;> with_reducible rfl)); (try simp only [Act.put, List.getElem_toArray, List.getElem_cons_zero, List.getElem_cons_succ, List.setIfInBounds_toArray, List.set_cons_zero, List.set_cons_succ])) | (refine linI_fn (f := 73) rfl rfl (by rfl) rfl rfl (enters_of Try.func73 (by kernel_rfl) rfl) (fun w9 hS9 => hib w9 hS9) ?_ ?_; (focus (simp [Act.eval]; done)); (try simp only [Act.put, List.getElem_toArray, List.getElem_cons_zero, List.getElem_cons_succ, List.setIfInBounds_toArray, List.set_cons_zero, List.set_cons_succ])) | (refine linI_fn (f := 57) rfl rfl (by rfl) rfl rfl (enters_of Try.func57 (by kernel_rfl) rfl) (fun w9 hS9 => hhd w9 hS9) ?_ ?_; (focus (simp [Act.eval]; done)); (try simp only [Act.put, List.getElem_toArray, List.getElem_cons_zero, List.getElem_cons_succ, List.setIfInBounds_toArray, List.set_cons_zero, List.set_cons_succ])) | (refine linI_fn (f := 50) rfl rfl (by rfl) rfl rfl (enters_of Try.func50 (by kernel_rfl) rfl) (fun w9 hS9 => hho2 w9 hS9) ?_ ?_; (focus (simp [Act.eval]; done)); (try simp only [Act.put, List.getElem_toArray, List.getElem_cons_zero, List.getElem_cons_succ, List.setIfInBounds_toArray, List.set_cons_zero, List.set_cons_succ]))))
      refine linI_nil (fun n2 => ?_)
      obtain ⟨tY, tB, tK⟩ := HT.out.1 n2
      generalize Y.drew.drewN n2 = U at *
      have cm := tY.x3.cell 0
      have cx := (tY.m.cell x).trans (bcs_get (by rw [metB_len]; exact m2))
      have fx := tY.m.free x
      have hgg := H.out.1.box.lt
      have hpp := H.out.1.wds.lt
      have hqq := H.out.1.bgs.lt
      have hl1 := tY.lo1
      have hne : W.heap.size ≠ W2.heap.size := by have := HX.out.2.2.2.2; omega
      have HF := Lib.hid (And.intro (tY.set x (by omega) (by omega) (by omega)) (And.intro (tB.far (p := ⟨W2.heap.size, x, none⟩) hne (.bool true)) (KL.kept (tK.setCell (p := ⟨W2.heap.size, x, none⟩) (.inl (by simp)) (.bool true)) hWs)))
      clear tY tB tK hgg hpp hqq hl1 hne hTd hT0 q0 q1 q2 q3 hib hhd hho2
      generalize (metB ws.length ys).getD x false = y at *
      gi_wp2
      rw [HT.out.2]
      exact ⟨HF.out.2.2, HF.out.1, HF.out.2.1⟩
    case done =>
      rintro Y ⟨hY, bY⟩ hdef
      rw [List.take_length, ← catL_succ] at hY
      have hMn : Mt w g p q ws bs w.heap.size W1.heap.size W3.heap.size W2.heap.size (catL L (c + 1)) (X.heap.size :: ds) Y := ⟨hY.ar, hY.x1, hY.x2, hY.x3, hY.m, hY.lo1, List.nodup_cons.2 ⟨fun hm => by have := (Array.getElem?_eq_some_iff.1 (HX.out.1.dd _ hm).2).1; omega, hY.nd⟩, by
        rintro d hd
        rcases List.mem_cons.1 hd with rfl | hd
        · exact ⟨HX.out.1.kept.size, hdef⟩
        · exact hY.dd d hd, hY.kept, hY.ne⟩
      have HN := Lib.hid hMn
      clear hMn hY bY hdef hseq
      go_wp2_with fail
      refine Handed.intro (k - 1) (by have := HM.out.2.2.1; omega) (hJ _ _ _ ⟨c + 1, _, _, _, _, _, _, _, X.heap.size :: ds, by have := HM.out.2.2.1; omega, by rw [show ((c + 1 : Nat) : Int) = (c : Int) + 1 from by omega]; rfl, HN.out⟩)
    case stop => rintro k Y hk hF hdef; exact hF.elim
  · obtain rfl : c = 6 := by omega
    have d1 : decide (((6 : Nat) : Int) < 6) = false := by decide
    have cb := hM.x1.cell 0
    have HM := Lib.hid hM
    clear hM hkc hc
    go_wp2_with fail
    refine (pieces_any (some ⟨g, 0, none⟩) false W).mono ?_
    rintro e3 X ⟨rfl, y1, y2, kX, xs1⟩
    have hMX := HM.out.later kX
    have hseq := pieces_tells (S := []) false hMX.ar H.out.2.2.1 H.out.2.2.2.1 y1 y2 (by simp) (by simp) (by simp) (by simp) (by simp) (by simp)
    have HX := Lib.hid (And.intro hMX xs1)
    clear cb y1 y2 kX xs1 hMX
    go_wp2_with fail
    refine wp_range_row (S := []) (N := (ofT false B).length) (enc := encP false B) none (fun _ => rfl) rfl (fun _ _ => by simp [go_sem, enters_of Try.func77 (by kernel_rfl) rfl]) hseq (by simp)
      (fun k Y => Mt w g p q ws bs w.heap.size W1.heap.size W3.heap.size W2.heap.size (catL L 6) ds Y)
      (fun _ _ => False) ?hI ?hIx HX.out.1
      (fun k a' Y => ∃ pb, a' = { tmps := #[.pointer (some ⟨g, 0, none⟩), .pointer (some ⟨w.heap.size, 0, none⟩), .pointer (some ⟨W1.heap.size, 0, none⟩), .pointer (some ⟨W3.heap.size, 0, none⟩), u4, undef, .pointer (some ⟨pb, 0, none⟩), undef, .pointer (some ⟨g, 0, none⟩), .pointer (some ⟨g, 0, none⟩), .pointer (some ⟨g, 0, none⟩), .slice (some ⟨p, 0, none⟩) ws.length ws.length, .int .i64 (ws.length : Int), .slice (some ⟨W2.heap.size, 0, none⟩) ws.length ws.length, .int .i64 6, .bool false, u16, u17, u18, u19, undef, undef, undef, undef, undef, undef, undef, undef, undef, undef, undef, undef, undef, undef, undef, undef, undef, undef, undef, undef, undef, undef, u42, .pointer (some ⟨g, 0, none⟩), .func (.func 77) #[] #[.pointer (some ⟨W.heap.size, 0, none⟩), .pointer (some ⟨W.heap.size + 1, 0, none⟩)], .agg #[.int .i64 (((ofT false B).getD k Bl.zero).x : Int), .int .i64 (((ofT false B).getD k Bl.zero).c : Int)], undef, undef, undef, undef, undef, undef, undef, undef, undef, undef, undef, undef, undef, undef, undef, undef, undef, undef, undef, undef, undef, undef, undef, undef, undef, undef, undef], defers := [] } ∧ Blk Y pb 86 #[.int .i64 (((ofT false B).getD k Bl.zero).x : Int), .int .i64 (((ofT false B).getD k Bl.zero).c : Int)])
      ?hAx ?assign ?body ?done ?stop
    case hI => exact own_mt (β := Nat) _ (fun _ => catL L 6) (fun d hd => (Array.getElem?_eq_some_iff.1 (HX.out.1.dd d hd).2).1) HX.out.1.kept.size
    case hIx => exact fun s X Y row hs hg hr => hs
    case hAx => exact fun k a' s X Y row ⟨pb, h1, h2⟩ hg hr => ⟨pb, h1, own_blk (β := Unit) _ _ _ (fun _ => _) () X Y row h2 hg hr⟩
    case assign =>
      rintro k Y K9 hk hY hI hK9
      simp only [List.zip_toArray, List.zip_cons_cons, List.zip_nil_right, List.zip_nil_left, List.size_toArray, List.foldl_toArray', List.foldl_toArray, List.foldl_cons, List.foldl_nil, List.setIfInBounds_toArray, List.set_cons_zero, List.set_cons_succ, encP, pccs]
      generalize (ofT false B).getD k Bl.zero = bb at *
      obtain ⟨Y1, hY1⟩ : ∃ Y1, Y.alloc (.cells #[.int .i64 (bb.x : Int), .int .i64 (bb.c : Int)] 86) = Y1 := ⟨_, rfl⟩
      have kY : Below Y.heap.size Y Y1 := by rw [← hY1]; exact (Below.refl _ _).alloc (Nat.le_refl _) _
      have bY1 : Blk Y1 Y.heap.size 86 #[.int .i64 (bb.x : Int), .int .i64 (bb.c : Int)] := by rw [← hY1]; exact Blk.new _ _ _
      gi_wp2
      exact hK9 _ _ (KX.below kY) (hI.later kY) ⟨_, rfl, bY1⟩
    case body =>
      rintro k a' Y hY ⟨pb, rfl, bP⟩ hk hWs
      have hmm : (ofT false B).getD k Bl.zero ∈ ofT false B := by
        have e : (ofT false B).getD k Bl.zero = (ofT false B)[k] := by simp [hk]
        rw [e]; exact List.getElem_mem hk
      generalize (ofT false B).getD k Bl.zero = b at *
      have hbB : b ∈ B := (List.mem_filter.1 hmm).1
      have hbt : b.t = false := by simpa using (List.mem_filter.1 hmm).2
      obtain ⟨g1, g2, g3, g4⟩ := chain_mem H.out.2.2.1 (Nat.le_refl _) hbB
      have hxl := H.out.2.2.2.2.1 b hbB hbt
      have hz := H.out.2.2.2.2.2.1 b hbB hbt
      obtain ⟨x, c, t⟩ := b
      dsimp only at *
      subst hbt
      have hp5 := pow5 g1
      have hee := H.out.2.2.2.1
      have hhi := H.out.2.2.2.2.2.2.1
      have hxw : x < ws.length := by generalize 2 ^ c = z at *; omega
      have hgt := metB_get ws.length (catL L 6) x hxw
      rw [decide_eq_true (mem_catL.2 ⟨c, by omega, hxl⟩)] at hgt
      have hsz := fun w' => (hsize_any c false g1 w').mono (R' := fun e w2 => e = .returned (.int .i64 ((2 ^ c : Nat) : Int)) ∧ ∃ n, w2 = w'.drewN n) fun e w2 h => ⟨h.1, 0, h.2.symm⟩
      obtain ⟨T, hT⟩ : ∃ T : World → Prop, T = fun w' => Ar w' g p q ws bs ∧ Blk w' w.heap.size 25 #[.pointer (some ⟨g, 0, none⟩)] ∧ Blk w' W3.heap.size 63 #[.slice (some ⟨W2.heap.size, 0, none⟩) ws.length ws.length] ∧ Blk w' W2.heap.size 4 (bcs (metB ws.length (catL L 6))) ∧ Blk w' pb 86 #[.int .i64 (x : Int), .int .i64 (c : Int)] := ⟨_, rfl⟩
      have hTd : ∀ w' n, T w' → T (w'.drewN n) := by rw [hT]; exact fun w' n h => ⟨h.1.drewN n, h.2⟩
      have hT0 : T Y := by rw [hT]; exact ⟨hY.ar, hY.x1, hY.x3, hY.m, bP⟩
      have q0 : ∀ w', T w' → w'.cell? ⟨w.heap.size, 0, none⟩ = some (.pointer (some ⟨g, 0, none⟩)) := by rw [hT]; exact fun w' h' => h'.2.1.cell 0
      have q1 : ∀ w', T w' → w'.cell? ⟨pb, 0, none⟩ = some (.int .i64 (x : Int)) := by rw [hT]; exact fun w' h' => h'.2.2.2.2.cell 0
      have q2 : ∀ w', T w' → w'.cell? ⟨W3.heap.size, 0, none⟩ = some (.slice (some ⟨W2.heap.size, 0, none⟩) ws.length ws.length) := by rw [hT]; exact fun w' h' => h'.2.2.1.cell 0
      have q3 : ∀ w', T w' → w'.cell? ⟨W2.heap.size, x, none⟩ = some (.bool true) := by rw [hT]; exact fun w' h' => by rw [← hgt]; exact (h'.2.2.2.1.cell x).trans (bcs_get (by rw [metB_len]; exact hxw))
      have q4 : ∀ w', T w' → w'.cell? ⟨g, 0, none⟩ = some (.slice (some ⟨p, 0, none⟩) ws.length ws.length) := by rw [hT]; exact fun w' h' => h'.1.c0
      have hhd := fun w' (h' : T w') => (head_any (show Ar w' g p q ws bs by rw [hT] at h'; exact h'.1) x (by omega) hxw).mono (R' := fun e' w2 => e' = .returned (.int .u32 ((hdN c false : Nat) : Int)) ∧ ∃ n, w2 = w'.drewN n) fun e' w2 h => ⟨by rw [h.1, g3], 0, h.2.symm⟩
      have hsz2 := fun w' (_ : T w') => hsz w'
      generalize hdN c false = hv at *
      generalize 2 ^ c = z at *
      have hbl := fun w' (h' : T w') => (blank_yes (if ws.length = x + 1 then some ⟨p, 0, none⟩ else some ⟨p, x + 1, none⟩) (x + z - (x + 1)) (ws.length - (x + 1)) (by omega) w' (if h0 : ws.length = x + 1 then .inl (by omega) else .inr ⟨p, x + 1, if_neg h0, fun i hi => by
        have h1 := (show Ar w' g p q ws bs by rw [hT] at h'; exact h'.1).word (i := x + 1 + i) (by omega)
        rw [hz (x + 1 + i) (by omega) (by omega)] at h1
        exact h1⟩)).mono (R' := fun e' w2 => e' = .returned (.bool true) ∧ ∃ n, w2 = w'.drewN n) fun e' w2 h => ⟨h.1, 0, h.2.symm⟩
      have hTT : ∀ n, T (Y.drew.drewN n) ∧ Mt w g p q ws bs w.heap.size W1.heap.size W3.heap.size W2.heap.size (catL L 6) ds (Y.drew.drewN n) ∧ KX XP [] Y (Y.drew.drewN n) := fun n => ⟨hTd _ n (hTd _ 1 hT0), hY.later ⟨rfl, rfl, rfl, Nat.le_refl _, fun _ _ => rfl⟩, KX.kept (((Kept.refl [] Y).drew).drewN n)⟩
      have d5 : decide ((x : Int) < (ws.length : Int)) = true := decide_eq_true (by omega)
      have d6 : decide (x < ws.length) = true := decide_eq_true (by omega)
      have HT := Lib.hid (And.intro hTT (And.intro hk hz))
      have hxz : x + z ≤ ws.length := by omega
      have hz1 : x + 1 ≤ x + z := by omega
      have hxi : (x : Int) + (z : Int) ≤ (ws.length : Int) := by omega
      have hzi : (x : Int) + 1 ≤ (x : Int) + (z : Int) := by omega
      have hz0 : (0 : Int) ≤ (x : Int) + (z : Int) := by omega
      have hz00 : (0 : Int) ≤ (x : Int) + 1 := by omega
      have hzm : (x : Int) + 1 ≤ max ((x : Int) + (z : Int)) 0 := by omega
      clear g4 hee
      have hT1 : T Y.drew := hTd _ 1 hT0
      clear hT hTT hY bP hsz hgt hxl hz hbB hmm hk hseq hT0
      gi_wp2_with fail
      refine wp_region_linI T [] [0, 1, 2, 3, 4, 5, 6, 7, 8] (by kernel_rfl) (by kernel_rfl) (by kernel_rfl) hTd hT1 ?_
      (repeat (first | (refine linI_off rfl rfl (by rfl) ?_; (try simp only [Act.put, List.getElem_toArray, List.getElem_cons_zero, List.getElem_cons_succ, List.setIfInBounds_toArray, List.set_cons_zero, List.set_cons_succ])) | (refine linI_op (v := ?_) rfl rfl (by rfl) (fun w9 hS9 => ?_) ?_; rotate_left; (focus ((have k0 := q0 w9 hS9; have k1 := q1 w9 hS9; (try dsimp only at hS9); go_simp; (try go_bits)) <;> with_reducible rfl)); (try simp only [Act.put, List.getElem_toArray, List.getElem_cons_zero, List.getElem_cons_succ, List.setIfInBounds_toArray, List.set_cons_zero, List.set_cons_succ])) | (refine linI_fn (f := 57) rfl rfl (by rfl) rfl rfl (enters_of Try.func57 (by kernel_rfl) rfl) (fun w9 hS9 => hhd w9 hS9) ?_ ?_; (focus (simp [Act.eval]; done)); (try simp only [Act.put, List.getElem_toArray, List.getElem_cons_zero, List.getElem_cons_succ, List.setIfInBounds_toArray, List.set_cons_zero, List.set_cons_succ])) | (refine linI_fn (f := 70) rfl rfl (by rfl) rfl rfl (enters_of Try.func70 (by kernel_rfl) rfl) (fun w9 hS9 => hsz2 w9 hS9) ?_ ?_; (focus (simp [Act.eval]; done)); (try simp only [Act.put, List.getElem_toArray, List.getElem_cons_zero, List.getElem_cons_succ, List.setIfInBounds_toArray, List.set_cons_zero, List.set_cons_succ]))))
      refine linI_nil (fun n2 => ?_)
      obtain ⟨tT, tM, tK⟩ := HT.out.1 n2
      clear hT1
      generalize Y.drew.drewN n2 = U at *
      have hT1 : T U.drew := hTd _ 1 tT
      have hUU : ∀ m, Mt w g p q ws bs w.heap.size W1.heap.size W3.heap.size W2.heap.size (catL L 6) ds (U.drew.drewN m) ∧ KX XP [] Y (U.drew.drewN m) := fun m => ⟨tM.later ⟨rfl, rfl, rfl, Nat.le_refl _, fun _ _ => rfl⟩, tK.trans (KX.kept (((Kept.refl [] U).drew).drewN m))⟩
      have HU := Lib.hid hUU
      clear hUU tT tM tK
      gi_wp2_with fail
      refine wp_region_linI T [] [0, 1, 2, 3, 4, 5, 6, 7, 8, 9, 10, 11, 12, 13, 14, 15, 16, 17, 18] (by kernel_rfl) (by kernel_rfl) (by kernel_rfl) hTd hT1 ?_
      (repeat (first | (refine linI_off rfl rfl (by rfl) ?_; (try simp only [Act.put, List.getElem_toArray, List.getElem_cons_zero, List.getElem_cons_succ, List.setIfInBounds_toArray, List.set_cons_zero, List.set_cons_succ])) | (refine linI_op (v := ?_) rfl rfl (by rfl) (fun w9 hS9 => ?_) ?_; rotate_left; (focus ((have k0 := q0 w9 hS9; have k1 := q1 w9 hS9; have k2 := q2 w9 hS9; have k3 := q3 w9 hS9; have k4 := q4 w9 hS9; (try dsimp only at hS9); go_simp; (try go_bits)) <;> with_reducible rfl)); (try simp only [Act.put, List.getElem_toArray, List.getElem_cons_zero, List.getElem_cons_succ, List.setIfInBounds_toArray, List.set_cons_zero, List.set_cons_succ])) | (refine linI_fn (f := 71) rfl rfl (by rfl) rfl rfl (enters_of Try.func71 (by kernel_rfl) rfl) (fun w9 hS9 => hbl w9 hS9) ?_ ?_; (focus (simp [Act.eval]; done)); (try simp only [Act.put, List.getElem_toArray, List.getElem_cons_zero, List.getElem_cons_succ, List.setIfInBounds_toArray, List.set_cons_zero, List.set_cons_succ]))))
      refine linI_nil (fun m => ?_)
      obtain ⟨uM, uK⟩ := HU.out m
      generalize U.drew.drewN m = U2 at *
      clear hTd hT1 q0 q1 q2 q3 q4 hhd hsz2 hbl
      gi_wp2
    case done =>
      rintro Y hY hdef
      have hds : ∀ d ∈ ds, d < X.heap.size := fun d hd => (Array.getElem?_eq_some_iff.1 (HX.out.1.dd d hd).2).1
      have cr := hY.x2.cell 0
      have fr := hY.x2.free 0
      obtain ⟨Y1, hY1⟩ : ∃ Y1, Y.setCell ⟨W1.heap.size, 0, none⟩ (.bool true) = Y1 := ⟨_, rfl⟩
      have hsz3 := H.out.2.2.2.2.2.2.2.2.2.2.2
      have hAw := H.out.1
      have K9 : Kept [W1.heap.size] Y Y1 := by rw [← hY1]; exact (Kept.refl [W1.heap.size] Y).setCell (p := ⟨W1.heap.size, 0, none⟩) (.inl (by simp)) _
      have hob : ∀ d, Y.heap[d]? = some (.deferred (some [])) → d ≠ W1.heap.size := fun d hd he => by
        rw [he, show Y.heap[W1.heap.size]? = _ from hY.x2] at hd
        cases hd
      have hA9 := hY.ar.kept K9 (by have := hAw.box.lt; simp; omega) (by have := hAw.wds.lt; simp; omega) (by have := hAw.bgs.lt; simp; omega)
      have hr9 : Blk Y1 W1.heap.size 4 #[.bool true] := by rw [← hY1]; exact hY.x2.set 0 (.bool true)
      have hk9 : Kept [] w Y1 := by rw [← hY1]; exact hY.kept.setCell (p := ⟨W1.heap.size, 0, none⟩) (.inr (by show w.heap.size ≤ W1.heap.size; omega)) _
      have hdd : ∀ d ∈ X.heap.size :: ds, w.heap.size ≤ d ∧ Y1.heap[d]? = some (.deferred (some [])) := by
        intro d hd
        have h1 : w.heap.size ≤ d ∧ Y.heap[d]? = some (.deferred (some [])) := by
          rcases List.mem_cons.1 hd with rfl | hd
          · exact ⟨HX.out.1.kept.size, hdef⟩
          · exact hY.dd d hd
        exact ⟨h1.1, (K9.block _ (Array.getElem?_eq_some_iff.1 h1.2).1 (by simpa using hob d h1.2)).trans h1.2⟩
      have hnd : (X.heap.size :: ds).Nodup := List.nodup_cons.2 ⟨fun hm => by have := hds _ hm; omega, hY.nd⟩
      have HZ := Lib.hid (And.intro hA9 (And.intro hr9 (And.intro hk9 (And.intro hdd hnd))))
      clear hY hdef hds hsz3 hAw K9 hob hA9 hr9 hk9 hdd hnd hseq
      go_wp2_with fail
      refine marks_cells (v := .bool true) (X.heap.size :: ds) Y1 HZ.out.2.2.2.2 (fun d hd => (HZ.out.2.2.2.1 d hd).2) fun w' g1 g2 g3 g4 g5 => ?_
      have hK : Kept (X.heap.size :: ds) Y1 w' := ⟨g2, g3, g4, by rw [g1]; exact Nat.le_refl _, fun k _ hk => g5 k hk⟩
      have hk9 := HZ.out.2.2.1
      have hne : ∀ b t cs, Blk Y1 b t cs → b ∉ X.heap.size :: ds := fun b t cs hb hm => by
        have := (HZ.out.2.2.2.1 b hm).2
        rw [show Y1.heap[b]? = _ from hb] at this
        cases this
      have hA := HZ.out.1.kept hK (hne _ _ _ HZ.out.1.box) (hne _ _ _ HZ.out.1.wds) (hne _ _ _ HZ.out.1.bgs)
      have cr2 := ((HZ.out.2.1).kept hK (hne _ _ _ HZ.out.2.1)).cell 0
      refine ⟨by simp [results, Try.results44, go_sem, cr2], rfl, hA, ?_⟩
      exact ⟨hK.os.trans hk9.os, hK.tape.trans hk9.tape, hK.output.trans hk9.output, Nat.le_trans hk9.size hK.size, fun k hk _ => (g5 k (fun hm => by have := (HZ.out.2.2.2.1 k hm).1; omega)).trans (hk9.block k hk (by simp))⟩
    case stop => rintro k Y hk hF hdef; exact hF.elim
end Go.Proofs.Ytgnpoehcmlmajaa
