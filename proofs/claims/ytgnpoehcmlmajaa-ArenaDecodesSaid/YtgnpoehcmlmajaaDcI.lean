/-
  Decode, in parts: a free list comes to what may not be in it (inLists says no). Nothing here is a statement of the document.
-/
import Derived.Test.YtgnpoehcmlmajaaArpF
import Derived.Test.YtgnpoehcmlmajaaDcC
namespace Go.Proofs.Ytgnpoehcmlmajaa
open Go.RowKit Go.Shelf
set_option linter.unusedVariables false
/-- What the free lists are, up to a class. -/
structure FlX (ws : List Nat) (bs : List Bool) (L : Nat → List Nat) (c0 : Nat) : Prop where
  lst : ∀ c, c < c0 → Lst ws (ws.getD (9 + c) 0) (L c)
  mem : ∀ c, c ≤ c0 → ∀ x ∈ L c, 1 ≤ x ∧ x < ws.length ∧ bs.getD x false = true ∧ ws.getD (x - 1) 0 = hdN c false
  nodup : ∀ c, c ≤ c0 → (L c).Nodup
theorem FlX.fresh {ws : List Nat} {bs : List Bool} {L : Nat → List Nat} {c0 : Nat} (h : FlX ws bs L c0) {c k : Nat} (hc : c ≤ c0) (hk : k < (L c).length) : (L c)[k] ∉ catL L c ++ (L c).take k := by
  intro hm
  rcases List.mem_append.1 hm with hm | hm
  · obtain ⟨d, hd, hx⟩ := mem_catL.1 hm
    have h1 := (h.mem d (by omega) _ hx).2.2.2
    have h2 := (h.mem c hc _ (List.getElem_mem hk)).2.2.2
    have := hdN_inj (h1.symm.trans h2)
    omega
  · rw [List.mem_take_iff_getElem] at hm
    obtain ⟨i, hi, he⟩ := hm
    have h1 := (h.nodup c hc).idxOf_getElem i (by omega)
    have h2 := (h.nodup c hc).idxOf_getElem k hk
    rw [he, h2] at h1
    omega
/-- The blocks of a walk over the lists are not the result's. -/
structure MtNe (g p q b1 b2 b3 mb : Nat) : Prop where
  g : g ≠ b2
  p : p ≠ b2
  q : q ≠ b2
  b1 : b1 ≠ b2
  b3 : b3 ≠ b2
  mb : mb ≠ b2
theorem Mt.ret {w0 W : World} {g p q b1 b2 b3 mb : Nat} {ws : List Nat} {bs : List Bool} {xs ds : List Nat} (h : Mt w0 g p q ws bs b1 b2 b3 mb xs ds W) (hn : MtNe g p q b1 b2 b3 mb) : Mt w0 g p q ws bs b1 b2 b3 mb xs ds (W.setCell ⟨b2, 0, none⟩ (.bool false)) := by
  have K9 : Kept [b2] W (W.setCell ⟨b2, 0, none⟩ (.bool false)) := (Kept.refl [b2] W).setCell (p := ⟨b2, 0, none⟩) (.inl (by simp)) _
  refine ⟨h.ar.kept K9 (by simpa using hn.g) (by simpa using hn.p) (by simpa using hn.q), h.x1.kept K9 (by simpa using hn.b1), ?_, h.x3.kept K9 (by simpa using hn.b3), h.m.kept K9 (by simpa using hn.mb), h.lo1, h.nd, fun d hd => ⟨(h.dd d hd).1, ?_⟩, h.kept.setCell (p := ⟨b2, 0, none⟩) (.inr h.lo1.2.1) _, h.ne⟩
  · have := h.x2.set 0 (.bool false); exact this
  · refine (K9.block _ (Array.getElem?_eq_some_iff.1 (h.dd d hd).2).1 ?_).trans (h.dd d hd).2
    intro hm
    obtain rfl : d = b2 := by simpa using hm
    have h1 := (h.dd d hd).2
    rw [show W.heap[d]? = _ from h.x2] at h1
    cases h1

attribute [local go_sem] Oper.semAt_some
set_option maxRecDepth 100000 in
set_option maxHeartbeats 4000000 in
theorem inlists_bad {w : World} {g p q : Nat} {ws : List Nat} {bs : List Bool} {L : Nat → List Nat} {c0 x0 : Nat} (h : Ar w g p q ws bs) (hF : FlX ws bs L c0) (hc0 : c0 ≤ 5) (hLx : LstX ws (ws.getD (9 + c0) 0) (L c0) x0) (hx0 : x0 ≠ 0) (hxs : x0 < 4294967296)
    (hbad : bs.getD x0 false = false ∨ (bs.getD x0 false = true ∧ ws.getD (x0 - 1) 0 ≠ hdN c0 false) ∨ x0 ∈ L c0) :
    Calls Try.prog 44 #[.pointer (some ⟨g, 0, none⟩)] w fun e w' => e = .returned (.bool false) ∧ Kept [] w w' := by
  obtain ⟨W1, hW1⟩ : ∃ W1, w.alloc (.cells #[.pointer (some ⟨g, 0, none⟩)] 25) = W1 := ⟨_, rfl⟩
  have hb1 : Below w.heap.size w W1 := by rw [← hW1]; exact (Below.refl _ _).alloc (Nat.le_refl _) _
  have b1 : Blk W1 w.heap.size 25 #[.pointer (some ⟨g, 0, none⟩)] := by rw [← hW1]; exact Blk.new _ _ _
  have s1 : W1.heap.size = w.heap.size + 1 := by rw [← hW1]; simp
  obtain ⟨W2, hW2⟩ : ∃ W2, W1.alloc (.cells #[.bool false] 4) = W2 := ⟨_, rfl⟩
  have hb12 : Below W1.heap.size W1 W2 := by rw [← hW2]; exact (Below.refl _ _).alloc (Nat.le_refl _) _
  have b2 : Blk W2 W1.heap.size 4 #[.bool false] := by rw [← hW2]; exact Blk.new _ _ _
  have b1' : Blk W2 w.heap.size 25 #[.pointer (some ⟨g, 0, none⟩)] := (hb12.block _ b1.lt).trans b1
  have hb2 : Below w.heap.size w W2 := hb1.trans (hb12.mono hb1.size)
  have s2 : W2.heap.size = W1.heap.size + 1 := by rw [← hW2]; simp
  have hA2 := h.later hb2
  have cb : W2.cell? ⟨w.heap.size, 0, none⟩ = some (.pointer (some ⟨g, 0, none⟩)) := b1'.cell 0
  have c0 := hA2.c0
  have hlo := h.lo
  have H := Lib.hid (And.intro h (And.intro hF (And.intro hLx (And.intro hx0 (And.intro hxs (And.intro hbad (And.intro h.hi (And.intro hb2 (And.intro b1' (And.intro b2 (And.intro hA2 (And.intro s1 s2))))))))))))
  have n1 : (0 : Int) ≤ (ws.length : Int) := by omega
  obtain ⟨i0, hi, hi0, hi1, hi2⟩ := info_parts i_boo
  have hhi16 := h.hi
  have hmk := run_make (P := Try.prog) W2 63 4 i0 (.bool false) Try.underlying63 hi hi0 .i64 .i64 (ws.length : Int) (ws.length : Int) (by omega) (by omega) (by rw [hi2]; omega) (by omega)
  rw [hi1, show (ws.length : Int).toNat = ws.length from by omega, made_begins] at hmk
  clear hi hi0 hi1 hi2 hhi16
  obtain ⟨W3, hW3⟩ : ∃ W3, W2.alloc (.cells (bcs (List.replicate ws.length false)) 4) = W3 := ⟨_, rfl⟩
  rw [hW3] at hmk
  have d1 : decide (((ws.length : Nat) : Int) < 0) = false := decide_eq_false (by omega)
  have HN := Lib.hid hlo
  clear h hF hLx hx0 hxs hbad hb1 b1 hb12 b2 b1' hb2 hA2 s1 s2 hlo
  refine calls_of_wp_marks Try.func44 rfl ?_
  simp only [Try.ntmps44, List.size_toArray, List.length_cons, List.length_nil, Nat.reduceAdd, Nat.reduceSub, Array.replicate_succ, Array.replicate_zero, List.push_toArray, List.append_toArray, List.nil_append, List.cons_append]
  go_wp2_with fail
  obtain ⟨W4, hW4⟩ : ∃ W4, W3.alloc (.cells #[.slice (some ⟨W2.heap.size, 0, none⟩) ws.length ws.length] 63) = W4 := ⟨_, rfl⟩
  rw [hW4]
  have hM0 : Mt w g p q ws bs w.heap.size W1.heap.size W3.heap.size W2.heap.size (catL L 0) [] W4 := by
    have s1 := H.out.2.2.2.2.2.2.2.2.2.2.2.1
    have s2 := H.out.2.2.2.2.2.2.2.2.2.2.2.2
    have s3 : W3.heap.size = W2.heap.size + 1 := by rw [← hW3]; simp
    have k3 : Below W2.heap.size W2 W3 := by rw [← hW3]; exact (Below.refl _ _).alloc (Nat.le_refl _) _
    have k4 : Below W3.heap.size W3 W4 := by rw [← hW4]; exact (Below.refl _ _).alloc (Nat.le_refl _) _
    have k34 := k3.trans (k4.mono k3.size)
    have hbb := H.out.2.2.2.2.2.2.2.1
    have m3 : Blk W3 W2.heap.size 4 (bcs (metB ws.length (catL L 0))) := by rw [← hW3]; exact Blk.new _ _ _
    have m4 : Blk W4 W3.heap.size 63 #[.slice (some ⟨W2.heap.size, 0, none⟩) ws.length ws.length] := by rw [← hW4]; exact Blk.new _ _ _
    exact ⟨H.out.2.2.2.2.2.2.2.2.2.2.1.later k34, (k34.block _ H.out.2.2.2.2.2.2.2.2.1.lt).trans H.out.2.2.2.2.2.2.2.2.1, (k34.block _ H.out.2.2.2.2.2.2.2.2.2.1.lt).trans H.out.2.2.2.2.2.2.2.2.2.1, m4, (k4.block _ m3.lt).trans m3, by omega, List.nodup_nil, by simp, Kept.of_below [] (hbb.trans (k34.mono hbb.size)), by omega⟩
  have HW := Lib.hid hW3
  clear hW1 hW2 hW3 hW4 hmk cb c0
  refine wp_loop_ghost_k (fun k a W => ∃ (c : Nat) (u4 u15 u16 u17 u18 u19 u42 : Value) (ds : List Nat), k + c = 6 ∧ c ≤ c0 ∧ a = { tmps := #[.pointer (some ⟨g, 0, none⟩), .pointer (some ⟨w.heap.size, 0, none⟩), .pointer (some ⟨W1.heap.size, 0, none⟩), .pointer (some ⟨W3.heap.size, 0, none⟩), u4, undef, undef, undef, .pointer (some ⟨g, 0, none⟩), .pointer (some ⟨g, 0, none⟩), .pointer (some ⟨g, 0, none⟩), .slice (some ⟨p, 0, none⟩) ws.length ws.length, .int .i64 (ws.length : Int), .slice (some ⟨W2.heap.size, 0, none⟩) ws.length ws.length, .int .i64 (c : Int), u15, u16, u17, u18, u19, undef, undef, undef, undef, undef, undef, undef, undef, undef, undef, undef, undef, undef, undef, undef, undef, undef, undef, undef, undef, undef, undef, u42, undef, undef, undef, undef, undef, undef, undef, undef, undef, undef, undef, undef, undef, undef, undef, undef, undef, undef, undef, undef, undef, undef, undef, undef, undef, undef, undef, undef, undef, undef], defers := marks ds } ∧ Mt w g p q ws bs w.heap.size W1.heap.size W3.heap.size W2.heap.size (catL L c) ds W) 6 ⟨0, undef, undef, undef, undef, undef, undef, undef, [], rfl, Nat.zero_le _, rfl, hM0⟩ ?_
  rintro k a W ⟨c, u4, u15, u16, u17, u18, u19, u42, ds, hkc, hcc, rfl, hM⟩ J K hJ hK
  have hc6 : c < 6 := by omega
  have d1 : decide ((c : Int) < 6) = true := decide_eq_true (by omega)
  obtain ⟨V, hV⟩ : ∃ V, W.alloc (.cells #[.int .i64 (c : Int)] 3) = V := ⟨_, rfl⟩
  have kV : Below W.heap.size W V := by rw [← hV]; exact (Below.refl _ _).alloc (Nat.le_refl _) _
  have bV : Blk V W.heap.size 3 #[.int .i64 (c : Int)] := by rw [← hV]; exact Blk.new _ _ _
  have hMV := hM.later kV
  have cb := hMV.x1.cell 0
  have cc := bV.cell 0
  have HM := Lib.hid (And.intro hMV (And.intro bV (And.intro hkc (And.intro hM.m.lt (show V.heap.size = W.heap.size + 1 by rw [← hV]; simp)))))
  clear hM kV bV hMV hkc
  go_wp2_with fail
  refine (list_any (some ⟨g, 0, none⟩) (c : Int) V).mono ?_
  rintro e3 X ⟨rfl, hX⟩
  obtain ⟨X1, hX1⟩ : ∃ X1, V.alloc (.cells #[.pointer (some ⟨g, 0, none⟩)] 25) = X1 := ⟨_, rfl⟩
  rw [hX1] at hX
  have x1 : Blk X1 V.heap.size 25 #[.pointer (some ⟨g, 0, none⟩)] := by rw [← hX1]; exact Blk.new _ _ _
  have xs1 : X1.heap.size = V.heap.size + 1 := by rw [← hX1]; simp
  have kX1 : Below V.heap.size V X1 := by rw [← hX1]; exact (Below.refl _ _).alloc (Nat.le_refl _) _
  have kX2 : Below X1.heap.size X1 X := by rw [hX]; exact (Below.refl _ _).alloc (Nat.le_refl _) _
  have x2 : Blk X (V.heap.size + 1) 3 #[.int .i64 (c : Int)] := by rw [← xs1, hX]; exact Blk.new _ _ _
  have x1' := (kX2.block _ x1.lt).trans x1
  have kX := kX1.trans (kX2.mono kX1.size)
  have hMX := HM.out.1.later kX
  have bX : Blk X W.heap.size 3 #[.int .i64 (c : Int)] := (kX.block _ HM.out.2.1.lt).trans HM.out.2.1
  have hF := H.out.2.1
  have hmem := hF.mem c hcc
  have hMXs : W.heap.size < X.heap.size := bX.lt
  have hmb : W2.heap.size < W.heap.size := HM.out.2.2.2.1
  have hVs := HM.out.2.2.2.2
  have hgg := H.out.1.box.lt
  have hpp := H.out.1.wds.lt
  have hl1 := HM.out.1.lo1
  by_cases hc : c < c0
  · have hseq := list_low (S := [W2.heap.size]) hMX.ar.aw (by omega) (hF.lst c hc) (fun k hk => by have := hmem _ (List.getElem_mem hk); simp [hk]; exact this.2.1) x1' x2 (by simp; omega) (by simp; omega) (by simp; omega) (by simp; omega) (hF.nodup c hcc)
    have HX := Lib.hid (And.intro hMX (And.intro bX (And.intro hF (And.intro hMXs hmb))))
    clear hMX bX hF hmem hMXs hmb hVs hgg hpp hl1 x1 x1' x2 xs1 kX1 kX2 kX hX1 hX cb cc
    go_wp2_with fail
    refine wp_range_low (S := [W2.heap.size]) (N := (L c).length) (enc := encL (L c)) none (fun _ => rfl) rfl (fun _ _ => by simp [go_sem, enters_of Try.func85 (by kernel_rfl) rfl]) hseq (fun k hk => by simp at hk; rw [hk]; exact HX.out.1.m.lt)
      (fun k Y => Mt w g p q ws bs w.heap.size W1.heap.size W3.heap.size W2.heap.size (catL L c ++ (L c).take k) ds Y ∧ Blk Y W.heap.size 3 #[.int .i64 (c : Int)])
      (fun _ _ => False) ?hI ?hIx ⟨by rw [List.take_zero, List.append_nil]; exact HX.out.1, HX.out.2.1⟩
      (fun k a' Y => a' = { tmps := #[.pointer (some ⟨g, 0, none⟩), .pointer (some ⟨w.heap.size, 0, none⟩), .pointer (some ⟨W1.heap.size, 0, none⟩), .pointer (some ⟨W3.heap.size, 0, none⟩), .pointer (some ⟨W.heap.size, 0, none⟩), .int .i64 (((L c).getD k 0 : Nat) : Int), undef, undef, .pointer (some ⟨g, 0, none⟩), .pointer (some ⟨g, 0, none⟩), .pointer (some ⟨g, 0, none⟩), .slice (some ⟨p, 0, none⟩) ws.length ws.length, .int .i64 (ws.length : Int), .slice (some ⟨W2.heap.size, 0, none⟩) ws.length ws.length, .int .i64 (c : Int), .bool true, .int .i64 (c : Int), .pointer (some ⟨g, 0, none⟩), .int .i64 (c : Int), .func (.func 85) #[] #[.pointer (some ⟨V.heap.size, 0, none⟩), .pointer (some ⟨V.heap.size + 1, 0, none⟩)], .int .i64 (((L c).getD k 0 : Nat) : Int), undef, undef, undef, undef, undef, undef, undef, undef, undef, undef, undef, undef, undef, undef, undef, undef, undef, undef, undef, undef, undef, u42, undef, undef, undef, undef, undef, undef, undef, undef, undef, undef, undef, undef, undef, undef, undef, undef, undef, undef, undef, undef, undef, undef, undef, undef, undef, undef, undef, undef, undef, undef], defers := [] })
      ?hAx ?assign ?body ?done ?stop
    case hI => exact OwnFrom.and (own_mt _ _ (fun d hd => (Array.getElem?_eq_some_iff.1 (HX.out.1.dd d hd).2).1) HX.out.1.kept.size) (own_blk _ _ _ _)
    case hIx => exact fun s X Y row hs hg hr => hs
    case hAx => exact fun k a' s X Y row hs hg hr => hs
    case assign =>
      rintro k Y K9 hk hX hI hK9
      simp only [List.zip_toArray, List.zip_cons_cons, List.zip_nil_right, List.zip_nil_left, List.size_toArray, List.foldl_toArray', List.foldl_toArray, List.foldl_cons, List.foldl_nil, List.setIfInBounds_toArray, List.set_cons_zero, List.set_cons_succ, encL]
      generalize (L c).getD k 0 = x at *
      gi_wp2
      exact hK9 _ _ (KL.refl _ _ _) hI rfl
    case body =>
      rintro k a' Y ⟨hY, bY⟩ rfl hk hWs
      have hx0 : (L c).getD k 0 = (L c)[k] := by simp [hk]
      obtain ⟨m1, m2, m3, m4⟩ := HX.out.2.2.1.mem c hcc _ (List.getElem_mem hk)
      have hfr := HX.out.2.2.1.fresh (c := c) hcc hk
      have htk : catL L c ++ (L c).take (k + 1) = (catL L c ++ (L c).take k) ++ [(L c)[k]] := by rw [List.append_assoc, List.take_append_getElem]
      have hgt := metB_get ws.length (catL L c ++ (L c).take k) _ m2
      rw [decide_eq_false hfr] at hgt
      rw [hx0]
      have hho := fun w' => (headof_any c false (by omega) w').mono (R' := fun e w2 => e = .returned (.int .u32 ((hdN c false : Nat) : Int)) ∧ ∃ n, w2 = w'.drewN n) fun e w2 h => ⟨h.1, 0, h.2.symm⟩
      generalize (L c)[k] = x at *
      generalize hys : catL L c ++ (L c).take k = ys at *
      obtain ⟨T, hT⟩ : ∃ T : World → Prop, T = fun w' => Ar w' g p q ws bs ∧ Blk w' w.heap.size 25 #[.pointer (some ⟨g, 0, none⟩)] ∧ Blk w' W3.heap.size 63 #[.slice (some ⟨W2.heap.size, 0, none⟩) ws.length ws.length] ∧ Blk w' W2.heap.size 4 (bcs (metB ws.length ys)) ∧ Blk w' W.heap.size 3 #[.int .i64 (c : Int)] := ⟨_, rfl⟩
      have hTd : ∀ w' n, T w' → T (w'.drewN n) := by rw [hT]; exact fun w' n h => ⟨h.1.drewN n, h.2⟩
      have hT0 : T Y.drew := by rw [hT]; exact ⟨hY.ar.drew, hY.x1, hY.x3, hY.m, bY⟩
      have q0 : ∀ w', T w' → w'.cell? ⟨w.heap.size, 0, none⟩ = some (.pointer (some ⟨g, 0, none⟩)) := by rw [hT]; exact fun w' h' => h'.2.1.cell 0
      have q1 : ∀ w', T w' → w'.cell? ⟨W.heap.size, 0, none⟩ = some (.int .i64 (c : Int)) := by rw [hT]; exact fun w' h' => h'.2.2.2.2.cell 0
      have q2 : ∀ w', T w' → w'.cell? ⟨W3.heap.size, 0, none⟩ = some (.slice (some ⟨W2.heap.size, 0, none⟩) ws.length ws.length) := by rw [hT]; exact fun w' h' => h'.2.2.1.cell 0
      have q3 : ∀ w', T w' → w'.cell? ⟨W2.heap.size, x, none⟩ = some (.bool false) := by rw [hT]; exact fun w' h' => by rw [← hgt]; exact (h'.2.2.2.1.cell x).trans (bcs_get (by rw [metB_len]; exact m2))
      have hib := fun w' (h' : T w') => (isblock_any (show Ar w' g p q ws bs by rw [hT] at h'; exact h'.1) (x : Int)).mono (R' := fun e' w2 => e' = .returned (.bool true) ∧ ∃ n, w2 = w'.drewN n) fun e' w2 h => ⟨by rw [h.1]; unfold isB; simp only [Int.toNat_natCast, m3]; simp, 0, h.2.symm⟩
      have hhd := fun w' (h' : T w') => (head_any (show Ar w' g p q ws bs by rw [hT] at h'; exact h'.1) x m1 m2).mono (R' := fun e' w2 => e' = .returned (.int .u32 ((hdN c false : Nat) : Int)) ∧ ∃ n, w2 = w'.drewN n) fun e' w2 h => ⟨by rw [h.1, m4], 0, h.2.symm⟩
      have hho2 := fun w' (_ : T w') => hho w'
      have d5 : decide ((x : Int) < (ws.length : Int)) = true := decide_eq_true (by omega)
      have d6 : decide (x < ws.length) = true := decide_eq_true (by omega)
      have hTT : ∀ n, Mt w g p q ws bs w.heap.size W1.heap.size W3.heap.size W2.heap.size ys ds (Y.drew.drewN n) ∧ Blk (Y.drew.drewN n) W.heap.size 3 #[.int .i64 (c : Int)] ∧ Kept [W2.heap.size] Y (Y.drew.drewN n) := fun n => ⟨hY.later ⟨rfl, rfl, rfl, Nat.le_refl _, fun _ _ => rfl⟩, bY, ((Kept.refl _ Y).drew).drewN n⟩
      have HT := Lib.hid (And.intro hTT htk)
      clear hT hTT htk hY bY hho hgt hfr m3 m4 hseq hys
      generalize hdN c false = hv at *
      gi_wp2_with fail
      refine wp_region_linI T [] [0, 1, 2, 3, 4, 5, 6, 7, 8, 9, 10, 11, 12, 13, 14, 15, 16, 17] (by kernel_rfl) (by kernel_rfl) (by kernel_rfl) hTd hT0 ?_
      (repeat (first | (refine linI_off rfl rfl (by rfl) ?_; (try simp only [Act.put, List.getElem_toArray, List.getElem_cons_zero, List.getElem_cons_succ, List.setIfInBounds_toArray, List.set_cons_zero, List.set_cons_succ])) | (refine linI_op (v := ?_) rfl rfl (by rfl) (fun w9 hS9 => ?_) ?_; rotate_left; (focus ((have k0 := q0 w9 hS9; have k1 := q1 w9 hS9; have k2 := q2 w9 hS9; have k3 := q3 w9 hS9; (try dsimp only at hS9); go_simp; (try go_bits)) <;> with_reducible rfl)); (try simp only [Act.put, List.getElem_toArray, List.getElem_cons_zero, List.getElem_cons_succ, List.setIfInBounds_toArray, List.set_cons_zero, List.set_cons_succ])) | (refine linI_fn (f := 73) rfl rfl (by rfl) rfl rfl (enters_of Try.func73 (by kernel_rfl) rfl) (fun w9 hS9 => hib w9 hS9) ?_ ?_; (focus (simp [Act.eval]; done)); (try simp only [Act.put, List.getElem_toArray, List.getElem_cons_zero, List.getElem_cons_succ, List.setIfInBounds_toArray, List.set_cons_zero, List.set_cons_succ])) | (refine linI_fn (f := 57) rfl rfl (by rfl) rfl rfl (enters_of Try.func57 (by kernel_rfl) rfl) (fun w9 hS9 => hhd w9 hS9) ?_ ?_; (focus (simp [Act.eval]; done)); (try simp only [Act.put, List.getElem_toArray, List.getElem_cons_zero, List.getElem_cons_succ, List.setIfInBounds_toArray, List.set_cons_zero, List.set_cons_succ])) | (refine linI_fn (f := 50) rfl rfl (by rfl) rfl rfl (enters_of Try.func50 (by kernel_rfl) rfl) (fun w9 hS9 => hho2 w9 hS9) ?_ ?_; (focus (simp [Act.eval]; done)); (try simp only [Act.put, List.getElem_toArray, List.getElem_cons_zero, List.getElem_cons_succ, List.setIfInBounds_toArray, List.set_cons_zero, List.set_cons_succ]))))
      refine linI_nil (fun n2 => ?_)
      obtain ⟨tY, tB, tK⟩ := HT.out.1 n2
      generalize Y.drew.drewN n2 = U at *
      have cm := tY.x3.cell 0
      have cx := (tY.m.cell x).trans (bcs_get (by rw [metB_len]; exact m2))
      have fx := tY.m.free x
      have hgg := H.out.1.box.lt
      have hpp := H.out.1.wds.lt
      have hqq := H.out.1.bgs.lt
      have hl1 := tY.lo1
      have hne : W.heap.size ≠ W2.heap.size := by have := HX.out.2.2.2.2; omega
      have HF := Lib.hid (And.intro (tY.set x (by omega) (by omega) (by omega)) (And.intro (tB.far (p := ⟨W2.heap.size, x, none⟩) hne (.bool true)) (KL.kept (tK.setCell (p := ⟨W2.heap.size, x, none⟩) (.inl (by simp)) (.bool true)) hWs)))
      clear tY tB tK hgg hpp hqq hl1 hne hTd hT0 q0 q1 q2 q3 hib hhd hho2
      generalize (metB ws.length ys).getD x false = y at *
      gi_wp2
      rw [HT.out.2]
      exact ⟨HF.out.2.2, HF.out.1, HF.out.2.1⟩
    case done =>
      rintro Y ⟨hY, bY⟩ hdef
      rw [List.take_length, ← catL_succ] at hY
      have hMn : Mt w g p q ws bs w.heap.size W1.heap.size W3.heap.size W2.heap.size (catL L (c + 1)) (X.heap.size :: ds) Y := ⟨hY.ar, hY.x1, hY.x2, hY.x3, hY.m, hY.lo1, List.nodup_cons.2 ⟨fun hm => by have := (Array.getElem?_eq_some_iff.1 (HX.out.1.dd _ hm).2).1; omega, hY.nd⟩, by
        rintro d hd
        rcases List.mem_cons.1 hd with rfl | hd
        · exact ⟨HX.out.1.kept.size, hdef⟩
        · exact hY.dd d hd, hY.kept, hY.ne⟩
      have HN := Lib.hid hMn
      clear hMn hY bY hdef hseq
      go_wp2_with fail
      refine Handed.intro (k - 1) (by have := HM.out.2.2.1; omega) (hJ _ _ _ ⟨c + 1, _, _, _, _, _, _, _, X.heap.size :: ds, by have := HM.out.2.2.1; omega, by omega, by rw [show ((c + 1 : Nat) : Int) = (c : Int) + 1 from by omega]; rfl, HN.out⟩)
    case stop => rintro k Y hk hF hdef; exact hF.elim
  · have hcE : c = c0 := by omega
    subst hcE
    have hs12 := H.out.2.2.2.2.2.2.2.2.2.2.2
    have hseq := list_stop (S := [W2.heap.size, W1.heap.size]) hMX.ar.aw (by omega) H.out.2.2.1 H.out.2.2.2.1 H.out.2.2.2.2.1 (fun k hk => by have := hmem _ (List.getElem_mem hk); simp [hk]; exact this.2.1) x1' x2 (by simp; omega) (by simp; omega) (by simp; omega) (by simp; omega)
    have HX := Lib.hid (And.intro hMX (And.intro bX (And.intro hF (And.intro hMXs hmb))))
    clear hs12 hMX bX hF hmem hMXs hmb hVs hgg hpp hl1 x1 x1' x2 xs1 kX1 kX2 kX hX1 hX cb cc
    go_wp2_with fail
    refine wp_range_stop (S := [W2.heap.size, W1.heap.size]) (N := (L c).length + 1) (enc := encL (L c ++ [x0])) none (fun _ => rfl) rfl (fun _ _ => by simp [go_sem, enters_of Try.func85 (by kernel_rfl) rfl]) hseq (fun k hk => by simp at hk; rcases hk with rfl | rfl; exact HX.out.1.m.lt; exact HX.out.1.x2.lt)
      (fun k Y => Mt w g p q ws bs w.heap.size W1.heap.size W3.heap.size W2.heap.size (catL L c ++ (L c).take k) ds Y ∧ Blk Y W.heap.size 3 #[.int .i64 (c : Int)] ∧ k ≤ (L c).length)
      (fun _ Y => Mt w g p q ws bs w.heap.size W1.heap.size W3.heap.size W2.heap.size (catL L c ++ L c) ds Y) ?hI ?hIx ⟨by rw [List.take_zero, List.append_nil]; exact HX.out.1, HX.out.2.1, Nat.zero_le _⟩
      (fun k a' Y => a' = { tmps := #[.pointer (some ⟨g, 0, none⟩), .pointer (some ⟨w.heap.size, 0, none⟩), .pointer (some ⟨W1.heap.size, 0, none⟩), .pointer (some ⟨W3.heap.size, 0, none⟩), .pointer (some ⟨W.heap.size, 0, none⟩), .int .i64 (((L c ++ [x0]).getD k 0 : Nat) : Int), undef, undef, .pointer (some ⟨g, 0, none⟩), .pointer (some ⟨g, 0, none⟩), .pointer (some ⟨g, 0, none⟩), .slice (some ⟨p, 0, none⟩) ws.length ws.length, .int .i64 (ws.length : Int), .slice (some ⟨W2.heap.size, 0, none⟩) ws.length ws.length, .int .i64 (c : Int), .bool true, .int .i64 (c : Int), .pointer (some ⟨g, 0, none⟩), .int .i64 (c : Int), .func (.func 85) #[] #[.pointer (some ⟨V.heap.size, 0, none⟩), .pointer (some ⟨V.heap.size + 1, 0, none⟩)], .int .i64 (((L c ++ [x0]).getD k 0 : Nat) : Int), undef, undef, undef, undef, undef, undef, undef, undef, undef, undef, undef, undef, undef, undef, undef, undef, undef, undef, undef, undef, undef, u42, undef, undef, undef, undef, undef, undef, undef, undef, undef, undef, undef, undef, undef, undef, undef, undef, undef, undef, undef, undef, undef, undef, undef, undef, undef, undef, undef, undef, undef, undef], defers := [] })
      ?hAx ?assign ?body ?no ?stop
    case hI => exact OwnFrom.and (own_mt _ _ (fun d hd => (Array.getElem?_eq_some_iff.1 (HX.out.1.dd d hd).2).1) HX.out.1.kept.size) (OwnFrom.and (own_blk _ _ _ _) (fun s X Y row hs hg hr => hs))
    case no => exact fun W h => by have := h.2.2; omega
    case hIx => exact own_mt _ (fun _ => catL L c ++ L c) (fun d hd => (Array.getElem?_eq_some_iff.1 (HX.out.1.dd d hd).2).1) HX.out.1.kept.size
    case hAx => exact fun k a' s X Y row hs hg hr => hs
    case assign =>
      rintro k Y K9 hk hX hI hK9
      simp only [List.zip_toArray, List.zip_cons_cons, List.zip_nil_right, List.zip_nil_left, List.size_toArray, List.foldl_toArray', List.foldl_toArray, List.foldl_cons, List.foldl_nil, List.setIfInBounds_toArray, List.set_cons_zero, List.set_cons_succ, encL]
      generalize (L c ++ [x0]).getD k 0 = x at *
      gi_wp2
      exact hK9 _ _ (KL.refl _ _ _) hI rfl
    case body =>
      rintro k a' Y ⟨hY, bY, hkl⟩ rfl hk1 hWs
      by_cases hk : k < (L c).length
      · have hx0v : (L c ++ [x0]).getD k 0 = (L c)[k] := by
          simp only [List.getD_eq_getElem?_getD]
          rw [List.getElem?_append_left hk, List.getElem?_eq_getElem hk]; rfl
        obtain ⟨m1, m2, m3, m4⟩ := HX.out.2.2.1.mem c (Nat.le_refl _) _ (List.getElem_mem hk)
        have hfr := HX.out.2.2.1.fresh (c := c) (Nat.le_refl _) hk
        have htk : catL L c ++ (L c).take (k + 1) = (catL L c ++ (L c).take k) ++ [(L c)[k]] := by rw [List.append_assoc, List.take_append_getElem]
        have hgt := metB_get ws.length (catL L c ++ (L c).take k) _ m2
        rw [decide_eq_false hfr] at hgt
        rw [hx0v]
        have hho := fun w' => (headof_any c false (by omega) w').mono (R' := fun e w2 => e = .returned (.int .u32 ((hdN c false : Nat) : Int)) ∧ ∃ n, w2 = w'.drewN n) fun e w2 h => ⟨h.1, 0, h.2.symm⟩
        generalize (L c)[k] = x at *
        generalize hys : catL L c ++ (L c).take k = ys at *
        obtain ⟨T, hT⟩ : ∃ T : World → Prop, T = fun w' => Ar w' g p q ws bs ∧ Blk w' w.heap.size 25 #[.pointer (some ⟨g, 0, none⟩)] ∧ Blk w' W3.heap.size 63 #[.slice (some ⟨W2.heap.size, 0, none⟩) ws.length ws.length] ∧ Blk w' W2.heap.size 4 (bcs (metB ws.length ys)) ∧ Blk w' W.heap.size 3 #[.int .i64 (c : Int)] := ⟨_, rfl⟩
        have hTd : ∀ w' n, T w' → T (w'.drewN n) := by rw [hT]; exact fun w' n h => ⟨h.1.drewN n, h.2⟩
        have hT0 : T Y.drew := by rw [hT]; exact ⟨hY.ar.drew, hY.x1, hY.x3, hY.m, bY⟩
        have q0 : ∀ w', T w' → w'.cell? ⟨w.heap.size, 0, none⟩ = some (.pointer (some ⟨g, 0, none⟩)) := by rw [hT]; exact fun w' h' => h'.2.1.cell 0
        have q1 : ∀ w', T w' → w'.cell? ⟨W.heap.size, 0, none⟩ = some (.int .i64 (c : Int)) := by rw [hT]; exact fun w' h' => h'.2.2.2.2.cell 0
        have q2 : ∀ w', T w' → w'.cell? ⟨W3.heap.size, 0, none⟩ = some (.slice (some ⟨W2.heap.size, 0, none⟩) ws.length ws.length) := by rw [hT]; exact fun w' h' => h'.2.2.1.cell 0
        have q3 : ∀ w', T w' → w'.cell? ⟨W2.heap.size, x, none⟩ = some (.bool false) := by rw [hT]; exact fun w' h' => by rw [← hgt]; exact (h'.2.2.2.1.cell x).trans (bcs_get (by rw [metB_len]; exact m2))
        have hib := fun w' (h' : T w') => (isblock_any (show Ar w' g p q ws bs by rw [hT] at h'; exact h'.1) (x : Int)).mono (R' := fun e' w2 => e' = .returned (.bool true) ∧ ∃ n, w2 = w'.drewN n) fun e' w2 h => ⟨by rw [h.1]; unfold isB; simp only [Int.toNat_natCast, m3]; simp, 0, h.2.symm⟩
        have hhd := fun w' (h' : T w') => (head_any (show Ar w' g p q ws bs by rw [hT] at h'; exact h'.1) x m1 m2).mono (R' := fun e' w2 => e' = .returned (.int .u32 ((hdN c false : Nat) : Int)) ∧ ∃ n, w2 = w'.drewN n) fun e' w2 h => ⟨by rw [h.1, m4], 0, h.2.symm⟩
        have hho2 := fun w' (_ : T w') => hho w'
        have d5 : decide ((x : Int) < (ws.length : Int)) = true := decide_eq_true (by omega)
        have d6 : decide (x < ws.length) = true := decide_eq_true (by omega)
        have hTT : ∀ n, Mt w g p q ws bs w.heap.size W1.heap.size W3.heap.size W2.heap.size ys ds (Y.drew.drewN n) ∧ Blk (Y.drew.drewN n) W.heap.size 3 #[.int .i64 (c : Int)] ∧ Kept [W2.heap.size] Y (Y.drew.drewN n) := fun n => ⟨hY.later ⟨rfl, rfl, rfl, Nat.le_refl _, fun _ _ => rfl⟩, bY, ((Kept.refl _ Y).drew).drewN n⟩
        have HT := Lib.hid (And.intro hTT htk)
        clear hT hTT htk hY bY hho hgt hfr m3 m4 hseq hys
        generalize hdN c false = hv at *
        gi_wp2_with fail
        refine wp_region_linI T [] [0, 1, 2, 3, 4, 5, 6, 7, 8, 9, 10, 11, 12, 13, 14, 15, 16, 17] (by kernel_rfl) (by kernel_rfl) (by kernel_rfl) hTd hT0 ?_
        (repeat (first | (refine linI_off rfl rfl (by rfl) ?_; (try simp only [Act.put, List.getElem_toArray, List.getElem_cons_zero, List.getElem_cons_succ, List.setIfInBounds_toArray, List.set_cons_zero, List.set_cons_succ])) | (refine linI_op (v := ?_) rfl rfl (by rfl) (fun w9 hS9 => ?_) ?_; rotate_left; (focus ((have k0 := q0 w9 hS9; have k1 := q1 w9 hS9; have k2 := q2 w9 hS9; have k3 := q3 w9 hS9; (try dsimp only at hS9); go_simp; (try go_bits)) <;> with_reducible rfl)); (try simp only [Act.put, List.getElem_toArray, List.getElem_cons_zero, List.getElem_cons_succ, List.setIfInBounds_toArray, List.set_cons_zero, List.set_cons_succ])) | (refine linI_fn (f := 73) rfl rfl (by rfl) rfl rfl (enters_of Try.func73 (by kernel_rfl) rfl) (fun w9 hS9 => hib w9 hS9) ?_ ?_; (focus (simp [Act.eval]; done)); (try simp only [Act.put, List.getElem_toArray, List.getElem_cons_zero, List.getElem_cons_succ, List.setIfInBounds_toArray, List.set_cons_zero, List.set_cons_succ])) | (refine linI_fn (f := 57) rfl rfl (by rfl) rfl rfl (enters_of Try.func57 (by kernel_rfl) rfl) (fun w9 hS9 => hhd w9 hS9) ?_ ?_; (focus (simp [Act.eval]; done)); (try simp only [Act.put, List.getElem_toArray, List.getElem_cons_zero, List.getElem_cons_succ, List.setIfInBounds_toArray, List.set_cons_zero, List.set_cons_succ])) | (refine linI_fn (f := 50) rfl rfl (by rfl) rfl rfl (enters_of Try.func50 (by kernel_rfl) rfl) (fun w9 hS9 => hho2 w9 hS9) ?_ ?_; (focus (simp [Act.eval]; done)); (try simp only [Act.put, List.getElem_toArray, List.getElem_cons_zero, List.getElem_cons_succ, List.setIfInBounds_toArray, List.set_cons_zero, List.set_cons_succ]))))
        refine linI_nil (fun n2 => ?_)
        obtain ⟨tY, tB, tK⟩ := HT.out.1 n2
        generalize Y.drew.drewN n2 = U at *
        have cm := tY.x3.cell 0
        have cx := (tY.m.cell x).trans (bcs_get (by rw [metB_len]; exact m2))
        have fx := tY.m.free x
        have hgg := H.out.1.box.lt
        have hpp := H.out.1.wds.lt
        have hqq := H.out.1.bgs.lt
        have hl1 := tY.lo1
        have hne : W.heap.size ≠ W2.heap.size := by have := HX.out.2.2.2.2; omega
        have HF := Lib.hid (And.intro (tY.set x (by omega) (by omega) (by omega)) (And.intro (tB.far (p := ⟨W2.heap.size, x, none⟩) hne (.bool true)) (KL.kept (tK.setCell (p := ⟨W2.heap.size, x, none⟩) (.inl (by simp)) (.bool true)) hWs)))
        clear tY tB tK hgg hpp hqq hl1 hne hTd hT0 q0 q1 q2 q3 hib hhd hho2
        generalize (metB ws.length ys).getD x false = y at *
        gi_wp2
        rw [HT.out.2]
        exact ⟨HF.out.2.2.more (by simp), .inl ⟨HF.out.1, HF.out.2.1, hk⟩⟩
      · obtain rfl : k = (L c).length := by omega
        have hx0v : (L c ++ [x0]).getD (L c).length 0 = x0 := by simp
        rw [hx0v]
        rw [List.take_length] at hY
        have hbad := H.out.2.2.2.2.2.1
        have hx0 := H.out.2.2.2.1
        have hxs := H.out.2.2.2.2.1
        have hxi : (x0 : Int) < 4294967296 := by omega
        have hbl := H.out.1.len
        obtain ⟨T, hT⟩ : ∃ T : World → Prop, T = fun w' => Ar w' g p q ws bs ∧ Blk w' w.heap.size 25 #[.pointer (some ⟨g, 0, none⟩)] ∧ Blk w' W3.heap.size 63 #[.slice (some ⟨W2.heap.size, 0, none⟩) ws.length ws.length] ∧ Blk w' W2.heap.size 4 (bcs (metB ws.length (catL L c ++ L c))) ∧ Blk w' W.heap.size 3 #[.int .i64 (c : Int)] := ⟨_, rfl⟩
        have hTd : ∀ w' n, T w' → T (w'.drewN n) := by rw [hT]; exact fun w' n h => ⟨h.1.drewN n, h.2⟩
        have hT0 : T Y.drew := by rw [hT]; exact ⟨hY.ar.drew, hY.x1, hY.x3, hY.m, bY⟩
        have q0 : ∀ w', T w' → w'.cell? ⟨w.heap.size, 0, none⟩ = some (.pointer (some ⟨g, 0, none⟩)) := by rw [hT]; exact fun w' h' => h'.2.1.cell 0
        have q1 : ∀ w', T w' → w'.cell? ⟨W.heap.size, 0, none⟩ = some (.int .i64 (c : Int)) := by rw [hT]; exact fun w' h' => h'.2.2.2.2.cell 0
        have q2 : ∀ w', T w' → w'.cell? ⟨W3.heap.size, 0, none⟩ = some (.slice (some ⟨W2.heap.size, 0, none⟩) ws.length ws.length) := by rw [hT]; exact fun w' h' => h'.2.2.1.cell 0
        have hib := fun w' (h' : T w') => (isblock_any (show Ar w' g p q ws bs by rw [hT] at h'; exact h'.1) (x0 : Int)).mono (R' := fun e' w2 => e' = .returned (.bool (bs.getD x0 false)) ∧ ∃ n, w2 = w'.drewN n) fun e' w2 h => ⟨by rw [h.1]; unfold isB; simp only [Int.toNat_natCast]; simp, 0, h.2.symm⟩
        have hho2 := fun w' (_ : T w') => (headof_any c false (by omega) w').mono (R' := fun e w2 => e = .returned (.int .u32 ((hdN c false : Nat) : Int)) ∧ ∃ n, w2 = w'.drewN n) fun e w2 h => ⟨h.1, 0, h.2.symm⟩
        have hne : MtNe g p q w.heap.size W1.heap.size W3.heap.size W2.heap.size := by
          have := H.out.1.box.lt; have := H.out.1.wds.lt; have := H.out.1.bgs.lt
          have h1 := H.out.2.2.2.2.2.2.2.2.2.2.2
          have h2 := HX.out.1.lo1
          have h3 := HX.out.1.ne
          have h5 : W3.heap.size ≠ W1.heap.size := fun e => by
            have h4 : X.heap[W3.heap.size]? = _ := HX.out.1.x3
            rw [e, show X.heap[W1.heap.size]? = _ from HX.out.1.x2] at h4
            cases h4
          exact ⟨by omega, by omega, by omega, by omega, by omega, by omega⟩
        have HT := Lib.hid (show ∀ n, Mt w g p q ws bs w.heap.size W1.heap.size W3.heap.size W2.heap.size (catL L c ++ L c) ds (Y.drew.drewN n) ∧ Kept [W2.heap.size] Y (Y.drew.drewN n) ∧ MtNe g p q w.heap.size W1.heap.size W3.heap.size W2.heap.size from fun n => ⟨hY.later ⟨rfl, rfl, rfl, Nat.le_refl _, fun _ _ => rfl⟩, ((Kept.refl _ Y).drew).drewN n, hne⟩)
        by_cases hb : bs.getD x0 false = true
        · have hxl : x0 < ws.length := by
            rcases Nat.lt_or_ge x0 ws.length with h9 | h9
            · exact h9
            · simp [List.getElem?_eq_none (show bs.length ≤ x0 by omega)] at hb
          rw [hb] at hib
          have hhd := fun w' (h' : T w') => (head_any (show Ar w' g p q ws bs by rw [hT] at h'; exact h'.1) x0 (by omega) hxl).mono (R' := fun e' w2 => e' = .returned (.int .u32 ((ws.getD (x0 - 1) 0 : Nat) : Int)) ∧ ∃ n, w2 = w'.drewN n) fun e' w2 h => ⟨h.1, 0, h.2.symm⟩
          have d5 : decide ((x0 : Int) < (ws.length : Int)) = true := decide_eq_true (by omega)
          have d6 : decide (x0 < ws.length) = true := decide_eq_true (by omega)
          by_cases hh : ws.getD (x0 - 1) 0 = hdN c false
          · have hm : x0 ∈ L c := by
              rcases hbad with h9 | h9 | h9
              · rw [hb] at h9; cases h9
              · exact absurd hh h9.2
              · exact h9
            rw [hh] at hhd
            have hgt := metB_get ws.length (catL L c ++ L c) x0 hxl
            rw [decide_eq_true (List.mem_append.2 (.inr hm))] at hgt
            have q3 : ∀ w', T w' → w'.cell? ⟨W2.heap.size, x0, none⟩ = some (.bool true) := by rw [hT]; exact fun w' h' => by rw [← hgt]; exact (h'.2.2.2.1.cell x0).trans (bcs_get (by rw [metB_len]; exact hxl))
            clear hbad hm hgt hh hY bY hx0v
            generalize hdN c false = hv at *
            gi_wp2_with fail
            refine wp_region_linI T [] [0, 1, 2, 3, 4, 5, 6, 7, 8, 9, 10, 11, 12, 13, 14, 15, 16, 17] (by kernel_rfl) (by kernel_rfl) (by kernel_rfl) hTd hT0 ?_
            (repeat (first | (refine linI_off rfl rfl (by rfl) ?_; (try simp only [Act.put, List.getElem_toArray, List.getElem_cons_zero, List.getElem_cons_succ, List.setIfInBounds_toArray, List.set_cons_zero, List.set_cons_succ])) | (refine linI_op (v := ?_) rfl rfl (by rfl) (fun w9 hS9 => ?_) ?_; rotate_left; (focus ((have k0 := q0 w9 hS9; have k1 := q1 w9 hS9; have k2 := q2 w9 hS9; have k3 := q3 w9 hS9; (try dsimp only at hS9); go_simp; (try go_bits)) <;> with_reducible rfl)); (try simp only [Act.put, List.getElem_toArray, List.getElem_cons_zero, List.getElem_cons_succ, List.setIfInBounds_toArray, List.set_cons_zero, List.set_cons_succ])) | (refine linI_fn (f := 73) rfl rfl (by rfl) rfl rfl (enters_of Try.func73 (by kernel_rfl) rfl) (fun w9 hS9 => hib w9 hS9) ?_ ?_; (focus (simp [Act.eval]; done)); (try simp only [Act.put, List.getElem_toArray, List.getElem_cons_zero, List.getElem_cons_succ, List.setIfInBounds_toArray, List.set_cons_zero, List.set_cons_succ])) | (refine linI_fn (f := 57) rfl rfl (by rfl) rfl rfl (enters_of Try.func57 (by kernel_rfl) rfl) (fun w9 hS9 => hhd w9 hS9) ?_ ?_; (focus (simp [Act.eval]; done)); (try simp only [Act.put, List.getElem_toArray, List.getElem_cons_zero, List.getElem_cons_succ, List.setIfInBounds_toArray, List.set_cons_zero, List.set_cons_succ])) | (refine linI_fn (f := 50) rfl rfl (by rfl) rfl rfl (enters_of Try.func50 (by kernel_rfl) rfl) (fun w9 hS9 => hho2 w9 hS9) ?_ ?_; (focus (simp [Act.eval]; done)); (try simp only [Act.put, List.getElem_toArray, List.getElem_cons_zero, List.getElem_cons_succ, List.setIfInBounds_toArray, List.set_cons_zero, List.set_cons_succ]))))
            refine linI_nil (fun n2 => ?_)
            obtain ⟨tY, tK, tN⟩ := HT.out n2
            generalize Y.drew.drewN n2 = U at *
            have cR := tY.x2.cell 0
            have fR := tY.x2.free 0
            have HF := Lib.hid (And.intro (tY.ret tN) (KL.kept ((tK.more (T := [W2.heap.size, W1.heap.size]) (by simp)).setCell (p := ⟨W1.heap.size, 0, none⟩) (.inl (by simp)) (.bool false)) hWs))
            clear tY tK tN hT hTd hT0 HT q0 q1 q2 q3 hib hhd hho2
            gi_wp2
            exact ⟨HF.out.2, .inr ⟨rfl, HF.out.1⟩⟩
          · clear hbad hY bY hx0v
            generalize hdN c false = hv at *
            generalize ws.getD (x0 - 1) 0 = yv at *
            have d7 : ((yv : Int) == (hv : Int)) = false := by simp; omega
            have d8 : ¬ ((yv : Int) = (hv : Int)) := by omega
            have d9 : ((yv : Int) != (hv : Int)) = true := by simp; omega
            gi_wp2_with fail
            refine wp_region_linI T [] [0, 1, 2, 3, 4, 5, 6, 7, 8, 9, 10, 11, 12, 13, 14, 15, 16, 17] (by kernel_rfl) (by kernel_rfl) (by kernel_rfl) hTd hT0 ?_
            (repeat (first | (refine linI_off rfl rfl (by rfl) ?_; (try simp only [Act.put, List.getElem_toArray, List.getElem_cons_zero, List.getElem_cons_succ, List.setIfInBounds_toArray, List.set_cons_zero, List.set_cons_succ])) | (refine linI_op (v := ?_) rfl rfl (by rfl) (fun w9 hS9 => ?_) ?_; rotate_left; (focus ((have k0 := q0 w9 hS9; have k1 := q1 w9 hS9; have k2 := q2 w9 hS9; (try dsimp only at hS9); go_simp; (try go_bits)) <;> with_reducible rfl)); (try simp only [Act.put, List.getElem_toArray, List.getElem_cons_zero, List.getElem_cons_succ, List.setIfInBounds_toArray, List.set_cons_zero, List.set_cons_succ])) | (refine linI_fn (f := 73) rfl rfl (by rfl) rfl rfl (enters_of Try.func73 (by kernel_rfl) rfl) (fun w9 hS9 => hib w9 hS9) ?_ ?_; (focus (simp [Act.eval]; done)); (try simp only [Act.put, List.getElem_toArray, List.getElem_cons_zero, List.getElem_cons_succ, List.setIfInBounds_toArray, List.set_cons_zero, List.set_cons_succ])) | (refine linI_fn (f := 57) rfl rfl (by rfl) rfl rfl (enters_of Try.func57 (by kernel_rfl) rfl) (fun w9 hS9 => hhd w9 hS9) ?_ ?_; (focus (simp [Act.eval]; done)); (try simp only [Act.put, List.getElem_toArray, List.getElem_cons_zero, List.getElem_cons_succ, List.setIfInBounds_toArray, List.set_cons_zero, List.set_cons_succ])) | (refine linI_fn (f := 50) rfl rfl (by rfl) rfl rfl (enters_of Try.func50 (by kernel_rfl) rfl) (fun w9 hS9 => hho2 w9 hS9) ?_ ?_; (focus (simp [Act.eval]; done)); (try simp only [Act.put, List.getElem_toArray, List.getElem_cons_zero, List.getElem_cons_succ, List.setIfInBounds_toArray, List.set_cons_zero, List.set_cons_succ]))))
            refine linI_nil (fun n2 => ?_)
            obtain ⟨tY, tK, tN⟩ := HT.out n2
            generalize Y.drew.drewN n2 = U at *
            have cR := tY.x2.cell 0
            have fR := tY.x2.free 0
            have HF := Lib.hid (And.intro (tY.ret tN) (KL.kept ((tK.more (T := [W2.heap.size, W1.heap.size]) (by simp)).setCell (p := ⟨W1.heap.size, 0, none⟩) (.inl (by simp)) (.bool false)) hWs))
            clear tY tK tN hT hTd hT0 HT q0 q1 q2 hib hhd hho2 d7 d8 d9
            gi_wp2
            exact ⟨HF.out.2, .inr ⟨rfl, HF.out.1⟩⟩
        · have hb2 : bs.getD x0 false = false := by simpa using hb
          rw [hb2] at hib
          clear hbad hb hY bY hx0v
          have hhd := fun (w' : World) (h' : T w') => hho2 w' h'
          generalize hdN c false = hv at *
          gi_wp2_with fail
          refine wp_region_linI T [] [0, 1, 2, 3, 4, 5, 6, 7, 8, 9, 10, 11, 12, 13, 14, 15, 16, 17] (by kernel_rfl) (by kernel_rfl) (by kernel_rfl) hTd hT0 ?_
          (repeat (first | (refine linI_off rfl rfl (by rfl) ?_; (try simp only [Act.put, List.getElem_toArray, List.getElem_cons_zero, List.getElem_cons_succ, List.setIfInBounds_toArray, List.set_cons_zero, List.set_cons_succ])) | (refine linI_op (v := ?_) rfl rfl (by rfl) (fun w9 hS9 => ?_) ?_; rotate_left; (focus ((have k0 := q0 w9 hS9; have k1 := q1 w9 hS9; have k2 := q2 w9 hS9; (try dsimp only at hS9); go_simp; (try go_bits)) <;> with_reducible rfl)); (try simp only [Act.put, List.getElem_toArray, List.getElem_cons_zero, List.getElem_cons_succ, List.setIfInBounds_toArray, List.set_cons_zero, List.set_cons_succ])) | (refine linI_fn (f := 73) rfl rfl (by rfl) rfl rfl (enters_of Try.func73 (by kernel_rfl) rfl) (fun w9 hS9 => hib w9 hS9) ?_ ?_; (focus (simp [Act.eval]; done)); (try simp only [Act.put, List.getElem_toArray, List.getElem_cons_zero, List.getElem_cons_succ, List.setIfInBounds_toArray, List.set_cons_zero, List.set_cons_succ])) | (refine linI_fn (f := 57) rfl rfl (by rfl) rfl rfl (enters_of Try.func57 (by kernel_rfl) rfl) (fun w9 hS9 => hhd w9 hS9) ?_ ?_; (focus (simp [Act.eval]; done)); (try simp only [Act.put, List.getElem_toArray, List.getElem_cons_zero, List.getElem_cons_succ, List.setIfInBounds_toArray, List.set_cons_zero, List.set_cons_succ])) | (refine linI_fn (f := 50) rfl rfl (by rfl) rfl rfl (enters_of Try.func50 (by kernel_rfl) rfl) (fun w9 hS9 => hho2 w9 hS9) ?_ ?_; (focus (simp [Act.eval]; done)); (try simp only [Act.put, List.getElem_toArray, List.getElem_cons_zero, List.getElem_cons_succ, List.setIfInBounds_toArray, List.set_cons_zero, List.set_cons_succ]))))
          refine linI_nil (fun n2 => ?_)
          obtain ⟨tY, tK, tN⟩ := HT.out n2
          generalize Y.drew.drewN n2 = U at *
          have cR := tY.x2.cell 0
          have fR := tY.x2.free 0
          have HF := Lib.hid (And.intro (tY.ret tN) (KL.kept ((tK.more (T := [W2.heap.size, W1.heap.size]) (by simp)).setCell (p := ⟨W1.heap.size, 0, none⟩) (.inl (by simp)) (.bool false)) hWs))
          clear tY tK tN hT hTd hT0 HT q0 q1 q2 hib hhd hho2
          gi_wp2
          exact ⟨HF.out.2, .inr ⟨rfl, HF.out.1⟩⟩
    case stop =>
      rintro k Y hk hY hdef
      have hds : ∀ d ∈ ds, d < X.heap.size := fun d hd => (Array.getElem?_eq_some_iff.1 (HX.out.1.dd d hd).2).1
      have hdd : ∀ d ∈ X.heap.size :: ds, w.heap.size ≤ d ∧ Y.heap[d]? = some (.deferred (some [])) := by
        intro d hd
        rcases List.mem_cons.1 hd with rfl | hd
        · exact ⟨HX.out.1.kept.size, hdef⟩
        · exact hY.dd d hd
      have hnd : (X.heap.size :: ds).Nodup := List.nodup_cons.2 ⟨fun hm => by have := hds _ hm; omega, hY.nd⟩
      refine marks_cells (v := .bool false) (X.heap.size :: ds) Y hnd (fun d hd => (hdd d hd).2) fun w' g1 g2 g3 g4 g5 => ?_
      have hK : Kept (X.heap.size :: ds) Y w' := ⟨g2, g3, g4, by rw [g1]; exact Nat.le_refl _, fun k _ hk => g5 k hk⟩
      have hk9 := hY.kept
      have hne : ∀ b t cs, Blk Y b t cs → b ∉ X.heap.size :: ds := fun b t cs hb hm => by
        have := (hdd b hm).2
        rw [show Y.heap[b]? = _ from hb] at this
        cases this
      have cr2 := ((hY.x2).kept hK (hne _ _ _ hY.x2)).cell 0
      refine ⟨by simp [results, Try.results44, go_sem, cr2], rfl, ?_⟩
      exact ⟨hK.os.trans hk9.os, hK.tape.trans hk9.tape, hK.output.trans hk9.output, Nat.le_trans hk9.size hK.size, fun k hk _ => (g5 k (fun hm => by have := (hdd k hm).1; omega)).trans (hk9.block k hk (by simp))⟩
end Go.Proofs.Ytgnpoehcmlmajaa
