/-
  Decode, in parts: a free block is in no list, or is not nought behind its first word (inLists says no). Nothing here is a statement of the document.
-/
import Derived.Test.YtgnpoehcmlmajaaDcI
import Derived.Test.YtgnpoehcmlmajaaDcF
namespace Go.Proofs.Ytgnpoehcmlmajaa
open Go.RowKit Go.Shelf
set_option linter.unusedVariables false

attribute [local go_sem] Oper.semAt_some
set_option maxRecDepth 100000 in
set_option maxHeartbeats 4000000 in
theorem inlists_piece {w : World} {g p q : Nat} {ws : List Nat} {bs : List Bool} {B : List Bl} {L : Nat → List Nat} (h : Ar w g p q ws bs) (hF : Fl ws bs L) (hC : Chain ws 16 B) (he : ws.getD 15 0 ≤ ws.length) {m0 : Nat} (hm : m0 < (ofT false B).length)
    (hgood : ∀ k, k < m0 → ∀ b, (ofT false B)[k]? = some b → b.x ∈ L b.c ∧ ∀ i, b.x < i → i < b.x + 2 ^ b.c → ws.getD i 0 = 0)
    (hbad : ∀ b, (ofT false B)[m0]? = some b → b.x ∉ L b.c ∨ (b.x ∈ L b.c ∧ ∃ j, b.x + 1 + j < b.x + 2 ^ b.c ∧ (∀ i, i < j → ws.getD (b.x + 1 + i) 0 = 0) ∧ ws.getD (b.x + 1 + j) 0 ≠ 0)) :
    Calls Try.prog 44 #[.pointer (some ⟨g, 0, none⟩)] w fun e w' => e = .returned (.bool false) ∧ Kept [] w w' := by
  obtain ⟨W1, hW1⟩ : ∃ W1, w.alloc (.cells #[.pointer (some ⟨g, 0, none⟩)] 25) = W1 := ⟨_, rfl⟩
  have hb1 : Below w.heap.size w W1 := by rw [← hW1]; exact (Below.refl _ _).alloc (Nat.le_refl _) _
  have b1 : Blk W1 w.heap.size 25 #[.pointer (some ⟨g, 0, none⟩)] := by rw [← hW1]; exact Blk.new _ _ _
  have s1 : W1.heap.size = w.heap.size + 1 := by rw [← hW1]; simp
  obtain ⟨W2, hW2⟩ : ∃ W2, W1.alloc (.cells #[.bool false] 4) = W2 := ⟨_, rfl⟩
  have hb12 : Below W1.heap.size W1 W2 := by rw [← hW2]; exact (Below.refl _ _).alloc (Nat.le_refl _) _
  have b2 : Blk W2 W1.heap.size 4 #[.bool false] := by rw [← hW2]; exact Blk.new _ _ _
  have b1' : Blk W2 w.heap.size 25 #[.pointer (some ⟨g, 0, none⟩)] := (hb12.block _ b1.lt).trans b1
  have hb2 : Below w.heap.size w W2 := hb1.trans (hb12.mono hb1.size)
  have s2 : W2.heap.size = W1.heap.size + 1 := by rw [← hW2]; simp
  have hA2 := h.later hb2
  have cb : W2.cell? ⟨w.heap.size, 0, none⟩ = some (.pointer (some ⟨g, 0, none⟩)) := b1'.cell 0
  have c0 := hA2.c0
  have hlo := h.lo
  have H := Lib.hid (And.intro h (And.intro hF (And.intro hC (And.intro he (And.intro hgood (And.intro (And.intro hbad hm) (And.intro h.hi (And.intro hb2 (And.intro b1' (And.intro b2 (And.intro hA2 (And.intro s1 s2))))))))))))
  have n1 : (0 : Int) ≤ (ws.length : Int) := by omega
  obtain ⟨i0, hi, hi0, hi1, hi2⟩ := info_parts i_boo
  have hhi16 := h.hi
  have hmk := run_make (P := Try.prog) W2 63 4 i0 (.bool false) Try.underlying63 hi hi0 .i64 .i64 (ws.length : Int) (ws.length : Int) (by omega) (by omega) (by rw [hi2]; omega) (by omega)
  rw [hi1, show (ws.length : Int).toNat = ws.length from by omega, made_begins] at hmk
  clear hi hi0 hi1 hi2 hhi16
  obtain ⟨W3, hW3⟩ : ∃ W3, W2.alloc (.cells (bcs (List.replicate ws.length false)) 4) = W3 := ⟨_, rfl⟩
  rw [hW3] at hmk
  have d1 : decide (((ws.length : Nat) : Int) < 0) = false := decide_eq_false (by omega)
  have HN := Lib.hid hlo
  clear h hF hC he hgood hbad hm hb1 b1 hb12 b2 b1' hb2 hA2 s1 s2 hlo
  refine calls_of_wp_marks Try.func44 rfl ?_
  simp only [Try.ntmps44, List.size_toArray, List.length_cons, List.length_nil, Nat.reduceAdd, Nat.reduceSub, Array.replicate_succ, Array.replicate_zero, List.push_toArray, List.append_toArray, List.nil_append, List.cons_append]
  go_wp2_with fail
  obtain ⟨W4, hW4⟩ : ∃ W4, W3.alloc (.cells #[.slice (some ⟨W2.heap.size, 0, none⟩) ws.length ws.length] 63) = W4 := ⟨_, rfl⟩
  rw [hW4]
  have hM0 : Mt w g p q ws bs w.heap.size W1.heap.size W3.heap.size W2.heap.size (catL L 0) [] W4 := by
    have s1 := H.out.2.2.2.2.2.2.2.2.2.2.2.1
    have s2 := H.out.2.2.2.2.2.2.2.2.2.2.2.2
    have s3 : W3.heap.size = W2.heap.size + 1 := by rw [← hW3]; simp
    have k3 : Below W2.heap.size W2 W3 := by rw [← hW3]; exact (Below.refl _ _).alloc (Nat.le_refl _) _
    have k4 : Below W3.heap.size W3 W4 := by rw [← hW4]; exact (Below.refl _ _).alloc (Nat.le_refl _) _
    have k34 := k3.trans (k4.mono k3.size)
    have hbb := H.out.2.2.2.2.2.2.2.1
    have m3 : Blk W3 W2.heap.size 4 (bcs (metB ws.length (catL L 0))) := by rw [← hW3]; exact Blk.new _ _ _
    have m4 : Blk W4 W3.heap.size 63 #[.slice (some ⟨W2.heap.size, 0, none⟩) ws.length ws.length] := by rw [← hW4]; exact Blk.new _ _ _
    exact ⟨H.out.2.2.2.2.2.2.2.2.2.2.1.later k34, (k34.block _ H.out.2.2.2.2.2.2.2.2.1.lt).trans H.out.2.2.2.2.2.2.2.2.1, (k34.block _ H.out.2.2.2.2.2.2.2.2.2.1.lt).trans H.out.2.2.2.2.2.2.2.2.2.1, m4, (k4.block _ m3.lt).trans m3, by omega, List.nodup_nil, by simp, Kept.of_below [] (hbb.trans (k34.mono hbb.size)), by omega⟩
  have HW := Lib.hid hW3
  clear hW1 hW2 hW3 hW4 hmk cb c0
  refine wp_loop_ghost_k (fun k a W => ∃ (c : Nat) (u4 u15 u16 u17 u18 u19 u42 : Value) (ds : List Nat), k + c = 6 ∧ a = { tmps := #[.pointer (some ⟨g, 0, none⟩), .pointer (some ⟨w.heap.size, 0, none⟩), .pointer (some ⟨W1.heap.size, 0, none⟩), .pointer (some ⟨W3.heap.size, 0, none⟩), u4, undef, undef, undef, .pointer (some ⟨g, 0, none⟩), .pointer (some ⟨g, 0, none⟩), .pointer (some ⟨g, 0, none⟩), .slice (some ⟨p, 0, none⟩) ws.length ws.length, .int .i64 (ws.length : Int), .slice (some ⟨W2.heap.size, 0, none⟩) ws.length ws.length, .int .i64 (c : Int), u15, u16, u17, u18, u19, undef, undef, undef, undef, undef, undef, undef, undef, undef, undef, undef, undef, undef, undef, undef, undef, undef, undef, undef, undef, undef, undef, u42, undef, undef, undef, undef, undef, undef, undef, undef, undef, undef, undef, undef, undef, undef, undef, undef, undef, undef, undef, undef, undef, undef, undef, undef, undef, undef, undef, undef, undef, undef], defers := marks ds } ∧ Mt w g p q ws bs w.heap.size W1.heap.size W3.heap.size W2.heap.size (catL L c) ds W) 6 ⟨0, undef, undef, undef, undef, undef, undef, undef, [], rfl, rfl, hM0⟩ ?_
  rintro k a W ⟨c, u4, u15, u16, u17, u18, u19, u42, ds, hkc, rfl, hM⟩ J K hJ hK
  by_cases hc : c < 6
  · have d1 : decide ((c : Int) < 6) = true := decide_eq_true (by omega)
    obtain ⟨V, hV⟩ : ∃ V, W.alloc (.cells #[.int .i64 (c : Int)] 3) = V := ⟨_, rfl⟩
    have kV : Below W.heap.size W V := by rw [← hV]; exact (Below.refl _ _).alloc (Nat.le_refl _) _
    have bV : Blk V W.heap.size 3 #[.int .i64 (c : Int)] := by rw [← hV]; exact Blk.new _ _ _
    have hMV := hM.later kV
    have cb := hMV.x1.cell 0
    have cc := bV.cell 0
    have HM := Lib.hid (And.intro hMV (And.intro bV (And.intro hkc (And.intro hM.m.lt (show V.heap.size = W.heap.size + 1 by rw [← hV]; simp)))))
    clear hM kV bV hMV hkc
    go_wp2_with fail
    refine (list_any (some ⟨g, 0, none⟩) (c : Int) V).mono ?_
    rintro e3 X ⟨rfl, hX⟩
    obtain ⟨X1, hX1⟩ : ∃ X1, V.alloc (.cells #[.pointer (some ⟨g, 0, none⟩)] 25) = X1 := ⟨_, rfl⟩
    rw [hX1] at hX
    have x1 : Blk X1 V.heap.size 25 #[.pointer (some ⟨g, 0, none⟩)] := by rw [← hX1]; exact Blk.new _ _ _
    have xs1 : X1.heap.size = V.heap.size + 1 := by rw [← hX1]; simp
    have kX1 : Below V.heap.size V X1 := by rw [← hX1]; exact (Below.refl _ _).alloc (Nat.le_refl _) _
    have kX2 : Below X1.heap.size X1 X := by rw [hX]; exact (Below.refl _ _).alloc (Nat.le_refl _) _
    have x2 : Blk X (V.heap.size + 1) 3 #[.int .i64 (c : Int)] := by rw [← xs1, hX]; exact Blk.new _ _ _
    have x1' := (kX2.block _ x1.lt).trans x1
    have kX := kX1.trans (kX2.mono kX1.size)
    have hMX := HM.out.1.later kX
    have bX : Blk X W.heap.size 3 #[.int .i64 (c : Int)] := (kX.block _ HM.out.2.1.lt).trans HM.out.2.1
    have hF := H.out.2.1
    have hmem := hF.mem c (by omega)
    have hMXs : W.heap.size < X.heap.size := bX.lt
    have hmb : W2.heap.size < W.heap.size := HM.out.2.2.2.1
    have hVs := HM.out.2.2.2.2
    have hgg := H.out.1.box.lt
    have hpp := H.out.1.wds.lt
    have hl1 := HM.out.1.lo1
    have hseq := list_low (S := [W2.heap.size]) hMX.ar.aw (by omega) (hF.lst c (by omega)) (fun k hk => by have := hmem _ (List.getElem_mem hk); simp [hk]; exact this.2.1) x1' x2 (by simp; omega) (by simp; omega) (by simp; omega) (by simp; omega) (hF.nodup c (by omega))
    have HX := Lib.hid (And.intro hMX (And.intro bX (And.intro hF (And.intro hMXs hmb))))
    clear hMX bX hF hmem hMXs hmb hVs hgg hpp hl1 x1 x1' x2 xs1 kX1 kX2 kX hX1 hX cb cc
    go_wp2_with fail
    refine wp_range_low (S := [W2.heap.size]) (N := (L c).length) (enc := encL (L c)) none (fun _ => rfl) rfl (fun _ _ => by simp [go_sem, enters_of Try.func85 (by kernel_rfl) rfl]) hseq (fun k hk => by simp at hk; rw [hk]; exact HX.out.1.m.lt)
      (fun k Y => Mt w g p q ws bs w.heap.size W1.heap.size W3.heap.size W2.heap.size (catL L c ++ (L c).take k) ds Y ∧ Blk Y W.heap.size 3 #[.int .i64 (c : Int)])
      (fun _ _ => False) ?hI ?hIx ⟨by rw [List.take_zero, List.append_nil]; exact HX.out.1, HX.out.2.1⟩
      (fun k a' Y => a' = { tmps := #[.pointer (some ⟨g, 0, none⟩), .pointer (some ⟨w.heap.size, 0, none⟩), .pointer (some ⟨W1.heap.size, 0, none⟩), .pointer (some ⟨W3.heap.size, 0, none⟩), .pointer (some ⟨W.heap.size, 0, none⟩), .int .i64 (((L c).getD k 0 : Nat) : Int), undef, undef, .pointer (some ⟨g, 0, none⟩), .pointer (some ⟨g, 0, none⟩), .pointer (some ⟨g, 0, none⟩), .slice (some ⟨p, 0, none⟩) ws.length ws.length, .int .i64 (ws.length : Int), .slice (some ⟨W2.heap.size, 0, none⟩) ws.length ws.length, .int .i64 (c : Int), .bool true, .int .i64 (c : Int), .pointer (some ⟨g, 0, none⟩), .int .i64 (c : Int), .func (.func 85) #[] #[.pointer (some ⟨V.heap.size, 0, none⟩), .pointer (some ⟨V.heap.size + 1, 0, none⟩)], .int .i64 (((L c).getD k 0 : Nat) : Int), undef, undef, undef, undef, undef, undef, undef, undef, undef, undef, undef, undef, undef, undef, undef, undef, undef, undef, undef, undef, undef, u42, undef, undef, undef, undef, undef, undef, undef, undef, undef, undef, undef, undef, undef, undef, undef, undef, undef, undef, undef, undef, undef, undef, undef, undef, undef, undef, undef, undef, undef, undef], defers := [] })
      ?hAx ?assign ?body ?done ?stop
    case hI => exact OwnFrom.and (own_mt _ _ (fun d hd => (Array.getElem?_eq_some_iff.1 (HX.out.1.dd d hd).2).1) HX.out.1.kept.size) (own_blk _ _ _ _)
    case hIx => exact fun s X Y row hs hg hr => hs
    case hAx => exact fun k a' s X Y row hs hg hr => hs
    case assign =>
      rintro k Y K9 hk hX hI hK9
      simp only [List.zip_toArray, List.zip_cons_cons, List.zip_nil_right, List.zip_nil_left, List.size_toArray, List.foldl_toArray', List.foldl_toArray, List.foldl_cons, List.foldl_nil, List.setIfInBounds_toArray, List.set_cons_zero, List.set_cons_succ, encL]
      generalize (L c).getD k 0 = x at *
      gi_wp2
      exact hK9 _ _ (KL.refl _ _ _) hI rfl
    case body =>
      rintro k a' Y ⟨hY, bY⟩ rfl hk hWs
      have hx0 : (L c).getD k 0 = (L c)[k] := by simp [hk]
      obtain ⟨m1, m2, m3, m4⟩ := HX.out.2.2.1.mem c (by omega) _ (List.getElem_mem hk)
      have hfr := HX.out.2.2.1.fresh (c := c) (by omega) hk
      have htk : catL L c ++ (L c).take (k + 1) = (catL L c ++ (L c).take k) ++ [(L c)[k]] := by rw [List.append_assoc, List.take_append_getElem]
      have hgt := metB_get ws.length (catL L c ++ (L c).take k) _ m2
      rw [decide_eq_false hfr] at hgt
      rw [hx0]
      have hho := fun w' => (headof_any c false (by omega) w').mono (R' := fun e w2 => e = .returned (.int .u32 ((hdN c false : Nat) : Int)) ∧ ∃ n, w2 = w'.drewN n) fun e w2 h => ⟨h.1, 0, h.2.symm⟩
      generalize (L c)[k] = x at *
      generalize hys : catL L c ++ (L c).take k = ys at *
      obtain ⟨T, hT⟩ : ∃ T : World → Prop, T = fun w' => Ar w' g p q ws bs ∧ Blk w' w.heap.size 25 #[.pointer (some ⟨g, 0, none⟩)] ∧ Blk w' W3.heap.size 63 #[.slice (some ⟨W2.heap.size, 0, none⟩) ws.length ws.length] ∧ Blk w' W2.heap.size 4 (bcs (metB ws.length ys)) ∧ Blk w' W.heap.size 3 #[.int .i64 (c : Int)] := ⟨_, rfl⟩
      have hTd : ∀ w' n, T w' → T (w'.drewN n) := by rw [hT]; exact fun w' n h => ⟨h.1.drewN n, h.2⟩
      have hT0 : T Y.drew := by rw [hT]; exact ⟨hY.ar.drew, hY.x1, hY.x3, hY.m, bY⟩
      have q0 : ∀ w', T w' → w'.cell? ⟨w.heap.size, 0, none⟩ = some (.pointer (some ⟨g, 0, none⟩)) := by rw [hT]; exact fun w' h' => h'.2.1.cell 0
      have q1 : ∀ w', T w' → w'.cell? ⟨W.heap.size, 0, none⟩ = some (.int .i64 (c : Int)) := by rw [hT]; exact fun w' h' => h'.2.2.2.2.cell 0
      have q2 : ∀ w', T w' → w'.cell? ⟨W3.heap.size, 0, none⟩ = some (.slice (some ⟨W2.heap.size, 0, none⟩) ws.length ws.length) := by rw [hT]; exact fun w' h' => h'.2.2.1.cell 0
      have q3 : ∀ w', T w' → w'.cell? ⟨W2.heap.size, x, none⟩ = some (.bool false) := by rw [hT]; exact fun w' h' => by rw [← hgt]; exact (h'.2.2.2.1.cell x).trans (bcs_get (by rw [metB_len]; exact m2))
      have hib := fun w' (h' : T w') => (isblock_any (show Ar w' g p q ws bs by rw [hT] at h'; exact h'.1) (x : Int)).mono (R' := fun e' w2 => e' = .returned (.bool true) ∧ ∃ n, w2 = w'.drewN n) fun e' w2 h => ⟨by rw [h.1]; unfold isB; simp only [Int.toNat_natCast, m3]; simp, 0, h.2.symm⟩
      have hhd := fun w' (h' : T w') => (head_any (show Ar w' g p q ws bs by rw [hT] at h'; exact h'.1) x m1 m2).mono (R' := fun e' w2 => e' = .returned (.int .u32 ((hdN c false : Nat) : Int)) ∧ ∃ n, w2 = w'.drewN n) fun e' w2 h => ⟨by rw [h.1, m4], 0, h.2.symm⟩
      have hho2 := fun w' (_ : T w') => hho w'
      have d5 : decide ((x : Int) < (ws.length : Int)) = true := decide_eq_true (by omega)
      have d6 : decide (x < ws.length) = true := decide_eq_true (by omega)
      have hTT : ∀ n, Mt w g p q ws bs w.heap.size W1.heap.size W3.heap.size W2.heap.size ys ds (Y.drew.drewN n) ∧ Blk (Y.drew.drewN n) W.heap.size 3 #[.int .i64 (c : Int)] ∧ Kept [W2.heap.size] Y (Y.drew.drewN n) := fun n => ⟨hY.later ⟨rfl, rfl, rfl, Nat.le_refl _, fun _ _ => rfl⟩, bY, ((Kept.refl _ Y).drew).drewN n⟩
      have HT := Lib.hid (And.intro hTT htk)
      clear hT hTT htk hY bY hho hgt hfr m3 m4 hseq hys
      generalize hdN c false = hv at *
      gi_wp2_with fail
      refine wp_region_linI T [] [0, 1, 2, 3, 4, 5, 6, 7, 8, 9, 10, 11, 12, 13, 14, 15, 16, 17] (by kernel_rfl) (by kernel_rfl) (by kernel_rfl) hTd hT0 ?_
      (repeat (first | (refine linI_off rfl rfl (by rfl) ?_; (try simp only [Act.put, List.getElem_toArray, List.getElem_cons_zero, List.getElem_cons_succ, List.setIfInBounds_toArray, List.set_cons_zero, List.set_cons_succ])) | (refine linI_op (v := ?_) rfl rfl (by rfl) (fun w9 hS9 => ?_) ?_; rotate_left; (focus ((have k0 := q0 w9 hS9; have k1 := q1 w9 hS9; have k2 := q2 w9 hS9; have k3 := q3 w9 hS9; (try dsimp only at hS9); go_simp; (try go_bits)) <;> with_reducible rfl)); (try simp only [Act.put, List.getElem_toArray, List.getElem_cons_zero, List.getElem_cons_succ, List.setIfInBounds_toArray, List.set_cons_zero, List.set_cons_succ])) | (refine linI_fn (f := 73) rfl rfl (by rfl) rfl rfl (enters_of Try.func73 (by kernel_rfl) rfl) (fun w9 hS9 => hib w9 hS9) ?_ ?_; (focus (simp [Act.eval]; done)); (try simp only [Act.put, List.getElem_toArray, List.getElem_cons_zero, List.getElem_cons_succ, List.setIfInBounds_toArray, List.set_cons_zero, List.set_cons_succ])) | (refine linI_fn (f := 57) rfl rfl (by rfl) rfl rfl (enters_of Try.func57 (by kernel_rfl) rfl) (fun w9 hS9 => hhd w9 hS9) ?_ ?_; (focus (simp [Act.eval]; done)); (try simp only [Act.put, List.getElem_toArray, List.getElem_cons_zero, List.getElem_cons_succ, List.setIfInBounds_toArray, List.set_cons_zero, List.set_cons_succ])) | (refine linI_fn (f := 50) rfl rfl (by rfl) rfl rfl (enters_of Try.func50 (by kernel_rfl) rfl) (fun w9 hS9 => hho2 w9 hS9) ?_ ?_; (focus (simp [Act.eval]; done)); (try simp only [Act.put, List.getElem_toArray, List.getElem_cons_zero, List.getElem_cons_succ, List.setIfInBounds_toArray, List.set_cons_zero, List.set_cons_succ]))))
      refine linI_nil (fun n2 => ?_)
      obtain ⟨tY, tB, tK⟩ := HT.out.1 n2
      generalize Y.drew.drewN n2 = U at *
      have cm := tY.x3.cell 0
      have cx := (tY.m.cell x).trans (bcs_get (by rw [metB_len]; exact m2))
      have fx := tY.m.free x
      have hgg := H.out.1.box.lt
      have hpp := H.out.1.wds.lt
      have hqq := H.out.1.bgs.lt
      have hl1 := tY.lo1
      have hne : W.heap.size ≠ W2.heap.size := by have := HX.out.2.2.2.2; omega
      have HF := Lib.hid (And.intro (tY.set x (by omega) (by omega) (by omega)) (And.intro (tB.far (p := ⟨W2.heap.size, x, none⟩) hne (.bool true)) (KL.kept (tK.setCell (p := ⟨W2.heap.size, x, none⟩) (.inl (by simp)) (.bool true)) hWs)))
      clear tY tB tK hgg hpp hqq hl1 hne hTd hT0 q0 q1 q2 q3 hib hhd hho2
      generalize (metB ws.length ys).getD x false = y at *
      gi_wp2
      rw [HT.out.2]
      exact ⟨HF.out.2.2, HF.out.1, HF.out.2.1⟩
    case done =>
      rintro Y ⟨hY, bY⟩ hdef
      rw [List.take_length, ← catL_succ] at hY
      have hMn : Mt w g p q ws bs w.heap.size W1.heap.size W3.heap.size W2.heap.size (catL L (c + 1)) (X.heap.size :: ds) Y := ⟨hY.ar, hY.x1, hY.x2, hY.x3, hY.m, hY.lo1, List.nodup_cons.2 ⟨fun hm => by have := (Array.getElem?_eq_some_iff.1 (HX.out.1.dd _ hm).2).1; omega, hY.nd⟩, by
        rintro d hd
        rcases List.mem_cons.1 hd with rfl | hd
        · exact ⟨HX.out.1.kept.size, hdef⟩
        · exact hY.dd d hd, hY.kept, hY.ne⟩
      have HN := Lib.hid hMn
      clear hMn hY bY hdef hseq
      go_wp2_with fail
      refine Handed.intro (k - 1) (by have := HM.out.2.2.1; omega) (hJ _ _ _ ⟨c + 1, _, _, _, _, _, _, _, X.heap.size :: ds, by have := HM.out.2.2.1; omega, by rw [show ((c + 1 : Nat) : Int) = (c : Int) + 1 from by omega]; rfl, HN.out⟩)
    case stop => rintro k Y hk hF hdef; exact hF.elim
  · obtain rfl : c = 6 := by omega
    have d1 : decide (((6 : Nat) : Int) < 6) = false := by decide
    have cb := hM.x1.cell 0
    have HM := Lib.hid hM
    clear hM hkc hc
    go_wp2_with fail
    refine (pieces_any (some ⟨g, 0, none⟩) false W).mono ?_
    rintro e3 X ⟨rfl, y1, y2, kX, xs1⟩
    have hMX := HM.out.later kX
    have hs12 := H.out.2.2.2.2.2.2.2.2.2.2.2
    have hseq := pieces_tells (S := [W1.heap.size]) false hMX.ar H.out.2.2.1 H.out.2.2.2.1 y1 y2 (by have := H.out.1.box.lt; simp; omega) (by have := H.out.1.wds.lt; simp; omega) (by have := H.out.1.bgs.lt; simp; omega) (by have := HM.out.x2.lt; simp; omega) (by have := HM.out.x2.lt; simp; omega) (by have := hMX.x2.lt; simpa using this)
    have HX := Lib.hid (And.intro hMX xs1)
    clear hs12 cb y1 y2 kX xs1 hMX
    go_wp2_with fail
    refine wp_range_row (S := [W1.heap.size]) (N := (ofT false B).length) (enc := encP false B) none (fun _ => rfl) rfl (fun _ _ => by simp [go_sem, enters_of Try.func77 (by kernel_rfl) rfl]) hseq (fun k hk => by simp at hk; rw [hk]; exact HX.out.1.x2.lt)
      (fun k Y => Mt w g p q ws bs w.heap.size W1.heap.size W3.heap.size W2.heap.size (catL L 6) ds Y ∧ k ≤ m0)
      (fun _ Y => Mt w g p q ws bs w.heap.size W1.heap.size W3.heap.size W2.heap.size (catL L 6) ds Y) ?hI ?hIx ⟨HX.out.1, Nat.zero_le _⟩
      (fun k a' Y => ∃ pb, a' = { tmps := #[.pointer (some ⟨g, 0, none⟩), .pointer (some ⟨w.heap.size, 0, none⟩), .pointer (some ⟨W1.heap.size, 0, none⟩), .pointer (some ⟨W3.heap.size, 0, none⟩), u4, undef, .pointer (some ⟨pb, 0, none⟩), undef, .pointer (some ⟨g, 0, none⟩), .pointer (some ⟨g, 0, none⟩), .pointer (some ⟨g, 0, none⟩), .slice (some ⟨p, 0, none⟩) ws.length ws.length, .int .i64 (ws.length : Int), .slice (some ⟨W2.heap.size, 0, none⟩) ws.length ws.length, .int .i64 6, .bool false, u16, u17, u18, u19, undef, undef, undef, undef, undef, undef, undef, undef, undef, undef, undef, undef, undef, undef, undef, undef, undef, undef, undef, undef, undef, undef, u42, .pointer (some ⟨g, 0, none⟩), .func (.func 77) #[] #[.pointer (some ⟨W.heap.size, 0, none⟩), .pointer (some ⟨W.heap.size + 1, 0, none⟩)], .agg #[.int .i64 (((ofT false B).getD k Bl.zero).x : Int), .int .i64 (((ofT false B).getD k Bl.zero).c : Int)], undef, undef, undef, undef, undef, undef, undef, undef, undef, undef, undef, undef, undef, undef, undef, undef, undef, undef, undef, undef, undef, undef, undef, undef, undef, undef, undef], defers := [] } ∧ Blk Y pb 86 #[.int .i64 (((ofT false B).getD k Bl.zero).x : Int), .int .i64 (((ofT false B).getD k Bl.zero).c : Int)])
      ?hAx ?assign ?body ?done ?stop
    case hI => exact OwnFrom.and (own_mt (β := Nat) _ (fun _ => catL L 6) (fun d hd => (Array.getElem?_eq_some_iff.1 (HX.out.1.dd d hd).2).1) HX.out.1.kept.size) (fun s X Y row hs hg hr => hs)
    case hIx => exact own_mt (β := Nat) _ (fun _ => catL L 6) (fun d hd => (Array.getElem?_eq_some_iff.1 (HX.out.1.dd d hd).2).1) HX.out.1.kept.size
    case hAx => exact fun k a' s X Y row ⟨pb, h1, h2⟩ hg hr => ⟨pb, h1, own_blk (β := Unit) _ _ _ (fun _ => _) () X Y row h2 hg hr⟩
    case assign =>
      rintro k Y K9 hk hY hI hK9
      simp only [List.zip_toArray, List.zip_cons_cons, List.zip_nil_right, List.zip_nil_left, List.size_toArray, List.foldl_toArray', List.foldl_toArray, List.foldl_cons, List.foldl_nil, List.setIfInBounds_toArray, List.set_cons_zero, List.set_cons_succ, encP, pccs]
      generalize (ofT false B).getD k Bl.zero = bb at *
      obtain ⟨Y1, hY1⟩ : ∃ Y1, Y.alloc (.cells #[.int .i64 (bb.x : Int), .int .i64 (bb.c : Int)] 86) = Y1 := ⟨_, rfl⟩
      have kY : Below Y.heap.size Y Y1 := by rw [← hY1]; exact (Below.refl _ _).alloc (Nat.le_refl _) _
      have bY1 : Blk Y1 Y.heap.size 86 #[.int .i64 (bb.x : Int), .int .i64 (bb.c : Int)] := by rw [← hY1]; exact Blk.new _ _ _
      gi_wp2
      exact hK9 _ _ (KX.below kY) ⟨hI.1.later kY, hI.2⟩ ⟨_, rfl, bY1⟩
    case body =>
      rintro k a' Y ⟨hY, hkl⟩ ⟨pb, rfl, bP⟩ hk hWs
      have HNE := Lib.hid (show MtNe g p q w.heap.size W1.heap.size W3.heap.size W2.heap.size by
        have := H.out.1.box.lt; have := H.out.1.wds.lt; have := H.out.1.bgs.lt
        have h1 := H.out.2.2.2.2.2.2.2.2.2.2.2
        have h5 : W3.heap.size ≠ W1.heap.size := fun e => by
          have h4 : X.heap[W3.heap.size]? = _ := HX.out.1.x3
          rw [e, show X.heap[W1.heap.size]? = _ from HX.out.1.x2] at h4
          cases h4
        exact ⟨by omega, by omega, by omega, by omega, by omega, by omega⟩)
      by_cases hkm : k < m0
      · have hmm : (ofT false B).getD k Bl.zero ∈ ofT false B := by
          have e : (ofT false B).getD k Bl.zero = (ofT false B)[k] := by simp [hk]
          rw [e]; exact List.getElem_mem hk
        have hbk : (ofT false B)[k]? = some ((ofT false B).getD k Bl.zero) := by simp [hk]
        generalize (ofT false B).getD k Bl.zero = b at *
        have hbB : b ∈ B := (List.mem_filter.1 hmm).1
        have hbt : b.t = false := by simpa using (List.mem_filter.1 hmm).2
        obtain ⟨g1, g2, g3, g4⟩ := chain_mem H.out.2.2.1 (Nat.le_refl _) hbB
        obtain ⟨hxl, hz⟩ := H.out.2.2.2.2.1 k hkm b hbk
        obtain ⟨x, c, t⟩ := b
        dsimp only at *
        subst hbt
        have hp5 := pow5 g1
        have hee := H.out.2.2.2.1
        have hhi := H.out.2.2.2.2.2.2.1
        have hxw : x < ws.length := by generalize 2 ^ c = z at *; omega
        have hgt := metB_get ws.length (catL L 6) x hxw
        rw [decide_eq_true (mem_catL.2 ⟨c, by omega, hxl⟩)] at hgt
        have hsz := fun w' => (hsize_any c false g1 w').mono (R' := fun e w2 => e = .returned (.int .i64 ((2 ^ c : Nat) : Int)) ∧ ∃ n, w2 = w'.drewN n) fun e w2 h => ⟨h.1, 0, h.2.symm⟩
        obtain ⟨T, hT⟩ : ∃ T : World → Prop, T = fun w' => Ar w' g p q ws bs ∧ Blk w' w.heap.size 25 #[.pointer (some ⟨g, 0, none⟩)] ∧ Blk w' W3.heap.size 63 #[.slice (some ⟨W2.heap.size, 0, none⟩) ws.length ws.length] ∧ Blk w' W2.heap.size 4 (bcs (metB ws.length (catL L 6))) ∧ Blk w' pb 86 #[.int .i64 (x : Int), .int .i64 (c : Int)] := ⟨_, rfl⟩
        have hTd : ∀ w' n, T w' → T (w'.drewN n) := by rw [hT]; exact fun w' n h => ⟨h.1.drewN n, h.2⟩
        have hT0 : T Y := by rw [hT]; exact ⟨hY.ar, hY.x1, hY.x3, hY.m, bP⟩
        have q0 : ∀ w', T w' → w'.cell? ⟨w.heap.size, 0, none⟩ = some (.pointer (some ⟨g, 0, none⟩)) := by rw [hT]; exact fun w' h' => h'.2.1.cell 0
        have q1 : ∀ w', T w' → w'.cell? ⟨pb, 0, none⟩ = some (.int .i64 (x : Int)) := by rw [hT]; exact fun w' h' => h'.2.2.2.2.cell 0
        have q2 : ∀ w', T w' → w'.cell? ⟨W3.heap.size, 0, none⟩ = some (.slice (some ⟨W2.heap.size, 0, none⟩) ws.length ws.length) := by rw [hT]; exact fun w' h' => h'.2.2.1.cell 0
        have q3 : ∀ w', T w' → w'.cell? ⟨W2.heap.size, x, none⟩ = some (.bool true) := by rw [hT]; exact fun w' h' => by rw [← hgt]; exact (h'.2.2.2.1.cell x).trans (bcs_get (by rw [metB_len]; exact hxw))
        have q4 : ∀ w', T w' → w'.cell? ⟨g, 0, none⟩ = some (.slice (some ⟨p, 0, none⟩) ws.length ws.length) := by rw [hT]; exact fun w' h' => h'.1.c0
        have hhd := fun w' (h' : T w') => (head_any (show Ar w' g p q ws bs by rw [hT] at h'; exact h'.1) x (by omega) hxw).mono (R' := fun e' w2 => e' = .returned (.int .u32 ((hdN c false : Nat) : Int)) ∧ ∃ n, w2 = w'.drewN n) fun e' w2 h => ⟨by rw [h.1, g3], 0, h.2.symm⟩
        have hsz2 := fun w' (_ : T w') => hsz w'
        generalize hdN c false = hv at *
        generalize 2 ^ c = z at *
        have hbl := fun w' (h' : T w') => (blank_yes (if ws.length = x + 1 then some ⟨p, 0, none⟩ else some ⟨p, x + 1, none⟩) (x + z - (x + 1)) (ws.length - (x + 1)) (by omega) w' (if h0 : ws.length = x + 1 then .inl (by omega) else .inr ⟨p, x + 1, if_neg h0, fun i hi => by
          have h1 := (show Ar w' g p q ws bs by rw [hT] at h'; exact h'.1).word (i := x + 1 + i) (by omega)
          rw [hz (x + 1 + i) (by omega) (by omega)] at h1
          exact h1⟩)).mono (R' := fun e' w2 => e' = .returned (.bool true) ∧ ∃ n, w2 = w'.drewN n) fun e' w2 h => ⟨h.1, 0, h.2.symm⟩
        have hTT : ∀ n, T (Y.drew.drewN n) ∧ Mt w g p q ws bs w.heap.size W1.heap.size W3.heap.size W2.heap.size (catL L 6) ds (Y.drew.drewN n) ∧ KX XP [] Y (Y.drew.drewN n) := fun n => ⟨hTd _ n (hTd _ 1 hT0), hY.later ⟨rfl, rfl, rfl, Nat.le_refl _, fun _ _ => rfl⟩, KX.kept (((Kept.refl [] Y).drew).drewN n)⟩
        have d5 : decide ((x : Int) < (ws.length : Int)) = true := decide_eq_true (by omega)
        have d6 : decide (x < ws.length) = true := decide_eq_true (by omega)
        have HT := Lib.hid (And.intro hTT (And.intro hk hz))
        have hxz : x + z ≤ ws.length := by omega
        have hz1 : x + 1 ≤ x + z := by omega
        have hxi : (x : Int) + (z : Int) ≤ (ws.length : Int) := by omega
        have hzi : (x : Int) + 1 ≤ (x : Int) + (z : Int) := by omega
        have hz0 : (0 : Int) ≤ (x : Int) + (z : Int) := by omega
        have hz00 : (0 : Int) ≤ (x : Int) + 1 := by omega
        have hzm : (x : Int) + 1 ≤ max ((x : Int) + (z : Int)) 0 := by omega
        clear g4 hee
        have hT1 : T Y.drew := hTd _ 1 hT0
        clear hT hTT hY bP hsz hgt hxl hz hbB hmm hk hbk hseq hT0
        gi_wp2_with fail
        refine wp_region_linI T [] [0, 1, 2, 3, 4, 5, 6, 7, 8] (by kernel_rfl) (by kernel_rfl) (by kernel_rfl) hTd hT1 ?_
        (repeat (first | (refine linI_off rfl rfl (by rfl) ?_; (try simp only [Act.put, List.getElem_toArray, List.getElem_cons_zero, List.getElem_cons_succ, List.setIfInBounds_toArray, List.set_cons_zero, List.set_cons_succ])) | (refine linI_op (v := ?_) rfl rfl (by rfl) (fun w9 hS9 => ?_) ?_; rotate_left; (focus ((have k0 := q0 w9 hS9; have k1 := q1 w9 hS9; (try dsimp only at hS9); go_simp; (try go_bits)) <;> with_reducible rfl)); (try simp only [Act.put, List.getElem_toArray, List.getElem_cons_zero, List.getElem_cons_succ, List.setIfInBounds_toArray, List.set_cons_zero, List.set_cons_succ])) | (refine linI_fn (f := 57) rfl rfl (by rfl) rfl rfl (enters_of Try.func57 (by kernel_rfl) rfl) (fun w9 hS9 => hhd w9 hS9) ?_ ?_; (focus (simp [Act.eval]; done)); (try simp only [Act.put, List.getElem_toArray, List.getElem_cons_zero, List.getElem_cons_succ, List.setIfInBounds_toArray, List.set_cons_zero, List.set_cons_succ])) | (refine linI_fn (f := 70) rfl rfl (by rfl) rfl rfl (enters_of Try.func70 (by kernel_rfl) rfl) (fun w9 hS9 => hsz2 w9 hS9) ?_ ?_; (focus (simp [Act.eval]; done)); (try simp only [Act.put, List.getElem_toArray, List.getElem_cons_zero, List.getElem_cons_succ, List.setIfInBounds_toArray, List.set_cons_zero, List.set_cons_succ]))))
        refine linI_nil (fun n2 => ?_)
        obtain ⟨tT, tM, tK⟩ := HT.out.1 n2
        clear hT1
        generalize Y.drew.drewN n2 = U at *
        have hT1 : T U.drew := hTd _ 1 tT
        have hUU : ∀ m, Mt w g p q ws bs w.heap.size W1.heap.size W3.heap.size W2.heap.size (catL L 6) ds (U.drew.drewN m) ∧ KX XP [] Y (U.drew.drewN m) := fun m => ⟨tM.later ⟨rfl, rfl, rfl, Nat.le_refl _, fun _ _ => rfl⟩, tK.trans (KX.kept (((Kept.refl [] U).drew).drewN m))⟩
        have HU := Lib.hid hUU
        clear hUU tT tM tK
        gi_wp2_with fail
        refine wp_region_linI T [] [0, 1, 2, 3, 4, 5, 6, 7, 8, 9, 10, 11, 12, 13, 14, 15, 16, 17, 18] (by kernel_rfl) (by kernel_rfl) (by kernel_rfl) hTd hT1 ?_
        (repeat (first | (refine linI_off rfl rfl (by rfl) ?_; (try simp only [Act.put, List.getElem_toArray, List.getElem_cons_zero, List.getElem_cons_succ, List.setIfInBounds_toArray, List.set_cons_zero, List.set_cons_succ])) | (refine linI_op (v := ?_) rfl rfl (by rfl) (fun w9 hS9 => ?_) ?_; rotate_left; (focus ((have k0 := q0 w9 hS9; have k1 := q1 w9 hS9; have k2 := q2 w9 hS9; have k3 := q3 w9 hS9; have k4 := q4 w9 hS9; (try dsimp only at hS9); go_simp; (try go_bits)) <;> with_reducible rfl)); (try simp only [Act.put, List.getElem_toArray, List.getElem_cons_zero, List.getElem_cons_succ, List.setIfInBounds_toArray, List.set_cons_zero, List.set_cons_succ])) | (refine linI_fn (f := 71) rfl rfl (by rfl) rfl rfl (enters_of Try.func71 (by kernel_rfl) rfl) (fun w9 hS9 => hbl w9 hS9) ?_ ?_; (focus (simp [Act.eval]; done)); (try simp only [Act.put, List.getElem_toArray, List.getElem_cons_zero, List.getElem_cons_succ, List.setIfInBounds_toArray, List.set_cons_zero, List.set_cons_succ]))))
        refine linI_nil (fun m => ?_)
        obtain ⟨uM, uK⟩ := HU.out m
        generalize U.drew.drewN m = U2 at *
        clear hTd hT1 q0 q1 q2 q3 q4 hhd hsz2 hbl
        gi_wp2
        first | exact ⟨uK.more (by simp), .inl hkm⟩ | exact ⟨uK.more (by simp), .inl ⟨uM, hkm⟩⟩
      · obtain rfl : k = m0 := by omega
        have hmm : (ofT false B).getD k Bl.zero ∈ ofT false B := by
          have e : (ofT false B).getD k Bl.zero = (ofT false B)[k] := by simp [hk]
          rw [e]; exact List.getElem_mem hk
        have hbk : (ofT false B)[k]? = some ((ofT false B).getD k Bl.zero) := by simp [hk]
        generalize (ofT false B).getD k Bl.zero = b at *
        have hbB : b ∈ B := (List.mem_filter.1 hmm).1
        have hbt : b.t = false := by simpa using (List.mem_filter.1 hmm).2
        obtain ⟨g1, g2, g3, g4⟩ := chain_mem H.out.2.2.1 (Nat.le_refl _) hbB
        have hbd := H.out.2.2.2.2.2.1.1 b hbk
        obtain ⟨x, c, t⟩ := b
        dsimp only at *
        subst hbt
        have hp5 := pow5 g1
        have hee := H.out.2.2.2.1
        have hhi := H.out.2.2.2.2.2.2.1
        have hxw : x < ws.length := by generalize 2 ^ c = z at *; omega
        rcases hbd with hxl | ⟨hxl, jj, hj1, hj2, hj3⟩
        · have hnm : x ∉ catL L 6 := fun hm => by
            obtain ⟨d, hd, hx⟩ := mem_catL.1 hm
            have h9 := (H.out.2.1.mem d (by omega) x hx).2.2.2
            rw [g3] at h9
            have := hdN_inj h9
            subst this
            exact hxl hx
          clear hxl
          have hgt := metB_get ws.length (catL L 6) x hxw
          rw [decide_eq_false hnm] at hgt
          have hsz := fun w' => (hsize_any c false g1 w').mono (R' := fun e w2 => e = .returned (.int .i64 ((2 ^ c : Nat) : Int)) ∧ ∃ n, w2 = w'.drewN n) fun e w2 h => ⟨h.1, 0, h.2.symm⟩
          obtain ⟨T, hT⟩ : ∃ T : World → Prop, T = fun w' => Ar w' g p q ws bs ∧ Blk w' w.heap.size 25 #[.pointer (some ⟨g, 0, none⟩)] ∧ Blk w' W3.heap.size 63 #[.slice (some ⟨W2.heap.size, 0, none⟩) ws.length ws.length] ∧ Blk w' W2.heap.size 4 (bcs (metB ws.length (catL L 6))) ∧ Blk w' pb 86 #[.int .i64 (x : Int), .int .i64 (c : Int)] := ⟨_, rfl⟩
          have hTd : ∀ w' n, T w' → T (w'.drewN n) := by rw [hT]; exact fun w' n h => ⟨h.1.drewN n, h.2⟩
          have hT0 : T Y := by rw [hT]; exact ⟨hY.ar, hY.x1, hY.x3, hY.m, bP⟩
          have q0 : ∀ w', T w' → w'.cell? ⟨w.heap.size, 0, none⟩ = some (.pointer (some ⟨g, 0, none⟩)) := by rw [hT]; exact fun w' h' => h'.2.1.cell 0
          have q1 : ∀ w', T w' → w'.cell? ⟨pb, 0, none⟩ = some (.int .i64 (x : Int)) := by rw [hT]; exact fun w' h' => h'.2.2.2.2.cell 0
          have q2 : ∀ w', T w' → w'.cell? ⟨W3.heap.size, 0, none⟩ = some (.slice (some ⟨W2.heap.size, 0, none⟩) ws.length ws.length) := by rw [hT]; exact fun w' h' => h'.2.2.1.cell 0
          have q3 : ∀ w', T w' → w'.cell? ⟨W2.heap.size, x, none⟩ = some (.bool false) := by rw [hT]; exact fun w' h' => by rw [← hgt]; exact (h'.2.2.2.1.cell x).trans (bcs_get (by rw [metB_len]; exact hxw))
          have q4 : ∀ w', T w' → w'.cell? ⟨g, 0, none⟩ = some (.slice (some ⟨p, 0, none⟩) ws.length ws.length) := by rw [hT]; exact fun w' h' => h'.1.c0
          have hhd := fun w' (h' : T w') => (head_any (show Ar w' g p q ws bs by rw [hT] at h'; exact h'.1) x (by omega) hxw).mono (R' := fun e' w2 => e' = .returned (.int .u32 ((hdN c false : Nat) : Int)) ∧ ∃ n, w2 = w'.drewN n) fun e' w2 h => ⟨by rw [h.1, g3], 0, h.2.symm⟩
          have hsz2 := fun w' (_ : T w') => hsz w'
          generalize hdN c false = hv at *
          generalize 2 ^ c = z at *
          have hTT : ∀ n, T (Y.drew.drewN n) ∧ Mt w g p q ws bs w.heap.size W1.heap.size W3.heap.size W2.heap.size (catL L 6) ds (Y.drew.drewN n) ∧ KX XP [] Y (Y.drew.drewN n) := fun n => ⟨hTd _ n (hTd _ 1 hT0), hY.later ⟨rfl, rfl, rfl, Nat.le_refl _, fun _ _ => rfl⟩, KX.kept (((Kept.refl [] Y).drew).drewN n)⟩
          have d5 : decide ((x : Int) < (ws.length : Int)) = true := decide_eq_true (by omega)
          have d6 : decide (x < ws.length) = true := decide_eq_true (by omega)
          have HT := Lib.hid (And.intro hTT hk)
          have hxz : x + z ≤ ws.length := by omega
          have hz1 : x + 1 ≤ x + z := by omega
          have hxi : (x : Int) + (z : Int) ≤ (ws.length : Int) := by omega
          have hzi : (x : Int) + 1 ≤ (x : Int) + (z : Int) := by omega
          have hz0 : (0 : Int) ≤ (x : Int) + (z : Int) := by omega
          have hz00 : (0 : Int) ≤ (x : Int) + 1 := by omega
          have hzm : (x : Int) + 1 ≤ max ((x : Int) + (z : Int)) 0 := by omega
          clear g4 hee
          have hT1 : T Y.drew := hTd _ 1 hT0
          clear hT hTT hY bP hsz hgt hbB hmm hk hbk hseq hT0
          gi_wp2_with fail
          refine wp_region_linI T [] [0, 1, 2, 3, 4, 5, 6, 7, 8] (by kernel_rfl) (by kernel_rfl) (by kernel_rfl) hTd hT1 ?_
          (repeat (first | (refine linI_off rfl rfl (by rfl) ?_; (try simp only [Act.put, List.getElem_toArray, List.getElem_cons_zero, List.getElem_cons_succ, List.setIfInBounds_toArray, List.set_cons_zero, List.set_cons_succ])) | (refine linI_op (v := ?_) rfl rfl (by rfl) (fun w9 hS9 => ?_) ?_; rotate_left; (focus ((have k0 := q0 w9 hS9; have k1 := q1 w9 hS9; (try dsimp only at hS9); go_simp; (try go_bits)) <;> with_reducible rfl)); (try simp only [Act.put, List.getElem_toArray, List.getElem_cons_zero, List.getElem_cons_succ, List.setIfInBounds_toArray, List.set_cons_zero, List.set_cons_succ])) | (refine linI_fn (f := 57) rfl rfl (by rfl) rfl rfl (enters_of Try.func57 (by kernel_rfl) rfl) (fun w9 hS9 => hhd w9 hS9) ?_ ?_; (focus (simp [Act.eval]; done)); (try simp only [Act.put, List.getElem_toArray, List.getElem_cons_zero, List.getElem_cons_succ, List.setIfInBounds_toArray, List.set_cons_zero, List.set_cons_succ])) | (refine linI_fn (f := 70) rfl rfl (by rfl) rfl rfl (enters_of Try.func70 (by kernel_rfl) rfl) (fun w9 hS9 => hsz2 w9 hS9) ?_ ?_; (focus (simp [Act.eval]; done)); (try simp only [Act.put, List.getElem_toArray, List.getElem_cons_zero, List.getElem_cons_succ, List.setIfInBounds_toArray, List.set_cons_zero, List.set_cons_succ]))))
          refine linI_nil (fun n2 => ?_)
          obtain ⟨tT, tM, tK⟩ := HT.out.1 n2
          clear hT1
          generalize Y.drew.drewN n2 = U at *
          have hT1 : T U.drew := hTd _ 1 tT
          have hUU : ∀ m, Mt w g p q ws bs w.heap.size W1.heap.size W3.heap.size W2.heap.size (catL L 6) ds (U.drew.drewN m) ∧ KX XP [] Y (U.drew.drewN m) := fun m => ⟨tM.later ⟨rfl, rfl, rfl, Nat.le_refl _, fun _ _ => rfl⟩, tK.trans (KX.kept (((Kept.refl [] U).drew).drewN m))⟩
          have HU := Lib.hid hUU
          clear hUU tT tM tK
          gi_wp2_with fail
          refine wp_region_linI T [] [0, 1, 2, 3, 4, 5, 6, 7, 8, 9, 10, 11, 12, 13, 14, 15, 16, 17, 18] (by kernel_rfl) (by kernel_rfl) (by kernel_rfl) hTd hT1 ?_
          (repeat (first | (refine linI_off rfl rfl (by rfl) ?_; (try simp only [Act.put, List.getElem_toArray, List.getElem_cons_zero, List.getElem_cons_succ, List.setIfInBounds_toArray, List.set_cons_zero, List.set_cons_succ])) | (refine linI_op (v := ?_) rfl rfl (by rfl) (fun w9 hS9 => ?_) ?_; rotate_left; (focus ((have k0 := q0 w9 hS9; have k1 := q1 w9 hS9; have k2 := q2 w9 hS9; have k3 := q3 w9 hS9; have k4 := q4 w9 hS9; (try dsimp only at hS9); go_simp; (try go_bits)) <;> with_reducible rfl)); (try simp only [Act.put, List.getElem_toArray, List.getElem_cons_zero, List.getElem_cons_succ, List.setIfInBounds_toArray, List.set_cons_zero, List.set_cons_succ]))))
          refine linI_nil (fun m => ?_)
          obtain ⟨uM, uK⟩ := HU.out m
          generalize U.drew.drewN m = U2 at *
          have cR := uM.x2.cell 0
          have fR := uM.x2.free 0
          have HF := Lib.hid (And.intro (uM.ret HNE.out) ((uK.more (T := [W1.heap.size]) (by simp)).trans (KX.kept ((Kept.refl [W1.heap.size] U2).setCell (p := ⟨W1.heap.size, 0, none⟩) (.inl (by simp)) (.bool false)))))
          clear uM uK hTd hT1 q0 q1 q2 q3 q4 hhd hsz2
          gi_wp2
          exact ⟨HF.out.2, .inr ⟨rfl, HF.out.1⟩⟩
        · obtain ⟨xx, hxx⟩ : ∃ xx, ws.getD (x + 1 + jj) 0 = xx := ⟨_, rfl⟩
          rw [hxx] at hj3
          have hgt := metB_get ws.length (catL L 6) x hxw
          rw [decide_eq_true (mem_catL.2 ⟨c, by omega, hxl⟩)] at hgt
          have hsz := fun w' => (hsize_any c false g1 w').mono (R' := fun e w2 => e = .returned (.int .i64 ((2 ^ c : Nat) : Int)) ∧ ∃ n, w2 = w'.drewN n) fun e w2 h => ⟨h.1, 0, h.2.symm⟩
          obtain ⟨T, hT⟩ : ∃ T : World → Prop, T = fun w' => Ar w' g p q ws bs ∧ Blk w' w.heap.size 25 #[.pointer (some ⟨g, 0, none⟩)] ∧ Blk w' W3.heap.size 63 #[.slice (some ⟨W2.heap.size, 0, none⟩) ws.length ws.length] ∧ Blk w' W2.heap.size 4 (bcs (metB ws.length (catL L 6))) ∧ Blk w' pb 86 #[.int .i64 (x : Int), .int .i64 (c : Int)] := ⟨_, rfl⟩
          have hTd : ∀ w' n, T w' → T (w'.drewN n) := by rw [hT]; exact fun w' n h => ⟨h.1.drewN n, h.2⟩
          have hT0 : T Y := by rw [hT]; exact ⟨hY.ar, hY.x1, hY.x3, hY.m, bP⟩
          have q0 : ∀ w', T w' → w'.cell? ⟨w.heap.size, 0, none⟩ = some (.pointer (some ⟨g, 0, none⟩)) := by rw [hT]; exact fun w' h' => h'.2.1.cell 0
          have q1 : ∀ w', T w' → w'.cell? ⟨pb, 0, none⟩ = some (.int .i64 (x : Int)) := by rw [hT]; exact fun w' h' => h'.2.2.2.2.cell 0
          have q2 : ∀ w', T w' → w'.cell? ⟨W3.heap.size, 0, none⟩ = some (.slice (some ⟨W2.heap.size, 0, none⟩) ws.length ws.length) := by rw [hT]; exact fun w' h' => h'.2.2.1.cell 0
          have q3 : ∀ w', T w' → w'.cell? ⟨W2.heap.size, x, none⟩ = some (.bool true) := by rw [hT]; exact fun w' h' => by rw [← hgt]; exact (h'.2.2.2.1.cell x).trans (bcs_get (by rw [metB_len]; exact hxw))
          have q4 : ∀ w', T w' → w'.cell? ⟨g, 0, none⟩ = some (.slice (some ⟨p, 0, none⟩) ws.length ws.length) := by rw [hT]; exact fun w' h' => h'.1.c0
          have hhd := fun w' (h' : T w') => (head_any (show Ar w' g p q ws bs by rw [hT] at h'; exact h'.1) x (by omega) hxw).mono (R' := fun e' w2 => e' = .returned (.int .u32 ((hdN c false : Nat) : Int)) ∧ ∃ n, w2 = w'.drewN n) fun e' w2 h => ⟨by rw [h.1, g3], 0, h.2.symm⟩
          have hsz2 := fun w' (_ : T w') => hsz w'
          generalize hdN c false = hv at *
          generalize 2 ^ c = z at *
          have hbl := fun w' (h' : T w') => (blank_no (if ws.length = x + 1 then some ⟨p, 0, none⟩ else some ⟨p, x + 1, none⟩) (x + z - (x + 1)) (ws.length - (x + 1)) (by omega) w' jj xx ⟨p, x + 1, if_neg (by omega), by omega, fun i hi => by
            have h1 := (show Ar w' g p q ws bs by rw [hT] at h'; exact h'.1).word (i := x + 1 + i) (by omega)
            rw [hj2 i hi] at h1
            exact h1, by
            have h1 := (show Ar w' g p q ws bs by rw [hT] at h'; exact h'.1).word (i := x + 1 + jj) (by omega)
            rw [hxx] at h1
            exact h1, hj3⟩).mono (R' := fun e' w2 => e' = .returned (.bool false) ∧ ∃ n, w2 = w'.drewN n) fun e' w2 h => ⟨h.1, 0, h.2.symm⟩
          have hTT : ∀ n, T (Y.drew.drewN n) ∧ Mt w g p q ws bs w.heap.size W1.heap.size W3.heap.size W2.heap.size (catL L 6) ds (Y.drew.drewN n) ∧ KX XP [] Y (Y.drew.drewN n) := fun n => ⟨hTd _ n (hTd _ 1 hT0), hY.later ⟨rfl, rfl, rfl, Nat.le_refl _, fun _ _ => rfl⟩, KX.kept (((Kept.refl [] Y).drew).drewN n)⟩
          have d5 : decide ((x : Int) < (ws.length : Int)) = true := decide_eq_true (by omega)
          have d6 : decide (x < ws.length) = true := decide_eq_true (by omega)
          have HT := Lib.hid (And.intro hTT hk)
          have hxz : x + z ≤ ws.length := by omega
          have hz1 : x + 1 ≤ x + z := by omega
          have hxi : (x : Int) + (z : Int) ≤ (ws.length : Int) := by omega
          have hzi : (x : Int) + 1 ≤ (x : Int) + (z : Int) := by omega
          have hz0 : (0 : Int) ≤ (x : Int) + (z : Int) := by omega
          have hz00 : (0 : Int) ≤ (x : Int) + 1 := by omega
          have hzm : (x : Int) + 1 ≤ max ((x : Int) + (z : Int)) 0 := by omega
          clear g4 hee
          have hT1 : T Y.drew := hTd _ 1 hT0
          clear hT hTT hY bP hsz hgt hxl hj1 hj2 hxx hbB hmm hk hbk hseq hT0
          gi_wp2_with fail
          refine wp_region_linI T [] [0, 1, 2, 3, 4, 5, 6, 7, 8] (by kernel_rfl) (by kernel_rfl) (by kernel_rfl) hTd hT1 ?_
          (repeat (first | (refine linI_off rfl rfl (by rfl) ?_; (try simp only [Act.put, List.getElem_toArray, List.getElem_cons_zero, List.getElem_cons_succ, List.setIfInBounds_toArray, List.set_cons_zero, List.set_cons_succ])) | (refine linI_op (v := ?_) rfl rfl (by rfl) (fun w9 hS9 => ?_) ?_; rotate_left; (focus ((have k0 := q0 w9 hS9; have k1 := q1 w9 hS9; (try dsimp only at hS9); go_simp; (try go_bits)) <;> with_reducible rfl)); (try simp only [Act.put, List.getElem_toArray, List.getElem_cons_zero, List.getElem_cons_succ, List.setIfInBounds_toArray, List.set_cons_zero, List.set_cons_succ])) | (refine linI_fn (f := 57) rfl rfl (by rfl) rfl rfl (enters_of Try.func57 (by kernel_rfl) rfl) (fun w9 hS9 => hhd w9 hS9) ?_ ?_; (focus (simp [Act.eval]; done)); (try simp only [Act.put, List.getElem_toArray, List.getElem_cons_zero, List.getElem_cons_succ, List.setIfInBounds_toArray, List.set_cons_zero, List.set_cons_succ])) | (refine linI_fn (f := 70) rfl rfl (by rfl) rfl rfl (enters_of Try.func70 (by kernel_rfl) rfl) (fun w9 hS9 => hsz2 w9 hS9) ?_ ?_; (focus (simp [Act.eval]; done)); (try simp only [Act.put, List.getElem_toArray, List.getElem_cons_zero, List.getElem_cons_succ, List.setIfInBounds_toArray, List.set_cons_zero, List.set_cons_succ]))))
          refine linI_nil (fun n2 => ?_)
          obtain ⟨tT, tM, tK⟩ := HT.out.1 n2
          clear hT1
          generalize Y.drew.drewN n2 = U at *
          have hT1 : T U.drew := hTd _ 1 tT
          have hUU : ∀ m, Mt w g p q ws bs w.heap.size W1.heap.size W3.heap.size W2.heap.size (catL L 6) ds (U.drew.drewN m) ∧ KX XP [] Y (U.drew.drewN m) := fun m => ⟨tM.later ⟨rfl, rfl, rfl, Nat.le_refl _, fun _ _ => rfl⟩, tK.trans (KX.kept (((Kept.refl [] U).drew).drewN m))⟩
          have HU := Lib.hid hUU
          clear hUU tT tM tK
          gi_wp2_with fail
          refine wp_region_linI T [] [0, 1, 2, 3, 4, 5, 6, 7, 8, 9, 10, 11, 12, 13, 14, 15, 16, 17, 18] (by kernel_rfl) (by kernel_rfl) (by kernel_rfl) hTd hT1 ?_
          (repeat (first | (refine linI_off rfl rfl (by rfl) ?_; (try simp only [Act.put, List.getElem_toArray, List.getElem_cons_zero, List.getElem_cons_succ, List.setIfInBounds_toArray, List.set_cons_zero, List.set_cons_succ])) | (refine linI_op (v := ?_) rfl rfl (by rfl) (fun w9 hS9 => ?_) ?_; rotate_left; (focus ((have k0 := q0 w9 hS9; have k1 := q1 w9 hS9; have k2 := q2 w9 hS9; have k3 := q3 w9 hS9; have k4 := q4 w9 hS9; (try dsimp only at hS9); go_simp; (try go_bits)) <;> with_reducible rfl)); (try simp only [Act.put, List.getElem_toArray, List.getElem_cons_zero, List.getElem_cons_succ, List.setIfInBounds_toArray, List.set_cons_zero, List.set_cons_succ])) | (refine linI_fn (f := 71) rfl rfl (by rfl) rfl rfl (enters_of Try.func71 (by kernel_rfl) rfl) (fun w9 hS9 => hbl w9 hS9) ?_ ?_; (focus (simp [Act.eval]; done)); (try simp only [Act.put, List.getElem_toArray, List.getElem_cons_zero, List.getElem_cons_succ, List.setIfInBounds_toArray, List.set_cons_zero, List.set_cons_succ]))))
          refine linI_nil (fun m => ?_)
          obtain ⟨uM, uK⟩ := HU.out m
          generalize U.drew.drewN m = U2 at *
          have cR := uM.x2.cell 0
          have fR := uM.x2.free 0
          have HF := Lib.hid (And.intro (uM.ret HNE.out) ((uK.more (T := [W1.heap.size]) (by simp)).trans (KX.kept ((Kept.refl [W1.heap.size] U2).setCell (p := ⟨W1.heap.size, 0, none⟩) (.inl (by simp)) (.bool false)))))
          clear uM uK hTd hT1 q0 q1 q2 q3 q4 hhd hsz2 hbl
          gi_wp2
          exact ⟨HF.out.2, .inr ⟨rfl, HF.out.1⟩⟩
    case done =>
      rintro Y ⟨hY, hk⟩ hdef
      have := H.out.2.2.2.2.2.1.2
      omega
    case stop =>
      rintro k Y hk hY hdef
      have hds : ∀ d ∈ ds, d < X.heap.size := fun d hd => (Array.getElem?_eq_some_iff.1 (HX.out.1.dd d hd).2).1
      have hdd : ∀ d ∈ X.heap.size :: ds, w.heap.size ≤ d ∧ Y.heap[d]? = some (.deferred (some [])) := by
        intro d hd
        rcases List.mem_cons.1 hd with rfl | hd
        · exact ⟨HX.out.1.kept.size, hdef⟩
        · exact hY.dd d hd
      have hnd : (X.heap.size :: ds).Nodup := List.nodup_cons.2 ⟨fun hm => by have := hds _ hm; omega, hY.nd⟩
      refine marks_cells (v := .bool false) (X.heap.size :: ds) Y hnd (fun d hd => (hdd d hd).2) fun w' g1 g2 g3 g4 g5 => ?_
      have hK : Kept (X.heap.size :: ds) Y w' := ⟨g2, g3, g4, by rw [g1]; exact Nat.le_refl _, fun k _ hk => g5 k hk⟩
      have hk9 := hY.kept
      have hne : ∀ b t cs, Blk Y b t cs → b ∉ X.heap.size :: ds := fun b t cs hb hm => by
        have := (hdd b hm).2
        rw [show Y.heap[b]? = _ from hb] at this
        cases this
      have cr2 := ((hY.x2).kept hK (hne _ _ _ hY.x2)).cell 0
      refine ⟨by simp [results, Try.results44, go_sem, cr2], rfl, ?_⟩
      exact ⟨hK.os.trans hk9.os, hK.tape.trans hk9.tape, hK.output.trans hk9.output, Nat.le_trans hk9.size hK.size, fun k hk _ => (g5 k (fun hm => by have := (hdd k hm).1; omega)).trans (hk9.block k hk (by simp))⟩
end Go.Proofs.Ytgnpoehcmlmajaa
