/-
  The contract of table.Differ. Nothing here is a statement of the document.
-/
import Derived.Test.YtdbdmnahgkkjiaaDoorTcA
import Derived.Test.YtdbdmnahgkkjiaaDoorDskP
namespace Go.Proofs.YtdbdmnahgkkjiaaDoor
open Go.RowKit Go.Shelf
set_option linter.unusedVariables false
set_option maxRecDepth 100000
theorem results_45 {fn : Func} (h : fn.results = #[.tmp 4, .tmp 5]) (tmps : Array Value) (w : World) (x y : Value) (hx : tmps[4]?.getD undef = x) (hy : tmps[5]?.getD undef = y) : (results fn tmps).run Tryd.prog w = .ok (.tuple #[x, y]) w := by
  simp only [results, h]
  simp [Sem.run_bind, Result.andThen, hx, hy, go_sem]
attribute [local go_sem] Oper.semAt_some
noncomputable def dfE (A B : List Rt) : Int := if okT A ∧ okT B then 0 else 190
noncomputable def dfP (A B : List Rt) : List Px := if okT A ∧ okT B then mgP A B else []
noncomputable def outK (A B : List Rt) (k : Nat) : List Px := ((mg A B).take k).filterMap toldQ
theorem outK_zero (A B : List Rt) : outK A B 0 = [] := by simp [outK]
theorem outK_all (A B : List Rt) : outK A B (mg A B).length = mgP A B := by simp [outK, mgP]
theorem outK_same {A B : List Rt} {k : Nat} (hk : k < (mg A B).length) (h : ((mg A B).getD k (Rt.zero, Rt.zero)).1 = ((mg A B).getD k (Rt.zero, Rt.zero)).2) : outK A B (k + 1) = outK A B k := by
  unfold outK
  rw [List.getD_eq_getElem?_getD, List.getElem?_eq_getElem hk, Option.getD_some] at h
  rw [List.take_add_one, List.getElem?_eq_getElem hk, Option.toList_some, List.filterMap_append]
  simp [toldQ, h]
theorem outK_more {A B : List Rt} {k : Nat} (hk : k < (mg A B).length) (h : ¬ ((mg A B).getD k (Rt.zero, Rt.zero)).1 = ((mg A B).getD k (Rt.zero, Rt.zero)).2) : outK A B (k + 1) = outK A B k ++ [(orM ((mg A B).getD k (Rt.zero, Rt.zero)).1 ((mg A B).getD k (Rt.zero, Rt.zero)).2).p] := by
  unfold outK
  rw [List.getD_eq_getElem?_getD, List.getElem?_eq_getElem hk, Option.getD_some] at h ⊢
  rw [List.take_add_one, List.getElem?_eq_getElem hk, Option.toList_some, List.filterMap_append]
  simp [toldQ, h]
theorem outK_len (A B : List Rt) (k : Nat) : (outK A B k).length ≤ k := by
  unfold outK
  refine Nat.le_trans (List.length_filterMap_le _ _) ?_
  simp; omega
theorem kept_bel {S : List Nat} {B : Nat} {a b c : World} (h : Kept S a b) (k : Below B b c) (hB : a.heap.size ≤ B) : Kept S a c :=
  ⟨k.os.trans h.os, k.tape.trans h.tape, k.output.trans h.output, Nat.le_trans h.size k.size, fun i hi hS => (k.block i (by omega)).trans (h.block i hi hS)⟩
theorem own_same9 {w w' : World} {B : Nat} {v : Value} {L : List Px} (h : OwnP w B v L) (hs : ∀ g, B ≤ g → g < w.heap.size → w'.heap[g]? = w.heap[g]?) : OwnP w' B v L := by
  refine ⟨h.1, ?_⟩
  rcases h.2 with h | ⟨g, cap, cur, h1, h2, h3, h4⟩
  · exact .inl h
  · exact .inr ⟨g, cap, cur, h1, h2, (hs g h2 (Array.getElem?_eq_some_iff.1 h3).1).trans h3, h4⟩
theorem tbuild2_run (x y : Rt) (w : World) : (tbuildSem 2 #[(0, .agg x.cs), (1, .agg y.cs)]).run Tryd.prog w = .ok (.slice (some ⟨w.heap.size, 0, none⟩) 2 2) (w.alloc (.cells (x.cs ++ y.cs) 48)) := by
  unfold Rt.cs Px.cs Ad.cs
  obtain ⟨a0, a1, a2, a3, a4, a5, a6, a7, a8, a9, a10, a11, a12, a13, a14, a15, hh⟩ := x.p.a.b.out
  obtain ⟨b0, b1, b2, b3, b4, b5, b6, b7, b8, b9, b10, b11, b12, b13, b14, b15, hk⟩ := y.p.a.b.out
  rw [hh, hk]
  kernel_rfl
theorem field_p (r : Rt) (w : World) : (Instr.field 48 (.agg r.cs) 0).run Tryd.prog w = .ok (.agg r.p.cs) w := by
  unfold Rt.cs Px.cs Ad.cs
  obtain ⟨a0, a1, a2, a3, a4, a5, a6, a7, a8, a9, a10, a11, a12, a13, a14, a15, hh⟩ := r.p.a.b.out
  rw [hh]
  kernel_rfl
theorem two_rows {w : World} {g : Nat} {x y : Rt} (h : Blk w g 48 (x.cs ++ y.cs)) : RowsAt w (some ⟨g, 0, none⟩) [x, y] :=
  .inr ⟨g, 0, rfl, row_cells _ _ _ _ h.lt (fun k u hk => by rw [Nat.zero_add, h.cell, ← Array.getElem?_toList, Array.toList_append]; simpa [rtcs] using hk)⟩
theorem pappB_one {w : World} {B m c : Nat} {a : Option Addr} {O : List Px} (ho : OwnP w B (.slice a m c) O) (hs : O.length ≤ 1000) (hB : B ≤ w.heap.size) (p : Px) :
    ∃ a' c' w2, (∀ ty : TypeId, (Builtin.append_ #[28, 28] ty #[.slice a m c, .slice (some ⟨w.heap.size, 0, none⟩) 1 1]).run Tryd.prog (w.alloc (.cells p.cs 38)) = .ok (.slice a' (m + 1) c') w2) ∧ OwnP w2 B (.slice a' (m + 1) c') (O ++ [p]) ∧ Below B w w2 ∧ ∀ g t C, Blk w g t C → t ≠ 38 → Blk w2 g t C := by
  obtain ⟨_, _, e1, _⟩ := ho.lies
  have hml : m = O.length := by injection e1
  have k1 : Below w.heap.size w (w.alloc (.cells p.cs 38)) := (Below.refl _ _).alloc (Nat.le_refl _) _
  have hq : PxsAt (w.alloc (.cells p.cs 38)) (some ⟨w.heap.size, 0, none⟩) [p] := by
    have hb9 := Blk.new w 38 p.cs
    exact .inr ⟨w.heap.size, 0, rfl, pxw_cells _ _ [p] 0 hb9.lt (fun k u hk => by rw [Nat.zero_add, hb9.cell]; simpa [pxcs] using hk)⟩
  obtain ⟨v', w2, q1, q2, q3, _⟩ := papp_run (c := 1) 28 (ho.later k1) (m := 1) rfl hq (by omega) (by simp; omega)
  obtain ⟨a', c', e2, _⟩ := q2.lies
  have hl : (O ++ [p]).length = m + 1 := by simp [hml]
  rw [hl] at e2
  subst e2
  refine ⟨a', c', w2, fun ty => q1, q2, (k1.mono hB).grown q3 (by simp; omega) (fun k hk => ((ho.later k1).lt k hk).1), fun g t C hb ht => ?_⟩
  refine (q3.block g (by have := hb.lt; simp; omega) (fun e => ?_)).trans (k1.block g hb.lt |>.trans hb)
  rcases ho.2 with ⟨h9, _⟩ | ⟨g9, cap, cur, h9, _, hg9, _⟩
  · rw [h9] at e; cases e
  · rw [h9] at e
    have : g = g9 := by simpa [Value.ownBlock] using e
    subst this
    have h10 := hg9.symm.trans hb
    injection h10 with h11
    injection h11 with _ h12
    exact ht h12.symm
attribute [local go_sem ↓] load_b16_rule store_b16_rule load_ad_rule store_ad_rule load_px_rule store_px_rule eq_b16_rule eq_ad_rule eq_px_rule load_rt_rule store_rt_rule build_ad_rule build_px_rule build_b16_rule build_rt_rule load_tab_rule build_tab_rule store_tab_rule tbuild_rule tapp_rule tcopy_rule eq_rt_rule pbuild_rule papp_rule tbuild_rule
set_option maxHeartbeats 8000000 in
theorem differ_any (a a2 : Option Addr) (n c n2 c2 : Nat) (A B : List Rt) (w : World) (hW : Wid w) (hn : A.length = n) (hT : Tbl w a c A) (hn2 : B.length = n2) (hT2 : Tbl w a2 c2 B) :
    Calls Tryd.prog 10 #[.agg #[.slice a n c], .agg #[.slice a2 n2 c2]] w fun e w' => ∃ v, e = .returned (.tuple #[v, .int .i64 (dfE A B)]) ∧ OwnP w' w.heap.size v (dfP A B) ∧ Below w.heap.size w w' := by
  obtain ⟨W1, hW1⟩ : ∃ W1, (w.alloc (.cells #[.slice a n c] 24)).alloc (.cells #[.slice a2 n2 c2] 24) = W1 := ⟨_, rfl⟩
  have hb1 : Below w.heap.size w W1 := by rw [← hW1]; exact (((Below.refl w.heap.size w).alloc (Nat.le_refl _) _).alloc (by simp) _)
  have b1 : Blk W1 w.heap.size 24 #[.slice a n c] := by
    have h9 := (Blk.new w 24 #[.slice a n c]).alloc (.cells #[.slice a2 n2 c2] 24)
    rwa [hW1] at h9
  have b2 : Blk W1 (w.heap.size + 1) 24 #[.slice a2 n2 c2] := by
    have h9 := Blk.new (w.alloc (.cells #[.slice a n c] 24)) 24 #[.slice a2 n2 c2]
    rwa [World.size_alloc, hW1] at h9
  have hmx : ∀ (L : List Rt) (x : Option Addr) (cc : Nat), Tbl w x cc L → L.length ≤ 9223372036854775807 := fun L x cc h => by have := h.le; have := h.cap; unfold maxLen at this; omega
  have hm := hmx _ _ _ hT
  have hm2 := hmx _ _ _ hT2
  rw [hn] at hm
  rw [hn2] at hm2
  have LT := tab_t b1
  have LU := tab_t b2
  have HCA := fun w' (h : Below W1.heap.size W1 w') => tcheck_any a n c A w' ((hW.later hb1).later h) hn hm ((hT.at'.later hb1).later h)
  have HCB := fun w' (h : Below W1.heap.size W1 w') => tcheck_any a2 n2 c2 B w' ((hW.later hb1).later h) hn2 hm2 ((hT2.at'.later hb1).later h)
  have h0 : Below W1.heap.size W1 W1 := Below.refl _ _
  have sz1 : W1.heap.size = w.heap.size + 2 := by rw [← hW1]; simp
  have HB := Lib.hid (And.intro hb1 (And.intro hT (And.intro hT2 (And.intro hn (And.intro hn2 (And.intro sz1 hW))))))
  clear b1 b2 hb1 hT hT2 hW hmx hm hm2 hn hn2 sz1
  by_cases hA : okT A
  · rw [eT_ok hA] at HCA
    by_cases hB : okT B
    · rw [eT_ok hB] at HCB
      have HE := Lib.hid (And.intro (show dfE A B = 0 from if_pos ⟨hA, hB⟩) (And.intro (show dfP A B = mgP A B from if_pos ⟨hA, hB⟩) (And.intro hA hB)))
      clear hA hB
      refine calls_of_wp_marks Tryd.func10 rfl ?_
      simp only [Tryd.ntmps10, List.size_toArray, List.length_cons, List.length_nil, Nat.reduceAdd, Nat.reduceSub, Array.replicate_succ, Array.replicate_zero, List.push_toArray, List.append_toArray, List.nil_append, List.cons_append]
      go_wp2_with fail
      refine (HCA _ (by assumption)).mono ?_
      rintro e w2 ⟨rfl, hb2⟩
      have hk2 : Below W1.heap.size W1 w2 := hb2
      clear hb2
      go_wp2_with fail
      refine (HCB _ (by assumption)).mono ?_
      rintro e w3 ⟨rfl, hb3⟩
      have hk3 : Below W1.heap.size W1 w3 := bel_trans (by assumption) hb3
      obtain ⟨w4, hw4⟩ : ∃ w4, w3.alloc (.cells #[.slice none 0 0] 28) = w4 := ⟨_, rfl⟩
      have k34 : Below w3.heap.size w3 w4 := by rw [← hw4]; exact (Below.refl _ _).alloc (Nat.le_refl _) _
      have bo : Blk w4 w3.heap.size 28 #[.slice none 0 0] := by rw [← hw4]; exact Blk.new _ _ _
      have hk4 : Below W1.heap.size W1 w4 := bel_trans hk3 k34
      have H4 := Lib.hid (And.intro hk3 (And.intro k34 bo))
      clear hb3 hk2 hk3 k34 bo HCA HCB
      go_wp2_with fail
      refine (tboth_any _ _ w4).mono ?_
      rintro e W ⟨rfl, hWW⟩
      have k4W : Below w4.heap.size w4 W := by rw [hWW]; exact ((Below.refl _ _).alloc (Nat.le_refl _) _).alloc (by simp) _
      have bA : Blk W w4.heap.size 24 #[.slice a n c] := by rw [hWW]; exact (Blk.new w4 _ _).alloc _
      have bB : Blk W (w4.heap.size + 1) 24 #[.slice a2 n2 c2] := by
        have h9 := Blk.new (w4.alloc (.cells #[.slice a n c] 24)) 24 #[.slice a2 n2 c2]
        rw [World.size_alloc, ← hWW] at h9
        exact h9
      have sW : W.heap.size = w4.heap.size + 2 := by rw [hWW]; simp
      have s4 : w4.heap.size = w3.heap.size + 1 := by rw [← hw4]; simp
      have s3 : w.heap.size + 2 ≤ w3.heap.size := by have := H4.out.1.size; have := HB.out.2.2.2.2.2.1; omega
      have hkW : Below w.heap.size w W := bel_trans HB.out.1 (bel_trans hk4 k4W)
      have boW : Blk W w3.heap.size 28 #[.slice none 0 0] := H4.out.2.2.later k4W
      have lo : ∀ (x : Option Addr) (cc : Nat) (L : List Rt), Tbl w x cc L → LoR W.heap.size [w3.heap.size] W x L := fun x cc L ht => by
        rcases ht.at' with h | ⟨g, o, h1, h2⟩
        · exact .inl h
        · have := h2.lt
          exact .inr ⟨g, o, h1, h2.later hkW, by omega, by simp; omega⟩
      have hseq := both_low (S := [w3.heap.size]) HB.out.2.2.2.1 (by have := HE.out.2.2.1.1; have := HB.out.2.2.2.1; omega) (by have := HB.out.2.1.le; have := HB.out.2.2.2.1; omega) HB.out.2.2.2.2.1 (by have := HE.out.2.2.2.1; have := HB.out.2.2.2.2.1; omega) (by have := HB.out.2.2.1.le; have := HB.out.2.2.2.2.1; omega) (lo _ _ _ HB.out.2.1) (lo _ _ _ HB.out.2.2.1) bA (by simp; omega) bB (by simp; omega)
      have HWW := Lib.hid (And.intro hkW (And.intro boW (And.intro sW (And.intro s4 s3))))
      clear lo bA bB hkW boW sW s4 s3 k4W hWW hk4 hw4 LT LU
      go_wp2_with fail
      refine wp_range_low (S := [w3.heap.size]) (N := (mg A B).length) (enc := encB A B) none (fun _ => rfl) rfl (fun _ _ => by simp [go_sem, enters_of Tryd.func50 (by kernel_rfl) rfl]) hseq (fun k hk => by have := HWW.out.2.2.1; have := HWW.out.2.2.2.1; simp at hk; omega)
        (fun k X => Kept [w3.heap.size] W X ∧ ∃ v, Blk X w3.heap.size 28 #[v] ∧ OwnP X (W.heap.size + 2) v (outK A B k))
        (fun k X => False)
        ?hI ?hIx ⟨Kept.refl _ _, _, HWW.out.2.1, ⟨by rw [outK_zero]; rfl, .inl ⟨rfl, by rw [outK_zero]; rfl⟩⟩⟩
        (fun k a' X => ∃ Bx By, Blk X Bx 48 ((mg A B).getD k (Rt.zero, Rt.zero)).1.cs ∧ Blk X By 48 ((mg A B).getD k (Rt.zero, Rt.zero)).2.cs ∧ a' = { tmps := ((Value.agg #[.slice a n c]) :: (.agg #[.slice a2 n2 c2]) :: (.pointer (some ⟨w.heap.size, 0, none⟩)) :: (.pointer (some ⟨w.heap.size + 1, 0, none⟩)) :: (.slice none 0 0) :: (.int .i64 0) :: (.pointer (some ⟨w3.heap.size, 0, none⟩)) :: (.pointer (some ⟨Bx, 0, none⟩)) :: (.pointer (some ⟨By, 0, none⟩)) :: (.agg #[.slice a n c]) :: (.int .i64 0) :: (.bool false) :: (.bool false) :: (.agg #[.slice a2 n2 c2]) :: (.int .i64 0) :: (.bool false) :: (.bool false) :: (.agg #[.slice a n c]) :: (.agg #[.slice a2 n2 c2]) :: (.func (.func 50) #[] #[.pointer (some ⟨w4.heap.size, 0, none⟩), .pointer (some ⟨w4.heap.size + 1, 0, none⟩)]) :: (.agg ((mg A B).getD k (Rt.zero, Rt.zero)).1.cs) :: (.agg ((mg A B).getD k (Rt.zero, Rt.zero)).2.cs) :: undef :: undef :: undef :: undef :: undef :: undef :: undef :: undef :: undef :: undef :: undef :: undef :: []).toArray, defers := [] })
        ?hAx ?assign ?body ?done ?stop
      case hI =>
        exact fun s X Y row hs hg hrow => ⟨own_kept (β := Unit) _ (Nat.le_refl _) () X Y row hs.1 hg hrow, by
          obtain ⟨v, h1, h2⟩ := hs.2
          exact ⟨v, own_blk (β := Unit) _ _ _ (fun _ => _) () X Y row h1 hg hrow, own_row (β := Unit) _ _ _ _ (fun _ => _) (fun _ => _) (fun _ => _) () X Y row h2 hg hrow⟩⟩
      case hIx => exact fun s X Y row hs hg hrow => hs
      case hAx =>
        exact fun k a' s X Y row hs hg hrow => by
          obtain ⟨Bx, By, e1, e2, e3⟩ := hs
          exact ⟨Bx, By, own_blk (β := Unit) _ _ _ (fun _ => _) () X Y row e1 hg hrow, own_blk (β := Unit) _ _ _ (fun _ => _) () X Y row e2 hg hrow, e3⟩
      case assign =>
        intro k X K hk hX hI hK
        simp only [List.zip_toArray, List.zip_cons_cons, List.zip_nil_right, List.zip_nil_left, List.size_toArray, List.foldl_toArray', List.foldl_toArray, List.foldl_cons, List.foldl_nil, List.setIfInBounds_toArray, List.set_cons_zero, List.set_cons_succ, encB]
        generalize (mg A B).getD k (Rt.zero, Rt.zero) = q at *
        obtain ⟨x, y⟩ := q
        simp only at hK ⊢
        have HZx := Lib.hid (show Rt.zero.cs.size = x.cs.size by rw [Rt.size, Rt.size])
        have HZy := Lib.hid (show Rt.zero.cs.size = y.cs.size by rw [Rt.size, Rt.size])
        have HPx := Lib.hid (s_rt x)
        have HPy := Lib.hid (s_rt y)
        gi_wp2_with (first | (with_reducible refine wpListIn_alloc_z rfl 48 rfl Rt.zero.cs 19 z_rt ?_) | (with_reducible refine wpListIn_store_new rfl 48 (.tmp 7) (.tmp 20) rfl x.cs Rt.zero.cs _ rfl rfl HZx.out HPx.out (Rt.one _) ?_) | (with_reducible refine wpListIn_store_new rfl 48 (.tmp 8) (.tmp 21) rfl y.cs Rt.zero.cs _ rfl rfl HZy.out HPy.out (Rt.one _) ?_))
        have hB1 : Below X.heap.size X ((X.alloc (.cells x.cs 48)).alloc (.cells y.cs 48)) := ((Below.refl _ _).alloc (Nat.le_refl _) _).alloc (by simp) _
        refine hK _ _ (KL.below hB1 hX) ⟨hI.1.trans2 (Kept.of_below [] hB1) (by simp), ?_⟩ ⟨_, _, (Blk.new X _ _).alloc _, ?_, rfl⟩
        · obtain ⟨v, h1, h2⟩ := hI.2
          exact ⟨v, h1.later hB1, h2.later hB1⟩
        · have h9 := Blk.new (X.alloc (.cells x.cs 48)) 48 y.cs
          exact h9
      case body =>
        rintro k _ X ⟨hkX, v, bo, ho⟩ ⟨Bx, By, bx, by9, rfl⟩ hk hX
        have hsame := outK_same (A := A) (B := B) hk
        have hmore := outK_more (A := A) (B := B) hk
        have hlk := outK_len A B k
        have hl2 := mg_len A B
        generalize (mg A B).getD k (Rt.zero, Rt.zero) = q at *
        obtain ⟨x, y⟩ := q
        simp only at bx by9 hsame hmore ⊢
        have LX := rt_r bx X (Below.refl _ _)
        have LY := rt_r by9 X (Below.refl _ _)
        have EQ := eqR x y
        by_cases hxy : x = y
        · rw [decide_eq_true hxy] at EQ
          have HR := Lib.hid (And.intro hkX (And.intro bo (And.intro ho (hsame hxy))))
          clear hkX bo ho hsame hmore hxy hseq
          gi_wp2
          exact ⟨KL.refl _ _ _, HR.out.1, v, HR.out.2.1, by rw [HR.out.2.2.2]; exact HR.out.2.2.1⟩
        · rw [decide_eq_false hxy] at EQ
          have hm9 := hmore hxy
          have hlen : (outK A B k).length ≤ 1000 := by
            have := HE.out.2.2.1.1; have := HE.out.2.2.2.1; omega
          clear hsame hmore hxy hseq hlk hl2
          obtain ⟨a7, c7, rfl, _⟩ := ho.lies
          obtain ⟨O, hO⟩ : ∃ O, outK A B k = O := ⟨_, rfl⟩
          rw [hO] at hm9 hlen ho bo
          obtain ⟨m, hm⟩ : ∃ m, O.length = m := ⟨_, rfl⟩
          rw [hm] at ho bo
          obtain ⟨S5, hS5⟩ : ∃ S5 : World → Prop, S5 = fun w' => Blk w' w3.heap.size 28 #[.slice a7 m c7] ∧ Blk w' Bx 48 x.cs ∧ Blk w' By 48 y.cs := ⟨_, rfl⟩
          have c0 : ∀ w', S5 w' → w'.cell? ⟨w3.heap.size, 0, none⟩ = some (.slice a7 m c7) := fun w' h => by rw [hS5] at h; exact h.1.cell 0
          have c1 : ∀ w', S5 w' → (loadSem 48 (.pointer (some ⟨Bx, 0, none⟩))).run Tryd.prog w' = .ok (.agg x.cs) w' := fun w' h => by rw [hS5] at h; exact rt_r h.2.1 w' (Below.refl _ _)
          have c2 : ∀ w', S5 w' → (loadSem 48 (.pointer (some ⟨By, 0, none⟩))).run Tryd.prog w' = .ok (.agg y.cs) w' := fun w' h => by rw [hS5] at h; exact rt_r h.2.2 w' (Below.refl _ _)
          have hbd : Below X.heap.size X X.drew := (Below.refl _ _).drew
          have hS0 : S5 X.drew := by rw [hS5]; exact ⟨bo.later hbd, bx.later hbd, by9.later hbd⟩
          have SL : ∀ w' w'', S5 w' → Below w'.heap.size w' w'' → S5 w'' := fun w' w'' h k => by rw [hS5] at h ⊢; exact ⟨h.1.later k, h.2.1.later k, h.2.2.later k⟩
          obtain ⟨X0, hX0⟩ : ∃ X0, X.drew = X0 := ⟨_, rfl⟩
          rw [hX0] at hS0 hbd
          have r3 := tbuild2_run x y X0
          obtain ⟨X1, hX1⟩ : ∃ X1, X0.alloc (.cells (x.cs ++ y.cs) 48) = X1 := ⟨_, rfl⟩
          rw [hX1] at r3
          have k01 : Below X0.heap.size X0 X1 := by rw [← hX1]; exact (Below.refl _ _).alloc (Nat.le_refl _) _
          have HOR := ror_any (some ⟨X0.heap.size, 0, none⟩) 2 2 [x, y] X1 rfl (by omega) (two_rows (by rw [← hX1]; exact Blk.new _ _ _))
          rw [or9_two] at HOR
          have FP := field_p (orM x y)
          have hS1 : S5 X1 := SL _ _ hS0 k01
          have HU := Lib.hid (And.intro ho (And.intro hkX (And.intro hm9 (And.intro hlen (And.intro hbd (And.intro k01 (And.intro hS5 (And.intro hm hX))))))))
          have HSL := Lib.hid SL
          clear ho hkX hm9 hlen hbd k01 hS5 hm bo bx by9 SL hX1
          gi_wp2_with fail
          clear LX LY EQ
          refine wp_region_linFK S5 8 [3, 4, 6, 7, 8] [0, 1, 2, 3, 4, 5, 6, 7, 8] (by kernel_rfl) (by kernel_rfl) (by kernel_rfl) (by rw [hX0]; exact hS0) ?_
          rw [hX0]
          (refine linF_op (v := ?_) rfl rfl (by rfl) (fun w9 hS9 => ?_) ?_; rotate_left; (focus ((have k0 := c0 w9 hS9;  go_simp; (try go_bits)) <;> with_reducible rfl)); (try simp only [Act.put, List.getElem_toArray, List.getElem_cons_zero, List.getElem_cons_succ, List.setIfInBounds_toArray, List.set_cons_zero, List.set_cons_succ]))
          (refine linF_op (v := ?_) rfl rfl (by rfl) (fun w9 hS9 => ?_) ?_; rotate_left; (focus ((have k0 := c1 w9 hS9;  go_simp; (try go_bits)) <;> with_reducible rfl)); (try simp only [Act.put, List.getElem_toArray, List.getElem_cons_zero, List.getElem_cons_succ, List.setIfInBounds_toArray, List.set_cons_zero, List.set_cons_succ]))
          (refine linF_op (v := ?_) rfl rfl (by rfl) (fun w9 hS9 => ?_) ?_; rotate_left; (focus ((have k0 := c2 w9 hS9;  go_simp; (try go_bits)) <;> with_reducible rfl)); (try simp only [Act.put, List.getElem_toArray, List.getElem_cons_zero, List.getElem_cons_succ, List.setIfInBounds_toArray, List.set_cons_zero, List.set_cons_succ]))
          refine linF_do (v := .slice (some ⟨X0.heap.size, 0, none⟩) 2 2) (w' := X1) rfl rfl (by rfl) (by go_simp) hS1 ?_
          (try simp only [Act.put, List.getElem_toArray, List.getElem_cons_zero, List.getElem_cons_succ, List.setIfInBounds_toArray, List.set_cons_zero, List.set_cons_succ])
          refine linF_call (f := 27) (args := #[.slice (some ⟨X0.heap.size, 0, none⟩) 2 2]) rfl rfl (by rfl) rfl rfl (enters_of Tryd.func27 (by kernel_rfl) rfl) (by simp [Act.eval]) ?_
          refine HOR.mono ?_
          rintro e X2 ⟨rfl, hb2⟩
          have hS2 : S5 X2 := HSL.out _ _ hS1 hb2
          refine ⟨_, rfl, hS2, ?_⟩
          (try simp only [Act.put, List.getElem_toArray, List.getElem_cons_zero, List.getElem_cons_succ, List.setIfInBounds_toArray, List.set_cons_zero, List.set_cons_succ])
          (refine linF_op (v := ?_) rfl rfl (by rfl) (fun w9 hS9 => ?_) ?_; rotate_left; (focus (( go_simp; (try go_bits)) <;> with_reducible rfl)); (try simp only [Act.put, List.getElem_toArray, List.getElem_cons_zero, List.getElem_cons_succ, List.setIfInBounds_toArray, List.set_cons_zero, List.set_cons_succ]))
          have k02 : Below X.heap.size X X2 := bel_trans HU.out.2.2.2.2.1 (bel_trans HU.out.2.2.2.2.2.1 hb2)
          have ho2 := HU.out.1.later k02
          have r6 := pbuild1_run (orM x y).p X2
          obtain ⟨a8, c8, X4, r7, o4, k4, kb⟩ := pappB_one ho2 HU.out.2.2.2.1 (by have := k02.size; omega) (orM x y).p
          obtain ⟨X3, hX3⟩ : ∃ X3, X2.alloc (.cells (orM x y).p.cs 38) = X3 := ⟨_, rfl⟩
          rw [hX3] at r6 r7
          have hS3 : S5 X3 := HSL.out _ _ hS2 (by rw [← hX3]; exact (Below.refl _ _).alloc (Nat.le_refl _) _)
          have e5 := HU.out.2.2.2.2.2.2.1
          have bo2 : Blk X2 w3.heap.size 28 #[.slice a7 m c7] := by rw [e5] at hS2; exact hS2.1
          have bo4 := kb _ _ _ bo2 (by decide)
          have hS4 : S5 X4 := by rw [e5] at hS2 ⊢; exact ⟨bo4, kb _ _ _ hS2.2.1 (by decide), kb _ _ _ hS2.2.2 (by decide)⟩
          have HK4 := Lib.hid (And.intro k02 (And.intro o4 (And.intro k4 bo4)))
          have cz : X4.cell? ⟨w3.heap.size, 0, none⟩ = some (.slice a7 m c7) := bo4.cell 0
          have fz := bo4.free 0
          clear hS2 bo2 k02 ho2 o4 k4 kb bo4 e5 hb2 HOR hX3
          refine linF_do (v := .slice (some ⟨X2.heap.size, 0, none⟩) 1 1) (w' := X3) rfl rfl (by rfl) (by go_simp) hS3 ?_
          (try simp only [Act.put, List.getElem_toArray, List.getElem_cons_zero, List.getElem_cons_succ, List.setIfInBounds_toArray, List.set_cons_zero, List.set_cons_succ])
          refine linF_do (v := .slice a8 (m + 1) c8) (w' := X4) rfl rfl (by rfl) (by have r := r7 28; simp [execOp, resolve, invoke, builtin, Act.eval, r, Result.andThen]) hS4 ?_
          (try simp only [Act.put, List.getElem_toArray, List.getElem_cons_zero, List.getElem_cons_succ, List.setIfInBounds_toArray, List.set_cons_zero, List.set_cons_succ])
          refine linF_fin (w' := X4.setCell ⟨w3.heap.size, 0, none⟩ (.slice a8 (m + 1) c8)) rfl rfl (by rfl) (by go_simp) ?_
          (try simp only [Act.put, List.getElem_toArray, List.getElem_cons_zero, List.getElem_cons_succ, List.setIfInBounds_toArray, List.set_cons_zero, List.set_cons_succ])
          gi_wp2_with fail
          have k5 : Kept [w3.heap.size] X4 (X4.setCell ⟨w3.heap.size, 0, none⟩ (.slice a8 (m + 1) c8)) := (Kept.refl [w3.heap.size] X4).setCell (p := ⟨w3.heap.size, 0, none⟩) (.inl (by simp)) _
          have b5 : Blk (X4.setCell ⟨w3.heap.size, 0, none⟩ (.slice a8 (m + 1) c8)) w3.heap.size 28 #[.slice a8 (m + 1) c8] := by
            have := HK4.out.2.2.2.set 0 (.slice a8 (m + 1) c8)
            simpa using this
          have hXW : W.heap.size + 2 ≤ X.heap.size := HU.out.2.2.2.2.2.2.2.2
          have k4 : Below (W.heap.size + 2) X X4 := (HK4.out.1.mono hXW).trans HK4.out.2.2.1
          have hsz4 := k4.size
          refine ⟨(KL.below k4 (Nat.le_refl _)).trans (KL.kept k5 (by omega)), (kept_bel HU.out.2.1 k4 (by omega)).trans k5, _, b5, ?_⟩
          rw [HU.out.2.2.1]
          exact own_same9 HK4.out.2.1 (fun g hg hl => k5.block g hl (by have := HWW.out.2.2.1; have := HWW.out.2.2.2.1; simp; omega))
      case done =>
        rintro X ⟨hkX, v, bo, ho⟩ hd
        have co : X.cell? ⟨w3.heap.size, 0, none⟩ = some v := bo.cell 0
        rw [outK_all] at ho
        have hbX : Below w.heap.size w X := HWW.out.1.trans (hkX.below (by have := HWW.out.2.2.2.2; simp; omega) HWW.out.1.size)
        have HD := Lib.hid (And.intro ho (And.intro hd hbX))
        clear ho hd hbX bo hkX hseq
        go_wp2_with fail
        refine marks_cells (v := .tuple #[v, .int .i64 0]) [W.heap.size] _ (by simp) (fun d hd => by rw [List.mem_singleton.1 hd]; exact HD.out.2.1) (fun w' h1 h2 h3 h4 h5 => ⟨results_45 rfl _ w' _ _ rfl rfl, v, by rw [HE.out.1], ?_, after_marks HD.out.2.2 h1 h2 h3 h4 (fun k hk => h5 k (by have := HWW.out.1.size; have := HWW.out.2.2.1; have := HWW.out.2.2.2.1; have := HWW.out.2.2.2.2; simp; omega))⟩)
        rw [HE.out.2.1]
        exact OwnP.less (own_same9 HD.out.1 (fun g hg hl => h5 g (by simp; omega))) (by have := HWW.out.1.size; omega)
      case stop => exact fun k X hk h => h.elim
    · rw [eT_no hB] at HCB
      have HE := Lib.hid (And.intro (show dfE A B = 190 from if_neg (fun h => hB h.2)) (show dfP A B = [] from if_neg (fun h => hB h.2)))
      clear hA hB
      go_enter Tryd.func10, Tryd.ntmps10
      go_wp2_with fail
      refine (HCA _ (by assumption)).mono ?_
      rintro e w2 ⟨rfl, hb2⟩
      have hk2 : Below W1.heap.size W1 w2 := hb2
      clear hb2
      go_wp2_with fail
      refine (HCB _ (by assumption)).mono ?_
      rintro e w3 ⟨rfl, hb3⟩
      have hk3 : Below W1.heap.size W1 w3 := bel_trans (by assumption) hb3
      clear hk2 hb3
      go_wp2
      go_ret2
      exact ⟨.slice none 0 0, by rw [HE.out.1]; rfl, by rw [HE.out.2]; exact ⟨rfl, .inl ⟨rfl, rfl⟩⟩, bel_trans HB.out.1 (by assumption)⟩
  · rw [eT_no hA] at HCA
    have HE := Lib.hid (And.intro (show dfE A B = 190 from if_neg (fun h => hA h.1)) (show dfP A B = [] from if_neg (fun h => hA h.1)))
    clear hA HCB LU
    go_enter Tryd.func10, Tryd.ntmps10
    go_wp2_with fail
    refine (HCA _ (by assumption)).mono ?_
    rintro e w2 ⟨rfl, hb2⟩
    have hk2 : Below W1.heap.size W1 w2 := hb2
    clear hb2
    go_wp2
    go_ret2
    exact ⟨.slice none 0 0, by rw [HE.out.1]; rfl, by rw [HE.out.2]; exact ⟨rfl, .inl ⟨rfl, rfl⟩⟩, bel_trans HB.out.1 (by assumption)⟩
end Go.Proofs.YtdbdmnahgkkjiaaDoor
