/-
  The contract of ship.fitting. Nothing here is a statement of the document.
-/
import Derived.Test.YtkoenconjldojaaShM
namespace Go.Proofs.Ytkoenconjldojaa
open Go.RowKit Go.Shelf
set_option linter.unusedVariables false
set_option linter.unusedSimpArgs false
set_option maxRecDepth 100000
attribute [local go_sem 10000] gtU_rule leU_rule ltU_rule geU_rule adU_rule sbU_rule mxU_rule mnU_rule mnI_rule
attribute [local go_sem ↓] load_at_rule store_at_rule load_la_rule store_la_rule load_bs_rule store_bs_rule load_vw_rule store_vw_rule load_jo_rule store_jo_rule load_ms_rule store_ms_rule load_ch_rule store_ch_rule load_hd_rule store_hd_rule load_rb_rule store_rb_rule load_en_rule store_en_rule
attribute [local go_sem ↓] build_hd_rule build_rb_rule build_en_rule build_at_rule build_jo_rule upbuild_rule upapp_rule robuild_rule roapp_rule enbuild_rule enapp_rule build_vw_rule eq_at_rule eq_la_rule
/-- A function that has gone over ranges returns what lies in cells: their marks are taken. -/
theorem marks_cells14 {fn : Func} {R : Ending → World → Prop} {tmps : Array Value} {v : Value} :
    ∀ (ds : List Nat) (w : World), ds.Nodup → (∀ d ∈ ds, w.heap[d]? = some (.deferred (some []))) → (∀ w', w'.heap.size = w.heap.size → w'.os = w.os → w'.tape = w.tape → w'.output = w.output → (∀ k, k ∉ ds → w'.heap[k]? = w.heap[k]?) → (results fn tmps).run Try.prog w' = .ok v w' ∧ R (.returned v) w') →
      LeavesInM Fence.wide 10 Try.prog fn tmps R (marks ds) .returning w := by
  intro ds
  induction ds with
  | nil => exact fun w _ _ h => ⟨_, (h w rfl rfl rfl rfl (fun _ _ => rfl)).1, (h w rfl rfl rfl rfl (fun _ _ => rfl)).2⟩
  | cons d ds ih =>
    intro w hn hd h
    refine ⟨by simp, .inl ⟨d, _, rfl, run_takeDeferred (hd d (by simp)), ?_⟩⟩
    refine ih _ (List.nodup_cons.1 hn).2 (fun d' hd' => ?_) (fun w' h1 h2 h3 h4 h5 => h w' (h1.trans (by simp [World.putObj])) h2 h3 h4 (fun k hk => ?_))
    · exact (World.putObj_heap_other (fun e => (List.nodup_cons.1 hn).1 (by rw [← e]; exact hd'))).trans (hd d' (by simp [hd']))
    · simp only [List.mem_cons, not_or] at hk
      exact (h5 k hk.2).trans (World.putObj_heap_other hk.1)
theorem kept_more14 {W X : World} {S : List Nat} (h : Kept [] W X) : Kept S W X := ⟨h.os, h.tape, h.output, h.size, fun k hk _ => h.block k hk (by simp)⟩
theorem EnOwn.turn {X Y : World} {B : Nat} {v : Value} {L : List En} (h : EnOwn X B v L) (k : ∀ g t cs, t ≠ 67 → Blk X g t cs → Blk Y g t cs) : EnOwn Y B v L := by
  refine ⟨⟨h.1.1, ?_⟩, fun x hx => ⟨(h.2 x hx).1, ?_⟩⟩
  · rcases h.1.2 with h | ⟨g, cap, cur, h1, h2, h3, h4⟩
    · exact .inl h
    · exact .inr ⟨g, cap, cur, h1, h2, k g _ _ (by decide) h3, h4⟩
  · rcases (h.2 x hx).2 with h | ⟨g, cap, cur, h1, h2, h3, h4⟩
    · exact .inl h
    · exact .inr ⟨g, cap, cur, h1, h2, k g _ _ (by decide) h3, h4⟩
/-- What an offer that fits makes of a view. -/
def FitR (v : Vw) (m : Ms) (c : Ch) : Prop := c.ok = true ∧ c.hv = m.pi + m.n ∧
  ((c.ix = 0 ∧ c.n = 0 ∧ c.L = [] ∧ ∀ k, k < m.n - (v.b.i - m.pi) → there v m (v.b.i - m.pi + k) = true) ∨
   ∃ k, k < m.n - (v.b.i - m.pi) ∧ (∀ j, j < k → there v m (v.b.i - m.pi + j) = true) ∧ there v m (v.b.i - m.pi + k) = false ∧ c.ix = m.pi + (v.b.i - m.pi + k) + 1 ∧ c.n = m.n - (v.b.i - m.pi + k) ∧ Same' c.L (m.L.drop (v.b.i - m.pi + k)))
theorem build_ch_rule (ps : Array (Nat × Value)) : Instr.build 67 ps = buildSem 67 ps := rfl
def chOk (h : Nat) : Ch := ⟨true, 0, none, 0, 0, [], h⟩
theorem build_chok (h : Nat) (w : World) : (buildSem 67 #[(0, .bool true), (3, .int .u64 (h : Int))]).run Try.prog w = .ok (.agg (chOk h).cs) w := by kernel_rfl
attribute [local go_sem ↓] build_ch_rule
attribute [local go_sem] Oper.semAt_some
set_option maxHeartbeats 4000000 in
theorem fitting_any (v : Vw) (m : Ms) (w : World) (hv : v.ok = true) (hmi : m.pi ≤ 4611686018427387904) (hmn : m.n ≤ 8) (hL : EnIn w 0 v.a v.n v.c v.L) (hM : EnIn w 0 m.a m.n m.c m.L) (hU : ∀ x ∈ m.L, x.n ≤ 1000) :
    Calls Try.prog 58 #[.agg v.cs, .agg m.cs] w fun e w' => ∃ c : Ch, e = .returned (.agg c.cs) ∧ FitR v m c ∧ EnOwn w' w.heap.size (.slice c.a c.n c.c) c.L ∧ Below w.heap.size w w' := by
  obtain ⟨W1, hW1⟩ : ∃ W1, w.alloc (.cells v.cs 36) = W1 := ⟨_, rfl⟩
  have hb1 : Below w.heap.size w W1 := by rw [← hW1]; exact below_alloc w _
  have b1 : Blk W1 w.heap.size 36 v.cs := by rw [← hW1]; exact Blk.new w _ _
  obtain ⟨W2, hW2⟩ : ∃ W2, W1.alloc (.cells m.cs 47) = W2 := ⟨_, rfl⟩
  have hb12 : Below W1.heap.size W1 W2 := by rw [← hW2]; exact below_alloc W1 _
  have b2 : Blk W2 W1.heap.size 47 m.cs := by rw [← hW2]; exact Blk.new W1 _ _
  obtain ⟨W3, hW3⟩ : ∃ W3, W2.alloc (.cells Ch.zero.cs 67) = W3 := ⟨_, rfl⟩
  have hb23 : Below W2.heap.size W2 W3 := by rw [← hW3]; exact below_alloc W2 _
  have b3 : Blk W3 W2.heap.size 67 Ch.zero.cs := by rw [← hW3]; exact Blk.new W2 _ _
  obtain ⟨W4, hW4⟩ : ∃ W4, W3.alloc (.cells #[.int .u64 (m.pi : Int)] 22) = W4 := ⟨_, rfl⟩
  have hb34 : Below W3.heap.size W3 W4 := by rw [← hW4]; exact below_alloc W3 _
  have b4 : Blk W4 W3.heap.size 22 #[.int .u64 (m.pi : Int)] := by rw [← hW4]; exact Blk.new W3 _ _
  obtain ⟨hh, hhv⟩ : ∃ hh, m.pi + m.n = hh := ⟨_, rfl⟩
  obtain ⟨W5, hW5⟩ : ∃ W5, W4.alloc (.cells (chOk hh).cs 67) = W5 := ⟨_, rfl⟩
  have hb45 : Below W4.heap.size W4 W5 := by rw [← hW5]; exact below_alloc W4 _
  have b5 : Blk W5 W4.heap.size 67 (chOk hh).cs := by rw [← hW5]; exact Blk.new W4 _ _
  have SC := st_ch (b2 := chOk hh) (Blk.new W4 67 Ch.zero.cs)
  rw [World.setRow_alloc_new, hW5] at SC
  have m3 := (b2.later hb23)
  have m4 := m3.later hb34
  have d0 : adU (m.pi : Int) (m.n : Int) = (hh : Int) := by rw [← hhv]; exact adU_nat (by omega)
  have d1 : IntKind.u64.wrap (m.n : Int) = (m.n : Int) := by rw [IntKind.wrap_u64]; omega
  have q0 : W3.cell? ⟨W1.heap.size, 4, none⟩ = some (.int .u64 (m.pi : Int)) := m3.cell 4
  have q1 : W4.cell? ⟨W1.heap.size, 6, none⟩ = some (.slice m.a m.n m.c) := m4.cell 6
  have q2 : W4.cell? ⟨W3.heap.size, 0, none⟩ = some (.int .u64 (m.pi : Int)) := b4.cell 0
  have BC := build_chok hh
  have v5 := (((b1.later hb12).later hb23).later hb34).later hb45
  have m5 := m4.later hb45
  have LV := ld_vw v5
  have LM := ld_ms m5
  have HAL := along_any v m W5
  have hb05 : Below w.heap.size w W5 := bel_trans (bel_trans (bel_trans (bel_trans hb1 hb12) hb23) hb34) hb45
  have s1 : W1.heap.size = w.heap.size + 1 := by rw [← hW1]; simp
  have s2 : W2.heap.size = w.heap.size + 2 := by rw [← hW2]; simp [s1]
  have s3 : W3.heap.size = w.heap.size + 3 := by rw [← hW3]; simp [s2]
  have s4 : W4.heap.size = w.heap.size + 4 := by rw [← hW4]; simp [s3]
  have s5 : W5.heap.size = w.heap.size + 5 := by rw [← hW5]; simp [s4]
  obtain ⟨Wa, hWa⟩ : ∃ Wa, (W5.alloc (.cells v.cs 36)).alloc (.cells m.cs 47) = Wa := ⟨_, rfl⟩
  rw [hWa] at HAL
  have hb5a : Below W5.heap.size W5 Wa := by rw [← hWa]; exact (below_alloc W5 _).alloc (by simp) _
  have sa : Wa.heap.size = w.heap.size + 7 := by rw [← hWa]; simp [s5]
  have va : Blk Wa W5.heap.size 36 v.cs := by rw [← hWa]; exact (Blk.new W5 _ _).alloc _
  have ma : Blk Wa (W5.heap.size + 1) 47 m.cs := by
    have h := Blk.new (W5.alloc (.cells v.cs 36)) 47 m.cs
    rw [World.size_alloc, hWa] at h
    exact h
  have hbA : Below w.heap.size w Wa := bel_trans hb05 hb5a
  have hseq := along_tells (S := [W4.heap.size]) hv hmi hmn hL hM (fun s hs => by simp at hs; omega) (fun s hs => by simp at hs; omega) (Low.of hbA) va (by simp; omega) ma (by simp; omega)
  have HX := Lib.hid (And.intro hL (And.intro hM (And.intro hU (And.intro hbA (And.intro (b5.later hb5a) (And.intro (m5.later hb5a) (And.intro ((b4.later hb45).later hb5a) (And.intro (((b3.later hb34).later hb45).later hb5a) hhv))))))))
  have HS := Lib.hid (And.intro s1 (And.intro s2 (And.intro s3 (And.intro s4 (And.intro s5 sa)))))
  clear hL hM hU hb1 b1 hb12 b2 hb23 b3 hb34 b4 hb45 b5 m3 m4 v5 m5 hb05 hb5a va ma hbA s1 s2 s3 s4 s5 sa hhv hWa
  refine calls_of_wp_marks Try.func58 rfl ?_
  simp only [Try.ntmps58, List.size_toArray, List.length_cons, List.length_nil, Nat.reduceAdd, Nat.reduceSub, Array.replicate_succ, Array.replicate_zero, List.push_toArray, List.append_toArray, List.nil_append, List.cons_append]
  go_wp2_with (with_reducible refine wpList_alloc_z rfl 67 rfl Ch.zero.cs 4 z_ch ?_)
  refine HAL.mono ?_
  rintro e W ⟨rfl, rfl⟩
  clear HAL
  go_wp2_with fail
  refine wp_range_all (S := [W4.heap.size]) (N := m.n - (v.b.i - m.pi)) (enc := encA v m) (some 0) (fun _ => rfl) rfl (fun _ _ => by simp [go_sem, enters_of Try.func63 (by kernel_rfl) rfl]) hseq (fun k hk => by have := HS.out; simp at hk; omega)
    (fun k X => Kept [] W X ∧ ∀ j, j < k → there v m (v.b.i - m.pi + j) = true)
    (fun k X => Kept [W4.heap.size] W X ∧ ∃ c : Ch, Blk X W4.heap.size 67 c.cs ∧ FitR v m c ∧ EnOwn X w.heap.size (.slice c.a c.n c.c) c.L)
    ?hI ?hIx ⟨Kept.refl _ _, fun j hj => absurd hj (Nat.not_lt_zero _)⟩
    (fun k a' X => a' = { tmps := #[.agg v.cs, .agg m.cs, .pointer (some ⟨w.heap.size, 0, none⟩), .pointer (some ⟨W1.heap.size, 0, none⟩), .pointer (some ⟨W2.heap.size, 0, none⟩), .pointer (some ⟨W3.heap.size, 0, none⟩), .pointer (some ⟨W4.heap.size, 0, none⟩), .int .u64 ((m.pi + (v.b.i - m.pi + k) + 1 : Nat) : Int), .bool (there v m (v.b.i - m.pi + k)), .pointer (some ⟨W1.heap.size, 4, none⟩), .pointer (some ⟨W1.heap.size, 4, none⟩), .int .u64 (m.pi : Int), .int .u64 (m.pi : Int), .pointer (some ⟨W1.heap.size, 6, none⟩), .slice m.a m.n m.c, .int .i64 (m.n : Int), .int .u64 (m.n : Int), .int .u64 (hh : Int), .agg (chOk hh).cs, .agg v.cs, .agg m.cs, .func (.func 63) #[] #[.pointer (some ⟨W5.heap.size, 0, none⟩), .pointer (some ⟨W5.heap.size + 1, 0, none⟩)], .int .u64 ((m.pi + (v.b.i - m.pi + k) + 1 : Nat) : Int), .bool (there v m (v.b.i - m.pi + k)), undef, undef, undef, undef, undef, undef, undef, undef, undef, undef, undef, undef, undef, undef], defers := [] })
    ?hAx ?assign ?body ?done ?stop
  case hI => exact fun s X Y row hs hg hrow => ⟨own_kept (β := Unit) _ (Nat.le_refl _) () X Y row hs.1 hg hrow, hs.2⟩
  case hIx =>
    intro s X Y row hs hg hrow
    obtain ⟨h1, c, h2, h3, h4⟩ := hs
    exact ⟨own_kept (β := Unit) _ (Nat.le_refl _) () X Y row h1 hg hrow, c, own_blk (β := Unit) _ _ _ (fun _ => c.cs) () X Y row h2 hg hrow, h3, h4.turn (fun g t cs _ hb => own_blk (β := Unit) _ g t (fun _ => cs) () X Y row hb hg hrow)⟩
  case hAx => exact fun k a' s X Y row hs hg hrow => hs
  case assign =>
    intro k X K hk hX hI hK
    simp only [List.zip_toArray, List.zip_cons_cons, List.zip_nil_right, List.zip_nil_left, List.size_toArray, List.foldl_toArray', List.foldl_toArray, List.foldl_cons, List.foldl_nil, List.setIfInBounds_toArray, List.set_cons_zero, List.set_cons_succ, encA]
    obtain ⟨e1, he1⟩ : ∃ e1 : Int, ((m.pi + (v.b.i - m.pi + k) + 1 : Nat) : Int) = e1 := ⟨_, rfl⟩
    obtain ⟨e2, he2⟩ : ∃ e2 : Bool, there v m (v.b.i - m.pi + k) = e2 := ⟨_, rfl⟩
    rw [he1, he2] at hK ⊢
    gi_wp2_with fail
    exact hK _ _ (KL.refl _ _ _) hI rfl
  case body =>
    rintro k _ X ⟨hkX, hall⟩ rfl hk hX
    obtain ⟨q, hq⟩ : ∃ q, v.b.i - m.pi + k = q := ⟨_, rfl⟩
    obtain ⟨ix, hix⟩ : ∃ ix, m.pi + q + 1 = ix := ⟨_, rfl⟩
    obtain ⟨th, hth⟩ : ∃ th, there v m q = th := ⟨_, rfl⟩
    rw [hq, hix, hth]
    cases th with
    | true =>
      have HB := Lib.hid (And.intro hkX (And.intro hall (And.intro hq hth)))
      clear hkX hall hq hth hix hk hX
      gi_wp2
      refine ⟨KL.refl _ _ _, .inl ⟨HB.out.1, fun j hj => ?_⟩⟩
      by_cases e : j = k
      · rw [e, HB.out.2.2.1]; exact HB.out.2.2.2
      · exact HB.out.2.1 j (by omega)
    | false =>
      have hXW : Below W.heap.size W X := hkX.below (by simp) (Nat.le_refl _)
      have hbX : Below w.heap.size w X := bel_trans HX.out.2.2.2.1 hXW
      have hMX := HX.out.2.1.later hbX
      have hqn : q < m.n := by omega
      have hql : q < m.L.length := by have := hMX.1; omega
      obtain ⟨g, o, ha, _⟩ := hMX.2.1.spot hql
      have hcc := hMX.2.2.1
      have hcm : m.c ≤ 9223372036854775807 := by have := hMX.2.2.2.1; unfold maxLen at this; omega
      have hDr := hMX.drop (k := q) (by omega)
      rw [if_neg (by omega), ha] at hDr
      simp only [Option.map_some, Addr.add_lit] at hDr
      have HCP := copies_any _ _ _ _ X hDr (by omega) (fun x hx => HX.out.2.2.1 x (List.mem_of_mem_drop hx))
      have m9 := HX.out.2.2.2.2.2.1.later hXW
      have p9 := HX.out.2.2.2.2.2.2.1.later hXW
      have c9 := HX.out.2.2.2.2.1.later hXW
      have z0 : X.cell? ⟨W1.heap.size, 6, none⟩ = some (.slice m.a m.n m.c) := m9.cell 6
      have z1 : X.cell? ⟨W3.heap.size, 0, none⟩ = some (.int .u64 (m.pi : Int)) := p9.cell 0
      rw [ha] at z0
      obtain ⟨q1, hq1⟩ : ∃ q1, q + 1 = q1 := ⟨_, rfl⟩
      have y0 : sbU (ix : Int) (m.pi : Int) = (q1 : Int) := by rw [show q1 = ix - m.pi by omega]; exact sbU_nat (by omega) (by omega)
      have y1 : sbU (q1 : Int) 1 = (q : Int) := by rw [show q = q1 - 1 by omega]; exact sbU_nat (a := q1) (b := 1) (by omega) (by omega)
      have hqc : q ≤ m.n := by omega
      have hncq : ¬ m.c = q := by omega
      obtain ⟨nn, hnn⟩ : ∃ nn, m.n - q = nn := ⟨_, rfl⟩
      obtain ⟨nc, hnc⟩ : ∃ nc, m.c - q = nc := ⟨_, rfl⟩
      rw [hnn, hnc] at HCP
      have HB := Lib.hid (And.intro hkX (And.intro hall (And.intro hq (And.intro hth (And.intro hbX (And.intro c9 (And.intro hix (And.intro hk (And.intro hnn hX)))))))))
      clear hkX hall hq hth hix hk hX hXW hbX hMX hql ha hDr m9 p9 c9 hq1
      gi_wp2
      refine ⟨trivial, ?_⟩
      refine (CallsIn.inRound (W.heap.size + 1) (callsIn_wide.2 HCP)).mono ?_
      rintro e6 X6 ⟨a6, c6, rfl, M6, hO6, hSm6, hb6⟩
      have c66 := HB.out.2.2.2.2.2.1.later hb6
      have x0 : X6.cell? ⟨W4.heap.size, 1, none⟩ = some (.int .u64 0) := c66.cell 1
      have x1 := c66.free 1
      have t1 := c66.set 1 (.int .u64 (ix : Int))
      obtain ⟨X7, hX7⟩ : ∃ X7, X6.setCell ⟨W4.heap.size, 1, none⟩ (.int .u64 (ix : Int)) = X7 := ⟨_, rfl⟩
      rw [hX7] at t1
      have x2 : X7.cell? ⟨W4.heap.size, 2, none⟩ = some (.slice none 0 0) := t1.cell 2
      have x3 := t1.free 2
      have t2 := t1.set 2 (.slice a6 nn c6)
      have k7 : Kept [W4.heap.size] X6 X7 := by rw [← hX7]; exact Kept.setCell (p := ⟨W4.heap.size, 1, none⟩) (Kept.refl _ _) (.inl (by simp)) _
      have k8 : Kept [W4.heap.size] X6 (X7.setCell ⟨W4.heap.size, 2, none⟩ (.slice a6 nn c6)) := Kept.setCell (p := ⟨W4.heap.size, 2, none⟩) k7 (.inl (by simp)) _
      have HC := Lib.hid (And.intro hO6 (And.intro hSm6 (And.intro hb6 (And.intro t2 (And.intro k8 c66)))))
      clear hO6 hSm6 hb6 t1 t2 k7 k8 c66 HCP
      gi_wp2
      have hs9 := HS.out
      have hz6 := HC.out.2.2.1.size
      have hzX := HB.out.2.2.2.2.2.2.2.2.2
      have hsX := HB.out.1.size
      refine ⟨(KL.below (B := X.heap.size) HC.out.2.2.1 (Nat.le_refl _)).trans (KL.kept HC.out.2.2.2.2.1 hz6), .inr ⟨rfl, ((kept_more14 HB.out.1).trans (Kept.of_below _ HC.out.2.2.1)).trans HC.out.2.2.2.2.1, ⟨true, ix, a6, nn, c6, M6, hh⟩, HC.out.2.2.2.1, ⟨rfl, HX.out.2.2.2.2.2.2.2.2.symm, .inr ⟨k, HB.out.2.2.2.2.2.2.2.1, HB.out.2.1, ?_, ?_, ?_, ?_⟩⟩, ?_⟩⟩
      · rw [HB.out.2.2.1]; exact HB.out.2.2.2.1
      · rw [HB.out.2.2.1]; exact HB.out.2.2.2.2.2.2.1.symm
      · rw [HB.out.2.2.1]; exact HB.out.2.2.2.2.2.2.2.2.1.symm
      · rw [HB.out.2.2.1]; exact HC.out.2.1
      · have h9 : EnOwn X6 w.heap.size (.slice a6 nn c6) M6 := HC.out.1.less (by omega)
        exact h9.turn (fun g t cs ht hb => hb.kept HC.out.2.2.2.2.1 (fun hm => by
          have e : g = W4.heap.size := by simpa using hm
          subst e
          exact (Blk.ne hb HC.out.2.2.2.2.2 ht) rfl))
  case done =>
    rintro X ⟨hkX, hall⟩ hd
    have hXW : Below W.heap.size W X := hkX.below (by simp) (Nat.le_refl _)
    have hbX : Below w.heap.size w X := bel_trans HX.out.2.2.2.1 hXW
    obtain ⟨c, hc⟩ : ∃ c : Ch, c = chOk hh := ⟨_, rfl⟩
    have hfit : FitR v m c := by subst hc; exact ⟨rfl, HX.out.2.2.2.2.2.2.2.2.symm, .inl ⟨rfl, rfl, rfl, hall⟩⟩
    have hown : EnOwn X w.heap.size (.slice c.a c.n c.c) c.L := by subst hc; exact EnOwn.nil _ _
    have hcb : Blk X W4.heap.size 67 c.cs := by rw [hc]; exact HX.out.2.2.2.2.1.later hXW
    have HD := Lib.hid (And.intro hcb (And.intro hfit (And.intro hown (And.intro hd (And.intro (HX.out.2.2.2.2.2.2.2.1.later hXW) hbX)))))
    clear hkX hall hd hXW hbX hfit hown hcb hc hseq
    have r8 := HD.out.2.2.2.2.1
    have ST8 := st_ch (b2 := c) r8
    have LC := ld_ch HD.out.1
    have hlt := HS.out
    have k8 : Kept [W2.heap.size] X (X.setRow W2.heap.size c.cs) := (Kept.refl _ _).setRow (.inl (by simp)) _
    have b8 := r8.row c.cs
    have hb8 : Below w.heap.size w (X.setRow W2.heap.size c.cs) := below_setRow HD.out.2.2.2.2.2 (by omega) _
    have e8 : EnOwn (X.setRow W2.heap.size c.cs) w.heap.size (.slice c.a c.n c.c) c.L := by
      have h9 := HD.out.2.2.1
      have ne : ∀ (g : Nat) (t : TypeId) (cs : Array Value), t ≠ 67 → Blk X g t cs → Blk (X.setRow W2.heap.size c.cs) g t cs := fun g t cs ht hb => hb.kept k8 (fun hm => by
        have e : g = W2.heap.size := by simpa using hm
        subst e
        exact (Blk.ne hb r8 ht) rfl)
      exact h9.turn ne
    have hd8 : (X.setRow W2.heap.size c.cs).heap[W.heap.size]? = some (.deferred (some [])) := (k8.block _ (Array.getElem?_eq_some_iff.1 HD.out.2.2.2.1).1 (by simp; omega)).trans HD.out.2.2.2.1
    have HE := Lib.hid (And.intro b8 (And.intro hb8 (And.intro e8 hd8)))
    clear r8 hlt k8 b8 hb8 e8 hd8
    go_wp2_with fail
    refine marks_cells14 (v := .agg c.cs) [W.heap.size] _ (by simp) (fun d hd => by rw [List.mem_singleton.1 hd]; exact HE.out.2.2.2) (fun w' h1 h2 h3 h4 h5 => ?_)
    have hs9 := HS.out
    refine ⟨results_cell_row rfl _ w' W2.heap.size 67 _ (0, 0) _ rfl ((h5 _ (by simp; omega)).trans HE.out.1) Try.underlying67 rfl (s_ch _), c, rfl, HD.out.2.1, ?_, ?_⟩
    · refine EnOwn.turn HE.out.2.2.1 (fun g t cs _ hb => ?_)
      have hg : g ≠ W.heap.size := fun e => by
        have h9 := HE.out.2.2.2
        rw [← e] at h9
        have h8 : (X.setRow W2.heap.size c.cs).heap[g]? = some (.cells cs t (0, 0)) := hb
        rw [h9] at h8
        cases h8
      exact (h5 g (by simpa using hg)).trans hb
    · exact ⟨h2.trans HE.out.2.1.os, h3.trans HE.out.2.1.tape, h4.trans HE.out.2.1.output, by rw [h1]; exact HE.out.2.1.size, fun k hk => (h5 k (by simp; omega)).trans (HE.out.2.1.block k hk)⟩
  case stop =>
    rintro k X hk ⟨hkX, c, hcb, hfit, hown⟩ hd
    have hs9 := HS.out
    have hbX : Below w.heap.size w X := HX.out.2.2.2.1.trans (hkX.below (by simp; omega) HX.out.2.2.2.1.size)
    have hr9 := HX.out.2.2.2.2.2.2.2.1.kept hkX (by simp; omega)
    have HD := Lib.hid (And.intro hcb (And.intro hfit (And.intro hown (And.intro hd (And.intro hr9 hbX)))))
    clear hkX hd hbX hfit hown hcb hr9 hs9 hseq
    rw [show outE (some 0) = Exit.exit 0 from rfl]
    simp only [Exit.inBlock, Exit.then]
    have r8 := HD.out.2.2.2.2.1
    have ST8 := st_ch (b2 := c) r8
    have LC := ld_ch HD.out.1
    have hlt := HS.out
    have k8 : Kept [W2.heap.size] X (X.setRow W2.heap.size c.cs) := (Kept.refl _ _).setRow (.inl (by simp)) _
    have b8 := r8.row c.cs
    have hb8 : Below w.heap.size w (X.setRow W2.heap.size c.cs) := below_setRow HD.out.2.2.2.2.2 (by omega) _
    have e8 : EnOwn (X.setRow W2.heap.size c.cs) w.heap.size (.slice c.a c.n c.c) c.L := by
      have h9 := HD.out.2.2.1
      have ne : ∀ (g : Nat) (t : TypeId) (cs : Array Value), t ≠ 67 → Blk X g t cs → Blk (X.setRow W2.heap.size c.cs) g t cs := fun g t cs ht hb => hb.kept k8 (fun hm => by
        have e : g = W2.heap.size := by simpa using hm
        subst e
        exact (Blk.ne hb r8 ht) rfl)
      exact h9.turn ne
    have hd8 : (X.setRow W2.heap.size c.cs).heap[W.heap.size]? = some (.deferred (some [])) := (k8.block _ (Array.getElem?_eq_some_iff.1 HD.out.2.2.2.1).1 (by simp; omega)).trans HD.out.2.2.2.1
    have HE := Lib.hid (And.intro b8 (And.intro hb8 (And.intro e8 hd8)))
    clear r8 hlt k8 b8 hb8 e8 hd8
    go_wp2_with fail
    refine marks_cells14 (v := .agg c.cs) [W.heap.size] _ (by simp) (fun d hd => by rw [List.mem_singleton.1 hd]; exact HE.out.2.2.2) (fun w' h1 h2 h3 h4 h5 => ?_)
    have hs9 := HS.out
    refine ⟨results_cell_row rfl _ w' W2.heap.size 67 _ (0, 0) _ rfl ((h5 _ (by simp; omega)).trans HE.out.1) Try.underlying67 rfl (s_ch _), c, rfl, HD.out.2.1, ?_, ?_⟩
    · refine EnOwn.turn HE.out.2.2.1 (fun g t cs _ hb => ?_)
      have hg : g ≠ W.heap.size := fun e => by
        have h9 := HE.out.2.2.2
        rw [← e] at h9
        have h8 : (X.setRow W2.heap.size c.cs).heap[g]? = some (.cells cs t (0, 0)) := hb
        rw [h9] at h8
        cases h8
      exact (h5 g (by simpa using hg)).trans hb
    · exact ⟨h2.trans HE.out.2.1.os, h3.trans HE.out.2.1.tape, h4.trans HE.out.2.1.output, by rw [h1]; exact HE.out.2.1.size, fun k hk => (h5 k (by simp; omega)).trans (HE.out.2.1.block k hk)⟩
end Go.Proofs.Ytkoenconjldojaa
