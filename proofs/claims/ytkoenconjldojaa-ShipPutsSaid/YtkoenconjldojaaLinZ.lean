/-
  Only edges that bind where the order is drawn have to lead back. Where the texts of iterators of another kind are not to be imported (LinY without LinI): a region that draws its order, walked once in an order that the prover picks, where some operations change the world: each operation behind one of these waits for it, if only by way of others. Nothing here is a statement of the document.
-/
import Derived.Test.YtkoenconjldojaaShC
import Derived.Test.YtkoenconjldojaaPfxD
namespace Go.Proofs.Ytkoenconjldojaa
open Go.RowKit Go.Shelf
set_option linter.unusedVariables false
set_option linter.unusedSimpArgs false
attribute [local go_sem 10000] gtU_rule leU_rule ltU_rule geU_rule adU_rule sbU_rule mxU_rule mnU_rule mnI_rule
attribute [local go_sem ↓] load_at_rule store_at_rule load_la_rule store_la_rule load_bs_rule store_bs_rule load_vw_rule store_vw_rule load_jo_rule store_jo_rule load_ms_rule store_ms_rule load_ch_rule store_ch_rule load_hd_rule store_hd_rule load_rb_rule store_rb_rule load_en_rule store_en_rule

theorem EnIn.drop {w : World} {a : Option Addr} {n c k : Nat} {L : List En} (h : EnIn w 0 a n c L) (hk : k ≤ n) : EnIn w 0 (if c = k then a else a.map (fun p => p.add (k * 4))) (n - k) (c - k) (L.drop k) := by
  obtain ⟨h1, h2, h3, h4, h5, h6, h7⟩ := h
  refine ⟨by rw [List.length_drop, h1], ?_, by omega, by omega, ?_, fun _ y _ => Nat.zero_le _, fun x hx => h7 x (List.mem_of_mem_drop hx)⟩
  · by_cases hd : L.drop k = []
    · exact .inl hd
    · have hl : k < L.length := by
        rcases Nat.lt_or_ge k L.length with h | h
        · exact h
        · exact absurd (List.drop_eq_nil_of_le h) hd
      rw [if_neg (by omega)]
      obtain ⟨g, o, rfl, hr⟩ := h2.spot hl
      refine .inr ⟨g, o + k * 4, by simp [Addr.add_lit], hr.lt, fun i hi j hj => ?_⟩
      have hi2 : k + i < L.length := by rw [List.length_drop] at hi; omega
      have := hr.row (k + i) hi2 j hj
      rw [eng_get hi2] at this
      rw [eng_get hi, List.getElem_drop, ← this]
      congr 2
      omega
  · split
    · omega
    · intro h0
      cases a with
      | none => have := h5 rfl; omega
      | some p => cases h0
theorem add_zero (p : Addr) : p.add 0 = p := by cases p with | mk b o s => cases s <;> simp [Addr.add]
set_option maxRecDepth 100000 in
set_option maxHeartbeats 1600000 in
theorem behind_any (v : Vw) (x : Nat) (w : World) (hL : EnIn w 0 v.a v.n v.c v.L) (h1 : v.b.i ≤ x) (h2 : x ≤ v.z) (hx : x < 18446744073709551616) : Calls Try.prog 37 #[.agg v.cs, .int .u64 (x : Int)] w fun e w' => e = .returned (.slice (if v.c = x - v.b.i then v.a else v.a.map (fun p => p.add ((x - v.b.i) * 4))) (v.n - (x - v.b.i)) (v.c - (x - v.b.i))) ∧ Below w.heap.size w w' := by
  obtain ⟨W1, hW1⟩ : ∃ W1, w.alloc (.cells v.cs 36) = W1 := ⟨_, rfl⟩
  have hb1 : Below w.heap.size w W1 := by rw [← hW1]; exact below_alloc w _
  have b1 : Blk W1 w.heap.size 36 v.cs := by rw [← hW1]; exact Blk.new w _ _
  have hk : x - v.b.i ≤ v.n := by unfold Vw.z at h2; omega
  have d0 : sbU (x : Int) (v.b.i : Int) = ((x - v.b.i : Nat) : Int) := sbU_nat h1 hx
  obtain ⟨_, _, hc, hm, h0, _⟩ := hL
  obtain ⟨c0, c1, c2, c3, c4⟩ := vw_cells b1
  have HB := Lib.hid hb1
  have hm2 : v.c ≤ 9223372036854775807 := by unfold maxLen at hm; omega
  clear hb1 b1 h1 h2 hx hm
  generalize x - v.b.i = k at *
  obtain ⟨n, hn⟩ : ∃ n, v.n = n := ⟨_, rfl⟩
  obtain ⟨c, hcc⟩ : ∃ c, v.c = c := ⟨_, rfl⟩
  obtain ⟨a, ha⟩ : ∃ a, v.a = a := ⟨_, rfl⟩
  rw [hn, hcc, ha] at c4
  rw [hn] at hk hc ⊢
  rw [hcc] at hc hm2 h0 ⊢
  rw [ha] at h0 ⊢
  clear hn hcc ha
  by_cases hck : c = k
  · subst hck
    rw [if_pos rfl]
    obtain rfl : n = c := by omega
    cases a with
    | none =>
      have := h0 rfl
      subst this
      clear h0
      go_enter Try.func37, Try.ntmps37
      go_wp2
      go_ret
      exact ⟨by simp, HB.out⟩
    | some p =>
      clear h0
      go_enter Try.func37, Try.ntmps37
      go_wp2
      go_ret
      exact ⟨by simp, HB.out⟩
  · rw [if_neg hck]
    cases a with
    | none => have := h0 rfl; omega
    | some p =>
      clear h0
      have hk2 : k ≤ c := by omega
      go_enter Try.func37, Try.ntmps37
      go_wp2
      go_ret
      exact ⟨by simp, HB.out⟩

theorem results_row_tmp {fn : Func} {p u : Tmp} {ty : TypeId} (h : fn.results = #[.cell p ty, .tmp u]) (tmps : Array Value) (w : World) (g : Nat) (cs : Array Value) (d : TypeDesc)
    (hp : tmps.getD p undef = .pointer (some ⟨g, 0, none⟩)) (hb : Blk w g ty cs) (hu : Try.prog.underlying ty = some d) (hd : d.isRow = true) (hi : (Try.prog.info? ty).map (·.size) = some cs.size) :
    (results fn tmps).run Try.prog w = .ok (.tuple #[.agg cs, tmps.getD u undef]) w := by
  have hl := run_loadVar_row (P := Try.prog) w g ty ty cs (0, 0) d hb hu (by cases d <;> simp_all) hi
  rw [results_cell_tmp h, hp]
  simp [asAddr, hl, Result.andThen]
/-- The place of an index: its numbers, and whether it has one. -/
def placeR (v : Vw) (x : Nat) : Int × Int × Bool := if x = v.b.i then (v.b.i, v.b.e, true) else if x < v.b.i ∨ v.z < x then (0, 0, false) else (x, (eng v.L (x - v.b.i - 1)).ep, true)
def placeV (v : Vw) (x : Nat) : Int × Int × Bool := if v.ok then placeR v x else (0, 0, false)
theorem build_at_rule (ps : Array (Nat × Value)) : Instr.build 24 ps = buildSem 24 ps := rfl
theorem build_at (i e : Int) (w : World) : (buildSem 24 #[(0, .int .u64 i), (1, .int .u64 e)]).run Try.prog w = .ok (.agg (acs i e)) w := by kernel_rfl
theorem build_at0 (w : World) : (buildSem 24 #[]).run Try.prog w = .ok (.agg (acs 0 0)) w := by kernel_rfl
attribute [local go_sem ↓] build_at_rule
set_option maxRecDepth 100000 in
set_option maxHeartbeats 1600000 in
theorem place_bad (v : Vw) (x : Nat) (w : World) (hL : EnIn w 0 v.a v.n v.c v.L) (hx : x < 18446744073709551616) (hv : v.ok = false) : Calls Try.prog 13 #[.agg v.cs, .int .u64 (x : Int)] w fun e w' => e = .returned (.tuple #[.agg (acs 0 0), .bool false]) ∧ Below w.heap.size w w' := by
  obtain ⟨W1, hW1⟩ : ∃ W1, w.alloc (.cells v.cs 36) = W1 := ⟨_, rfl⟩
  have hb1 : Below w.heap.size w W1 := by rw [← hW1]; exact below_alloc w _
  have b1 : Blk W1 w.heap.size 36 v.cs := by rw [← hW1]; exact Blk.new w _ _
  obtain ⟨W2, hW2⟩ : ∃ W2, W1.alloc (.cells (acs 0 0) 24) = W2 := ⟨_, rfl⟩
  have hb12 : Below W1.heap.size W1 W2 := by rw [← hW2]; exact below_alloc W1 _
  have b2 : Blk W2 W1.heap.size 24 (acs 0 0) := by rw [← hW2]; exact Blk.new W1 _ _
  have SA := st_at (i2 := (v.b.i : Int)) (e2 := v.b.e) (Blk.new W2 24 (acs 0 0))
  rw [World.setRow_alloc_new] at SA
  obtain ⟨W3, hW3⟩ : ∃ W3, W2.alloc (.cells (acs (v.b.i : Int) v.b.e) 24) = W3 := ⟨_, rfl⟩
  have hb23 : Below W2.heap.size W2 W3 := by rw [← hW3]; exact below_alloc W2 _
  have b3 : Blk W3 W2.heap.size 24 (acs (v.b.i : Int) v.b.e) := by rw [← hW3]; exact Blk.new W2 _ _
  rw [hW3] at SA
  have hne : W1.heap.size ≠ w.heap.size := by rw [← hW1]; simp
  have hne2 : W1.heap.size ≠ W2.heap.size := by rw [← hW2]; simp
  have v2 := (b1.later hb12)
  have v3 := v2.later hb23
  have r3 := b2.later hb23
  have LA2 := vw_at (b1.alloc (.cells (acs 0 0) 24))
  rw [hW2] at LA2
  have LA := vw_at (v2.alloc (.cells (acs 0 0) 24))
  have LV := ld_vw v3
  have HC := check_any14 v W3
  have hb03 : Below w.heap.size w W3 := bel_trans hb1 (bel_trans hb12 hb23)
  have he : v.e = 240 := by unfold Vw.e; rw [hv]; rfl
  rw [he] at HC
  clear he
  have B0 := build_at0
  have HX := Lib.hid (And.intro hb03 (And.intro v3 (And.intro r3 (And.intro b3 hne))))
  have HL := Lib.hid hL
  clear hb1 b1 hb12 b2 hb23 b3 v2 v3 r3 hb03 hL hne hne2
  go_enter Try.func13, Try.ntmps13
  go_wp2_with (with_reducible refine wpList_alloc_z rfl 24 rfl (acs 0 0) 2 z_at ?_)
  refine HC.mono ?_
  rintro e W4 ⟨rfl, hb4⟩
  have v4 := HX.out.2.1.later hb4
  have r4 := HX.out.2.2.1.later hb4
  obtain ⟨a0, a1⟩ := (show W4.cell? ⟨W2.heap.size, 0, none⟩ = some (.int .u64 (v.b.i : Int)) ∧ W4.cell? ⟨W2.heap.size, 1, none⟩ = some (.int .u64 v.b.e) from ⟨(HX.out.2.2.2.1.later hb4).cell 0, (HX.out.2.2.2.1.later hb4).cell 1⟩)
  have LA4 := ld_at (HX.out.2.2.2.1.later hb4)
  have LV4 := ld_vw v4
  have hb04 := bel_trans HX.out.1 hb4
  clear hb4 v4
  have ST := st_at (i2 := 0) (e2 := 0) r4
  have HF := Lib.hid (And.intro (r4.row (acs 0 0)) (below_setRow hb04 (show w.heap.size ≤ W1.heap.size from by have := HX.out.2.2.2.2; rw [← hW1]; simp) (acs 0 0)))
  clear hb04 r4
  go_wp2_with fail
  refine bodyPost_ret (results_row_tmp rfl _ _ W1.heap.size _ _ rfl HF.out.1 Try.underlying24 rfl (s_at _ _)) rfl ?_
  exact ⟨rfl, HF.out.2⟩

set_option maxRecDepth 100000 in
set_option maxHeartbeats 1600000 in
theorem place_low (v : Vw) (x : Nat) (w : World) (hL : EnIn w 0 v.a v.n v.c v.L) (hx : x < 18446744073709551616) (hv : v.ok = true) (h : x < v.b.i) : Calls Try.prog 13 #[.agg v.cs, .int .u64 (x : Int)] w fun e w' => e = .returned (.tuple #[.agg (acs 0 0), .bool false]) ∧ Below w.heap.size w w' := by
  obtain ⟨W1, hW1⟩ : ∃ W1, w.alloc (.cells v.cs 36) = W1 := ⟨_, rfl⟩
  have hb1 : Below w.heap.size w W1 := by rw [← hW1]; exact below_alloc w _
  have b1 : Blk W1 w.heap.size 36 v.cs := by rw [← hW1]; exact Blk.new w _ _
  obtain ⟨W2, hW2⟩ : ∃ W2, W1.alloc (.cells (acs 0 0) 24) = W2 := ⟨_, rfl⟩
  have hb12 : Below W1.heap.size W1 W2 := by rw [← hW2]; exact below_alloc W1 _
  have b2 : Blk W2 W1.heap.size 24 (acs 0 0) := by rw [← hW2]; exact Blk.new W1 _ _
  have SA := st_at (i2 := (v.b.i : Int)) (e2 := v.b.e) (Blk.new W2 24 (acs 0 0))
  rw [World.setRow_alloc_new] at SA
  obtain ⟨W3, hW3⟩ : ∃ W3, W2.alloc (.cells (acs (v.b.i : Int) v.b.e) 24) = W3 := ⟨_, rfl⟩
  have hb23 : Below W2.heap.size W2 W3 := by rw [← hW3]; exact below_alloc W2 _
  have b3 : Blk W3 W2.heap.size 24 (acs (v.b.i : Int) v.b.e) := by rw [← hW3]; exact Blk.new W2 _ _
  rw [hW3] at SA
  have hne : W1.heap.size ≠ w.heap.size := by rw [← hW1]; simp
  have hne2 : W1.heap.size ≠ W2.heap.size := by rw [← hW2]; simp
  have v2 := (b1.later hb12)
  have v3 := v2.later hb23
  have r3 := b2.later hb23
  have LA2 := vw_at (b1.alloc (.cells (acs 0 0) 24))
  rw [hW2] at LA2
  have LA := vw_at (v2.alloc (.cells (acs 0 0) 24))
  have LV := ld_vw v3
  have HC := check_any14 v W3
  have hb03 : Below w.heap.size w W3 := bel_trans hb1 (bel_trans hb12 hb23)
  have he : v.e = 0 := by unfold Vw.e; rw [hv]; rfl
  rw [he] at HC
  have hz := Vw.ok_of hv
  clear he
  have d0 : ltU (x : Int) (v.b.i : Int) = true := by rw [ltU_nat]; simp [h]
  clear hz h
  have B0 := build_at0
  have HX := Lib.hid (And.intro hb03 (And.intro v3 (And.intro r3 (And.intro b3 hne))))
  have HL := Lib.hid hL
  clear hb1 b1 hb12 b2 hb23 b3 v2 v3 r3 hb03 hL hne hne2
  go_enter Try.func13, Try.ntmps13
  go_wp2_with (with_reducible refine wpList_alloc_z rfl 24 rfl (acs 0 0) 2 z_at ?_)
  refine HC.mono ?_
  rintro e W4 ⟨rfl, hb4⟩
  have v4 := HX.out.2.1.later hb4
  have r4 := HX.out.2.2.1.later hb4
  obtain ⟨a0, a1⟩ := (show W4.cell? ⟨W2.heap.size, 0, none⟩ = some (.int .u64 (v.b.i : Int)) ∧ W4.cell? ⟨W2.heap.size, 1, none⟩ = some (.int .u64 v.b.e) from ⟨(HX.out.2.2.2.1.later hb4).cell 0, (HX.out.2.2.2.1.later hb4).cell 1⟩)
  have LA4 := ld_at (HX.out.2.2.2.1.later hb4)
  have LV4 := ld_vw v4
  have hb04 := bel_trans HX.out.1 hb4
  clear hb4 v4
  have ST := st_at (i2 := 0) (e2 := 0) r4
  have HF := Lib.hid (And.intro (r4.row (acs 0 0)) (below_setRow hb04 (show w.heap.size ≤ W1.heap.size from by have := HX.out.2.2.2.2; rw [← hW1]; simp) (acs 0 0)))
  clear hb04 r4
  go_wp2_with fail
  refine bodyPost_ret (results_row_tmp rfl _ _ W1.heap.size _ _ rfl HF.out.1 Try.underlying24 rfl (s_at _ _)) rfl ?_
  exact ⟨rfl, HF.out.2⟩

set_option maxRecDepth 100000 in
set_option maxHeartbeats 1600000 in
theorem place_high (v : Vw) (x : Nat) (w : World) (hL : EnIn w 0 v.a v.n v.c v.L) (hx : x < 18446744073709551616) (hv : v.ok = true) (h : v.z < x) : Calls Try.prog 13 #[.agg v.cs, .int .u64 (x : Int)] w fun e w' => e = .returned (.tuple #[.agg (acs 0 0), .bool false]) ∧ Below w.heap.size w w' := by
  obtain ⟨W1, hW1⟩ : ∃ W1, w.alloc (.cells v.cs 36) = W1 := ⟨_, rfl⟩
  have hb1 : Below w.heap.size w W1 := by rw [← hW1]; exact below_alloc w _
  have b1 : Blk W1 w.heap.size 36 v.cs := by rw [← hW1]; exact Blk.new w _ _
  obtain ⟨W2, hW2⟩ : ∃ W2, W1.alloc (.cells (acs 0 0) 24) = W2 := ⟨_, rfl⟩
  have hb12 : Below W1.heap.size W1 W2 := by rw [← hW2]; exact below_alloc W1 _
  have b2 : Blk W2 W1.heap.size 24 (acs 0 0) := by rw [← hW2]; exact Blk.new W1 _ _
  have SA := st_at (i2 := (v.b.i : Int)) (e2 := v.b.e) (Blk.new W2 24 (acs 0 0))
  rw [World.setRow_alloc_new] at SA
  obtain ⟨W3, hW3⟩ : ∃ W3, W2.alloc (.cells (acs (v.b.i : Int) v.b.e) 24) = W3 := ⟨_, rfl⟩
  have hb23 : Below W2.heap.size W2 W3 := by rw [← hW3]; exact below_alloc W2 _
  have b3 : Blk W3 W2.heap.size 24 (acs (v.b.i : Int) v.b.e) := by rw [← hW3]; exact Blk.new W2 _ _
  rw [hW3] at SA
  have hne : W1.heap.size ≠ w.heap.size := by rw [← hW1]; simp
  have hne2 : W1.heap.size ≠ W2.heap.size := by rw [← hW2]; simp
  have v2 := (b1.later hb12)
  have v3 := v2.later hb23
  have r3 := b2.later hb23
  have LA2 := vw_at (b1.alloc (.cells (acs 0 0) 24))
  rw [hW2] at LA2
  have LA := vw_at (v2.alloc (.cells (acs 0 0) 24))
  have LV := ld_vw v3
  have HC := check_any14 v W3
  have hb03 : Below w.heap.size w W3 := bel_trans hb1 (bel_trans hb12 hb23)
  have he : v.e = 0 := by unfold Vw.e; rw [hv]; rfl
  rw [he] at HC
  have hz := Vw.ok_of hv
  clear he
  have d0 : ltU (x : Int) (v.b.i : Int) = false := by rw [ltU_nat]; simp; unfold Vw.z at h; omega
  have d1 : gtU (x : Int) (v.z : Int) = true := by rw [gtU_nat]; simp [h]
  have HZ := Lib.hid hz
  clear hz h
  have B0 := build_at0
  have HX := Lib.hid (And.intro hb03 (And.intro v3 (And.intro r3 (And.intro b3 hne))))
  have HL := Lib.hid hL
  clear hb1 b1 hb12 b2 hb23 b3 v2 v3 r3 hb03 hL hne hne2
  go_enter Try.func13, Try.ntmps13
  go_wp2_with (with_reducible refine wpList_alloc_z rfl 24 rfl (acs 0 0) 2 z_at ?_)
  refine HC.mono ?_
  rintro e W4 ⟨rfl, hb4⟩
  have v4 := HX.out.2.1.later hb4
  have r4 := HX.out.2.2.1.later hb4
  obtain ⟨a0, a1⟩ := (show W4.cell? ⟨W2.heap.size, 0, none⟩ = some (.int .u64 (v.b.i : Int)) ∧ W4.cell? ⟨W2.heap.size, 1, none⟩ = some (.int .u64 v.b.e) from ⟨(HX.out.2.2.2.1.later hb4).cell 0, (HX.out.2.2.2.1.later hb4).cell 1⟩)
  have LA4 := ld_at (HX.out.2.2.2.1.later hb4)
  have LV4 := ld_vw v4
  have hb04 := bel_trans HX.out.1 hb4
  have HEND := end_any v W4 (by have := HZ.out; omega)
  go_wp2_with fail
  refine HEND.mono ?_
  rintro e W5 ⟨rfl, hb5⟩
  have r5 := r4.later hb5
  have v5 := v4.later hb5
  have hb05 := bel_trans hb04 hb5
  obtain ⟨p0, p1⟩ := (show W5.cell? ⟨W2.heap.size, 0, none⟩ = some (.int .u64 (v.b.i : Int)) ∧ W5.cell? ⟨W2.heap.size, 1, none⟩ = some (.int .u64 v.b.e) from ⟨((HX.out.2.2.2.1.later hb4).later hb5).cell 0, ((HX.out.2.2.2.1.later hb4).later hb5).cell 1⟩)
  have LA5 := ld_at ((HX.out.2.2.2.1.later hb4).later hb5)
  have LV5 := ld_vw v5
  clear hb4 v4 hb5 v5 hb04 r4
  have ST := st_at (i2 := 0) (e2 := 0) r5
  have HF := Lib.hid (And.intro (r5.row (acs 0 0)) (below_setRow hb05 (show w.heap.size ≤ W1.heap.size from by have := HX.out.2.2.2.2; rw [← hW1]; simp) (acs 0 0)))
  clear hb05 r5
  go_wp2_with fail
  refine bodyPost_ret (results_row_tmp rfl _ _ W1.heap.size _ _ rfl HF.out.1 Try.underlying24 rfl (s_at _ _)) rfl ?_
  exact ⟨rfl, HF.out.2⟩

set_option maxRecDepth 100000 in
set_option maxHeartbeats 1600000 in
theorem place_base (v : Vw) (x : Nat) (w : World) (hL : EnIn w 0 v.a v.n v.c v.L) (hx : x < 18446744073709551616) (hv : v.ok = true) (h : x = v.b.i) : Calls Try.prog 13 #[.agg v.cs, .int .u64 (x : Int)] w fun e w' => e = .returned (.tuple #[.agg (acs (v.b.i : Int) v.b.e), .bool true]) ∧ Below w.heap.size w w' := by
  obtain ⟨W1, hW1⟩ : ∃ W1, w.alloc (.cells v.cs 36) = W1 := ⟨_, rfl⟩
  have hb1 : Below w.heap.size w W1 := by rw [← hW1]; exact below_alloc w _
  have b1 : Blk W1 w.heap.size 36 v.cs := by rw [← hW1]; exact Blk.new w _ _
  obtain ⟨W2, hW2⟩ : ∃ W2, W1.alloc (.cells (acs 0 0) 24) = W2 := ⟨_, rfl⟩
  have hb12 : Below W1.heap.size W1 W2 := by rw [← hW2]; exact below_alloc W1 _
  have b2 : Blk W2 W1.heap.size 24 (acs 0 0) := by rw [← hW2]; exact Blk.new W1 _ _
  have SA := st_at (i2 := (v.b.i : Int)) (e2 := v.b.e) (Blk.new W2 24 (acs 0 0))
  rw [World.setRow_alloc_new] at SA
  obtain ⟨W3, hW3⟩ : ∃ W3, W2.alloc (.cells (acs (v.b.i : Int) v.b.e) 24) = W3 := ⟨_, rfl⟩
  have hb23 : Below W2.heap.size W2 W3 := by rw [← hW3]; exact below_alloc W2 _
  have b3 : Blk W3 W2.heap.size 24 (acs (v.b.i : Int) v.b.e) := by rw [← hW3]; exact Blk.new W2 _ _
  rw [hW3] at SA
  have hne : W1.heap.size ≠ w.heap.size := by rw [← hW1]; simp
  have hne2 : W1.heap.size ≠ W2.heap.size := by rw [← hW2]; simp
  have v2 := (b1.later hb12)
  have v3 := v2.later hb23
  have r3 := b2.later hb23
  have LA2 := vw_at (b1.alloc (.cells (acs 0 0) 24))
  rw [hW2] at LA2
  have LA := vw_at (v2.alloc (.cells (acs 0 0) 24))
  have LV := ld_vw v3
  have HC := check_any14 v W3
  have hb03 : Below w.heap.size w W3 := bel_trans hb1 (bel_trans hb12 hb23)
  have he : v.e = 0 := by unfold Vw.e; rw [hv]; rfl
  rw [he] at HC
  have hz := Vw.ok_of hv
  clear he
  have d0 : ltU (x : Int) (v.b.i : Int) = false := by rw [ltU_nat]; simp; omega
  have d1 : gtU (x : Int) (v.z : Int) = false := by rw [gtU_nat]; simp; unfold Vw.z; omega
  have d2 : ((x : Int) == (v.b.i : Int)) = true := by simp; omega
  have HZ := Lib.hid hz
  clear hz h
  have B0 := build_at0
  have HX := Lib.hid (And.intro hb03 (And.intro v3 (And.intro r3 (And.intro b3 hne))))
  have HL := Lib.hid hL
  clear hb1 b1 hb12 b2 hb23 b3 v2 v3 r3 hb03 hL hne hne2
  go_enter Try.func13, Try.ntmps13
  go_wp2_with (with_reducible refine wpList_alloc_z rfl 24 rfl (acs 0 0) 2 z_at ?_)
  refine HC.mono ?_
  rintro e W4 ⟨rfl, hb4⟩
  have v4 := HX.out.2.1.later hb4
  have r4 := HX.out.2.2.1.later hb4
  obtain ⟨a0, a1⟩ := (show W4.cell? ⟨W2.heap.size, 0, none⟩ = some (.int .u64 (v.b.i : Int)) ∧ W4.cell? ⟨W2.heap.size, 1, none⟩ = some (.int .u64 v.b.e) from ⟨(HX.out.2.2.2.1.later hb4).cell 0, (HX.out.2.2.2.1.later hb4).cell 1⟩)
  have LA4 := ld_at (HX.out.2.2.2.1.later hb4)
  have LV4 := ld_vw v4
  have hb04 := bel_trans HX.out.1 hb4
  have HEND := end_any v W4 (by have := HZ.out; omega)
  go_wp2_with fail
  refine HEND.mono ?_
  rintro e W5 ⟨rfl, hb5⟩
  have r5 := r4.later hb5
  have v5 := v4.later hb5
  have hb05 := bel_trans hb04 hb5
  obtain ⟨p0, p1⟩ := (show W5.cell? ⟨W2.heap.size, 0, none⟩ = some (.int .u64 (v.b.i : Int)) ∧ W5.cell? ⟨W2.heap.size, 1, none⟩ = some (.int .u64 v.b.e) from ⟨((HX.out.2.2.2.1.later hb4).later hb5).cell 0, ((HX.out.2.2.2.1.later hb4).later hb5).cell 1⟩)
  have LA5 := ld_at ((HX.out.2.2.2.1.later hb4).later hb5)
  have LV5 := ld_vw v5
  clear hb4 v4 hb5 v5 hb04 r4
  have ST := st_at (i2 := (v.b.i : Int)) (e2 := v.b.e) r5
  have HF := Lib.hid (And.intro (r5.row (acs (v.b.i : Int) v.b.e)) (below_setRow hb05 (show w.heap.size ≤ W1.heap.size from by have := HX.out.2.2.2.2; rw [← hW1]; simp) (acs (v.b.i : Int) v.b.e)))
  clear hb05 r5
  go_wp2_with fail
  refine bodyPost_ret (results_row_tmp rfl _ _ W1.heap.size _ _ rfl HF.out.1 Try.underlying24 rfl (s_at _ _)) rfl ?_
  exact ⟨rfl, HF.out.2⟩

set_option maxRecDepth 100000 in
set_option maxHeartbeats 1600000 in
theorem place_mid (v : Vw) (x : Nat) (w : World) (hL : EnIn w 0 v.a v.n v.c v.L) (hx : x < 18446744073709551616) (hv : v.ok = true) (h : v.b.i < x) (h2 : x ≤ v.z) : Calls Try.prog 13 #[.agg v.cs, .int .u64 (x : Int)] w fun e w' => e = .returned (.tuple #[.agg (acs (x : Int) (eng v.L (x - v.b.i - 1)).ep), .bool true]) ∧ Below w.heap.size w w' := by
  obtain ⟨W1, hW1⟩ : ∃ W1, w.alloc (.cells v.cs 36) = W1 := ⟨_, rfl⟩
  have hb1 : Below w.heap.size w W1 := by rw [← hW1]; exact below_alloc w _
  have b1 : Blk W1 w.heap.size 36 v.cs := by rw [← hW1]; exact Blk.new w _ _
  obtain ⟨W2, hW2⟩ : ∃ W2, W1.alloc (.cells (acs 0 0) 24) = W2 := ⟨_, rfl⟩
  have hb12 : Below W1.heap.size W1 W2 := by rw [← hW2]; exact below_alloc W1 _
  have b2 : Blk W2 W1.heap.size 24 (acs 0 0) := by rw [← hW2]; exact Blk.new W1 _ _
  have SA := st_at (i2 := (v.b.i : Int)) (e2 := v.b.e) (Blk.new W2 24 (acs 0 0))
  rw [World.setRow_alloc_new] at SA
  obtain ⟨W3, hW3⟩ : ∃ W3, W2.alloc (.cells (acs (v.b.i : Int) v.b.e) 24) = W3 := ⟨_, rfl⟩
  have hb23 : Below W2.heap.size W2 W3 := by rw [← hW3]; exact below_alloc W2 _
  have b3 : Blk W3 W2.heap.size 24 (acs (v.b.i : Int) v.b.e) := by rw [← hW3]; exact Blk.new W2 _ _
  rw [hW3] at SA
  have hne : W1.heap.size ≠ w.heap.size := by rw [← hW1]; simp
  have hne2 : W1.heap.size ≠ W2.heap.size := by rw [← hW2]; simp
  have v2 := (b1.later hb12)
  have v3 := v2.later hb23
  have r3 := b2.later hb23
  have LA2 := vw_at (b1.alloc (.cells (acs 0 0) 24))
  rw [hW2] at LA2
  have LA := vw_at (v2.alloc (.cells (acs 0 0) 24))
  have LV := ld_vw v3
  have HC := check_any14 v W3
  have hb03 : Below w.heap.size w W3 := bel_trans hb1 (bel_trans hb12 hb23)
  have he : v.e = 0 := by unfold Vw.e; rw [hv]; rfl
  rw [he] at HC
  have hz := Vw.ok_of hv
  clear he
  have d0 : ltU (x : Int) (v.b.i : Int) = false := by rw [ltU_nat]; simp; omega
  have d1 : gtU (x : Int) (v.z : Int) = false := by rw [gtU_nat]; simp; omega
  have d2 : ((x : Int) == (v.b.i : Int)) = false := by simp; omega
  have d3 : sbU (x : Int) 1 = ((x - 1 : Nat) : Int) := sbU_nat (a := x) (b := 1) (by omega) hx
  have HZ := Lib.hid (And.intro hz (And.intro h h2))
  clear hz h h2
  obtain ⟨j, hj⟩ : ∃ j, x - v.b.i - 1 = j := ⟨_, rfl⟩
  rw [hj]
  have HJ := Lib.hid hj
  clear hj
  have B0 := build_at0
  have HX := Lib.hid (And.intro hb03 (And.intro v3 (And.intro r3 (And.intro b3 hne))))
  have HL := Lib.hid hL
  clear hb1 b1 hb12 b2 hb23 b3 v2 v3 r3 hb03 hL hne hne2
  go_enter Try.func13, Try.ntmps13
  go_wp2_with (with_reducible refine wpList_alloc_z rfl 24 rfl (acs 0 0) 2 z_at ?_)
  refine HC.mono ?_
  rintro e W4 ⟨rfl, hb4⟩
  have v4 := HX.out.2.1.later hb4
  have r4 := HX.out.2.2.1.later hb4
  obtain ⟨a0, a1⟩ := (show W4.cell? ⟨W2.heap.size, 0, none⟩ = some (.int .u64 (v.b.i : Int)) ∧ W4.cell? ⟨W2.heap.size, 1, none⟩ = some (.int .u64 v.b.e) from ⟨(HX.out.2.2.2.1.later hb4).cell 0, (HX.out.2.2.2.1.later hb4).cell 1⟩)
  have LA4 := ld_at (HX.out.2.2.2.1.later hb4)
  have LV4 := ld_vw v4
  have hb04 := bel_trans HX.out.1 hb4
  have HEND := end_any v W4 (by have := HZ.out.1; omega)
  go_wp2_with fail
  refine HEND.mono ?_
  rintro e W5 ⟨rfl, hb5⟩
  have r5 := r4.later hb5
  have v5 := v4.later hb5
  have hb05 := bel_trans hb04 hb5
  obtain ⟨p0, p1⟩ := (show W5.cell? ⟨W2.heap.size, 0, none⟩ = some (.int .u64 (v.b.i : Int)) ∧ W5.cell? ⟨W2.heap.size, 1, none⟩ = some (.int .u64 v.b.e) from ⟨((HX.out.2.2.2.1.later hb4).later hb5).cell 0, ((HX.out.2.2.2.1.later hb4).later hb5).cell 1⟩)
  have LA5 := ld_at ((HX.out.2.2.2.1.later hb4).later hb5)
  have LV5 := ld_vw v5
  have HBE := behind_any v (x - 1) W5 ((HL.out.later HX.out.1).later (bel_trans hb4 hb5)) (by have := HZ.out.2.1; omega) (by have := HZ.out.2.2; omega) (by omega)
  have hlen : x - 1 - v.b.i < v.L.length := by
    have := HZ.out.2.1; have := HZ.out.2.2; have := HL.out.1; unfold Vw.z at *; omega
  clear hb4 v4 hb04 r4
  obtain ⟨g, o, ha, hrow⟩ := (HL.out.later hb05).2.1.spot hlen
  have hcn : v.c ≠ x - 1 - v.b.i := by have := HL.out.1; have := HL.out.2.2.1; omega
  rw [if_neg hcn, ha] at HBE
  simp only [Option.map_some, Addr.add_lit] at HBE
  have hk : 0 < v.n - (x - 1 - v.b.i) := by have := HL.out.1; omega
  have hk1 : v.n - (x - 1 - v.b.i) ≤ v.c - (x - 1 - v.b.i) := by have := HL.out.2.2.1; omega
  have B1 := build_at (x : Int) (eng v.L j).ep
  have HW5 := Lib.hid (And.intro hb05 (And.intro r5 hrow))
  have eidx : x - 1 - v.b.i = j := by have := HJ.out; omega
  rw [eidx] at HBE hk hk1 hlen
  generalize v.n - j = nn at *
  generalize v.c - j = nc at *
  clear hb05 r5 hrow hb5 v5 hcn ha eidx
  go_wp2_with fail
  refine HBE.mono ?_
  rintro e W6 ⟨rfl, hb6⟩
  have c6 := (HW5.out.2.2.later hb6).c0 hlen
  have r6 := HW5.out.2.1.later hb6
  have hb06 := bel_trans HW5.out.1 hb6
  clear hb6
  have ST := st_at (i2 := (x : Int)) (e2 := (eng v.L j).ep) r6
  have HF := Lib.hid (And.intro (r6.row (acs (x : Int) (eng v.L j).ep)) (below_setRow hb06 (show w.heap.size ≤ W1.heap.size from by have := HX.out.2.2.2.2; rw [← hW1]; simp) (acs (x : Int) (eng v.L j).ep)))
  clear hb06 r6
  go_wp2_with fail
  refine bodyPost_ret (results_row_tmp rfl _ _ W1.heap.size _ _ rfl HF.out.1 Try.underlying24 rfl (s_at _ _)) rfl ?_
  exact ⟨rfl, HF.out.2⟩

theorem vplace_any (v : Vw) (x : Nat) (w : World) (hL : EnIn w 0 v.a v.n v.c v.L) (hx : x < 18446744073709551616) : Calls Try.prog 13 #[.agg v.cs, .int .u64 (x : Int)] w fun e w' => e = .returned (.tuple #[.agg (acs (placeV v x).1 (placeV v x).2.1), .bool (placeV v x).2.2]) ∧ Below w.heap.size w w' := by
  by_cases hv : v.ok = true
  · rw [show placeV v x = placeR v x by unfold placeV; rw [if_pos hv]]
    by_cases h1 : x = v.b.i
    · rw [show placeR v x = ((v.b.i : Int), v.b.e, true) by unfold placeR; rw [if_pos h1]]
      exact place_base v x w hL hx hv h1
    · by_cases h2 : x < v.b.i
      · rw [show placeR v x = (0, 0, false) by unfold placeR; rw [if_neg h1, if_pos (.inl h2)]]
        exact place_low v x w hL hx hv h2
      · by_cases h3 : v.z < x
        · rw [show placeR v x = (0, 0, false) by unfold placeR; rw [if_neg h1, if_pos (.inr h3)]]
          exact place_high v x w hL hx hv h3
        · rw [show placeR v x = ((x : Int), (eng v.L (x - v.b.i - 1)).ep, true) by unfold placeR; rw [if_neg h1, if_neg (fun h => h.elim h2 h3)]]
          exact place_mid v x w hL hx hv (by omega) (by omega)
  · rw [show placeV v x = (0, 0, false) by unfold placeV; rw [if_neg hv]]
    exact place_bad v x w hL hx (by simpa using hv)
end Go.Proofs.Ytkoenconjldojaa
namespace Go.Proofs.Ytkoenconjldojaa
set_option linter.unusedVariables false

section
variable {P : Program} {ops : Array Oper} {Q : Exit → Act → World → Prop} {S : World → Prop}
def reach (ops : Array Oper) : Nat → Nat → Nat → Bool
  | 0, _, _ => false
  | f + 1, j, i => waits ops j i || (match ops[j]? with | none => false | some oj => oj.after.any fun e => Region.binds .any e && reach ops f e.on i)
def ClosedL (ops : Array Oper) (listed : Array Bool) : Prop := ∀ j oj, ops[j]? = some oj → listed.getD j false = true → ∀ e ∈ oj.after, Region.binds .any e = true → listed.getD e.on false = true
theorem reach_spec {listed : Array Bool} (hc : ClosedL ops listed) : ∀ (f j i : Nat) {oj : Oper}, ops[j]? = some oj → (∀ e ∈ oj.after, Region.binds .any e = true → listed.getD e.on false = true) → reach ops f j i = true → listed.getD i false = true
  | 0, _, _, _, _, _, h => by cases h
  | f + 1, j, i, oj, hj, ha, h => by
    simp only [reach, hj, Bool.or_eq_true] at h
    rcases h with h | h
    · obtain ⟨e, he, hb, rfl⟩ := waits_spec hj h
      exact ha e he hb
    · obtain ⟨e, he, hb⟩ := Array.any_eq_true'.1 h
      simp only [Bool.and_eq_true] at hb
      have h1 := ha e he hb.1
      cases ho : ops[e.on]? with
      | none =>
        exfalso
        have h2 := hb.2
        cases f with
        | zero => cases h2
        | succ f => simp [reach, waits, ho] at h2
      | some oe => exact reach_spec hc f e.on i ho (hc e.on oe ho h1) hb.2
theorem closedL_set {listed : Array Bool} {i : Nat} (hc : ClosedL ops listed) (hi : i ∈ Region.ready .any ops listed) : ClosedL ops (listed.setIfInBounds i true) := by
  obtain ⟨_, oi, hoi, hall⟩ := mem_ready.1 hi
  intro j oj hj hl e he hb
  by_cases hij : i = j
  · subst hij
    have : oj = oi := Option.some.inj (hj.symm.trans hoi)
    subst this
    exact getD_set_true (hall e he hb)
  · rw [getD_set_ne false hij] at hl
    exact getD_set_true (hc j oj hj hl e he hb)

def pairsOkY (ops : Array Oper) (eff : List Nat) : List Nat → Bool
  | [] => true
  | i :: r => decide (i < ops.size) && (!r.contains i && (r.all (fun j => (pairApart ops i j && !eff.contains i) || reach ops 14 j i) && pairsOkY ops eff r))
/-- The order that is picked has all operations, each once; where one does not wait for an earlier one, the two are apart and the earlier one leaves the world as it is. -/
def ordOkY (ops : Array Oper) (eff ord : List Nat) : Bool :=
  (Region.noSelect ops && decide (ord.length ≤ ops.size)) && ((List.range ops.size).all (fun j => ord.contains j && match ops[j]? with | none => true | some oj => oj.after.all (fun e => !Region.binds .any e || decide (e.on < j))) && pairsOkY ops eff ord)
theorem pairsOkY_split {eff : List Nat} : ∀ (L1 : List Nat) {j : Nat} {L2 : List Nat}, pairsOkY ops eff (L1 ++ j :: L2) = true → j ∉ L1 ∧ j ∉ L2 ∧ ∀ i ∈ L1, i < ops.size ∧ ((pairApart ops i j = true ∧ eff.contains i = false) ∨ reach ops 14 j i = true)
  | [], j, L2, h => by
    simp only [List.nil_append, pairsOkY, Bool.and_eq_true, Bool.not_eq_true'] at h
    refine ⟨by simp, ?_, by simp⟩
    intro hm
    have := h.2.1
    rw [List.contains_iff_mem.2 hm] at this
    cases this
  | k :: L1, j, L2, h => by
    simp only [List.cons_append, pairsOkY, Bool.and_eq_true, Bool.not_eq_true', decide_eq_true_eq] at h
    obtain ⟨h0, h1, h2, h3⟩ := h
    obtain ⟨i1, i2, i3⟩ := pairsOkY_split L1 h3
    have hkj : k ≠ j := by
      rintro rfl
      rw [List.contains_iff_mem.2 (by simp)] at h1
      cases h1
    refine ⟨by simp [i1]; exact fun e => hkj e.symm, i2, fun i hi => ?_⟩
    rcases List.mem_cons.1 hi with rfl | hi
    · refine ⟨h0, ?_⟩
      have h4 := List.all_eq_true.1 h2 j (by simp)
      simp only [Bool.or_eq_true, Bool.and_eq_true, Bool.not_eq_true'] at h4
      exact h4
    · exact i3 i hi

theorem linY_any {eff ord : List Nat} (hok : ordOkY ops eff ord = true) : ∀ (fuel : Nat) (listed : Array Bool) (a : Act) (w : World), listed.size = ops.size → ClosedL ops listed → (left listed ord).length ≤ fuel → S w → LinX P ops Q S eff (left listed ord) a w → wpAny P .any ops Q fuel listed a w := by
  simp only [ordOkY, Bool.and_eq_true] at hok
  obtain ⟨⟨hns, _⟩, hall0, hpairs⟩ := hok
  have hsel : ∀ (j : Nat) (o : Oper), ops[j]? = some o → ∀ cs b, o.op ≠ .select cs b := fun j o ho cs b => Region.noSelect_spec hns j o cs b ho
  have hback : ∀ j oj, ops[j]? = some oj → j ∈ ord ∧ ∀ e ∈ oj.after, Region.binds .any e = true → e.on < j := by
    intro j oj hoj
    have h1 := List.all_eq_true.1 hall0 j (List.mem_range.2 (Array.getElem?_eq_some_iff.1 hoj).1)
    simp only [hoj, Bool.and_eq_true, Array.all_eq_true_iff_forall_mem] at h1
    exact ⟨List.contains_iff_mem.1 h1.1, fun e he hb => by
      have h2 := h1.2 e he
      simpa [hb] using h2⟩
  have hnil : ∀ listed : Array Bool, listed.size = ops.size → Region.ready .any ops listed = [] → left listed ord = [] := by
    intro listed hsz hr
    have key : ∀ j, listed.getD j true = true := by
      intro j
      induction j using Nat.strongRecOn with
      | ind j ih =>
        cases hb : listed.getD j true with
        | true => rfl
        | false =>
          have hj : j < ops.size := by
            rcases Nat.lt_or_ge j listed.size with h' | h'
            · omega
            · simp [Array.getElem?_eq_none h'] at hb
          have hoj : ops[j]? = some ops[j] := Array.getElem?_eq_getElem hj
          have hm : j ∈ Region.ready .any ops listed := mem_ready.2 ⟨hb, _, hoj, fun e he hbd => by
            have hlt := (hback j _ hoj).2 e he hbd
            have h9 := ih e.on hlt
            have h8 : e.on < listed.size := by omega
            simp [h8] at h9 ⊢
            exact h9⟩
          rw [hr] at hm
          cases hm
    unfold left
    rw [List.filter_eq_nil_iff]
    intro i _
    rw [key i]
    simp
  have hpick : ∀ (listed : Array Bool) (j : Nat), listed.size = ops.size → ClosedL ops listed → j ∈ Region.ready .any ops listed → ∃ oj T1 T2, ops[j]? = some oj ∧ left listed ord = T1 ++ j :: T2 ∧ left (listed.setIfInBounds j true) ord = T1 ++ T2 ∧ ∀ i ∈ T1, ∃ x, ops[i]? = some x ∧ (∀ cs b, x.op ≠ .select cs b) ∧ x.apart ops oj = true ∧ eff.contains i = false := by
    intro listed j hsz hcl hj
    obtain ⟨hun, oj, hoj, hall⟩ := mem_ready.1 hj
    obtain ⟨L1, L2, hord⟩ := List.append_of_mem (hback j oj hoj).1
    rw [hord] at hpairs
    obtain ⟨hn1, hn2, hp⟩ := pairsOkY_split L1 hpairs
    have hlt : j < listed.size := by have := (Array.getElem?_eq_some_iff.1 hoj).1; omega
    refine ⟨oj, left listed L1, left listed L2, hoj, ?_, ?_, ?_⟩
    · rw [hord]
      unfold left
      rw [List.filter_append, List.filter_cons, hun]
      simp
    · have e : left (listed.setIfInBounds j true) (j :: L2) = left (listed.setIfInBounds j true) L2 := by
        unfold left
        rw [List.filter_cons]
        simp [hlt]
      have e2 : left (listed.setIfInBounds j true) (L1 ++ j :: L2) = left (listed.setIfInBounds j true) L1 ++ left (listed.setIfInBounds j true) (j :: L2) := by simp [left]
      rw [hord, e2, e, left_set _ _ _ hn1, left_set _ _ _ hn2]
    · intro i hi
      have hi1 := List.mem_filter.1 hi
      obtain ⟨hil, hc⟩ := hp i hi1.1
      have hui : listed.getD i true = false := by simpa using hi1.2
      have hoi : ops[i]? = some ops[i] := Array.getElem?_eq_getElem hil
      rcases hc with h9 | h9
      · refine ⟨_, hoi, hsel i _ hoi, ?_, h9.2⟩
        have h7 := h9.1
        unfold pairApart at h7
        simp only [hoi, hoj] at h7
        exact h7
      · have h8 := reach_spec hcl 14 j i hoj hall h9
        have h7 : i < listed.size := by omega
        simp [h7] at h8 hui
        rw [hui] at h8
        cases h8
  intro fuel
  induction fuel with
  | zero =>
    intro listed a w hsz hcl hlen hS hL
    have h0 : left listed ord = [] := List.length_eq_zero_iff.1 (by omega)
    rw [h0] at hL
    refine ⟨?_, hL⟩
    refine List.eq_nil_iff_forall_not_mem.2 (fun j hj => ?_)
    obtain ⟨oj, T1, T2, _, h1, _⟩ := hpick listed j hsz hcl hj
    rw [h0] at h1
    simp at h1
  | succ fuel ih =>
    intro listed a w hsz hcl hlen hS hL
    refine ⟨fun hr => ?_, fun j hj => ?_⟩
    · rw [hnil listed hsz hr] at hL
      exact hL
    · obtain ⟨oj, T1, T2, hoj, h1, h2, h3⟩ := hpick listed j hsz hcl hj
      rw [h1] at hL hlen
      obtain ⟨oj', hoj', q1, q2⟩ := LinX.front hoj (hsel j oj hoj) T1 a w h3 hL
      obtain rfl : oj' = oj := Option.some.inj (hoj'.symm.trans hoj)
      have hnext : ∀ a' w', S w' → LinX P ops Q S eff (T1 ++ T2) a' w' → wpAny P .any ops Q fuel (listed.setIfInBounds j true) a' w' := fun a' w' hS' h4 => by
        refine ih (listed.setIfInBounds j true) a' w' (by simp [hsz]) (closedL_set hcl hj) ?_ hS' (by rw [h2]; exact h4)
        rw [h2]
        simp at hlen ⊢
        omega
      unfold wpOp
      simp only [hoj]
      cases hv : eff.contains j with
      | false =>
        obtain ⟨v, g, h5⟩ := q1 hv
        rcases g with ⟨hw, hy⟩ | ⟨hw, rfl⟩
        · simp only [hw, if_true]
          refine .inl ?_
          unfold Oper.wp
          rcases hy w hS with h6 | ⟨f, args, h6, h7⟩
          · rw [h6]
            exact hnext _ _ hS h5
          · rw [h6]
            refine Calls.mono h7 ?_
            rintro e w' ⟨rfl, rfl⟩
            exact hnext _ _ hS h5
        · simp only [hw, Bool.false_eq_true, if_false]
          exact hnext _ _ hS h5
      | true =>
        obtain ⟨hw, hm⟩ := q2 hv
        simp only [hw, if_true]
        refine .inl ?_
        unfold Oper.wp
        rcases hm with ⟨v, w', h6 | ⟨h6, rfl⟩, h7, h8⟩ | ⟨f, args, w1, h6, h7⟩
        · rw [h6]
          exact hnext _ _ h7 h8
        · rw [h6]
          exact hnext _ _ h7 h8
        · rw [h6]
          refine Calls.mono h7 ?_
          rintro e w' ⟨v, rfl, h8, h9⟩
          exact hnext _ _ h8 h9

/-- THE BEGINNING: a region that draws its order, walked in the order that is picked; those of eff may change the world. -/
theorem wp_region_linY {id : Nat} {a : Act} {w : World} (S : World → Prop) (eff ord : List Nat) (hm : P.follows .mixedOrders = true) (hok : ordOkY ops eff ord = true) (hS : S w.drew) (h : LinX P ops Q S eff ord a w.drew) : (Code.region id ops true).wp P Q a w := by
  refine wp_region_any hm ?_
  have hok2 := hok
  simp only [ordOkY, Bool.and_eq_true] at hok
  have hlt : ∀ i ∈ ord, i < ops.size := by
    intro i hi
    obtain ⟨L1, L2, hord⟩ := List.append_of_mem hi
    have h3 := hok.2.2
    rw [hord] at h3
    have : ∀ (L1 : List Nat), pairsOkY ops eff (L1 ++ i :: L2) = true → i < ops.size := by
      intro L1
      induction L1 with
      | nil => intro h; simp only [List.nil_append, pairsOkY, Bool.and_eq_true, decide_eq_true_eq] at h; exact h.1
      | cons k L1 ih => intro h; simp only [List.cons_append, pairsOkY, Bool.and_eq_true] at h; exact ih h.2.2.2
    exact this L1 h3
  have hu : left (Array.replicate ops.size false) ord = ord := by
    unfold left
    rw [List.filter_eq_self]
    intro i hi
    have := hlt i hi
    simp [this]
  refine linY_any hok2 _ _ _ _ (by simp) (fun j oj _ h => by simp only [Array.getD_eq_getD_getElem?, Array.getElem?_replicate] at h; split at h <;> simp at h) ?_ hS ?_
  · rw [hu]
    simpa using hok.1.2
  · rw [hu]; exact h
end
end Go.Proofs.Ytkoenconjldojaa
