/-
  The walk of DiskFlaws. Nothing here is a statement of the document.
-/
import Derived.Test.YtaikgngigaohmaaDoorDskFa
import Derived.Deep.DeepCutAuto
import Derived.Deep.CutBlock
namespace Go.Proofs.YtaikgngigaohmaaDoor
open Go.RowKit Go.Shelf
set_option linter.unusedVariables false

theorem place_m (a : Int) (M : Nat) (hM : 0 < M) : ∃ k : Nat, k < M ∧ (IntKind.u64.wrap a).tmod (M : Int) = (k : Int) ∧ IntKind.u64.wrap a % (M : Int) = (k : Int) := by
  have hw : 0 ≤ IntKind.u64.wrap a := by rw [IntKind.wrap_u64]; exact Int.emod_nonneg _ (by decide)
  generalize IntKind.u64.wrap a = t at *
  have h1 := Int.emod_nonneg t (show (M : Int) ≠ 0 by omega)
  have h2 := Int.emod_lt_of_pos t (show (0 : Int) < (M : Int) by omega)
  refine ⟨(t % (M : Int)).toNat, by omega, ?_, by omega⟩
  rw [Int.tmod_eq_emod_of_nonneg hw]; omega
theorem place_14 (a : Int) : ∃ k : Nat, k < 14 ∧ (IntKind.u64.wrap a).tmod 14 = (k : Int) ∧ IntKind.u64.wrap a % 14 = (k : Int) := place_m a 14 (by omega)
theorem place_9 (a : Int) : ∃ k : Nat, k < 9 ∧ (IntKind.u64.wrap a).tmod 9 = (k : Int) ∧ IntKind.u64.wrap a % 9 = (k : Int) := place_m a 9 (by omega)

attribute [local go_sem ↓] load_blk_rule store_blk_rule load_arr_rule store_arr_rule eq_rule eq_arr_rule
set_option maxRecDepth 100000 in
set_option maxHeartbeats 8000000 in
theorem flaws_walk (aA : Option Addr) (capA : Nat) (lA : List (Deed × List Bool)) (x : Deed) (kx : List Bool) (n : Int) (w : World) (hG : AllYes w) (hA : Deeds w aA lA) (hlA : lA.length ≤ 9223372036854775807) (hx1 : Truths w x.ad kx) (hx2 : kx.length = x.len) (hx3 : x.len ≤ x.cap) (hx4 : x.cap ≤ maxLen) (hx5 : (Lit.int .i64 x.sector).wf = true) (hx6 : x.num ≤ 9223372036854775807) :
    Calls Tryd.prog 5 #[.slice aA lA.length capA, .agg x.cs, .int .i64 n] w fun e w' => e = .returned (.bool true) ∧ Below w.heap.size w w' := by
  have HLA := Lib.hid hA
  have HX := Lib.hid (And.intro hx1 (And.intro hx2 (And.intro hx3 (And.intro hx4 (And.intro hx5 hx6)))))
  obtain ⟨ga, gc, hg1, hg2⟩ := hG
  have HG := Lib.hid (And.intro hg1 hg2)
  obtain ⟨z0, z1, z2, z3, z4, z5, z6⟩ := x
  simp only [Deed.cs]
  clear hA hg1 hg2 hx1 hx2 hx3 hx4 hx5 hx6
  go_enter Tryd.func5, Tryd.ntmps5
  go_wp2_with fail
  obtain ⟨q, hq⟩ : ∃ q, w.heap.size = q := ⟨_, rfl⟩
  obtain ⟨W0, hW0⟩ : ∃ W0, w.alloc (.cells #[.int .i64 z0, .int .i64 z1, .int .i64 z2, .int .u8 (z3 : Int), .slice z4 z5 z6] 37) = W0 := ⟨_, rfl⟩
  have bq0 : Blk W0 q 37 (Deed.cs ⟨z0, z1, z2, z3, z4, z5, z6⟩) := by rw [← hW0, ← hq]; exact Blk.new w _ _
  have hb0 : Below w.heap.size w W0 := by rw [← hW0]; exact (Below.refl _ _).alloc (Nat.le_refl _) _
  have hqw : w.heap.size ≤ q := Nat.le_of_eq hq
  rw [hW0]
  rw [hq]
  refine (wakes_any W0).mono ?_
  rintro e W1 ⟨rfl, hb1⟩
  have hbw1 := hb0.trans (hb1.mono hb0.size)
  have hbs := hbw1.size
  have bq1 := bq0.kept (Kept.of_below [] hb1) (by simp)
  have hqB : q < W1.heap.size := bq1.lt
  have hpl := played_any aA capA lA W1 (HLA.out.later hbw1) hlA
  have H1 := Lib.hid (And.intro hbw1 bq1)
  clear hb1 hb0 hbw1 bq0 bq1 hW0
  go_wp2_with fail
  refine hpl.mono ?_
  rintro e W2 ⟨bv, D, rfl, hD, h14, hb2⟩
  have hbw2 := H1.out.1.trans (hb2.mono hbs)
  have bq2 := H1.out.2.kept (Kept.of_below [] hb2) (by simp)
  have hg := hbw2.cell (p := ⟨0, 0, none⟩) (cell_lt HG.out.1)
  rw [HG.out.1] at hg
  have hge := dsk_ge hD
  have hcr := crash_any2 hD ga gc (List.replicate 8 true) (HG.out.2.later hbw2) (fun _ b off ha hm => by
    have h1 := hge b hm
    rcases HG.out.2 with h9 | ⟨b', off', h2, h3, _⟩
    · cases h9
    · rw [ha] at h2
      cases h2
      omega) (by simp)
  rw [List.length_replicate] at hcr
  have hsz2 : W1.heap.size ≤ W2.heap.size := hb2.size
  generalize W1.heap.size = B at *
  have H2 := Lib.hid (And.intro hD (And.intro hbw2 bq2))
  clear H1 hpl hge hD hb2 hbw2 bq2
  go_wp2_with fail
  clear hg
  refine hcr.mono ?_
  rintro e W3 ⟨rfl, hD3, hG3⟩
  have hc14 : (crashM D (List.replicate 8 true)).plate.length = 14 := by rw [crashM_len]; exact h14
  have hrows : (crashM D (List.replicate 8 true)).rows = [] := crashM_rows _ _
  have hdd : (crashM D (List.replicate 8 true)).dead = false := rfl
  have hff : (crashM D (List.replicate 8 true)).fuse = none := rfl
  have hll : (crashM D (List.replicate 8 true)).flaw = none := rfl
  have hbw3 := H2.out.2.1.trans ((hG3.below H2.out.1 hsz2).mono hbs)
  have bq3 := H2.out.2.2.kept hG3.kept (H2.out.1.sep H2.out.2.2 (by decide) (by decide) (by decide))
  clear hcr hG3 H2 h14
  generalize crashM D (List.replicate 8 true) = D3 at *
  clear D
  have hz3 : B ≤ W3.heap.size := by have := hD3.plate.lt; omega
  have H3 := Lib.hid (And.intro hD3 (And.intro hbw3 bq3))
  clear hD3 hbw3 bq3
  go_wp2_with fail
  refine (block_any 9 W3).mono ?_
  rintro e W4 ⟨rfl, hb4⟩
  have hD4 := H3.out.1.later hb4
  have hwr := write_on hD4 (Nat.le_trans hz3 hb4.size) hdd hll (by rw [hff]; simp) 3 (by omega) (by rw [hc14]; omega) (Bk.fill 9)
  have hz4 : B ≤ W4.heap.size := Nat.le_trans hz3 hb4.size
  have H4 := Lib.hid (And.intro hD4 (And.intro (H3.out.2.1.trans (hb4.mono H3.out.2.1.size)) (H3.out.2.2.kept (Kept.of_below [] hb4) (by simp))))
  clear H3 hD4 hb4
  go_wp2_with fail
  refine hwr.mono ?_
  rintro e W5 ⟨rfl, bv5, D5, hD5, hd5, hl5, hf5, hp5, hr5, hG5⟩
  have hr5 := hr5 hrows
  rw [hff] at hf5
  rw [hc14] at hp5
  have hbw5 := H4.out.2.1.trans ((hG5.below H4.out.1 hz4).mono hbs)
  have bq5 := H4.out.2.2.kept hG5.kept (H4.out.1.sep H4.out.2.2 (by decide) (by decide) (by decide))
  have hg := hbw5.cell (p := ⟨0, 0, none⟩) (cell_lt HG.out.1)
  rw [HG.out.1] at hg
  have hsh := shown_any hD5 hp5 ga gc (List.replicate 8 true) (HG.out.2.later hbw5) (by simp)
  rw [List.length_replicate, crash_most (by omega)] at hsh
  have H5 := Lib.hid (And.intro hD5 (And.intro hbw5 bq5))
  clear hwr hG5 H4 hD5 hbw5 bq5 hc14 hrows hdd hff hll
  go_wp2_with fail
  clear hg
  refine hsh.mono ?_
  rintro e W6 ⟨rfl, hb6⟩
  obtain ⟨M, hM⟩ : ∃ M, downsL D5.plate D5.rows = M := ⟨_, rfl⟩
  have hM14 : M.length = 14 := by rw [← hM, downsL_len]; exact hp5
  rw [hM]
  obtain ⟨W7, hW7⟩ : ∃ W7, (W6.alloc (.cells (arr z14) 32)).setRow W6.heap.size (arr M) = W7 := ⟨_, rfl⟩
  have S7 : (storeSem 32 (.pointer (some ⟨W6.heap.size, 0, none⟩)) (.agg (arr M))).run Tryd.prog (W6.alloc (.cells (arr z14) 32)) = .ok () W7 := by rw [← hW7]; exact sarr (Blk.new W6 _ _) z14_len hM14
  have b7 : Blk W7 W6.heap.size 32 (arr M) := by rw [← hW7]; exact (Blk.new W6 _ _).row _
  have hb67 : Below W6.heap.size W6 W7 := by rw [← hW7]; exact below_setRow ((Below.refl _ _).alloc (Nat.le_refl _) _) (Nat.le_refl _) _
  have hb57 := hb6.trans (hb67.mono hb6.size)
  have hD7 := H5.out.1.later hb57
  have hbw7 := H5.out.2.1.trans (hb57.mono H5.out.2.1.size)
  have bq7 := H5.out.2.2.kept (Kept.of_below [] hb57) (by simp)
  have hgm9 : w.heap.size ≤ W6.heap.size := (H5.out.2.1.trans (hb6.mono H5.out.2.1.size)).size
  have hops := ops_any hD7
  generalize hg9 : W6.heap.size = g9 at *
  have hz7 : B ≤ W7.heap.size := by have := hD7.plate.lt; omega
  have H7 := Lib.hid (And.intro hD7 (And.intro hbw7 (And.intro bq7 b7)))
  have y0 := bq7.cell 0
  have y1 := bq7.cell 1
  have y2 := bq7.cell 2
  have y3 := bq7.cell 3
  have y4 := bq7.cell 4
  simp only [Deed.cs, List.getElem?_toArray, List.getElem?_cons_zero, List.getElem?_cons_succ] at y0 y1 y2 y3 y4
  have hqlt : q < W7.heap.size := bq7.lt
  clear hsh hb6 H5 hW7 b7 hb67 hb57 hD7 hbw7
  go_wp2_with (with_reducible refine wpList_alloc_z rfl 32 rfl (arr z14) 896 z_arr' ?_; rw [hg9])
  clear S7
  refine hops.mono ?_
  rintro e w' ⟨rfl, rfl⟩
  clear hops
  have f0 := bq7.drew.free 0
  have f1 := bq7.drew.free 1
  have HB7 := Lib.hid bq7.drew
  clear bq7
  obtain ⟨m14, hm14, hma, hmb⟩ := place_14 z1
  have hkd := fun W => kind_any ⟨z0, z1, z2, z3, z4, z5, z6⟩ W
  simp only [Deed.cs] at hkd
  have hk10 : Deed.k ⟨z0, z1, z2, z3, z4, z5, z6⟩ < 10 := Nat.mod_lt _ (by omega)
  generalize Deed.k ⟨z0, z1, z2, z3, z4, z5, z6⟩ = kk at hkd hk10
  obtain ⟨m7, hm7, hmc, hmd⟩ : ∃ m7 : Nat, m7 < 7 ∧ (kk : Int).tmod 7 = (m7 : Int) ∧ (kk : Int) % 7 = (m7 : Int) := by
    refine ⟨kk % 7, by omega, ?_, by omega⟩
    rw [Int.tmod_eq_emod_of_nonneg (by omega)]
    omega
  have HKd := Lib.hid hkd
  clear hkd
  have e7 : IntKind.i64.wrap (m7 : Int) = (m7 : Int) := by rw [IntKind.wrap_i64]; omega
  have e14 : IntKind.i64.wrap (m14 : Int) = (m14 : Int) := by rw [IntKind.wrap_i64]; omega
  have fin8 : ∀ W8, Below W7.heap.size W7 W8 → Dsk ((W8.setCell ⟨q, 0, none⟩ (.int .i64 (m7 : Int))).setCell ⟨q, 1, none⟩ (.int .i64 (m14 : Int))) B (B + 1) B bv5 D5 ∧ Below w.heap.size w ((W8.setCell ⟨q, 0, none⟩ (.int .i64 (m7 : Int))).setCell ⟨q, 1, none⟩ (.int .i64 (m14 : Int))) ∧ Blk ((W8.setCell ⟨q, 0, none⟩ (.int .i64 (m7 : Int))).setCell ⟨q, 1, none⟩ (.int .i64 (m14 : Int))) q 37 (Deed.cs ⟨m7, m14, z2, z3, z4, z5, z6⟩) ∧ Blk ((W8.setCell ⟨q, 0, none⟩ (.int .i64 (m7 : Int))).setCell ⟨q, 1, none⟩ (.int .i64 (m14 : Int))) g9 32 (arr M) := by
    intro W8 hb
    have hk : Kept [q] W8 ((W8.setCell ⟨q, 0, none⟩ (.int .i64 (m7 : Int))).setCell ⟨q, 1, none⟩ (.int .i64 (m14 : Int))) := ((Kept.refl _ _).setCell (.inl (by simp)) _).setCell (.inl (by simp)) _
    have hD8 := H7.out.1.later hb
    have bq8 := H7.out.2.2.1.kept (Kept.of_below [] hb) (by simp)
    have b98 := H7.out.2.2.2.kept (Kept.of_below [] hb) (by simp)
    have hb8 := H7.out.2.1.trans (hb.mono H7.out.2.1.size)
    refine ⟨hD8.apart hk (fun i hi => (show i = q by simpa using hi) ▸ hD8.sep bq8 (by decide) (by decide) (by decide)), hb8.trans (hk.below (by simpa using hqw) hb8.size), ?_, b98.kept hk (by simp; exact b98.ne bq8 (by decide))⟩
    have := (bq8.set 0 (.int .i64 (m7 : Int))).set 1 (.int .i64 (m14 : Int))
    simpa [Deed.cs] using this
  have HF8 := Lib.hid fin8
  clear fin8
  go_upto_region 8 with (fail)
  go_cut [] from 21 (fun wd => Dsk wd B (B + 1) B bv5 D5 ∧ Below w.heap.size w wd ∧ Blk wd q 37 (Deed.cs ⟨m7, m14, z2, z3, z4, z5, z6⟩) ∧ Blk wd g9 32 (arr M))
  case first =>
    go_wp2_with fail
    go_region_with (first | (go_at_call 11; refine (HKd.out _).mono ?_; rintro e W8 ⟨rfl, hb8⟩; have bqa := HB7.out.kept (Kept.of_below [] hb8) (by simp); have f0a := bqa.free 0; have f1a := bqa.free 1; have y0a : W8.cell? ⟨q, 0, none⟩ = some (.int .i64 z0) := (hb8.cell (p := ⟨q, 0, none⟩) (by exact hqlt)).trans (by exact y0); have y1a : W8.cell? ⟨q, 1, none⟩ = some (.int .i64 z1) := (hb8.cell (p := ⟨q, 1, none⟩) (by exact hqlt)).trans (by exact y1); have y2a : W8.cell? ⟨q, 2, none⟩ = some (.int .i64 z2) := (hb8.cell (p := ⟨q, 2, none⟩) (by exact hqlt)).trans (by exact y2); have y3a : W8.cell? ⟨q, 3, none⟩ = some (.int .u8 (z3 : Int)) := (hb8.cell (p := ⟨q, 3, none⟩) (by exact hqlt)).trans (by exact y3); have y4a : W8.cell? ⟨q, 4, none⟩ = some (.slice z4 z5 z6) := (hb8.cell (p := ⟨q, 4, none⟩) (by exact hqlt)).trans (by exact y4)))
    all_goals
      go_wp2_with fail
      go_meet
      exact HF8.out _ ⟨hb8.os, hb8.tape, hb8.output, hb8.size, hb8.block⟩
  case rest =>
    clear HF8 HKd H7 HB7 y0 y1 y2 y3 y4 f0 f1
    obtain ⟨hDc, hbc, bqc, b9c⟩ := hcut
    have hzc : B ≤ wc.heap.size := by have := hDc.plate.lt; omega
    have hfa := fail_at hDc hd5
    have Hc := Lib.hid (And.intro hDc (And.intro hbc (And.intro bqc b9c)))
    clear hDc hbc bqc b9c
    go_wp2_with fail
    refine hfa.mono ?_
    rintro e Wa ⟨rfl, Da, hDa, hda, hfua, hla, hpa, hra, hoa, hGa⟩
    have hba := Hc.out.2.1.trans ((hGa.below Hc.out.1 hzc).mono hbs)
    have bqa := Hc.out.2.2.1.kept hGa.kept (Hc.out.1.sep Hc.out.2.2.1 (by decide) (by decide) (by decide))
    have b9a := Hc.out.2.2.2.kept hGa.kept (Hc.out.1.sep Hc.out.2.2.2 (by decide) (by decide) (by decide))
    have hza : B ≤ Wa.heap.size := by have := hDa.plate.lt; omega
    have y0 := bqa.cell 0
    have y1 := bqa.cell 1
    have y2 := bqa.cell 2
    have y3 := bqa.cell 3
    have y4 := bqa.cell 4
    simp only [Deed.cs, List.getElem?_toArray, List.getElem?_cons_zero, List.getElem?_cons_succ] at y0 y1 y2 y3 y4
    have hdo := does_flaw hDa hza hda hla (by rw [hfua]; exact hf5) ⟨m7, m14, z2, z3, z4, z5, z6⟩ kx (by show (((m7 : Int) % 18446744073709551616).toNat % 10) < 7; omega) (by show (0 : Int) ≤ (m14 : Int); omega) (by show (m14 : Int) < _; rw [hpa, hp5]; omega) (HX.out.1.below hba) HX.out.2.1 HX.out.2.2.1 HX.out.2.2.2.1 HX.out.2.2.2.2.2
    simp only [Deed.cs] at hdo
    have Ha := Lib.hid (And.intro hDa (And.intro hba b9a))
    clear hfa hDa hba bqa b9a hGa Hc
    go_wp2_with fail
    clear y0 y1 y2 y3 y4
    refine hdo.mono ?_
    rintro e Wb ⟨rb, bvb, Db, rfl, hDb, hdb, hlb, hfb, hpb, hrb, hob, hGb⟩
    have hbb := Ha.out.2.1.trans ((hGb.below Ha.out.1 hza).mono hbs)
    have b9b := Ha.out.2.2.kept hGb.kept (Ha.out.1.sep Ha.out.2.2 (by decide) (by decide) (by decide))
    have hpl : Db.plate = D5.plate := hpb.trans hpa
    have hrw : Db.rows = D5.rows := hrb.trans hra
    have hop : Db.ops = D5.ops := hob.trans hoa
    clear hdo hGb hpb hpa hrb hra hob hoa
    obtain ⟨Wc, hWc⟩ : ∃ Wc, (Wb.alloc (.cells Bk.zero.cs 31)).setRow Wb.heap.size rb.cs = Wc := ⟨_, rfl⟩
    have Sc : (storeSem 31 (.pointer (some ⟨Wb.heap.size, 0, none⟩)) (.agg rb.cs)).run Tryd.prog (Wb.alloc (.cells Bk.zero.cs 31)) = .ok () Wc := by
      have := storeRes_of (P := Tryd.prog) (ty := 31) (o := 0) (vs := rb.cs) (Blk.new Wb 31 Bk.zero.cs) (by rw [Bk.size, Bk.size]; omega) (s_blk rb) rb.one
      rw [over_all (by rw [Bk.size, Bk.size]), hWc] at this
      exact this
    have hbc : Below Wb.heap.size Wb Wc := by rw [← hWc]; exact below_setRow ((Below.refl _ _).alloc (Nat.le_refl _) _) (Nat.le_refl _) _
    have hDc := hDb.later hbc
    have hbwc := hbb.trans (hbc.mono hbb.size)
    have hops := ops_any hDc
    rw [hop] at hops
    have hsh := shown_any hDc (by rw [hpl]; exact hp5) ga gc (List.replicate 8 true) (HG.out.2.later hbwc) (by simp)
    rw [List.length_replicate, crash_most (by rw [hrw]; omega), hpl, hrw, hM] at hsh
    have hg := hbwc.cell (p := ⟨0, 0, none⟩) (cell_lt HG.out.1)
    rw [HG.out.1] at hg
    have Hc := Lib.hid (And.intro hDc (And.intro hbwc (b9b.kept (Kept.of_below [] hbc) (by simp))))
    clear hWc hbc hDb hbb b9b Ha hDc hbwc
    go_wp2_with (with_reducible refine wpList_alloc_z rfl 31 rfl Bk.zero.cs 64 z_blk ?_)
    refine hops.mono ?_
    rintro e w' ⟨rfl, rfl⟩
    clear hops
    go_wp2_with fail
    clear hg
    refine hsh.mono ?_
    rintro e Wd ⟨rfl, hbd⟩
    obtain ⟨We, hWe⟩ : ∃ We, (Wd.alloc (.cells (arr z14) 32)).setRow Wd.heap.size (arr M) = We := ⟨_, rfl⟩
    have Se : (storeSem 32 (.pointer (some ⟨Wd.heap.size, 0, none⟩)) (.agg (arr M))).run Tryd.prog (Wd.alloc (.cells (arr z14) 32)) = .ok () We := by rw [← hWe]; exact sarr (Blk.new Wd _ _) z14_len hM14
    have be : Blk We Wd.heap.size 32 (arr M) := by rw [← hWe]; exact (Blk.new Wd _ _).row _
    have hbde : Below Wd.heap.size Wd We := by rw [← hWe]; exact below_setRow ((Below.refl _ _).alloc (Nat.le_refl _) _) (Nat.le_refl _) _
    have hbe := hbd.trans (hbde.mono hbd.size)
    have LA := larr (Hc.out.2.2.kept (Kept.of_below [] hbe) (by simp)) hM14
    have LB := larr be hM14
    have EA := fun w => eqArr_same hM14 w
    have hDe := Hc.out.1.later hbe
    have hpe := pending_any hDe
    rw [hrw, hr5] at hpe
    have He := Lib.hid (And.intro hDe (Hc.out.2.1.trans (hbe.mono Hc.out.2.1.size)))
    clear hsh hbd hWe be hbde hbe hDe Hc
    go_wp2_with (with_reducible refine wpList_alloc_z rfl 32 rfl (arr z14) 896 z_arr' ?_)
    refine hpe.mono ?_
    rintro e Wf ⟨v, rfl, hown, hbf⟩
    obtain ⟨va, vc, rfl⟩ := own_slice hown
    have hDf := He.out.1.later hbf
    have hbwf := He.out.2.trans (hbf.mono He.out.2.size)
    obtain ⟨m9, hm9, hm9a, hm9b⟩ := place_9 n
    have e9 : IntKind.i64.wrap (m9 : Int) = (m9 : Int) := by rw [IntKind.wrap_i64]; omega
    have har := arm_at hDf hdb m9 (by omega)
    have hpf : Db.plate.length = 14 := by rw [hpl]; exact hp5
    have Hf := Lib.hid (And.intro hDf hbwf)
    clear hpe hown hbf He hDf hbwf LA LB EA Se Sc
    go_wp2_with fail
    refine har.mono ?_
    rintro e Wg ⟨rfl, Dg, hDg, hdg, hfg, hlg, hpg, hrg, hGg⟩
    have hzf : B ≤ Wf.heap.size := by have := Hf.out.1.plate.lt; omega
    have hbg := Hf.out.2.trans ((hGg.below Hf.out.1 hzf).mono hbs)
    rw [hlb] at hlg
    have hpg14 : Dg.plate.length = 14 := by rw [hpg]; exact hpf
    have Hg := Lib.hid (And.intro hDg (And.intro hdg (And.intro hlg (And.intro hfg (And.intro hpg14 hbg)))))
    obtain ⟨nb, hnb⟩ : ∃ nb : Nat, IntKind.u8.wrap n = (nb : Int) := ⟨(IntKind.u8.wrap n).toNat, by
      have : IntKind.u8.wrap n = n % 256 := by simp [IntKind.wrap, IntKind.bits, IntKind.signed]
      omega⟩
    clear har hDg hdg hlg hfg hpg hrg hGg hbg hpg14 Hf
    go_wp2_with fail
    go_loopw [110] (fun i wr => ∃ j : Nat, j ≤ m9 ∧ i = .int .i64 j ∧ ∃ bv D', Dsk wr B (B + 1) B bv D' ∧ D'.dead = false ∧ D'.flaw = none ∧ D'.fuse = some (m9 - j) ∧ D'.plate.length = 14 ∧ Below w.heap.size w wr) (fun i _ => m9 - (intOf i).toNat)
    case atStart => exact ⟨0, Nat.zero_le _, rfl, _, _, Hg.out⟩
    case round =>
      obtain ⟨j, hj, rfl, bv1, D1, hD1, hd1, hl1, hf1, hp1, hb1⟩ := hrel
      clear Hg
      have hz1 : B ≤ wr.heap.size := by have := hD1.plate.lt; omega
      by_cases hlt : j < m9
      · have hji : (j : Int) < (m9 : Int) := by omega
        have hrd := read_on hD1 hd1 hl1 (j : Int) (by omega) (by rw [hp1]; omega)
        have H1 := Lib.hid (And.intro hD1 hb1)
        clear hD1 hb1
        go_wp2_with fail
        refine hrd.mono ?_
        rintro e W2 ⟨rc, D2, rfl, hD2, hd2, hl2, hf2, hp2, hG2⟩
        have hb2 := H1.out.2.trans ((hG2.below H1.out.1 hz1).mono hbs)
        obtain ⟨W3, hW3⟩ : ∃ W3, (W2.alloc (.cells Bk.zero.cs 31)).setRow W2.heap.size rc.cs = W3 := ⟨_, rfl⟩
        have S3 : (storeSem 31 (.pointer (some ⟨W2.heap.size, 0, none⟩)) (.agg rc.cs)).run Tryd.prog (W2.alloc (.cells Bk.zero.cs 31)) = .ok () W3 := by
          have := storeRes_of (P := Tryd.prog) (ty := 31) (o := 0) (vs := rc.cs) (Blk.new W2 31 Bk.zero.cs) (by rw [Bk.size, Bk.size]; omega) (s_blk rc) rc.one
          rw [over_all (by rw [Bk.size, Bk.size]), hW3] at this
          exact this
        have hb23 : Below W2.heap.size W2 W3 := by rw [← hW3]; exact below_setRow ((Below.refl _ _).alloc (Nat.le_refl _) _) (Nat.le_refl _) _
        have hD3 := hD2.later hb23
        have hb3 := hb2.trans (hb23.mono hb2.size)
        have H3 := Lib.hid (And.intro hD3 hb3)
        clear hrd hD2 hG2 hb2 hW3 hb23 hD3 hb3
        go_wp2_with (with_reducible refine wpList_alloc_z rfl 31 rfl Bk.zero.cs 64 z_blk ?_)
        refine (block_any nb W3).mono ?_
        rintro e W4 ⟨rfl, hb34⟩
        have hD4 := H3.out.1.later hb34
        have hz4 : B ≤ W4.heap.size := by have := hD4.plate.lt; omega
        have hb4 := H3.out.2.trans (hb34.mono H3.out.2.size)
        have hwr := write_on hD4 hz4 hd2 hl2 (by rw [hf2, hf1]; simp; omega) (j : Int) (by omega) (by rw [hp2, hp1]; omega) (Bk.fill nb)
        have H4 := Lib.hid (And.intro hD4 hb4)
        clear hD4 hb4 hb34 H3 S3
        go_wp2_with fail
        refine hwr.mono ?_
        rintro e W5 ⟨rfl, bv5', D5', hD5', hd5', hl5', hf5', hp5', _, hG5'⟩
        have hb5 := H4.out.2.trans ((hG5'.below H4.out.1 hz4).mono hbs)
        have hf6 : D5'.fuse = some (m9 - (j + 1)) := by
          rw [hf5', hf2, hf1]
          show some (m9 - j - 1) = _
          rw [Nat.sub_sub]
        have HF := Lib.hid (And.intro hD5' (And.intro hd5' (And.intro hl5' (And.intro hf6 (And.intro ((hp5'.trans hp2).trans hp1) hb5)))))
        clear hwr hD5' hd5' hl5' hf5' hp5' hG5' hb5 hf6
        go_wp2_with fail
        go_roundw
        case rel => first | exact ⟨j + 1, by omega, by go_num, _, _, HF.out⟩ | ((repeat apply Exists.intro); exact ⟨⟨j + 1, by omega, by go_num, _, _, HF.out⟩, rfl⟩)
        case measure => simp [intOf]; omega
      · obtain rfl : j = m9 := by omega
        rw [Nat.sub_self] at hf1
        have hsy := sync_burnt hD1 hd1 hf1
        have H1 := Lib.hid (And.intro hD1 hb1)
        clear hD1 hb1
        go_wp2_with fail
        refine hsy.mono ?_
        rintro e W2 ⟨rfl, bv2, D2, hD2, hd2, hG2⟩
        have hb2 := H1.out.2.trans ((hG2.below H1.out.1 hz1).mono hbs)
        have hde := dead_any hD2
        rw [hd2] at hde
        have hz2 : B ≤ W2.heap.size := by have := hD2.plate.lt; omega
        have H2 := Lib.hid (And.intro hD2 hb2)
        clear hsy hG2 hb2 hD2
        go_wp2_with fail
        refine hde.mono ?_
        rintro e w' ⟨rfl, rfl⟩
        have hrd := read_dead H2.out.1 hd2 0
        clear hde
        go_wp2_with fail
        refine hrd.mono ?_
        rintro e W3 ⟨rfl, hD3, hG3⟩
        have hb3 := H2.out.2.trans ((hG3.below H2.out.1 hz2).mono hbs)
        obtain ⟨W4, hW4⟩ : ∃ W4, (W3.alloc (.cells Bk.zero.cs 31)).setRow W3.heap.size Bk.zero.cs = W4 := ⟨_, rfl⟩
        have S4 : (storeSem 31 (.pointer (some ⟨W3.heap.size, 0, none⟩)) (.agg Bk.zero.cs)).run Tryd.prog (W3.alloc (.cells Bk.zero.cs 31)) = .ok () W4 := by
          have := storeRes_of (P := Tryd.prog) (ty := 31) (o := 0) (vs := Bk.zero.cs) (Blk.new W3 31 Bk.zero.cs) (by rw [Bk.size]; omega) (s_blk Bk.zero) Bk.zero.one
          rw [over_all rfl, hW4] at this
          exact this
        have hb34 : Below W3.heap.size W3 W4 := by rw [← hW4]; exact below_setRow ((Below.refl _ _).alloc (Nat.le_refl _) _) (Nat.le_refl _) _
        have hD4 := hD3.later hb34
        have hb4 := hb3.trans (hb34.mono hb3.size)
        have hz4 : B ≤ W4.heap.size := by have := hD4.plate.lt; omega
        have hwr := write_gone hD4 hz4 hd2 0 Bk.zero
        have hbz := build_blk_zero W4
        have H4 := Lib.hid (And.intro hD4 hb4)
        clear hrd hD3 hG3 hb3 hW4 hb34 hD4 hb4
        go_wp2_with (with_reducible refine wpList_alloc_z rfl 31 rfl Bk.zero.cs 64 z_blk ?_)
        refine hwr.mono ?_
        rintro e W5 ⟨rfl, bv5', hD5', hG5'⟩
        have hb5 := H4.out.2.trans ((hG5'.below H4.out.1 hz4).mono hbs)
        have hz5 : B ≤ W5.heap.size := by have := hD5'.plate.lt; omega
        have har := arm_gone hD5' hd2
        have H5 := Lib.hid (And.intro hD5' hb5)
        clear hwr hG5' hb5 hD5' hbz S4
        go_wp2_with fail
        refine har.mono ?_
        rintro e W6 ⟨rfl, hD6, hG6⟩
        have hb6 := H5.out.2.trans ((hG6.below H5.out.1 hz5).mono hbs)
        have hz6 : B ≤ W6.heap.size := by have := hD6.plate.lt; omega
        have hfg := fail_gone hD6 hd2
        have H6 := Lib.hid (And.intro hD6 hb6)
        clear har hD6 hG6 hb6
        go_wp2_with fail
        refine hfg.mono ?_
        rintro e W7 ⟨rfl, hD7, hG7⟩
        have hb7 := H6.out.2.trans ((hG7.below H6.out.1 hz6).mono hbs)
        have hz7' : B ≤ W7.heap.size := by have := hD7.plate.lt; omega
        have hcr := crash_any2 hD7 none 0 [] (.inl rfl) (by simp) (by simp)
        rw [List.length_nil] at hcr
        have H7 := Lib.hid (And.intro hD7 hb7)
        clear hfg hD7 hG7 hb7
        go_wp2_with fail
        refine hcr.mono ?_
        rintro e W8 ⟨rfl, hD8, hG8⟩
        have hb8 := H7.out.2.trans ((hG8.below H7.out.1 hz7').mono hbs)
        have hde := dead_any hD8
        have hdf : (crashM D2 []).dead = false := rfl
        rw [hdf] at hde
        have HF := Lib.hid hb8
        clear hcr hD8 hG8 hb8 hdf
        go_wp2_with fail
        refine hde.mono ?_
        rintro e w' ⟨rfl, rfl⟩
        go_wp2_with fail
        go_ret
        exact ⟨rfl, HF.out⟩
end Go.Proofs.YtaikgngigaohmaaDoor
