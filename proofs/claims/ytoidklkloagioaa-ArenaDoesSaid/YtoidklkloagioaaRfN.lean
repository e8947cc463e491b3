/-
  The document's arena: a block taken. Nothing here is a statement of the document.
-/
import Derived.Test.YtoidklkloagioaaRfM
namespace Go.Proofs.Ytoidklkloagioaa
open Go.RowKit Go.Shelf
set_option linter.unusedVariables false
attribute [local go_sem ↓] load_ra_rule store_ra_rule load_rb_rule store_rb_rule build_rbs_rule
section
variable {w W W' : World} {g z lo : Nat} {bv : Value} {ls : Nat → Value} {vs : List Value} {M : Mo}
set_option maxRecDepth 100000 in
set_option maxHeartbeats 1000000 in
theorem ralloc_arg (h : Rfa w lo bv ls vs M) (x : Int) (hx : x < 0 ∨ 5 < x) : Calls Try.prog 22 #[.agg (M.vals bv ls), .int .i64 x] w fun e w' => e = .returned (.tuple #[.agg (M.vals bv ls), .int .i64 0, .int .i64 2]) ∧ Below w.heap.size w w' := by
  obtain ⟨W, hW, F⟩ := fr_new h
  have hl := F.bx.ld
  obtain ⟨hs, hbk, hbe⟩ := F.st
  have HX := Lib.hid (And.intro hbk (And.intro hbe (M.vals_size bv ls)))
  clear F h hbk hbe
  generalize M.vals bv ls = V at *
  by_cases hx0 : x < 0
  · clear hx
    go_enter Try.func22, Try.ntmps22
    go_wp2_with fail
    refine bodyPost_ret (results_ra3 rfl _ _ (w.heap.size + 1) V rfl HX.out.1 HX.out.2.2) rfl ?_
    exact ⟨rfl, HX.out.2.1⟩
  · have hx5 : 5 < x := by omega
    clear hx
    go_enter Try.func22, Try.ntmps22
    go_wp2_with fail
    refine bodyPost_ret (results_ra3 rfl _ _ (w.heap.size + 1) V rfl HX.out.1 HX.out.2.2) rfl ?_
    exact ⟨rfl, HX.out.2.1⟩
/-- A row of noughts, made. -/
theorem mk32 (w : World) (n : Nat) (hn : n ≤ 16384) : (Instr.makeSlice 62 (.int .i64 (n : Int)) (.int .i64 (n : Int))).run Try.prog w = .ok (.slice (some ⟨w.heap.size, 0, none⟩) n n) (w.alloc (.cells (wcs (List.replicate n 0)) 53)) ∧ (w.alloc (.cells (wcs (List.replicate n 0)) 53)).ownsRow w.heap.size 53 1 (.slice (some ⟨w.heap.size, 0, none⟩) n n) n (wvl (List.replicate n 0)) := by
  obtain ⟨j0, ji, jz0, jz1, jz2⟩ := info_parts i_w32
  have hmk := run_make (P := Try.prog) w 62 53 j0 (.int .u32 0) Try.underlying62 ji jz0 .i64 .i64 (n : Int) (n : Int) (by omega) (by omega) (by rw [jz2]; omega) (by omega)
  rw [jz1, Int.toNat_natCast, made_words] at hmk
  refine ⟨hmk, ?_⟩
  have := World.ownsRow_lit (e := 53) (size := 1) (base := w.heap.size) w (wcs (List.replicate n 0)) n (Nat.le_refl _) (by unfold maxLen; omega) (by simp [wcs])
  simpa [wcs, wvl] using this
set_option maxRecDepth 100000 in
set_option maxHeartbeats 2000000 in
theorem ralloc_full (h : Rfa w lo bv ls vs M) (c : Nat) (hc : c ≤ 5) (hL : M.L c = []) (hf : M.N < M.edge + 1 + 2 ^ c) (hed : M.edge ≤ 16384) : Calls Try.prog 22 #[.agg (M.vals bv ls), .int .i64 (c : Int)] w fun e w' => e = .returned (.tuple #[.agg (M.vals bv ls), .int .i64 0, .int .i64 6]) ∧ Below w.heap.size w w' := by
  obtain ⟨W, hW, F⟩ := fr_new h
  have hl := F.bx.ld
  have hcp := rcopy_any F.bx.rf
  have hsm := h.small
  have HF := Lib.hid (And.intro F (M.vals_size bv ls))
  clear F h
  have hp := pow5 hc
  have hsi := fun w => rsize_any c hc w
  obtain ⟨V, hV⟩ : ∃ V, M.vals bv ls = V := ⟨_, rfl⟩
  rw [hV] at hW hl hcp ⊢
  have HV := Lib.hid hV
  clear hV
  have hc0 : ¬ ((c : Int) < 0) := by omega
  have hc5 : ¬ (5 < (c : Int)) := by omega
  have hc6 : (c : Int) < 6 := by omega
  go_enter Try.func22, Try.ntmps22
  go_wp2_with fail
  refine hcp.mono ?_
  rintro e9 W' ⟨bv', ls', vs', rfl, hR, hb3⟩
  have hst := sra_new W' (M.vals_size bv' ls') hR.vals_one
  obtain ⟨W6, hW6⟩ : ∃ W6, W'.alloc (.cells (M.vals bv' ls') 36) = W6 := ⟨_, rfl⟩
  have B6 : Bx W' W6 W'.heap.size W.heap.size bv' ls' vs' M := by rw [← hW6]; exact bx_new hR
  rw [hW6] at hst
  clear hcp hl
  have HB6 := Lib.hid (And.intro B6 hb3)
  obtain ⟨V3, hV3⟩ : ∃ V3, M.vals bv' ls' = V3 := ⟨_, rfl⟩
  rw [hV3] at hst hW6 ⊢
  clear hR hb3 B6 hV3
  go_wp2_with fail
  refine (hsi W6).mono ?_
  rintro e8 _ ⟨rfl, rfl⟩
  obtain ⟨hmk, _⟩ := mk32 W6 (2 ^ c) (by omega)
  obtain ⟨W7, hW7⟩ : ∃ W7, W6.alloc (.cells (wcs (List.replicate (2 ^ c) 0)) 53) = W7 := ⟨_, rfl⟩
  have k7 : Below W6.heap.size W6 W7 := by rw [← hW7]; exact (Below.refl _ _).alloc (Nat.le_refl _) _
  rw [hW7] at hmk
  clear hst hW6 hW7
  have B7 := HB6.out.1.later k7
  have cl := B7.cl hc
  have hI := B7.rf.lst c hc
  obtain ⟨al, ca, hIl, _⟩ := hI
  rw [hIl, hL, List.length_nil] at cl
  clear hIl
  have F7 := HF.out.1.lat (bel_later HB6.out.2 B7.hb)
  have HF7 := Lib.hid F7
  have hl7 := F7.bx.ld
  have hed7 := redge_any F7.bx.rf
  rw [HV.out] at hl7 hed7
  clear k7 B7 F7
  generalize hzz : 2 ^ c = zz at *
  generalize hee : M.edge = ed at *
  generalize hnn : M.N = nn at *
  go_wp2_with fail
  refine hed7.mono ?_
  rintro e7 W8 ⟨rfl, hb8⟩
  have F8 := HF7.out.lat hb8
  have hl8 := F8.bx.ld
  obtain ⟨hs, hbk, hbe⟩ := F8.st
  have c0 : ∀ n, (W8.drewN n).cell? ⟨w.heap.size, 0, none⟩ = some (.int .i64 (nn : Int)) := fun n => by rw [← hnn]; exact (F8.bx.drewN n).c0
  have hsd := fun n => (F8.lat (W' := W8.drewN n) (below_drewN (Below.refl _ _) n)).st
  have hld := fun n => (F8.lat (W' := W8.drewN n) (below_drewN (Below.refl _ _) n)).bx.ld
  rw [HV.out] at hl8 hs hbk hbe
  have hsd1 : ∀ n, (storeSem 36 (.pointer (some ⟨w.heap.size + 1, 0, none⟩)) (.agg V)).run Try.prog (W8.drewN n) = .ok () ((W8.drewN n).setRow (w.heap.size + 1) V) := fun n => by rw [← HV.out]; exact (hsd n).1
  have hld1 : ∀ n, (loadSem 36 (.pointer (some ⟨w.heap.size, 0, none⟩))).run Try.prog (W8.drewN n) = .ok (.agg V) (W8.drewN n) := fun n => by rw [← HV.out]; exact hld n
  have HX := Lib.hid hsd
  have h13 : V.size = 13 := by rw [← HV.out]; exact HF.out.2
  have H13 := Lib.hid h13
  clear hed7 hb8 F8 hbk hbe h13 cl hl7 hmk hsd hld hee
  go_wp2_with fail
  go_quiet (first | (go_at_call 61; exact Calls.quiet_of_same ((hsi _).mono fun _ _ h => ⟨h.1, h.2.symm⟩)))
  go_wp2
  refine bodyPost_ret (results_ra3 rfl _ _ (w.heap.size + 1) V rfl (by rw [← HV.out]; exact (HX.out _).2.1) H13.out) rfl ?_
  exact ⟨rfl, by have := (HX.out nq).2.2; rw [HV.out] at this; exact this⟩
set_option maxRecDepth 100000 in
set_option maxHeartbeats 2000000 in
theorem ralloc_grow (h : Rfa w lo bv ls vs M) (c : Nat) (hc : c ≤ 5) (hL : M.L c = []) (hf : M.edge + 1 + 2 ^ c ≤ M.N) (hM : Mok { M with R := M.R ++ [⟨M.edge + 1, c, true, List.replicate (2 ^ c) 0⟩] }) : Calls Try.prog 22 #[.agg (M.vals bv ls), .int .i64 (c : Int)] w fun e w' => ∃ u, e = .returned (.tuple #[u, .int .i64 ((M.edge + 1 : Nat) : Int), .int .i64 0]) ∧ Ans w w' u { M with R := M.R ++ [⟨M.edge + 1, c, true, List.replicate (2 ^ c) 0⟩] } := by
  obtain ⟨W, hW, F⟩ := fr_new h
  have hl := F.bx.ld
  have hcp := rcopy_any F.bx.rf
  have hsm := h.small
  have HF := Lib.hid (And.intro F (M.vals_size bv ls))
  clear F h
  have hp := pow5 hc
  have hsi := fun w => rsize_any c hc w
  obtain ⟨V, hV⟩ : ∃ V, M.vals bv ls = V := ⟨_, rfl⟩
  rw [hV] at hW hl hcp ⊢
  have HV := Lib.hid hV
  clear hV
  have hc0 : ¬ ((c : Int) < 0) := by omega
  have hc5 : ¬ (5 < (c : Int)) := by omega
  have hc6 : (c : Int) < 6 := by omega
  go_enter Try.func22, Try.ntmps22
  go_wp2_with fail
  refine hcp.mono ?_
  rintro e9 W' ⟨bv', ls', vs', rfl, hR, hb3⟩
  have hst := sra_new W' (M.vals_size bv' ls') hR.vals_one
  obtain ⟨W6, hW6⟩ : ∃ W6, W'.alloc (.cells (M.vals bv' ls') 36) = W6 := ⟨_, rfl⟩
  have B6 : Bx W' W6 W'.heap.size W.heap.size bv' ls' vs' M := by rw [← hW6]; exact bx_new hR
  rw [hW6] at hst
  clear hcp hl
  have HB6 := Lib.hid (And.intro B6 hb3)
  obtain ⟨V3, hV3⟩ : ∃ V3, M.vals bv' ls' = V3 := ⟨_, rfl⟩
  rw [hV3] at hst hW6 ⊢
  clear hR hb3 B6 hV3
  go_wp2_with fail
  refine (hsi W6).mono ?_
  rintro e8 _ ⟨rfl, rfl⟩
  obtain ⟨hmk, hmo⟩ := mk32 W6 (2 ^ c) (by omega)
  obtain ⟨W7, hW7⟩ : ∃ W7, W6.alloc (.cells (wcs (List.replicate (2 ^ c) 0)) 53) = W7 := ⟨_, rfl⟩
  have k7 : Below W6.heap.size W6 W7 := by rw [← hW7]; exact (Below.refl _ _).alloc (Nat.le_refl _) _
  rw [hW7] at hmk hmo
  have hmo9 := hmo
  clear hst hW6 hW7
  have hsz6 : W'.heap.size < W6.heap.size := HB6.out.1.bx.lt
  have B7 := HB6.out.1.later k7
  have cl := B7.cl hc
  have hI := B7.rf.lst c hc
  obtain ⟨al, ca, hIl, _⟩ := hI
  rw [hIl, hL, List.length_nil] at cl
  clear hIl
  have F7 := HF.out.1.lat (bel_later HB6.out.2 B7.hb)
  have HF7 := Lib.hid (And.intro F7 (And.intro hmo9 (And.intro k7 hM)))
  clear hmo hmo9 hM
  have hl7 := F7.bx.ld
  have hed7 := redge_any F7.bx.rf
  rw [HV.out] at hl7 hed7
  clear k7 B7 F7
  generalize hzz : 2 ^ c = zz at *
  generalize hee : M.edge = ed at *
  generalize hnn : M.N = nn at *
  go_wp2_with fail
  refine hed7.mono ?_
  rintro e7 W8 ⟨rfl, hb8⟩
  have F8 := HF7.out.1.lat hb8
  have hl8 := F8.bx.ld
  obtain ⟨hs, hbk, hbe⟩ := F8.st
  have c0 : ∀ n, (W8.drewN n).cell? ⟨w.heap.size, 0, none⟩ = some (.int .i64 (nn : Int)) := fun n => by rw [← hnn]; exact (F8.bx.drewN n).c0
  have hsd := fun n => (F8.lat (W' := W8.drewN n) (below_drewN (Below.refl _ _) n)).st
  have hld := fun n => (F8.lat (W' := W8.drewN n) (below_drewN (Below.refl _ _) n)).bx.ld
  rw [HV.out] at hl8 hs hbk hbe
  have hsd1 : ∀ n, (storeSem 36 (.pointer (some ⟨w.heap.size + 1, 0, none⟩)) (.agg V)).run Try.prog (W8.drewN n) = .ok () ((W8.drewN n).setRow (w.heap.size + 1) V) := fun n => by rw [← HV.out]; exact (hsd n).1
  have hld1 : ∀ n, (loadSem 36 (.pointer (some ⟨w.heap.size, 0, none⟩))).run Try.prog (W8.drewN n) = .ok (.agg V) (W8.drewN n) := fun n => by rw [← HV.out]; exact hld n
  have HX := Lib.hid (And.intro hsd (And.intro hb8 (And.intro hee hzz)))
  have h13 : V.size = 13 := by rw [← HV.out]; exact HF.out.2
  have H13 := Lib.hid h13
  clear hed7 hb8 F8 hbk hbe h13 cl hl7 hmk hsd hld hee
  go_wp2_with fail
  go_quiet (first | (go_at_call 61; exact Calls.quiet_of_same ((hsi _).mono fun _ _ h => ⟨h.1, h.2.symm⟩)))
  clear hsd1 hs hl8
  have k9 : Below W6.heap.size W6 (W8.drewN nq) := below_drewN (bel_later HF7.out.2.2.1 HX.out.2.1) nq
  obtain ⟨W9, hW9⟩ : ∃ W9, W8.drewN nq = W9 := ⟨_, rfl⟩
  have k89 : Below W8.heap.size W8 (W8.drewN nq) := below_drewN (Below.refl _ _) nq
  rw [hW9] at k9 k89 ⊢
  have B9 := HB6.out.1.later k9
  have F9 := HF7.out.1.lat (bel_later HX.out.2.1 k89)
  clear c0 hld1 hW9
  obtain ⟨a3, c3, hbv⟩ := owns_sl B9.rf.row
  have c1 := B9.c1
  rw [hbv] at c1
  obtain ⟨V9, hV9⟩ : ∃ V9 : Array Value, #[Value.int .i64 ((ed : Int) + 1), .int .i64 (c : Int), .bool true, .slice (some ⟨W6.heap.size, 0, none⟩) zz zz] = V9 := ⟨_, rfl⟩
  have hV9s : V9.size = 4 := by rw [← hV9]; rfl
  have hbs : (buildRbs 1 #[(0, .agg #[Value.int .i64 ((ed : Int) + 1), .int .i64 (c : Int), .bool true, .slice (some ⟨W6.heap.size, 0, none⟩) zz zz])]).run Try.prog W9 = .ok (.slice (some ⟨W9.heap.size, 0, none⟩) 1 1) (W9.alloc (.cells V9 84)) := by rw [hV9]; exact bs_rb V9 hV9s W9
  have hone9 : ∀ u ∈ V9.toList, u.oneCell' = true := by rw [← hV9]; simp [Value.oneCell']
  have hn9 : ∀ j u, V9.toList[j]? = some u → (W9.alloc (.cells V9 84)).cell? ((⟨W9.heap.size, 0, none⟩ : Addr).add j) = some u := fun j u hj => by
    rw [Addr.add_lit, Nat.zero_add, (Blk.new W9 84 _).cell]
    simpa using hj
  obtain ⟨i0, hi, hz0, hz1, hz2⟩ := info_parts i_rbk
  have hrow9 := B9.rf.row.alloc (.cells V9 84)
  rw [hbv] at hrow9
  have hfew := B9.rf.few
  obtain ⟨xs9, hxs9⟩ : ∃ xs9, rbs M.R vs' = xs9 := ⟨_, rfl⟩
  rw [hxs9] at hrow9
  obtain ⟨nR, hnR⟩ : ∃ nR, M.R.length = nR := ⟨_, rfl⟩
  rw [hnR] at hrow9 c1 hfew
  have hba9 : W.heap.size ≤ (W9.alloc (.cells V9 84)).heap.size := by have := HB6.out.2.size; have := B9.hb.size; simp; omega
  have HY := Lib.hid (And.intro B9 (And.intro F9 (And.intro hbv (And.intro hxs9 (And.intro hnR (And.intro hV9 (And.intro k9 k89)))))))
  clear B9 F9 hbv hxs9 hnR hV9 k9 k89
  have hl5 : V9.toList.length = 1 * 4 := by simp [hV9s]
  go_wp2_with (at_builtin; refine wpList_append_own _ rfl _ _ 29 rfl W.heap.size 84 i0 (.agg zeroRb) 4 48 Try.underlying29 hi hz0 hz1 hz2 rfl (by decide) _ _ _ rfl hrow9 ⟨W9.heap.size, 0, none⟩ 1 1 V9.toList rfl hl5 hn9 hone9 (by unfold maxLen; omega) (by omega) hba9 ?_)
  intro ov w10 how10 hgr10 _
  obtain ⟨a10, c10, hov⟩ := owns_sl how10
  subst hov
  have kA : Below W9.heap.size W9 (W9.alloc (.cells V9 84)) := (Below.refl _ _).alloc (Nat.le_refl _) _
  have BA := HY.out.1.later kA
  have FA := HY.out.2.1.lat kA
  have hgr11 : (W9.alloc (.cells V9 84)).grownBy w10 bv'.ownBlock := by rw [HY.out.2.2.1, HY.out.2.2.2.2.1]; exact hgr10
  have hwd : (W9.alloc (.cells V9 84)).ownsRow W.heap.size 53 1 (.slice (some ⟨W6.heap.size, 0, none⟩) zz zz) zz (wvl (List.replicate zz 0)) := by
    exact ownsRow_le (owns_later (owns_later (owns_later HF7.out.2.1 HX.out.2.1) HY.out.2.2.2.2.2.2.2) kA) (by have := HB6.out.2.size; omega)
  have hfr : ∀ v ∈ vs', v.ownBlock ≠ (Value.slice (some ⟨W6.heap.size, 0, none⟩) zz zz).ownBlock := fun v hv => by
    obtain ⟨i, hi9, rfl⟩ := List.mem_iff_getElem.1 hv
    have h6 := HB6.out.1.rf
    have hil : i < M.R.length := by have := h6.len; omega
    have hwi := h6.wds i _ _ (List.getElem?_eq_getElem hil) (List.getElem?_eq_getElem hi9)
    obtain ⟨g, e9, _, hlt9⟩ := own_pos hwi (by have := Nat.pos_of_ne_zero (show 2 ^ (M.R[i]).c ≠ 0 by simp); omega)
    rw [e9]
    intro e
    simp [Value.ownBlock] at e
    omega
  have hsn := BA.rf.blks.snoc (b := ⟨ed + 1, c, true, List.replicate zz 0⟩) (wv := .slice (some ⟨W6.heap.size, 0, none⟩) zz zz) (bv' := .slice a10 (nR + 1) c10) (w' := w10) (by show World.ownsRow _ _ _ _ _ (2 ^ c) _; rw [HX.out.2.2.2]; exact hwd) hfr (by
    rw [HY.out.2.2.2.1, HY.out.2.2.2.2.1, show ((⟨ed + 1, c, true, List.replicate zz 0⟩ : Rb).cs (.slice (some ⟨W6.heap.size, 0, none⟩) zz zz)) = V9 by rw [← HY.out.2.2.2.2.2.1]; simp [Rb.cs]]
    exact how10) hgr11
  have b10 : Blk w10 W'.heap.size 36 (M.vals bv' ls') := (hgr11.block _ BA.bx.lt (own_ne_blk BA.rf.row BA.bx (by decide))).trans BA.bx
  have k10 : Below W.heap.size W w10 := by
    refine ((bel_later HB6.out.2 BA.hb)).grown hgr11 ?_ (fun j hj => (BA.rf.row.lt j hj).1)
    have := HB6.out.2.size; have := BA.hb.size; omega
  have I10 : ∀ c, c ≤ 5 → Ints w10 W.heap.size (ls' c) (M.L c) := fun c hc => by
    obtain ⟨a, c', h1, h2, h0, h3⟩ := BA.rf.lst c hc
    exact ⟨a, c', h1, h2, h0, h3.imp id fun ⟨g, o, C, h4, h5, h6, h7⟩ => ⟨g, o, C, h4, h5, (hgr11.block _ h6.lt (own_ne_blk BA.rf.row h6 (by decide))).trans h6, h7⟩⟩
  have c101 := b10.cell 1
  have f101 := b10.free 1
  have b11 := b10.set 1 (.slice a10 (nR + 1) c10)
  rw [show (M.vals bv' ls').setIfInBounds 1 (.slice a10 (nR + 1) c10) = M.vals (.slice a10 (nR + 1) c10) ls' by simp [Mo.vals]] at b11
  have hsn11 := hsn.far b10 1 (.slice a10 (nR + 1) c10)
  subst hnn
  have hM' := HF7.out.2.2.2
  have R11 : Rfa (w10.setCell ⟨W'.heap.size, 1, none⟩ (.slice a10 (nR + 1) c10)) W.heap.size (.slice a10 (nR + 1) c10) ls' (vs' ++ [.slice (some ⟨W6.heap.size, 0, none⟩) zz zz]) { M with R := M.R ++ [⟨ed + 1, c, true, List.replicate zz 0⟩] } :=
    ⟨hsn11.row, hsn11.len, hsn11.wds, hsn11.apart, hM'.ok, hM'.uq, fun c hc => (I10 c hc).far b10 (by decide) _ _, hM'.few, hM'.fewl, hM'.small⟩
  have k11 := k10.setCell (p := ⟨W'.heap.size, 1, none⟩) (by have := HB6.out.2.size; show _ ≤ W'.heap.size; omega) (.slice a10 (nR + 1) c10)
  obtain ⟨hs4, hbk, hans⟩ := HF.out.1.ans R11 k11
  have hl11 := lra b11 rfl
  have HZ := Lib.hid (And.intro hbk hans)
  obtain ⟨V4, hV4⟩ : ∃ V4, M.vals (.slice a10 (nR + 1) c10) ls' = V4 := ⟨_, rfl⟩
  have e4 : ({ M with R := M.R ++ [⟨ed + 1, c, true, List.replicate zz 0⟩] } : Mo).vals (.slice a10 (nR + 1) c10) ls' = V4 := hV4
  rw [hV4] at hl11
  rw [e4] at hs4
  have c101' : w10.cell? ⟨W'.heap.size, 1, none⟩ = some (.slice a3 nR c3) := by rw [c101]; rw [← HY.out.2.2.2.2.1, ← HY.out.2.2.1]; rfl
  have h13 : V4.size = 13 := by rw [← hV4]; rfl
  have HV4 := Lib.hid (And.intro h13 e4)
  clear kA BA FA hgr11 hwd hfr hsn b10 k10 I10 c101 b11 hsn11 hM' R11 k11 hbk hans hV4 e4 h13 hgr10 how10
  go_wp2_with fail
  refine bodyPost_ret (results_ra3 rfl _ _ (w.heap.size + 1) V4 rfl (by rw [← HV4.out.2]; exact HZ.out.1) HV4.out.1) rfl ?_
  have he9 := HX.out.2.2.1
  have hz9 := HX.out.2.2.2
  subst he9
  subst hz9
  refine ⟨.agg V4, (by show Ending.returned (.tuple #[.agg V4, .int .i64 ((M.edge : Int) + 1), .int .i64 0]) = _; push_cast; rfl), ?_⟩
  rw [← HV4.out.2]
  exact HZ.out.2

end
end Go.Proofs.Ytoidklkloagioaa
