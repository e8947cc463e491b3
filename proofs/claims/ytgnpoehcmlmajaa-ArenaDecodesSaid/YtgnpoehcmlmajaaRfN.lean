/-
  The document's arena: a block taken. Nothing here is a statement of the document.
-/
import Derived.Test.YtgnpoehcmlmajaaRfL
namespace Go.Proofs.Ytgnpoehcmlmajaa
open Go.RowKit Go.Shelf
set_option linter.unusedVariables false
attribute [local go_sem ↓] load_ra_rule store_ra_rule load_rb_rule store_rb_rule
section
variable {w W W' : World} {g z lo : Nat} {bv : Value} {ls : Nat → Value} {vs : List Value} {M : Mo}
theorem own_single (w : World) (e : TypeId) (v : Value) : (w.alloc (.cells #[v] e)).ownsRow w.heap.size e 1 (.slice (some ⟨w.heap.size, 0, none⟩) 1 1) 1 [v] :=
  ⟨by simp, .inr ⟨_, 1, #[v], rfl, Nat.le_refl _, heap_alloc_new w _, Nat.le_refl _, by decide, by simp, by simp⟩⟩
/-- Another list of a class. -/
theorem Rfa.list (h : Rfa w lo bv ls vs M) {c : Nat} {v : Value} {l : List Nat} (hc : c ≤ 5) (hv : Ints w lo v l) (hl : l.length ≤ 20000) : Rfa w lo bv (upd ls c v) vs { M with L := upd M.L c l } :=
  ⟨h.row, h.len, h.wds, h.apart, h.ok, h.uq, fun k hk => by
    show Ints w lo (upd ls c v k) (upd M.L c l k)
    unfold upd
    split
    · exact hv
    · exact h.lst k hk, h.few, fun k hk => by
    show (upd M.L c l k).length ≤ _
    unfold upd
    split
    · exact hl
    · exact h.fewl k hk, h.small⟩
theorem Blks.farI (h : Rfa w lo bv ls vs M) {g : Nat} {C : Array Value} (hb : Blk w g 36 C) (i : Nat) (v : Value) : Rfa (w.setCell ⟨g, i, none⟩ v) lo bv ls vs M := by
  have := h.blks.far hb i v
  exact ⟨this.row, this.len, this.wds, this.apart, h.ok, h.uq, fun c hc => (h.lst c hc).far hb (by decide) i v, h.few, h.fewl, h.small⟩
set_option maxRecDepth 100000 in
set_option maxHeartbeats 1000000 in
theorem rfree_no (h : Rfa w lo bv ls vs M) (x : Int) (hx : ∀ b ∈ M.R, b.t = true → (b.x : Int) ≠ x) : Calls Try.prog 23 #[.agg (M.vals bv ls), .int .i64 x] w fun e w' => e = .returned (.tuple #[.agg (M.vals bv ls), .int .i64 4]) ∧ Below w.heap.size w w' := by
  obtain ⟨W, hW, F⟩ := fr_new h
  have hl := F.bx.ld
  have hta := rtk_no F.bx.rf hx
  have HF := Lib.hid (And.intro F (M.vals_size bv ls))
  clear F h
  obtain ⟨V, hV⟩ : ∃ V, M.vals bv ls = V := ⟨_, rfl⟩
  rw [hV] at hW hl hta ⊢
  have HV := Lib.hid hV
  clear hV
  go_enter Try.func23, Try.ntmps23
  go_wp2_with fail
  refine hta.mono ?_
  rintro e W2 ⟨rfl, hb2⟩
  have F2 := HF.out.1.lat hb2
  have hl2 := F2.bx.ld
  obtain ⟨hs, hbk, hbe⟩ := F2.st
  rw [HV.out] at hl2 hs hbk hbe
  have HX := Lib.hid (And.intro hbk hbe)
  have h13 : V.size = 13 := by rw [← HV.out]; exact HF.out.2
  have H13 := Lib.hid h13
  clear hta hl hb2 F2 hbk hbe hW h13
  go_wp2_with fail
  refine bodyPost_ret (results_ra2 rfl _ _ (w.heap.size + 1) V rfl HX.out.1 H13.out) rfl ?_
  exact ⟨rfl, HX.out.2⟩
set_option maxRecDepth 100000 in
set_option maxHeartbeats 1000000 in
theorem rfree_arg (h : Rfa w lo bv ls vs M) {k : Nat} {b : Rb} (hb : M.R[k]? = some b) (ht : b.t = true) (hx : M.four = (b.x : Int) ∨ M.six = (b.x : Int)) : Calls Try.prog 23 #[.agg (M.vals bv ls), .int .i64 (b.x : Int)] w fun e w' => e = .returned (.tuple #[.agg (M.vals bv ls), .int .i64 2]) ∧ Below w.heap.size w w' := by
  obtain ⟨W, hW, F⟩ := fr_new h
  have hl := F.bx.ld
  have hta := rtk_yes F.bx.rf hb ht
  have HF := Lib.hid (And.intro F (M.vals_size bv ls))
  clear F h
  obtain ⟨V, hV⟩ : ∃ V, M.vals bv ls = V := ⟨_, rfl⟩
  rw [hV] at hW hl hta ⊢
  have HV := Lib.hid hV
  clear hV
  go_enter Try.func23, Try.ntmps23
  go_wp2_with fail
  refine hta.mono ?_
  rintro e W2 ⟨rfl, hb2⟩
  have F2 := HF.out.1.lat hb2
  have hl2 := F2.bx.ld
  have c10 : W2.cell? ⟨w.heap.size, 10, none⟩ = some (.int .i64 M.four) := F2.bx.bx.cell 10
  have c11 : W2.cell? ⟨w.heap.size, 11, none⟩ = some (.int .i64 M.six) := F2.bx.bx.cell 11
  obtain ⟨hs, hbk, hbe⟩ := F2.st
  rw [HV.out] at hl2 hs hbk hbe
  have HX := Lib.hid (And.intro hbk hbe)
  have h13 : V.size = 13 := by rw [← HV.out]; exact HF.out.2
  have H13 := Lib.hid h13
  clear hta hl hb2 F2 hbk hbe hW h13
  have hk0 : ¬ ((k : Int) < 0) := by omega
  generalize M.four = m4 at *
  generalize M.six = m6 at *
  generalize (b.x : Int) = x at *
  by_cases hx4 : x = m4
  · subst hx4
    clear hx
    go_wp2_with fail
    refine bodyPost_ret (results_ra2 rfl _ _ (w.heap.size + 1) V rfl HX.out.1 H13.out) rfl ?_
    exact ⟨rfl, HX.out.2⟩
  · have hx6 : m6 = x := hx.resolve_left (fun e => hx4 e.symm)
    subst hx6
    clear hx
    go_wp2_with fail
    refine bodyPost_ret (results_ra2 rfl _ _ (w.heap.size + 1) V rfl HX.out.1 H13.out) rfl ?_
    exact ⟨rfl, HX.out.2⟩
set_option maxRecDepth 100000 in
set_option maxHeartbeats 2000000 in
theorem rfree_yes (h : Rfa w lo bv ls vs M) {k : Nat} {b : Rb} (hb : M.R[k]? = some b) (ht : b.t = true) (hx4 : ¬ ((b.x : Int) = M.four)) (hx6 : ¬ ((b.x : Int) = M.six)) (hll : (M.L b.c).length < 20000) :
    Calls Try.prog 23 #[.agg (M.vals bv ls), .int .i64 (b.x : Int)] w fun e w' => ∃ u, e = .returned (.tuple #[u, .int .i64 0]) ∧ Ans w w' u { M with R := M.R.set k { b with t := false }, L := upd M.L b.c (b.x :: M.L b.c) } := by
  obtain ⟨W, hW, F⟩ := fr_new h
  have hl := F.bx.ld
  have hta := rtk_yes F.bx.rf hb ht
  have hok := h.ok b (List.mem_of_getElem? hb)
  have hfew := h.few
  have HF := Lib.hid F
  clear F h
  obtain ⟨V, hV⟩ : ∃ V, M.vals bv ls = V := ⟨_, rfl⟩
  rw [hV] at hW hl hta ⊢
  have HV := Lib.hid hV
  clear hV
  go_enter Try.func23, Try.ntmps23
  go_wp2_with fail
  refine hta.mono ?_
  rintro e W2 ⟨rfl, hb2⟩
  have F2 := HF.out.lat hb2
  have hl2 := F2.bx.ld
  have hcp := rcopy_any F2.bx.rf
  have c10 : W2.cell? ⟨w.heap.size, 10, none⟩ = some (.int .i64 M.four) := F2.bx.bx.cell 10
  have c11 : W2.cell? ⟨w.heap.size, 11, none⟩ = some (.int .i64 M.six) := F2.bx.bx.cell 11
  rw [HV.out] at hl2 hcp
  have HF2 := Lib.hid F2
  have hk0 : ¬ ((k : Int) < 0) := by omega
  clear hta hl hb2 F2 hW
  obtain ⟨m4, hm4⟩ : ∃ m4, M.four = m4 := ⟨_, rfl⟩
  obtain ⟨m6, hm6⟩ : ∃ m6, M.six = m6 := ⟨_, rfl⟩
  rw [hm4] at hx4 c10
  rw [hm6] at hx6 c11
  clear hm4 hm6
  have dx4 : ((b.x : Int) == m4) = false := by simpa using hx4
  have dx6 : ((b.x : Int) == m6) = false := by simpa using hx6
  clear hx4 hx6
  go_wp2_with fail
  refine hcp.mono ?_
  rintro e9 W' ⟨bv', ls', vs', rfl, hR, hb3⟩
  have hst := sra_new W' (M.vals_size bv' ls') hR.vals_one
  obtain ⟨W6, hW6⟩ : ∃ W6, W'.alloc (.cells (M.vals bv' ls') 36) = W6 := ⟨_, rfl⟩
  have B6 : Bx W' W6 W'.heap.size W2.heap.size bv' ls' vs' M := by rw [← hW6]; exact bx_new hR
  rw [hW6] at hst
  obtain ⟨gb, c, gw, cw, hbv, hvk, c1, _, _, c2, _, _, hk⟩ := B6.blk hb
  clear hcp hl2 c10 c11
  have hrow6 := B6.rf.row
  rw [hbv] at hrow6
  obtain ⟨C6, hC6⟩ := own_has hrow6
  have f2 := hC6.free (k * 4 + 2)
  -- the mark
  have R7 := B6.rf.mark hb hbv false
  have b7 := B6.bx.far (p := ⟨gb, k * 4 + 2, none⟩) (B6.bx.ne hC6 (by decide)) (.bool false)
  have k7 : Below W2.heap.size W2 (W6.setCell ⟨gb, k * 4 + 2, none⟩ (.bool false)) := (bel_later hb3 B6.hb).setCell ((hrow6.lt gb rfl).1) _
  obtain ⟨W7, hW7⟩ : ∃ W7, W6.setCell ⟨gb, k * 4 + 2, none⟩ (.bool false) = W7 := ⟨_, rfl⟩
  rw [hW7] at R7 b7 k7
  have hsz7 : W'.heap.size < W7.heap.size := b7.lt
  have B7 : Bx W7 W7 W'.heap.size W2.heap.size bv' ls' vs' { M with R := M.R.set k { b with t := false } } := ⟨Below.refl _ _, b7, R7⟩
  obtain ⟨gb', c', gw', cw', hbv', _, d1, _, dc, _, _, _, _⟩ := B7.blk (k := k) (b := { b with t := false }) (by show (M.R.set k _)[k]? = _; rw [List.getElem?_set]; simp [hk])
  have e1 : gb = gb' ∧ c = c' := by
    rw [hbv] at hbv'
    injection hbv' with e1 _ e2
    injection e1 with e1
    injection e1 with e1 _
    exact ⟨e1, e2⟩
  obtain ⟨rfl, rfl⟩ := e1
  clear hbv'
  have hlen9 : (M.R.set k { b with t := false }).length = M.R.length := by simp
  rw [hlen9] at d1
  have dl : W7.cell? ⟨W'.heap.size, 2 + b.c, none⟩ = some (ls' b.c) := (b7.cell _).trans (M.vals_l _ _ hok.1)
  have hI7 := (R7.lst b.c hok.1)
  obtain ⟨lm, hlm⟩ : ∃ lm, ls' b.c = lm := ⟨_, rfl⟩
  rw [hlm] at dl hI7
  obtain ⟨al, cl, hIl, _⟩ := id hI7
  rw [hIl] at dl hI7
  have how8 := own_single W7 3 (.int .i64 (b.x : Int))
  have hI8 := hI7.later ((Below.refl _ W7).alloc (Nat.le_refl _) (.cells #[.int .i64 (b.x : Int)] 3))
  have hn7 : ∀ c, (W7.alloc (.cells #[.int .i64 (b.x : Int)] 3)).cell? ⟨W'.heap.size, c, none⟩ = W7.cell? ⟨W'.heap.size, c, none⟩ := fun c => by
    exact World.cell?_of_block (Below.heap_alloc W7 _ _ hsz7)
  have dl8 := (hn7 (2 + b.c)).trans dl
  have HR := Lib.hid (And.intro hb3 (And.intro B6 (And.intro R7 (And.intro b7 (And.intro k7 (And.intro hb hlm))))))
  clear hR hb3 B6 hrow6 hC6 R7 b7 k7 B7 hI7 hn7 dl hvk hbv
  obtain ⟨V3, hV3⟩ : ∃ V3, M.vals bv' ls' = V3 := ⟨_, rfl⟩
  rw [hV3] at hst hW6 ⊢
  have HV3 := Lib.hid hV3
  clear hV3
  clear hlen9
  generalize M.R.length = n at *
  have hki : (k : Int) < (n : Int) := by omega
  have hcn : (b.c : Int) < 6 := by omega
  have hllen : (M.L b.c).length ≤ 20000 := by omega
  go_wp2_with (at_builtin; refine wpList_append_ints rfl _ _ rfl W7.heap.size _ _ _ rfl how8 W2.heap.size (M.L b.c) (.slice al (M.L b.c).length cl) rfl hI8 (by omega) (by simp) ?_)
  intro lv w9 how9 hgr9
  obtain ⟨a9, c9, hlv⟩ := owns_sl how9
  subst hlv
  have hk9 : Below W7.heap.size W7 w9 := ((Below.refl _ W7).alloc (Nat.le_refl _) (.cells #[.int .i64 (b.x : Int)] 3)).grown hgr9 (by simp) (fun j hj => by simp [Value.ownBlock] at hj; omega)
  have b9 := HR.out.2.2.2.1.kept (Kept.of_below [] hk9) (by simp)
  have c99 : w9.cell? ⟨W'.heap.size, 2 + b.c, none⟩ = some (.slice al (M.L b.c).length cl) := (b9.cell _).trans (by rw [M.vals_l _ _ hok.1, HR.out.2.2.2.2.2.2, hIl])
  have f99 := b9.free (2 + b.c)
  have R9 := HR.out.2.2.1.later hk9
  have k9 := bel_later HR.out.2.2.2.2.1 hk9
  have hLn : Ints w9 W2.heap.size (.slice a9 (1 + (M.L b.c).length) c9) (b.x :: M.L b.c) := by
    have e9 : 1 + (M.L b.c).length = (b.x :: M.L b.c).length := by simp; omega
    rw [e9] at how9 ⊢
    exact (Ints.of_own how9).mono (by have := HR.out.2.2.2.2.1.size; omega)
  have R10 := (Blks.farI R9 b9 (2 + b.c) (.slice a9 (1 + (M.L b.c).length) c9)).list (c := b.c) hok.1 (hLn.far b9 (by decide) (2 + b.c) (.slice a9 (1 + (M.L b.c).length) c9)) (by simp; omega)
  have b10 := b9.set (2 + b.c) (.slice a9 (1 + (M.L b.c).length) c9)
  rw [M.vals_setL bv' ls' hok.1 (upd M.L b.c (b.x :: M.L b.c))] at b10
  have k10 := k9.setCell (p := ⟨W'.heap.size, 2 + b.c, none⟩) (by have := HR.out.1.size; show _ ≤ W'.heap.size; omega) (.slice a9 (1 + (M.L b.c).length) c9)
  obtain ⟨hs4, hbk, hans⟩ := HF2.out.ans R10 k10
  have hl10 := lra b10 rfl
  have HX := Lib.hid (And.intro hbk hans)
  obtain ⟨V4, hV4⟩ : ∃ V4, ({ M with L := upd M.L b.c (b.x :: M.L b.c) } : Mo).vals bv' (upd ls' b.c (.slice a9 (1 + (M.L b.c).length) c9)) = V4 := ⟨_, rfl⟩
  have e4 : ({ M with R := M.R.set k { b with t := false }, L := upd M.L b.c (b.x :: M.L b.c) } : Mo).vals bv' (upd ls' b.c (.slice a9 (1 + (M.L b.c).length) c9)) = V4 := hV4
  rw [hV4] at hl10
  have hs4' : (storeSem 36 (.pointer (some ⟨w.heap.size + 1, 0, none⟩)) (.agg V4)).run Try.prog (w9.setCell ⟨W'.heap.size, 2 + b.c, none⟩ (.slice a9 (1 + (M.L b.c).length) c9)) = .ok () ((w9.setCell ⟨W'.heap.size, 2 + b.c, none⟩ (.slice a9 (1 + (M.L b.c).length) c9)).setRow (w.heap.size + 1) V4) := by rw [← e4]; exact hs4
  have HE := Lib.hid e4
  have h13 : V4.size = 13 := by rw [← hV4]; rfl
  have H13 := Lib.hid h13
  clear how9 hgr9 hk9 b9 R9 k9 hLn R10 b10 k10 hbk hans hs4 hV4 e4 h13 how8 hI8 dl8
  go_wp2_with fail
  refine bodyPost_ret (results_ra2 rfl _ _ (w.heap.size + 1) V4 rfl (by rw [← HE.out]; exact HX.out.1) H13.out) rfl ?_
  refine ⟨_, rfl, ?_⟩
  rw [← HE.out]
  exact HX.out.2
end
end Go.Proofs.Ytgnpoehcmlmajaa
namespace Go.Proofs.Ytgnpoehcmlmajaa
open Go.RowKit Go.Shelf
set_option linter.unusedVariables false
attribute [local go_sem ↓] load_ra_rule store_ra_rule load_rb_rule store_rb_rule build_rbs_rule
section
variable {w W W' : World} {g z lo : Nat} {bv : Value} {ls : Nat → Value} {vs : List Value} {M : Mo}
set_option maxRecDepth 100000 in
set_option maxHeartbeats 1000000 in
theorem ralloc_arg (h : Rfa w lo bv ls vs M) (x : Int) (hx : x < 0 ∨ 5 < x) : Calls Try.prog 22 #[.agg (M.vals bv ls), .int .i64 x] w fun e w' => e = .returned (.tuple #[.agg (M.vals bv ls), .int .i64 0, .int .i64 2]) ∧ Below w.heap.size w w' := by
  obtain ⟨W, hW, F⟩ := fr_new h
  have hl := F.bx.ld
  obtain ⟨hs, hbk, hbe⟩ := F.st
  have HX := Lib.hid (And.intro hbk (And.intro hbe (M.vals_size bv ls)))
  clear F h hbk hbe
  generalize M.vals bv ls = V at *
  by_cases hx0 : x < 0
  · clear hx
    go_enter Try.func22, Try.ntmps22
    go_wp2_with fail
    refine bodyPost_ret (results_ra3 rfl _ _ (w.heap.size + 1) V rfl HX.out.1 HX.out.2.2) rfl ?_
    exact ⟨rfl, HX.out.2.1⟩
  · have hx5 : 5 < x := by omega
    clear hx
    go_enter Try.func22, Try.ntmps22
    go_wp2_with fail
    refine bodyPost_ret (results_ra3 rfl _ _ (w.heap.size + 1) V rfl HX.out.1 HX.out.2.2) rfl ?_
    exact ⟨rfl, HX.out.2.1⟩
/-- A row of noughts, made. -/
theorem mk32 (w : World) (n : Nat) (hn : n ≤ 16384) : (Instr.makeSlice 62 (.int .i64 (n : Int)) (.int .i64 (n : Int))).run Try.prog w = .ok (.slice (some ⟨w.heap.size, 0, none⟩) n n) (w.alloc (.cells (wcs (List.replicate n 0)) 53)) ∧ (w.alloc (.cells (wcs (List.replicate n 0)) 53)).ownsRow w.heap.size 53 1 (.slice (some ⟨w.heap.size, 0, none⟩) n n) n (wvl (List.replicate n 0)) := by
  obtain ⟨j0, ji, jz0, jz1, jz2⟩ := info_parts i_w32
  have hmk := run_make (P := Try.prog) w 62 53 j0 (.int .u32 0) Try.underlying62 ji jz0 .i64 .i64 (n : Int) (n : Int) (by omega) (by omega) (by rw [jz2]; omega) (by omega)
  rw [jz1, Int.toNat_natCast, made_words] at hmk
  refine ⟨hmk, ?_⟩
  have := World.ownsRow_lit (e := 53) (size := 1) (base := w.heap.size) w (wcs (List.replicate n 0)) n (Nat.le_refl _) (by unfold maxLen; omega) (by simp [wcs])
  simpa [wcs, wvl] using this
set_option maxRecDepth 100000 in
set_option maxHeartbeats 2000000 in
theorem ralloc_full (h : Rfa w lo bv ls vs M) (c : Nat) (hc : c ≤ 5) (hL : M.L c = []) (hf : M.N < M.edge + 1 + 2 ^ c) (hed : M.edge ≤ 16384) : Calls Try.prog 22 #[.agg (M.vals bv ls), .int .i64 (c : Int)] w fun e w' => e = .returned (.tuple #[.agg (M.vals bv ls), .int .i64 0, .int .i64 6]) ∧ Below w.heap.size w w' := by
  obtain ⟨W, hW, F⟩ := fr_new h
  have hl := F.bx.ld
  have hcp := rcopy_any F.bx.rf
  have hsm := h.small
  have HF := Lib.hid (And.intro F (M.vals_size bv ls))
  clear F h
  have hp := pow5 hc
  have hsi := fun w => rsize_any c hc w
  obtain ⟨V, hV⟩ : ∃ V, M.vals bv ls = V := ⟨_, rfl⟩
  rw [hV] at hW hl hcp ⊢
  have HV := Lib.hid hV
  clear hV
  have hc0 : ¬ ((c : Int) < 0) := by omega
  have hc5 : ¬ (5 < (c : Int)) := by omega
  have hc6 : (c : Int) < 6 := by omega
  go_enter Try.func22, Try.ntmps22
  go_wp2_with fail
  refine hcp.mono ?_
  rintro e9 W' ⟨bv', ls', vs', rfl, hR, hb3⟩
  have hst := sra_new W' (M.vals_size bv' ls') hR.vals_one
  obtain ⟨W6, hW6⟩ : ∃ W6, W'.alloc (.cells (M.vals bv' ls') 36) = W6 := ⟨_, rfl⟩
  have B6 : Bx W' W6 W'.heap.size W.heap.size bv' ls' vs' M := by rw [← hW6]; exact bx_new hR
  rw [hW6] at hst
  clear hcp hl
  have HB6 := Lib.hid (And.intro B6 hb3)
  obtain ⟨V3, hV3⟩ : ∃ V3, M.vals bv' ls' = V3 := ⟨_, rfl⟩
  rw [hV3] at hst hW6 ⊢
  clear hR hb3 B6 hV3
  go_wp2_with fail
  refine (hsi W6).mono ?_
  rintro e8 _ ⟨rfl, rfl⟩
  obtain ⟨hmk, _⟩ := mk32 W6 (2 ^ c) (by omega)
  obtain ⟨W7, hW7⟩ : ∃ W7, W6.alloc (.cells (wcs (List.replicate (2 ^ c) 0)) 53) = W7 := ⟨_, rfl⟩
  have k7 : Below W6.heap.size W6 W7 := by rw [← hW7]; exact (Below.refl _ _).alloc (Nat.le_refl _) _
  rw [hW7] at hmk
  clear hst hW6 hW7
  have B7 := HB6.out.1.later k7
  have cl := B7.cl hc
  have hI := B7.rf.lst c hc
  obtain ⟨al, ca, hIl, _⟩ := hI
  rw [hIl, hL, List.length_nil] at cl
  clear hIl
  have F7 := HF.out.1.lat (bel_later HB6.out.2 B7.hb)
  have HF7 := Lib.hid F7
  have hl7 := F7.bx.ld
  have hed7 := redge_any F7.bx.rf
  rw [HV.out] at hl7 hed7
  clear k7 B7 F7
  generalize hzz : 2 ^ c = zz at *
  generalize hee : M.edge = ed at *
  generalize hnn : M.N = nn at *
  go_wp2_with fail
  refine hed7.mono ?_
  rintro e7 W8 ⟨rfl, hb8⟩
  have F8 := HF7.out.lat hb8
  have hl8 := F8.bx.ld
  obtain ⟨hs, hbk, hbe⟩ := F8.st
  have c0 : ∀ n, (W8.drewN n).cell? ⟨w.heap.size, 0, none⟩ = some (.int .i64 (nn : Int)) := fun n => by rw [← hnn]; exact (F8.bx.drewN n).c0
  have hsd := fun n => (F8.lat (W' := W8.drewN n) (below_drewN (Below.refl _ _) n)).st
  have hld := fun n => (F8.lat (W' := W8.drewN n) (below_drewN (Below.refl _ _) n)).bx.ld
  rw [HV.out] at hl8 hs hbk hbe
  have hsd1 : ∀ n, (storeSem 36 (.pointer (some ⟨w.heap.size + 1, 0, none⟩)) (.agg V)).run Try.prog (W8.drewN n) = .ok () ((W8.drewN n).setRow (w.heap.size + 1) V) := fun n => by rw [← HV.out]; exact (hsd n).1
  have hld1 : ∀ n, (loadSem 36 (.pointer (some ⟨w.heap.size, 0, none⟩))).run Try.prog (W8.drewN n) = .ok (.agg V) (W8.drewN n) := fun n => by rw [← HV.out]; exact hld n
  have HX := Lib.hid hsd
  have h13 : V.size = 13 := by rw [← HV.out]; exact HF.out.2
  have H13 := Lib.hid h13
  clear hed7 hb8 F8 hbk hbe h13 cl hl7 hmk hsd hld hee
  go_wp2_with fail
  go_quiet (first | (go_at_call 61; exact Calls.quiet_of_same ((hsi _).mono fun _ _ h => ⟨h.1, h.2.symm⟩)))
  go_wp2
  refine bodyPost_ret (results_ra3 rfl _ _ (w.heap.size + 1) V rfl (by rw [← HV.out]; exact (HX.out _).2.1) H13.out) rfl ?_
  exact ⟨rfl, by have := (HX.out nq).2.2; rw [HV.out] at this; exact this⟩
set_option maxRecDepth 100000 in
set_option maxHeartbeats 2000000 in
theorem ralloc_grow (h : Rfa w lo bv ls vs M) (c : Nat) (hc : c ≤ 5) (hL : M.L c = []) (hf : M.edge + 1 + 2 ^ c ≤ M.N) (hM : Mok { M with R := M.R ++ [⟨M.edge + 1, c, true, List.replicate (2 ^ c) 0⟩] }) : Calls Try.prog 22 #[.agg (M.vals bv ls), .int .i64 (c : Int)] w fun e w' => ∃ u, e = .returned (.tuple #[u, .int .i64 ((M.edge + 1 : Nat) : Int), .int .i64 0]) ∧ Ans w w' u { M with R := M.R ++ [⟨M.edge + 1, c, true, List.replicate (2 ^ c) 0⟩] } := by
  obtain ⟨W, hW, F⟩ := fr_new h
  have hl := F.bx.ld
  have hcp := rcopy_any F.bx.rf
  have hsm := h.small
  have HF := Lib.hid (And.intro F (M.vals_size bv ls))
  clear F h
  have hp := pow5 hc
  have hsi := fun w => rsize_any c hc w
  obtain ⟨V, hV⟩ : ∃ V, M.vals bv ls = V := ⟨_, rfl⟩
  rw [hV] at hW hl hcp ⊢
  have HV := Lib.hid hV
  clear hV
  have hc0 : ¬ ((c : Int) < 0) := by omega
  have hc5 : ¬ (5 < (c : Int)) := by omega
  have hc6 : (c : Int) < 6 := by omega
  go_enter Try.func22, Try.ntmps22
  go_wp2_with fail
  refine hcp.mono ?_
  rintro e9 W' ⟨bv', ls', vs', rfl, hR, hb3⟩
  have hst := sra_new W' (M.vals_size bv' ls') hR.vals_one
  obtain ⟨W6, hW6⟩ : ∃ W6, W'.alloc (.cells (M.vals bv' ls') 36) = W6 := ⟨_, rfl⟩
  have B6 : Bx W' W6 W'.heap.size W.heap.size bv' ls' vs' M := by rw [← hW6]; exact bx_new hR
  rw [hW6] at hst
  clear hcp hl
  have HB6 := Lib.hid (And.intro B6 hb3)
  obtain ⟨V3, hV3⟩ : ∃ V3, M.vals bv' ls' = V3 := ⟨_, rfl⟩
  rw [hV3] at hst hW6 ⊢
  clear hR hb3 B6 hV3
  go_wp2_with fail
  refine (hsi W6).mono ?_
  rintro e8 _ ⟨rfl, rfl⟩
  obtain ⟨hmk, hmo⟩ := mk32 W6 (2 ^ c) (by omega)
  obtain ⟨W7, hW7⟩ : ∃ W7, W6.alloc (.cells (wcs (List.replicate (2 ^ c) 0)) 53) = W7 := ⟨_, rfl⟩
  have k7 : Below W6.heap.size W6 W7 := by rw [← hW7]; exact (Below.refl _ _).alloc (Nat.le_refl _) _
  rw [hW7] at hmk hmo
  have hmo9 := hmo
  clear hst hW6 hW7
  have hsz6 : W'.heap.size < W6.heap.size := HB6.out.1.bx.lt
  have B7 := HB6.out.1.later k7
  have cl := B7.cl hc
  have hI := B7.rf.lst c hc
  obtain ⟨al, ca, hIl, _⟩ := hI
  rw [hIl, hL, List.length_nil] at cl
  clear hIl
  have F7 := HF.out.1.lat (bel_later HB6.out.2 B7.hb)
  have HF7 := Lib.hid (And.intro F7 (And.intro hmo9 (And.intro k7 hM)))
  clear hmo hmo9 hM
  have hl7 := F7.bx.ld
  have hed7 := redge_any F7.bx.rf
  rw [HV.out] at hl7 hed7
  clear k7 B7 F7
  generalize hzz : 2 ^ c = zz at *
  generalize hee : M.edge = ed at *
  generalize hnn : M.N = nn at *
  go_wp2_with fail
  refine hed7.mono ?_
  rintro e7 W8 ⟨rfl, hb8⟩
  have F8 := HF7.out.1.lat hb8
  have hl8 := F8.bx.ld
  obtain ⟨hs, hbk, hbe⟩ := F8.st
  have c0 : ∀ n, (W8.drewN n).cell? ⟨w.heap.size, 0, none⟩ = some (.int .i64 (nn : Int)) := fun n => by rw [← hnn]; exact (F8.bx.drewN n).c0
  have hsd := fun n => (F8.lat (W' := W8.drewN n) (below_drewN (Below.refl _ _) n)).st
  have hld := fun n => (F8.lat (W' := W8.drewN n) (below_drewN (Below.refl _ _) n)).bx.ld
  rw [HV.out] at hl8 hs hbk hbe
  have hsd1 : ∀ n, (storeSem 36 (.pointer (some ⟨w.heap.size + 1, 0, none⟩)) (.agg V)).run Try.prog (W8.drewN n) = .ok () ((W8.drewN n).setRow (w.heap.size + 1) V) := fun n => by rw [← HV.out]; exact (hsd n).1
  have hld1 : ∀ n, (loadSem 36 (.pointer (some ⟨w.heap.size, 0, none⟩))).run Try.prog (W8.drewN n) = .ok (.agg V) (W8.drewN n) := fun n => by rw [← HV.out]; exact hld n
  have HX := Lib.hid (And.intro hsd (And.intro hb8 (And.intro hee hzz)))
  have h13 : V.size = 13 := by rw [← HV.out]; exact HF.out.2
  have H13 := Lib.hid h13
  clear hed7 hb8 F8 hbk hbe h13 cl hl7 hmk hsd hld hee
  go_wp2_with fail
  go_quiet (first | (go_at_call 61; exact Calls.quiet_of_same ((hsi _).mono fun _ _ h => ⟨h.1, h.2.symm⟩)))
  clear hsd1 hs hl8
  have k9 : Below W6.heap.size W6 (W8.drewN nq) := below_drewN (bel_later HF7.out.2.2.1 HX.out.2.1) nq
  obtain ⟨W9, hW9⟩ : ∃ W9, W8.drewN nq = W9 := ⟨_, rfl⟩
  have k89 : Below W8.heap.size W8 (W8.drewN nq) := below_drewN (Below.refl _ _) nq
  rw [hW9] at k9 k89 ⊢
  have B9 := HB6.out.1.later k9
  have F9 := HF7.out.1.lat (bel_later HX.out.2.1 k89)
  clear c0 hld1 hW9
  obtain ⟨a3, c3, hbv⟩ := owns_sl B9.rf.row
  have c1 := B9.c1
  rw [hbv] at c1
  obtain ⟨V9, hV9⟩ : ∃ V9 : Array Value, #[Value.int .i64 ((ed : Int) + 1), .int .i64 (c : Int), .bool true, .slice (some ⟨W6.heap.size, 0, none⟩) zz zz] = V9 := ⟨_, rfl⟩
  have hV9s : V9.size = 4 := by rw [← hV9]; rfl
  have hbs : (buildRbs 1 #[(0, .agg #[Value.int .i64 ((ed : Int) + 1), .int .i64 (c : Int), .bool true, .slice (some ⟨W6.heap.size, 0, none⟩) zz zz])]).run Try.prog W9 = .ok (.slice (some ⟨W9.heap.size, 0, none⟩) 1 1) (W9.alloc (.cells V9 84)) := by rw [hV9]; exact bs_rb V9 hV9s W9
  have hone9 : ∀ u ∈ V9.toList, u.oneCell' = true := by rw [← hV9]; simp [Value.oneCell']
  have hn9 : ∀ j u, V9.toList[j]? = some u → (W9.alloc (.cells V9 84)).cell? ((⟨W9.heap.size, 0, none⟩ : Addr).add j) = some u := fun j u hj => by
    rw [Addr.add_lit, Nat.zero_add, (Blk.new W9 84 _).cell]
    simpa using hj
  obtain ⟨i0, hi, hz0, hz1, hz2⟩ := info_parts i_rbk
  have hrow9 := B9.rf.row.alloc (.cells V9 84)
  rw [hbv] at hrow9
  have hfew := B9.rf.few
  obtain ⟨xs9, hxs9⟩ : ∃ xs9, rbs M.R vs' = xs9 := ⟨_, rfl⟩
  rw [hxs9] at hrow9
  obtain ⟨nR, hnR⟩ : ∃ nR, M.R.length = nR := ⟨_, rfl⟩
  rw [hnR] at hrow9 c1 hfew
  have hba9 : W.heap.size ≤ (W9.alloc (.cells V9 84)).heap.size := by have := HB6.out.2.size; have := B9.hb.size; simp; omega
  have HY := Lib.hid (And.intro B9 (And.intro F9 (And.intro hbv (And.intro hxs9 (And.intro hnR (And.intro hV9 (And.intro k9 k89)))))))
  clear B9 F9 hbv hxs9 hnR hV9 k9 k89
  have hl5 : V9.toList.length = 1 * 4 := by simp [hV9s]
  go_wp2_with (at_builtin; refine wpList_append_own _ rfl _ _ 29 rfl W.heap.size 84 i0 (.agg zeroRb) 4 48 Try.underlying29 hi hz0 hz1 hz2 rfl (by decide) _ _ _ rfl hrow9 ⟨W9.heap.size, 0, none⟩ 1 1 V9.toList rfl hl5 hn9 hone9 (by unfold maxLen; omega) (by omega) hba9 ?_)
  intro ov w10 how10 hgr10 _
  obtain ⟨a10, c10, hov⟩ := owns_sl how10
  subst hov
  have kA : Below W9.heap.size W9 (W9.alloc (.cells V9 84)) := (Below.refl _ _).alloc (Nat.le_refl _) _
  have BA := HY.out.1.later kA
  have FA := HY.out.2.1.lat kA
  have hgr11 : (W9.alloc (.cells V9 84)).grownBy w10 bv'.ownBlock := by rw [HY.out.2.2.1, HY.out.2.2.2.2.1]; exact hgr10
  have hwd : (W9.alloc (.cells V9 84)).ownsRow W.heap.size 53 1 (.slice (some ⟨W6.heap.size, 0, none⟩) zz zz) zz (wvl (List.replicate zz 0)) := by
    exact ownsRow_le (owns_later (owns_later (owns_later HF7.out.2.1 HX.out.2.1) HY.out.2.2.2.2.2.2.2) kA) (by have := HB6.out.2.size; omega)
  have hfr : ∀ v ∈ vs', v.ownBlock ≠ (Value.slice (some ⟨W6.heap.size, 0, none⟩) zz zz).ownBlock := fun v hv => by
    obtain ⟨i, hi9, rfl⟩ := List.mem_iff_getElem.1 hv
    have h6 := HB6.out.1.rf
    have hil : i < M.R.length := by have := h6.len; omega
    have hwi := h6.wds i _ _ (List.getElem?_eq_getElem hil) (List.getElem?_eq_getElem hi9)
    obtain ⟨g, e9, _, hlt9⟩ := own_pos hwi (by have := Nat.pos_of_ne_zero (show 2 ^ (M.R[i]).c ≠ 0 by simp); omega)
    rw [e9]
    intro e
    simp [Value.ownBlock] at e
    omega
  have hsn := BA.rf.blks.snoc (b := ⟨ed + 1, c, true, List.replicate zz 0⟩) (wv := .slice (some ⟨W6.heap.size, 0, none⟩) zz zz) (bv' := .slice a10 (nR + 1) c10) (w' := w10) (by show World.ownsRow _ _ _ _ _ (2 ^ c) _; rw [HX.out.2.2.2]; exact hwd) hfr (by
    rw [HY.out.2.2.2.1, HY.out.2.2.2.2.1, show ((⟨ed + 1, c, true, List.replicate zz 0⟩ : Rb).cs (.slice (some ⟨W6.heap.size, 0, none⟩) zz zz)) = V9 by rw [← HY.out.2.2.2.2.2.1]; simp [Rb.cs]]
    exact how10) hgr11
  have b10 : Blk w10 W'.heap.size 36 (M.vals bv' ls') := (hgr11.block _ BA.bx.lt (own_ne_blk BA.rf.row BA.bx (by decide))).trans BA.bx
  have k10 : Below W.heap.size W w10 := by
    refine ((bel_later HB6.out.2 BA.hb)).grown hgr11 ?_ (fun j hj => (BA.rf.row.lt j hj).1)
    have := HB6.out.2.size; have := BA.hb.size; omega
  have I10 : ∀ c, c ≤ 5 → Ints w10 W.heap.size (ls' c) (M.L c) := fun c hc => by
    obtain ⟨a, c', h1, h2, h0, h3⟩ := BA.rf.lst c hc
    exact ⟨a, c', h1, h2, h0, h3.imp id fun ⟨g, o, C, h4, h5, h6, h7⟩ => ⟨g, o, C, h4, h5, (hgr11.block _ h6.lt (own_ne_blk BA.rf.row h6 (by decide))).trans h6, h7⟩⟩
  have c101 := b10.cell 1
  have f101 := b10.free 1
  have b11 := b10.set 1 (.slice a10 (nR + 1) c10)
  rw [show (M.vals bv' ls').setIfInBounds 1 (.slice a10 (nR + 1) c10) = M.vals (.slice a10 (nR + 1) c10) ls' by simp [Mo.vals]] at b11
  have hsn11 := hsn.far b10 1 (.slice a10 (nR + 1) c10)
  subst hnn
  have hM' := HF7.out.2.2.2
  have R11 : Rfa (w10.setCell ⟨W'.heap.size, 1, none⟩ (.slice a10 (nR + 1) c10)) W.heap.size (.slice a10 (nR + 1) c10) ls' (vs' ++ [.slice (some ⟨W6.heap.size, 0, none⟩) zz zz]) { M with R := M.R ++ [⟨ed + 1, c, true, List.replicate zz 0⟩] } :=
    ⟨hsn11.row, hsn11.len, hsn11.wds, hsn11.apart, hM'.ok, hM'.uq, fun c hc => (I10 c hc).far b10 (by decide) _ _, hM'.few, hM'.fewl, hM'.small⟩
  have k11 := k10.setCell (p := ⟨W'.heap.size, 1, none⟩) (by have := HB6.out.2.size; show _ ≤ W'.heap.size; omega) (.slice a10 (nR + 1) c10)
  obtain ⟨hs4, hbk, hans⟩ := HF.out.1.ans R11 k11
  have hl11 := lra b11 rfl
  have HZ := Lib.hid (And.intro hbk hans)
  obtain ⟨V4, hV4⟩ : ∃ V4, M.vals (.slice a10 (nR + 1) c10) ls' = V4 := ⟨_, rfl⟩
  have e4 : ({ M with R := M.R ++ [⟨ed + 1, c, true, List.replicate zz 0⟩] } : Mo).vals (.slice a10 (nR + 1) c10) ls' = V4 := hV4
  rw [hV4] at hl11
  rw [e4] at hs4
  have c101' : w10.cell? ⟨W'.heap.size, 1, none⟩ = some (.slice a3 nR c3) := by rw [c101]; rw [← HY.out.2.2.2.2.1, ← HY.out.2.2.1]; rfl
  have h13 : V4.size = 13 := by rw [← hV4]; rfl
  have HV4 := Lib.hid (And.intro h13 e4)
  clear kA BA FA hgr11 hwd hfr hsn b10 k10 I10 c101 b11 hsn11 hM' R11 k11 hbk hans hV4 e4 h13 hgr10 how10
  go_wp2_with fail
  refine bodyPost_ret (results_ra3 rfl _ _ (w.heap.size + 1) V4 rfl (by rw [← HV4.out.2]; exact HZ.out.1) HV4.out.1) rfl ?_
  have he9 := HX.out.2.2.1
  have hz9 := HX.out.2.2.2
  subst he9
  subst hz9
  refine ⟨.agg V4, (by show Ending.returned (.tuple #[.agg V4, .int .i64 ((M.edge : Int) + 1), .int .i64 0]) = _; push_cast; rfl), ?_⟩
  rw [← HV4.out.2]
  exact HZ.out.2

end
end Go.Proofs.Ytgnpoehcmlmajaa
