/-
  The document's arena: a block given back. Nothing here is a statement of the document.
-/
import Derived.Test.YtoidklkloagioaaRfL
namespace Go.Proofs.Ytoidklkloagioaa
open Go.RowKit Go.Shelf
set_option linter.unusedVariables false
attribute [local go_sem ↓] load_ra_rule store_ra_rule load_rb_rule store_rb_rule
section
variable {w W W' : World} {g z lo : Nat} {bv : Value} {ls : Nat → Value} {vs : List Value} {M : Mo}
theorem own_single (w : World) (e : TypeId) (v : Value) : (w.alloc (.cells #[v] e)).ownsRow w.heap.size e 1 (.slice (some ⟨w.heap.size, 0, none⟩) 1 1) 1 [v] :=
  ⟨by simp, .inr ⟨_, 1, #[v], rfl, Nat.le_refl _, heap_alloc_new w _, Nat.le_refl _, by decide, by simp, by simp⟩⟩
/-- Another list of a class. -/
theorem Rfa.list (h : Rfa w lo bv ls vs M) {c : Nat} {v : Value} {l : List Nat} (hc : c ≤ 5) (hv : Ints w lo v l) (hl : l.length ≤ 20000) : Rfa w lo bv (upd ls c v) vs { M with L := upd M.L c l } :=
  ⟨h.row, h.len, h.wds, h.apart, h.ok, h.uq, fun k hk => by
    show Ints w lo (upd ls c v k) (upd M.L c l k)
    unfold upd
    split
    · exact hv
    · exact h.lst k hk, h.few, fun k hk => by
    show (upd M.L c l k).length ≤ _
    unfold upd
    split
    · exact hl
    · exact h.fewl k hk, h.small⟩
theorem Blks.farI (h : Rfa w lo bv ls vs M) {g : Nat} {C : Array Value} (hb : Blk w g 36 C) (i : Nat) (v : Value) : Rfa (w.setCell ⟨g, i, none⟩ v) lo bv ls vs M := by
  have := h.blks.far hb i v
  exact ⟨this.row, this.len, this.wds, this.apart, h.ok, h.uq, fun c hc => (h.lst c hc).far hb (by decide) i v, h.few, h.fewl, h.small⟩
set_option maxRecDepth 100000 in
set_option maxHeartbeats 1000000 in
theorem rfree_no (h : Rfa w lo bv ls vs M) (x : Int) (hx : ∀ b ∈ M.R, b.t = true → (b.x : Int) ≠ x) : Calls Try.prog 23 #[.agg (M.vals bv ls), .int .i64 x] w fun e w' => e = .returned (.tuple #[.agg (M.vals bv ls), .int .i64 4]) ∧ Below w.heap.size w w' := by
  obtain ⟨W, hW, F⟩ := fr_new h
  have hl := F.bx.ld
  have hta := rtk_no F.bx.rf hx
  have HF := Lib.hid (And.intro F (M.vals_size bv ls))
  clear F h
  obtain ⟨V, hV⟩ : ∃ V, M.vals bv ls = V := ⟨_, rfl⟩
  rw [hV] at hW hl hta ⊢
  have HV := Lib.hid hV
  clear hV
  go_enter Try.func23, Try.ntmps23
  go_wp2_with fail
  refine hta.mono ?_
  rintro e W2 ⟨rfl, hb2⟩
  have F2 := HF.out.1.lat hb2
  have hl2 := F2.bx.ld
  obtain ⟨hs, hbk, hbe⟩ := F2.st
  rw [HV.out] at hl2 hs hbk hbe
  have HX := Lib.hid (And.intro hbk hbe)
  have h13 : V.size = 13 := by rw [← HV.out]; exact HF.out.2
  have H13 := Lib.hid h13
  clear hta hl hb2 F2 hbk hbe hW h13
  go_wp2_with fail
  refine bodyPost_ret (results_ra2 rfl _ _ (w.heap.size + 1) V rfl HX.out.1 H13.out) rfl ?_
  exact ⟨rfl, HX.out.2⟩
set_option maxRecDepth 100000 in
set_option maxHeartbeats 1000000 in
theorem rfree_arg (h : Rfa w lo bv ls vs M) {k : Nat} {b : Rb} (hb : M.R[k]? = some b) (ht : b.t = true) (hx : M.four = (b.x : Int) ∨ M.six = (b.x : Int)) : Calls Try.prog 23 #[.agg (M.vals bv ls), .int .i64 (b.x : Int)] w fun e w' => e = .returned (.tuple #[.agg (M.vals bv ls), .int .i64 2]) ∧ Below w.heap.size w w' := by
  obtain ⟨W, hW, F⟩ := fr_new h
  have hl := F.bx.ld
  have hta := rtk_yes F.bx.rf hb ht
  have HF := Lib.hid (And.intro F (M.vals_size bv ls))
  clear F h
  obtain ⟨V, hV⟩ : ∃ V, M.vals bv ls = V := ⟨_, rfl⟩
  rw [hV] at hW hl hta ⊢
  have HV := Lib.hid hV
  clear hV
  go_enter Try.func23, Try.ntmps23
  go_wp2_with fail
  refine hta.mono ?_
  rintro e W2 ⟨rfl, hb2⟩
  have F2 := HF.out.1.lat hb2
  have hl2 := F2.bx.ld
  have c10 : W2.cell? ⟨w.heap.size, 10, none⟩ = some (.int .i64 M.four) := F2.bx.bx.cell 10
  have c11 : W2.cell? ⟨w.heap.size, 11, none⟩ = some (.int .i64 M.six) := F2.bx.bx.cell 11
  obtain ⟨hs, hbk, hbe⟩ := F2.st
  rw [HV.out] at hl2 hs hbk hbe
  have HX := Lib.hid (And.intro hbk hbe)
  have h13 : V.size = 13 := by rw [← HV.out]; exact HF.out.2
  have H13 := Lib.hid h13
  clear hta hl hb2 F2 hbk hbe hW h13
  have hk0 : ¬ ((k : Int) < 0) := by omega
  generalize M.four = m4 at *
  generalize M.six = m6 at *
  generalize (b.x : Int) = x at *
  by_cases hx4 : x = m4
  · subst hx4
    clear hx
    go_wp2_with fail
    refine bodyPost_ret (results_ra2 rfl _ _ (w.heap.size + 1) V rfl HX.out.1 H13.out) rfl ?_
    exact ⟨rfl, HX.out.2⟩
  · have hx6 : m6 = x := hx.resolve_left (fun e => hx4 e.symm)
    subst hx6
    clear hx
    go_wp2_with fail
    refine bodyPost_ret (results_ra2 rfl _ _ (w.heap.size + 1) V rfl HX.out.1 H13.out) rfl ?_
    exact ⟨rfl, HX.out.2⟩
set_option maxRecDepth 100000 in
set_option maxHeartbeats 2000000 in
theorem rfree_yes (h : Rfa w lo bv ls vs M) {k : Nat} {b : Rb} (hb : M.R[k]? = some b) (ht : b.t = true) (hx4 : ¬ ((b.x : Int) = M.four)) (hx6 : ¬ ((b.x : Int) = M.six)) (hll : (M.L b.c).length < 20000) :
    Calls Try.prog 23 #[.agg (M.vals bv ls), .int .i64 (b.x : Int)] w fun e w' => ∃ u, e = .returned (.tuple #[u, .int .i64 0]) ∧ Ans w w' u { M with R := M.R.set k { b with t := false }, L := upd M.L b.c (b.x :: M.L b.c) } := by
  obtain ⟨W, hW, F⟩ := fr_new h
  have hl := F.bx.ld
  have hta := rtk_yes F.bx.rf hb ht
  have hok := h.ok b (List.mem_of_getElem? hb)
  have hfew := h.few
  have HF := Lib.hid F
  clear F h
  obtain ⟨V, hV⟩ : ∃ V, M.vals bv ls = V := ⟨_, rfl⟩
  rw [hV] at hW hl hta ⊢
  have HV := Lib.hid hV
  clear hV
  go_enter Try.func23, Try.ntmps23
  go_wp2_with fail
  refine hta.mono ?_
  rintro e W2 ⟨rfl, hb2⟩
  have F2 := HF.out.lat hb2
  have hl2 := F2.bx.ld
  have hcp := rcopy_any F2.bx.rf
  have c10 : W2.cell? ⟨w.heap.size, 10, none⟩ = some (.int .i64 M.four) := F2.bx.bx.cell 10
  have c11 : W2.cell? ⟨w.heap.size, 11, none⟩ = some (.int .i64 M.six) := F2.bx.bx.cell 11
  rw [HV.out] at hl2 hcp
  have HF2 := Lib.hid F2
  have hk0 : ¬ ((k : Int) < 0) := by omega
  clear hta hl hb2 F2 hW
  obtain ⟨m4, hm4⟩ : ∃ m4, M.four = m4 := ⟨_, rfl⟩
  obtain ⟨m6, hm6⟩ : ∃ m6, M.six = m6 := ⟨_, rfl⟩
  rw [hm4] at hx4 c10
  rw [hm6] at hx6 c11
  clear hm4 hm6
  have dx4 : ((b.x : Int) == m4) = false := by simpa using hx4
  have dx6 : ((b.x : Int) == m6) = false := by simpa using hx6
  clear hx4 hx6
  go_wp2_with fail
  refine hcp.mono ?_
  rintro e9 W' ⟨bv', ls', vs', rfl, hR, hb3⟩
  have hst := sra_new W' (M.vals_size bv' ls') hR.vals_one
  obtain ⟨W6, hW6⟩ : ∃ W6, W'.alloc (.cells (M.vals bv' ls') 36) = W6 := ⟨_, rfl⟩
  have B6 : Bx W' W6 W'.heap.size W2.heap.size bv' ls' vs' M := by rw [← hW6]; exact bx_new hR
  rw [hW6] at hst
  obtain ⟨gb, c, gw, cw, hbv, hvk, c1, _, _, c2, _, _, hk⟩ := B6.blk hb
  clear hcp hl2 c10 c11
  have hrow6 := B6.rf.row
  rw [hbv] at hrow6
  obtain ⟨C6, hC6⟩ := own_has hrow6
  have f2 := hC6.free (k * 4 + 2)
  -- the mark
  have R7 := B6.rf.mark hb hbv false
  have b7 := B6.bx.far (p := ⟨gb, k * 4 + 2, none⟩) (B6.bx.ne hC6 (by decide)) (.bool false)
  have k7 : Below W2.heap.size W2 (W6.setCell ⟨gb, k * 4 + 2, none⟩ (.bool false)) := (bel_later hb3 B6.hb).setCell ((hrow6.lt gb rfl).1) _
  obtain ⟨W7, hW7⟩ : ∃ W7, W6.setCell ⟨gb, k * 4 + 2, none⟩ (.bool false) = W7 := ⟨_, rfl⟩
  rw [hW7] at R7 b7 k7
  have hsz7 : W'.heap.size < W7.heap.size := b7.lt
  have B7 : Bx W7 W7 W'.heap.size W2.heap.size bv' ls' vs' { M with R := M.R.set k { b with t := false } } := ⟨Below.refl _ _, b7, R7⟩
  obtain ⟨gb', c', gw', cw', hbv', _, d1, _, dc, _, _, _, _⟩ := B7.blk (k := k) (b := { b with t := false }) (by show (M.R.set k _)[k]? = _; rw [List.getElem?_set]; simp [hk])
  have e1 : gb = gb' ∧ c = c' := by
    rw [hbv] at hbv'
    injection hbv' with e1 _ e2
    injection e1 with e1
    injection e1 with e1 _
    exact ⟨e1, e2⟩
  obtain ⟨rfl, rfl⟩ := e1
  clear hbv'
  have hlen9 : (M.R.set k { b with t := false }).length = M.R.length := by simp
  rw [hlen9] at d1
  have dl : W7.cell? ⟨W'.heap.size, 2 + b.c, none⟩ = some (ls' b.c) := (b7.cell _).trans (M.vals_l _ _ hok.1)
  have hI7 := (R7.lst b.c hok.1)
  obtain ⟨lm, hlm⟩ : ∃ lm, ls' b.c = lm := ⟨_, rfl⟩
  rw [hlm] at dl hI7
  obtain ⟨al, cl, hIl, _⟩ := id hI7
  rw [hIl] at dl hI7
  have how8 := own_single W7 3 (.int .i64 (b.x : Int))
  have hI8 := hI7.later ((Below.refl _ W7).alloc (Nat.le_refl _) (.cells #[.int .i64 (b.x : Int)] 3))
  have hn7 : ∀ c, (W7.alloc (.cells #[.int .i64 (b.x : Int)] 3)).cell? ⟨W'.heap.size, c, none⟩ = W7.cell? ⟨W'.heap.size, c, none⟩ := fun c => by
    exact World.cell?_of_block (Below.heap_alloc W7 _ _ hsz7)
  have dl8 := (hn7 (2 + b.c)).trans dl
  have HR := Lib.hid (And.intro hb3 (And.intro B6 (And.intro R7 (And.intro b7 (And.intro k7 (And.intro hb hlm))))))
  clear hR hb3 B6 hrow6 hC6 R7 b7 k7 B7 hI7 hn7 dl hvk hbv
  obtain ⟨V3, hV3⟩ : ∃ V3, M.vals bv' ls' = V3 := ⟨_, rfl⟩
  rw [hV3] at hst hW6 ⊢
  have HV3 := Lib.hid hV3
  clear hV3
  clear hlen9
  generalize M.R.length = n at *
  have hki : (k : Int) < (n : Int) := by omega
  have hcn : (b.c : Int) < 6 := by omega
  have hllen : (M.L b.c).length ≤ 20000 := by omega
  go_wp2_with (at_builtin; refine wpList_append_ints rfl _ _ rfl W7.heap.size _ _ _ rfl how8 W2.heap.size (M.L b.c) (.slice al (M.L b.c).length cl) rfl hI8 (by omega) (by simp) ?_)
  intro lv w9 how9 hgr9
  obtain ⟨a9, c9, hlv⟩ := owns_sl how9
  subst hlv
  have hk9 : Below W7.heap.size W7 w9 := ((Below.refl _ W7).alloc (Nat.le_refl _) (.cells #[.int .i64 (b.x : Int)] 3)).grown hgr9 (by simp) (fun j hj => by simp [Value.ownBlock] at hj; omega)
  have b9 := HR.out.2.2.2.1.kept (Kept.of_below [] hk9) (by simp)
  have c99 : w9.cell? ⟨W'.heap.size, 2 + b.c, none⟩ = some (.slice al (M.L b.c).length cl) := (b9.cell _).trans (by rw [M.vals_l _ _ hok.1, HR.out.2.2.2.2.2.2, hIl])
  have f99 := b9.free (2 + b.c)
  have R9 := HR.out.2.2.1.later hk9
  have k9 := bel_later HR.out.2.2.2.2.1 hk9
  have hLn : Ints w9 W2.heap.size (.slice a9 (1 + (M.L b.c).length) c9) (b.x :: M.L b.c) := by
    have e9 : 1 + (M.L b.c).length = (b.x :: M.L b.c).length := by simp; omega
    rw [e9] at how9 ⊢
    exact (Ints.of_own how9).mono (by have := HR.out.2.2.2.2.1.size; omega)
  have R10 := (Blks.farI R9 b9 (2 + b.c) (.slice a9 (1 + (M.L b.c).length) c9)).list (c := b.c) hok.1 (hLn.far b9 (by decide) (2 + b.c) (.slice a9 (1 + (M.L b.c).length) c9)) (by simp; omega)
  have b10 := b9.set (2 + b.c) (.slice a9 (1 + (M.L b.c).length) c9)
  rw [M.vals_setL bv' ls' hok.1 (upd M.L b.c (b.x :: M.L b.c))] at b10
  have k10 := k9.setCell (p := ⟨W'.heap.size, 2 + b.c, none⟩) (by have := HR.out.1.size; show _ ≤ W'.heap.size; omega) (.slice a9 (1 + (M.L b.c).length) c9)
  obtain ⟨hs4, hbk, hans⟩ := HF2.out.ans R10 k10
  have hl10 := lra b10 rfl
  have HX := Lib.hid (And.intro hbk hans)
  obtain ⟨V4, hV4⟩ : ∃ V4, ({ M with L := upd M.L b.c (b.x :: M.L b.c) } : Mo).vals bv' (upd ls' b.c (.slice a9 (1 + (M.L b.c).length) c9)) = V4 := ⟨_, rfl⟩
  have e4 : ({ M with R := M.R.set k { b with t := false }, L := upd M.L b.c (b.x :: M.L b.c) } : Mo).vals bv' (upd ls' b.c (.slice a9 (1 + (M.L b.c).length) c9)) = V4 := hV4
  rw [hV4] at hl10
  have hs4' : (storeSem 36 (.pointer (some ⟨w.heap.size + 1, 0, none⟩)) (.agg V4)).run Try.prog (w9.setCell ⟨W'.heap.size, 2 + b.c, none⟩ (.slice a9 (1 + (M.L b.c).length) c9)) = .ok () ((w9.setCell ⟨W'.heap.size, 2 + b.c, none⟩ (.slice a9 (1 + (M.L b.c).length) c9)).setRow (w.heap.size + 1) V4) := by rw [← e4]; exact hs4
  have HE := Lib.hid e4
  have h13 : V4.size = 13 := by rw [← hV4]; rfl
  have H13 := Lib.hid h13
  clear how9 hgr9 hk9 b9 R9 k9 hLn R10 b10 k10 hbk hans hs4 hV4 e4 h13 how8 hI8 dl8
  go_wp2_with fail
  refine bodyPost_ret (results_ra2 rfl _ _ (w.heap.size + 1) V4 rfl (by rw [← HE.out]; exact HX.out.1) H13.out) rfl ?_
  refine ⟨_, rfl, ?_⟩
  rw [← HE.out]
  exact HX.out.2
end
end Go.Proofs.Ytoidklkloagioaa
