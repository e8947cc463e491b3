/-
  The document's arena: rows of pieces compared; what stands behind a free block. Nothing here is a statement of the document.
-/
import Derived.Test.YtgnpoehcmlmajaaRfN
namespace Go.Proofs.Ytgnpoehcmlmajaa
open Go.RowKit Go.Shelf
set_option linter.unusedVariables false
attribute [local go_sem ↓] load_ra_rule store_ra_rule load_rb_rule store_rb_rule
section
variable {w W W' : World} {g z lo : Nat} {bv : Value} {ls : Nat → Value} {vs : List Value} {M : Mo}
set_option maxRecDepth 100000 in
set_option maxHeartbeats 2000000 in
theorem ralloc_list (h : Rfa w lo bv ls vs M) (c : Nat) (hc : c ≤ 5) {k : Nat} {b : Rb} {r : List Nat} (hL : M.L c = b.x :: r) (hb : M.R[k]? = some b) (hbc : b.c = c) : Calls Try.prog 22 #[.agg (M.vals bv ls), .int .i64 (c : Int)] w fun e w' => ∃ u, e = .returned (.tuple #[u, .int .i64 (b.x : Int), .int .i64 0]) ∧ Ans w w' u { M with R := M.R.set k { b with t := true, ws := List.replicate (2 ^ c) 0 }, L := upd M.L c r } := by
  obtain ⟨W, hW, F⟩ := fr_new h
  have hl := F.bx.ld
  have hcp := rcopy_any F.bx.rf
  have hfewl := h.fewl c hc
  have hfew := h.few
  have hok := h.ok b (List.mem_of_getElem? hb)
  have HF := Lib.hid F
  clear F h
  have hp := pow5 hc
  have hsi := fun w => rsize_any c hc w
  obtain ⟨V, hV⟩ : ∃ V, M.vals bv ls = V := ⟨_, rfl⟩
  rw [hV] at hW hl hcp ⊢
  have HV := Lib.hid hV
  clear hV
  have hc0 : ¬ ((c : Int) < 0) := by omega
  have hc5 : ¬ (5 < (c : Int)) := by omega
  have hc6 : (c : Int) < 6 := by omega
  go_enter Try.func22, Try.ntmps22
  go_wp2_with fail
  refine hcp.mono ?_
  rintro e9 W' ⟨bv', ls', vs', rfl, hR, hb3⟩
  have hst := sra_new W' (M.vals_size bv' ls') hR.vals_one
  obtain ⟨W6, hW6⟩ : ∃ W6, W'.alloc (.cells (M.vals bv' ls') 36) = W6 := ⟨_, rfl⟩
  have B6 : Bx W' W6 W'.heap.size W.heap.size bv' ls' vs' M := by rw [← hW6]; exact bx_new hR
  rw [hW6] at hst
  clear hcp hl
  have HB6 := Lib.hid (And.intro B6 hb3)
  obtain ⟨V3, hV3⟩ : ∃ V3, M.vals bv' ls' = V3 := ⟨_, rfl⟩
  rw [hV3] at hst hW6 ⊢
  have HV3 := Lib.hid hV3
  clear hR hb3 B6 hV3
  go_wp2_with fail
  refine (hsi W6).mono ?_
  rintro e8 _ ⟨rfl, rfl⟩
  obtain ⟨hmk, hmo⟩ := mk32 W6 (2 ^ c) (by omega)
  obtain ⟨W7, hW7⟩ : ∃ W7, W6.alloc (.cells (wcs (List.replicate (2 ^ c) 0)) 53) = W7 := ⟨_, rfl⟩
  have k7 : Below W6.heap.size W6 W7 := by rw [← hW7]; exact (Below.refl _ _).alloc (Nat.le_refl _) _
  rw [hW7] at hmk hmo
  clear hst hW6 hW7
  have B7 := HB6.out.1.later k7
  have hsz6 : W'.heap.size < W6.heap.size := HB6.out.1.bx.lt
  have cl := B7.cl hc
  have hI := B7.rf.lst c hc
  obtain ⟨al, ca, hIl, hca, han, hIr⟩ := id hI
  obtain ⟨ga, oa, Ca, hal, hga, hbka, hcela⟩ : ∃ g o C, al = some ⟨g, o, none⟩ ∧ W.heap.size ≤ g ∧ Blk W7 g 3 C ∧ ∀ (i : Nat) (u : Value), (ivl (M.L c))[i]? = some u → C[o + i]? = some u := by
    rcases hIr with h9 | h9
    · rw [hL] at h9; cases h9
    · exact h9
  subst hal
  have hlen : (M.L c).length = r.length + 1 := by rw [hL]; rfl
  rw [hlen] at hIl hca hfewl
  have HFL := Lib.hid (show r.length ≤ 20000 by omega)
  rw [hIl] at cl
  have ca0 : W7.cell? ⟨ga, oa, none⟩ = some (.int .i64 (b.x : Int)) := (hbka.cell oa).trans (by have := hcela 0 _ (by rw [hL]; rfl); rwa [Nat.add_zero] at this)
  obtain ⟨gb, cb, gw, cw, hbv, hvk, c1, _, _, c2, c3, _, hk⟩ := B7.blk hb
  have hrow7 := B7.rf.row
  rw [hbv] at hrow7
  obtain ⟨Cb, hCb⟩ := own_has hrow7
  have hgb := hCb.lt
  have hgal := hbka.lt
  have f2 := hCb.free (k * 4 + 2)
  have f3 := hCb.free (k * 4 + 3)
  -- what stays while others look
  obtain ⟨S, hS⟩ : ∃ S : World → Prop, S = fun w' => Below W7.heap.size W7 w' := ⟨_, rfl⟩
  have hSb : ∀ w', S w' → Below W7.heap.size W7 w' := fun w' h' => by rw [hS] at h'; exact h'
  have hSs : ∀ w', Below W7.heap.size W7 w' → S w' := fun w' h' => by rw [hS]; exact h'
  have q0 : ∀ w', S w' → w'.cell? ⟨ga, oa, none⟩ = some (.int .i64 (b.x : Int)) := fun w' h' => (World.cell?_of_block ((hSb w' h').block ga hgal)).trans ca0
  have ql : ∀ w', S w' → (loadSem 36 (.pointer (some ⟨W'.heap.size, 0, none⟩))).run Try.prog w' = .ok (.agg V3) w' := fun w' h' => by rw [← HV3.out]; exact (B7.later (hSb w' h')).ld
  have qt : ∀ w', S w' → Calls Try.prog 49 #[.agg V3, .int .i64 (b.x : Int)] w' fun e w'' => e = .returned (.int .i64 (k : Int)) ∧ S w'' := fun w' h' => by
    rw [← HV3.out]
    exact (rat_yes (B7.later (hSb w' h')).rf hb).mono fun e w'' ⟨h1, h2⟩ => ⟨h1, hSs _ (bel_later (hSb w' h') h2)⟩
  have hS0 : S W7.drew := hSs _ ⟨rfl, rfl, rfl, Nat.le_refl _, fun _ _ => rfl⟩
  have HS := Lib.hid (And.intro hSb (And.intro B7 (And.intro hmo (And.intro k7 (And.intro hbv (And.intro hvk (And.intro hI (And.intro hIl (And.intro hcela (And.intro hbka hga))))))))))
  have hS0' := hS0
  clear hS hSs hSb B7 hmo k7 hvk hI hIr hcela hbka hga hrow7 hCb ca0 c1 c2 c3 f2 f3 hgb hgal
  have hrn : ((r.length : Int) + 1) > 0 := by omega
  generalize hnn : M.R.length = n at *
  generalize hzz : 2 ^ c = zz at *
  go_wp2_with fail
  refine wp_region_linB S [] [0, 1, 2, 3, 4, 5] (by kernel_rfl) (by kernel_rfl) hS0 ?_
  (repeat (first | (refine linB_off rfl rfl (by rfl) ?_; (try simp only [Act.put, List.getElem_toArray, List.getElem_cons_zero, List.getElem_cons_succ, List.setIfInBounds_toArray, List.set_cons_zero, List.set_cons_succ])) | (refine linB_op (v := ?_) rfl rfl (by rfl) (fun w9 hS9 => ?_) ?_; rotate_left; (focus ((have k0 := q0 w9 hS9; have k1 := ql w9 hS9; (try dsimp only at hS9); go_simp; (try go_bits)) <;> with_reducible rfl)); (try simp only [Act.put, List.getElem_toArray, List.getElem_cons_zero, List.getElem_cons_succ, List.setIfInBounds_toArray, List.set_cons_zero, List.set_cons_succ])) | (refine linB_fn (f := 49) rfl rfl (by rfl) rfl rfl (enters_of Try.func49 (by kernel_rfl) rfl) (fun w9 hS9 => qt w9 hS9) ?_ ?_; (focus (simp [Act.eval]; done)); (try simp only [Act.put, List.getElem_toArray, List.getElem_cons_zero, List.getElem_cons_succ, List.setIfInBounds_toArray, List.set_cons_zero, List.set_cons_succ]))))
  refine linB_nil (fun w9 hS9 => ?_)
  have k9 := HS.out.1 w9 hS9
  have B9 := HS.out.2.1.later k9
  obtain ⟨gb', cb', gw', cw', hbv', hvk', c1, _, _, c2, c3, _, hk'⟩ := B9.blk hb
  have e1 : gb = gb' ∧ cb = cb' := by
    have h9 := HS.out.2.2.2.2.1
    rw [h9, hnn] at hbv'
    injection hbv' with e1 _ e2
    injection e1 with e1
    injection e1 with e1 _
    exact ⟨e1, e2⟩
  obtain ⟨rfl, rfl⟩ := e1
  clear hbv'
  have hrow9 := B9.rf.row
  rw [HS.out.2.2.2.2.1] at hrow9
  have hrow9' : w9.ownsRow W.heap.size 84 4 (.slice (some ⟨gb, 0, none⟩) n cb) n (rbs M.R vs') := by rw [hnn] at hrow9; exact hrow9
  obtain ⟨Cb, hCb⟩ := own_has hrow9'
  have f2 := hCb.free (k * 4 + 2)
  have f3 := hCb.free (k * 4 + 3)
  have c1' : w9.cell? ⟨W'.heap.size, 1, none⟩ = some (.slice (some ⟨gb, 0, none⟩) n cb) := by rw [hnn] at c1; exact c1
  have HB9 := Lib.hid (And.intro B9 (And.intro hrow9' k9))
  have hki : (k : Int) < (n : Int) := by omega
  clear k9 B9 hrow9 hrow9' hCb c1 q0 ql qt hS0 hS0' hS9 hvk' hk' hmk cl
  go_wp2_with fail
  go_region
  have B9 := HB9.out.1
  have hbv := HS.out.2.2.2.2.1
  have R10 := B9.rf.mark hb hbv true
  have hk := (List.getElem?_eq_some_iff.1 hb).1
  have hb10 : (M.R.set k { b with t := true })[k]? = some { b with t := true } := by rw [List.getElem?_set]; simp [hk]
  have hmo9 : w9.ownsRow W6.heap.size 53 1 (.slice (some ⟨W6.heap.size, 0, none⟩) zz zz) zz (wvl (List.replicate zz 0)) := owns_later HS.out.2.2.1 HB9.out.2.2
  obtain ⟨Cb, hCb⟩ := own_has HB9.out.2.1
  have hmoA := ownk hmo9 ((Kept.refl [gb] w9).setCell (p := ⟨gb, k * 4 + 2, none⟩) (.inl (by simp)) (.bool true)) (fun j hj h9 => by
    obtain rfl : j = gb := by simpa using h9
    exact own_ne_blk hmo9 hCb (by decide) hj.symm)
  have hfr : ∀ v ∈ vs', v.ownBlock ≠ (Value.slice (some ⟨W6.heap.size, 0, none⟩) zz zz).ownBlock := fun v hv => by
    obtain ⟨i, hi9, rfl⟩ := List.mem_iff_getElem.1 hv
    have h6 := HB6.out.1.rf
    have hil : i < M.R.length := by have := h6.len; omega
    have hwi := h6.wds i _ _ (List.getElem?_eq_getElem hil) (List.getElem?_eq_getElem hi9)
    obtain ⟨g, e9, _, hlt9⟩ := own_pos hwi (by have := Nat.pos_of_ne_zero (show 2 ^ (M.R[i]).c ≠ 0 by simp); omega)
    rw [e9]
    intro e
    simp [Value.ownBlock] at e
    omega
  have hge6 : W.heap.size ≤ W6.heap.size := by have := HB6.out.2.size; omega
  have hzb : 2 ^ b.c = zz := by rw [hbc]; exact hzz
  have R11 := R10.fill (v' := .slice (some ⟨W6.heap.size, 0, none⟩) zz zz) hb10 hbv (l := List.replicate zz 0) (by simp [hok.2.1, hzb]) (by show World.ownsRow _ _ _ _ _ (2 ^ b.c) _; rw [hzb]; exact ownsRow_le hmoA hge6) hfr
  have e11 : ({ M with R := (M.R.set k { b with t := true }).set k { b with t := true, ws := List.replicate zz 0 } } : Mo) = { M with R := M.R.set k { b with t := true, ws := List.replicate zz 0 } } := by rw [List.set_set]
  have bxA := ((B9.bx.far (p := ⟨gb, k * 4 + 2, none⟩) (B9.bx.ne hCb (by decide)) (.bool true)).far (p := ⟨gb, k * 4 + 3, none⟩) (B9.bx.ne hCb (by decide)) (.slice (some ⟨W6.heap.size, 0, none⟩) zz zz)).drew
  have kA : Below W.heap.size W ((w9.setCell ⟨gb, k * 4 + 2, none⟩ (.bool true)).setCell ⟨gb, k * 4 + 3, none⟩ (.slice (some ⟨W6.heap.size, 0, none⟩) zz zz)).drew := by
    have hg := (HB9.out.2.1.lt gb rfl).1
    exact below_drewN (((bel_later HB6.out.2 B9.hb).setCell hg _).setCell hg _) 1
  by_cases hca1 : ca = 1
  · have hr0 : r = [] := List.eq_nil_of_length_eq_zero (by omega)
    subst hr0
    subst hca1
    rw [List.length_nil] at *
    have IA : Ints ((w9.setCell ⟨gb, k * 4 + 2, none⟩ (.bool true)).setCell ⟨gb, k * 4 + 3, none⟩ (.slice (some ⟨W6.heap.size, 0, none⟩) zz zz)).drew W.heap.size (.slice (some ⟨ga, oa, none⟩) 0 0) [] := Ints.nil _ _ _ _ (by simp)
    have RA : Rfa ((w9.setCell ⟨gb, k * 4 + 2, none⟩ (.bool true)).setCell ⟨gb, k * 4 + 3, none⟩ (.slice (some ⟨W6.heap.size, 0, none⟩) zz zz)).drew W.heap.size bv' ls' (vs'.set k (.slice (some ⟨W6.heap.size, 0, none⟩) zz zz)) { M with R := M.R.set k { b with t := true, ws := List.replicate zz 0 } } := by rw [← e11]; exact R11.later (w' := ((w9.setCell ⟨gb, k * 4 + 2, none⟩ (.bool true)).setCell ⟨gb, k * 4 + 3, none⟩ (.slice (some ⟨W6.heap.size, 0, none⟩) zz zz)).drew) ⟨rfl, rfl, rfl, Nat.le_refl _, fun _ _ => rfl⟩
    obtain ⟨WA, hWA⟩ : ∃ WA, ((w9.setCell ⟨gb, k * 4 + 2, none⟩ (.bool true)).setCell ⟨gb, k * 4 + 3, none⟩ (.slice (some ⟨W6.heap.size, 0, none⟩) zz zz)).drew = WA := ⟨_, rfl⟩
    rw [hWA] at bxA kA IA RA ⊢
    clear hWA hmo9 hmoA hfr R10 R11 B9 c1' c2 c3 f2 f3
    have cA : WA.cell? ⟨W'.heap.size, 2 + c, none⟩ = some (.slice (some ⟨ga, oa, none⟩) (0 + 1) 1) := (bxA.cell _).trans (by rw [M.vals_l _ _ hc]; exact congrArg some HS.out.2.2.2.2.2.2.2.1)
    have fA := bxA.free (2 + c)
    have RB := (Blks.farI RA bxA (2 + c) (.slice (some ⟨ga, oa, none⟩) 0 0)).list (c := c) hc (IA.far bxA (by decide) _ _) HFL.out
    have bxB := bxA.set (2 + c) (.slice (some ⟨ga, oa, none⟩) 0 0)
    rw [M.vals_setL bv' ls' hc (upd M.L c [])] at bxB
    have kB := kA.setCell (p := ⟨W'.heap.size, 2 + c, none⟩) (by have := HB6.out.2.size; show _ ≤ W'.heap.size; omega) (.slice (some ⟨ga, oa, none⟩) 0 0)
    obtain ⟨hsB, hbk, hans⟩ := HF.out.ans (RB.later (w' := (WA.setCell ⟨W'.heap.size, 2 + c, none⟩ (.slice (some ⟨ga, oa, none⟩) 0 0)).drew) ⟨rfl, rfl, rfl, Nat.le_refl _, fun _ _ => rfl⟩) (below_drewN kB 1)
    have hlB := lra bxB rfl
    obtain ⟨V4, hV4⟩ : ∃ V4, ({ M with L := upd M.L c [] } : Mo).vals bv' (upd ls' c (.slice (some ⟨ga, oa, none⟩) 0 0)) = V4 := ⟨_, rfl⟩
    have e4 : ({ M with R := M.R.set k { b with t := true, ws := List.replicate zz 0 }, L := upd M.L c [] } : Mo).vals bv' (upd ls' c (.slice (some ⟨ga, oa, none⟩) 0 0)) = V4 := hV4
    rw [hV4] at hlB
    rw [e4] at hsB
    have hsB : (storeSem 36 (.pointer (some ⟨w.heap.size + 1, 0, none⟩)) (.agg V4)).run Try.prog (WA.setCell ⟨W'.heap.size, 2 + c, none⟩ (.slice (some ⟨ga, oa, none⟩) 0 0)).drew = .ok () ((WA.setCell ⟨W'.heap.size, 2 + c, none⟩ (.slice (some ⟨ga, oa, none⟩) 0 0)).drew.setRow (w.heap.size + 1) V4) := hsB
    have hBB : Bx (WA.setCell ⟨W'.heap.size, 2 + c, none⟩ (.slice (some ⟨ga, oa, none⟩) 0 0)) (WA.setCell ⟨W'.heap.size, 2 + c, none⟩ (.slice (some ⟨ga, oa, none⟩) 0 0)) W'.heap.size W.heap.size bv' (upd ls' c (.slice (some ⟨ga, oa, none⟩) 0 0)) (vs'.set k (.slice (some ⟨W6.heap.size, 0, none⟩) zz zz)) { M with R := M.R.set k { b with t := true, ws := List.replicate zz 0 }, L := upd M.L c [] } := ⟨Below.refl _ _, bxB, RB⟩
    obtain ⟨gb9, cb9, gw9, cw9, hbv9, _, d1, d0, _⟩ := hBB.blk (k := k) (b := { b with t := true, ws := List.replicate zz 0 }) (by show (M.R.set k _)[k]? = _; rw [List.getElem?_set]; simp [hk])
    have e1 : gb = gb9 ∧ cb = cb9 := by
      rw [hbv] at hbv9
      injection hbv9 with e1 _ e2
      injection e1 with e1
      injection e1 with e1 _
      exact ⟨e1, e2⟩
    obtain ⟨rfl, rfl⟩ := e1
    clear hbv9
    have hlen9 : (M.R.set k { b with t := true, ws := List.replicate zz 0 }).length = n := by rw [List.length_set]; exact hnn
    have d1' : (WA.setCell ⟨W'.heap.size, 2 + c, none⟩ (.slice (some ⟨ga, oa, none⟩) 0 0)).cell? ⟨W'.heap.size, 1, none⟩ = some (.slice (some ⟨gb, 0, none⟩) n cb) := by rw [← hlen9]; exact d1
    have h13 : V4.size = 13 := by rw [← hV4]; rfl
    have HB := Lib.hid (And.intro hbk (And.intro hans (And.intro e4 (And.intro h13 hzz))))
    obtain ⟨WB, hWB⟩ : ∃ WB, WA.setCell ⟨W'.heap.size, 2 + c, none⟩ (.slice (some ⟨ga, oa, none⟩) 0 0) = WB := ⟨_, rfl⟩
    rw [hWB] at hsB hlB d1' d0 HB
    have d0' : WB.cell? ⟨gb, k * 4, none⟩ = some (.int .i64 (b.x : Int)) := d0
    have hlBd : (loadSem 36 (.pointer (some ⟨W'.heap.size, 0, none⟩))).run Try.prog WB.drew = .ok (.agg V4) WB.drew := by rw [← hWB, ← hV4]; exact lra bxB.drew rfl
    have hzl := HF.out.zb.lt
    have hgg := (HB9.out.2.1.lt gb rfl).1
    have hwg : W.heap.size ≤ W'.heap.size := HB6.out.2.size
    have p1 : (WB.drew.setRow (w.heap.size + 1) V4).cell? ⟨W'.heap.size, 1, none⟩ = some (.slice (some ⟨gb, 0, none⟩) n cb) := (World.cell?_of_block (setRow_other WB.drew (w.heap.size + 1) _ V4 (by show W'.heap.size ≠ _; omega))).trans d1'
    have p0 : (WB.drew.setRow (w.heap.size + 1) V4).cell? ⟨gb, k * 4, none⟩ = some (.int .i64 (b.x : Int)) := (World.cell?_of_block (setRow_other WB.drew (w.heap.size + 1) _ V4 (by show gb ≠ _; omega))).trans d0'
    clear hbk hans hV4 e4 hBB d1 d0 hlen9 h13 RB bxB kB RA bxA kA IA hnn hzl hgg hwg
    go_wp2_with fail
    go_region
    have h1 := HB.out.1
    have h2 := HB.out.2.1
    rw [HB.out.2.2.1] at h1 h2
    have H12 := Lib.hid (And.intro h1 (And.intro h2 HB.out.2.2.2.1))
    clear h1 h2
    go_wp2
    refine bodyPost_ret (results_ra3 rfl _ _ (w.heap.size + 1) V4 rfl H12.out.1 H12.out.2.2) rfl ?_
    refine ⟨_, rfl, ?_⟩
    first | exact H12.out.2.1 | (rw [HB.out.2.2.2.2]; exact H12.out.2.1) | (rw [show 2 ^ c = zz from hzz]; exact H12.out.2.1)
  · have hca2 : ¬ (ca = 1) := hca1
    have IA : Ints ((w9.setCell ⟨gb, k * 4 + 2, none⟩ (.bool true)).setCell ⟨gb, k * 4 + 3, none⟩ (.slice (some ⟨W6.heap.size, 0, none⟩) zz zz)).drew W.heap.size (.slice (some ⟨ga, oa + 1, none⟩) r.length (ca - 1)) r := by
      have h7 : Ints W7 W.heap.size (.slice (some ⟨ga, oa + 1, none⟩) r.length (ca - 1)) r := ⟨_, _, rfl, by omega, (fun h => by cases h), .inr ⟨ga, oa + 1, Ca, rfl, HS.out.2.2.2.2.2.2.2.2.2.2, HS.out.2.2.2.2.2.2.2.2.2.1, fun i u hu => by
        have := HS.out.2.2.2.2.2.2.2.2.1 (i + 1) u (by rw [hL]; simpa [ivl] using hu)
        rw [show oa + 1 + i = oa + (i + 1) by omega]; exact this⟩⟩
      have h9 := h7.later HB9.out.2.2
      exact ((h9.far hCb (by decide) (k * 4 + 2) (.bool true)).far (hCb.set (k * 4 + 2) (.bool true)) (by decide) (k * 4 + 3) (.slice (some ⟨W6.heap.size, 0, none⟩) zz zz)).later ⟨rfl, rfl, rfl, Nat.le_refl _, fun _ _ => rfl⟩
    have RA : Rfa ((w9.setCell ⟨gb, k * 4 + 2, none⟩ (.bool true)).setCell ⟨gb, k * 4 + 3, none⟩ (.slice (some ⟨W6.heap.size, 0, none⟩) zz zz)).drew W.heap.size bv' ls' (vs'.set k (.slice (some ⟨W6.heap.size, 0, none⟩) zz zz)) { M with R := M.R.set k { b with t := true, ws := List.replicate zz 0 } } := by rw [← e11]; exact R11.later (w' := ((w9.setCell ⟨gb, k * 4 + 2, none⟩ (.bool true)).setCell ⟨gb, k * 4 + 3, none⟩ (.slice (some ⟨W6.heap.size, 0, none⟩) zz zz)).drew) ⟨rfl, rfl, rfl, Nat.le_refl _, fun _ _ => rfl⟩
    obtain ⟨WA, hWA⟩ : ∃ WA, ((w9.setCell ⟨gb, k * 4 + 2, none⟩ (.bool true)).setCell ⟨gb, k * 4 + 3, none⟩ (.slice (some ⟨W6.heap.size, 0, none⟩) zz zz)).drew = WA := ⟨_, rfl⟩
    rw [hWA] at bxA kA IA RA ⊢
    clear hWA hmo9 hmoA hfr R10 R11 B9 c1' c2 c3 f2 f3
    have cA : WA.cell? ⟨W'.heap.size, 2 + c, none⟩ = some (.slice (some ⟨ga, oa, none⟩) (r.length + 1) ca) := (bxA.cell _).trans (by rw [M.vals_l _ _ hc]; exact congrArg some HS.out.2.2.2.2.2.2.2.1)
    have fA := bxA.free (2 + c)
    have RB := (Blks.farI RA bxA (2 + c) (.slice (some ⟨ga, oa + 1, none⟩) r.length (ca - 1))).list (c := c) hc (IA.far bxA (by decide) _ _) HFL.out
    have bxB := bxA.set (2 + c) (.slice (some ⟨ga, oa + 1, none⟩) r.length (ca - 1))
    rw [M.vals_setL bv' ls' hc (upd M.L c r)] at bxB
    have kB := kA.setCell (p := ⟨W'.heap.size, 2 + c, none⟩) (by have := HB6.out.2.size; show _ ≤ W'.heap.size; omega) (.slice (some ⟨ga, oa + 1, none⟩) r.length (ca - 1))
    obtain ⟨hsB, hbk, hans⟩ := HF.out.ans (RB.later (w' := (WA.setCell ⟨W'.heap.size, 2 + c, none⟩ (.slice (some ⟨ga, oa + 1, none⟩) r.length (ca - 1))).drew) ⟨rfl, rfl, rfl, Nat.le_refl _, fun _ _ => rfl⟩) (below_drewN kB 1)
    have hlB := lra bxB rfl
    obtain ⟨V4, hV4⟩ : ∃ V4, ({ M with L := upd M.L c r } : Mo).vals bv' (upd ls' c (.slice (some ⟨ga, oa + 1, none⟩) r.length (ca - 1))) = V4 := ⟨_, rfl⟩
    have e4 : ({ M with R := M.R.set k { b with t := true, ws := List.replicate zz 0 }, L := upd M.L c r } : Mo).vals bv' (upd ls' c (.slice (some ⟨ga, oa + 1, none⟩) r.length (ca - 1))) = V4 := hV4
    rw [hV4] at hlB
    rw [e4] at hsB
    have hsB : (storeSem 36 (.pointer (some ⟨w.heap.size + 1, 0, none⟩)) (.agg V4)).run Try.prog (WA.setCell ⟨W'.heap.size, 2 + c, none⟩ (.slice (some ⟨ga, oa + 1, none⟩) r.length (ca - 1))).drew = .ok () ((WA.setCell ⟨W'.heap.size, 2 + c, none⟩ (.slice (some ⟨ga, oa + 1, none⟩) r.length (ca - 1))).drew.setRow (w.heap.size + 1) V4) := hsB
    have hBB : Bx (WA.setCell ⟨W'.heap.size, 2 + c, none⟩ (.slice (some ⟨ga, oa + 1, none⟩) r.length (ca - 1))) (WA.setCell ⟨W'.heap.size, 2 + c, none⟩ (.slice (some ⟨ga, oa + 1, none⟩) r.length (ca - 1))) W'.heap.size W.heap.size bv' (upd ls' c (.slice (some ⟨ga, oa + 1, none⟩) r.length (ca - 1))) (vs'.set k (.slice (some ⟨W6.heap.size, 0, none⟩) zz zz)) { M with R := M.R.set k { b with t := true, ws := List.replicate zz 0 }, L := upd M.L c r } := ⟨Below.refl _ _, bxB, RB⟩
    obtain ⟨gb9, cb9, gw9, cw9, hbv9, _, d1, d0, _⟩ := hBB.blk (k := k) (b := { b with t := true, ws := List.replicate zz 0 }) (by show (M.R.set k _)[k]? = _; rw [List.getElem?_set]; simp [hk])
    have e1 : gb = gb9 ∧ cb = cb9 := by
      rw [hbv] at hbv9
      injection hbv9 with e1 _ e2
      injection e1 with e1
      injection e1 with e1 _
      exact ⟨e1, e2⟩
    obtain ⟨rfl, rfl⟩ := e1
    clear hbv9
    have hlen9 : (M.R.set k { b with t := true, ws := List.replicate zz 0 }).length = n := by rw [List.length_set]; exact hnn
    have d1' : (WA.setCell ⟨W'.heap.size, 2 + c, none⟩ (.slice (some ⟨ga, oa + 1, none⟩) r.length (ca - 1))).cell? ⟨W'.heap.size, 1, none⟩ = some (.slice (some ⟨gb, 0, none⟩) n cb) := by rw [← hlen9]; exact d1
    have h13 : V4.size = 13 := by rw [← hV4]; rfl
    have HB := Lib.hid (And.intro hbk (And.intro hans (And.intro e4 (And.intro h13 hzz))))
    obtain ⟨WB, hWB⟩ : ∃ WB, WA.setCell ⟨W'.heap.size, 2 + c, none⟩ (.slice (some ⟨ga, oa + 1, none⟩) r.length (ca - 1)) = WB := ⟨_, rfl⟩
    rw [hWB] at hsB hlB d1' d0 HB
    have d0' : WB.cell? ⟨gb, k * 4, none⟩ = some (.int .i64 (b.x : Int)) := d0
    have hlBd : (loadSem 36 (.pointer (some ⟨W'.heap.size, 0, none⟩))).run Try.prog WB.drew = .ok (.agg V4) WB.drew := by rw [← hWB, ← hV4]; exact lra bxB.drew rfl
    have hzl := HF.out.zb.lt
    have hgg := (HB9.out.2.1.lt gb rfl).1
    have hwg : W.heap.size ≤ W'.heap.size := HB6.out.2.size
    have p1 : (WB.drew.setRow (w.heap.size + 1) V4).cell? ⟨W'.heap.size, 1, none⟩ = some (.slice (some ⟨gb, 0, none⟩) n cb) := (World.cell?_of_block (setRow_other WB.drew (w.heap.size + 1) _ V4 (by show W'.heap.size ≠ _; omega))).trans d1'
    have p0 : (WB.drew.setRow (w.heap.size + 1) V4).cell? ⟨gb, k * 4, none⟩ = some (.int .i64 (b.x : Int)) := (World.cell?_of_block (setRow_other WB.drew (w.heap.size + 1) _ V4 (by show gb ≠ _; omega))).trans d0'
    clear hbk hans hV4 e4 hBB d1 d0 hlen9 h13 RB bxB kB RA bxA kA IA hnn hzl hgg hwg
    go_wp2_with fail
    go_region
    have h1 := HB.out.1
    have h2 := HB.out.2.1
    rw [HB.out.2.2.1] at h1 h2
    have H12 := Lib.hid (And.intro h1 (And.intro h2 HB.out.2.2.2.1))
    clear h1 h2
    go_wp2
    refine bodyPost_ret (results_ra3 rfl _ _ (w.heap.size + 1) V4 rfl H12.out.1 H12.out.2.2) rfl ?_
    refine ⟨_, rfl, ?_⟩
    first | exact H12.out.2.1 | (rw [HB.out.2.2.2.2]; exact H12.out.2.1) | (rw [show 2 ^ c = zz from hzz]; exact H12.out.2.1)
end
end Go.Proofs.Ytgnpoehcmlmajaa
namespace Go.Proofs.Ytgnpoehcmlmajaa
open Go.RowKit Go.Shelf
set_option linter.unusedVariables false
attribute [local go_sem ↓] load_ra_rule store_ra_rule load_rb_rule store_rb_rule load_piece_rule build_pcs_rule
def Rb.bl (b : Rb) : Bl := ⟨b.x, b.c, b.t⟩
def Mo.B (M : Mo) : List Bl := M.R.map Rb.bl
section
variable {w W W' : World} {g z lo : Nat} {bv : Value} {ls : Nat → Value} {vs : List Value} {M : Mo}
theorem ofT_snoc (t : Bool) (L : List Bl) (b : Bl) : ofT t (L ++ [b]) = if b.t = t then ofT t L ++ [b] else ofT t L := by
  simp only [ofT, List.filter_append]
  by_cases h : b.t = t <;> simp [h]
theorem take_bl {R : List Rb} {k : Nat} {b : Rb} (hb : R[k]? = some b) : (R.map Rb.bl).take (k + 1) = (R.map Rb.bl).take k ++ [b.bl] := by
  have : (R.map Rb.bl)[k]? = some b.bl := by simp [hb]
  obtain ⟨hk, he⟩ := List.getElem?_eq_some_iff.1 this
  rw [← he]
  exact List.take_succ_eq_append_getElem hk
set_option maxRecDepth 100000 in
set_option maxHeartbeats 2000000 in
theorem rpieces_any (h : Rfa w lo bv ls vs M) (t : Bool) : Calls Try.prog 33 #[.agg (M.vals bv ls), .bool t] w fun e w' => ∃ v, e = .returned v ∧ w'.ownsRow w.heap.size 86 2 v (ofT t M.B).length (pcl (ofT t M.B)) ∧ Below w.heap.size w w' := by
  have hB := bx_new h
  obtain ⟨i0, hi, hz0, hz1, hz2⟩ := info_parts i_piece
  obtain ⟨W1, hW1⟩ : ∃ W1, w.alloc (.cells (M.vals bv ls) 36) = W1 := ⟨_, rfl⟩
  rw [hW1] at hB
  obtain ⟨a, c, hbv⟩ := owns_sl h.row
  have c1 := hB.c1
  rw [hbv] at c1
  have hfew := h.few
  obtain ⟨n, hn⟩ : ∃ n, M.R.length = n := ⟨_, rfl⟩
  rw [hn] at c1 hfew
  have HB := Lib.hid (And.intro hB (And.intro hbv (And.intro hn h)))
  clear hB h hbv hn
  generalize hVV : M.vals bv ls = V at *
  clear hVV
  go_enter Try.func33, Try.ntmps33
  go_wp2_with fail
  clear hW1 c1
  go_loopw [5, 11] (fun o i wr => ∃ k : Nat, k ≤ n ∧ i = .int .i64 k ∧ wr.ownsRow w.heap.size 86 2 o (ofT t (M.B.take k)).length (pcl (ofT t (M.B.take k))) ∧ Below w.heap.size w wr) (fun _ i _ => n - (intOf i).toNat)
  case atStart => exact ⟨0, Nat.zero_le _, rfl, World.ownsRow_nil _ _ _ _, HB.out.1.hb⟩
  case round =>
    obtain ⟨k, hk, rfl, how, hbe⟩ := hrel
    by_cases hlt : k < n
    · have hR := HB.out.2.2.2.later hbe
      obtain ⟨b, hb⟩ : ∃ b, M.R[k]? = some b := ⟨_, List.getElem?_eq_getElem (by rw [HB.out.2.2.1]; exact hlt)⟩
      obtain ⟨v, hv⟩ := hR.v_get hb
      obtain ⟨gb, c', hbv', _⟩ := owns_cell hR.row (by rw [HB.out.2.2.1]; omega)
      rw [HB.out.2.1, HB.out.2.2.1] at hbv'
      cases hbv'
      have hrow := hR.row
      rw [HB.out.2.1] at hrow
      obtain ⟨_, hl⟩ := lrow hrow hb hv (by rw [HB.out.2.2.1]; exact hlt)
      have hki : (k : Int) < (n : Int) := by omega
      have hcs : (b.cs v).size = 4 := rfl
      have hst := srb_new wr hcs (hR.cs_one hb hv)
      have b4 := Blk.new wr 84 (b.cs v)
      have e0 : (wr.alloc (.cells (b.cs v) 84)).cell? ⟨wr.heap.size, 0, none⟩ = some (.int .i64 (b.x : Int)) := b4.cell 0
      have e1 : (wr.alloc (.cells (b.cs v) 84)).cell? ⟨wr.heap.size, 1, none⟩ = some (.int .i64 (b.c : Int)) := b4.cell 1
      have e2 : (wr.alloc (.cells (b.cs v) 84)).cell? ⟨wr.heap.size, 2, none⟩ = some (.bool b.t) := b4.cell 2
      have how4 := how.alloc (.cells (b.cs v) 84)
      have hbe4 := hbe.alloc hbe.size (.cells (b.cs v) 84)
      have hs4 : (wr.alloc (.cells (b.cs v) 84)).heap.size = wr.heap.size + 1 := by simp
      have hlen : (ofT t (M.B.take k)).length ≤ 20000 := by
        have h1 := ofT_len t (M.B.take k)
        have h2 : (M.B.take k).length ≤ k := by simp; omega
        omega
      obtain ⟨m, hm⟩ : ∃ m, (ofT t (M.B.take k)).length = m := ⟨_, rfl⟩
      rw [hm] at how4 hlen
      obtain ⟨xs, hxs⟩ : ∃ xs, pcl (ofT t (M.B.take k)) = xs := ⟨_, rfl⟩
      rw [hxs] at how4
      have htk : M.B.take (k + 1) = M.B.take k ++ [b.bl] := take_bl hb
      obtain ⟨W4, hW4⟩ : ∃ W4, wr.alloc (.cells (b.cs v) 84) = W4 := ⟨_, rfl⟩
      rw [hW4] at how4 hbe4 e0 e1 e2 hst hs4
      have HX := Lib.hid (And.intro hb (And.intro hbe4 (And.intro hm (And.intro hxs (And.intro htk hbe)))))
      clear hb hv hrow hR how hbe b4 htk hbe4
      obtain ⟨V4, hV4⟩ : ∃ V4, b.cs v = V4 := ⟨_, rfl⟩
      rw [hV4] at hl hst hcs hW4
      clear hV4
      by_cases hbt : b.t = t
      · have dt : (b.t == t) = true := by simpa using hbt
        have hbs : (buildPcs 1 #[(0, .agg #[.int .i64 (b.x : Int), .int .i64 (b.c : Int)])]).run Try.prog W4 = .ok (.slice (some ⟨W4.heap.size, 0, none⟩) 1 1) (W4.alloc (.cells #[.int .i64 (b.x : Int), .int .i64 (b.c : Int)] 86)) := bs_piece b.bl W4
        have how5 := how4.alloc (.cells #[.int .i64 (b.x : Int), .int .i64 (b.c : Int)] 86)
        have hbb : w.heap.size ≤ (W4.alloc (.cells #[.int .i64 (b.x : Int), .int .i64 (b.c : Int)] 86)).heap.size := by have := HX.out.2.1.size; simp; omega
        have hn5 : ∀ j u, [Value.int .i64 (b.x : Int), .int .i64 (b.c : Int)][j]? = some u → (W4.alloc (.cells #[.int .i64 (b.x : Int), .int .i64 (b.c : Int)] 86)).cell? ((⟨W4.heap.size, 0, none⟩ : Addr).add j) = some u := fun j u hj => by
          rw [Addr.add_lit, Nat.zero_add, (Blk.new W4 86 _).cell]
          simpa using hj
        clear hs4
        go_wp2_with (at_builtin; refine wpList_append_own _ rfl _ _ 75 rfl w.heap.size 86 i0 (.agg (pccs Bl.zero)) 2 16 Try.underlying75 hi hz0 hz1 hz2 rfl (by decide) _ _ _ rfl how5 ⟨W4.heap.size, 0, none⟩ 1 1 [.int .i64 (b.x : Int), .int .i64 (b.c : Int)] rfl rfl hn5 (by simp [Value.oneCell']) (by unfold maxLen; omega) (by omega) hbb ?_)
        intro v' w6 how6 hg6 _
        have hb6 := (HX.out.2.1.alloc HX.out.2.1.size (.cells #[.int .i64 (b.x : Int), .int .i64 (b.c : Int)] 86)).grown hg6 hbb (fun j hj => (how5.lt j hj).1)
        have HY := Lib.hid (And.intro how6 hb6)
        clear how6 hg6 hb6 how5 how4
        go_wp2_with fail
        go_roundw
        case rel =>
          refine ⟨k + 1, by omega, by go_num, ?_, HY.out.2⟩
          rw [HX.out.2.2.2.2.1, ofT_snoc, if_pos (show b.bl.t = t from hbt), pcl_snoc, List.length_append, HX.out.2.2.1, HX.out.2.2.2.1]
          exact HY.out.1
        case measure => simp [intOf]; omega
      · have dt : (b.t == t) = false := by simpa using hbt
        have HY := Lib.hid how4
        clear how4
        go_wp2_with fail
        go_roundw
        case rel =>
          refine ⟨k + 1, by omega, by go_num, ?_, HX.out.2.1⟩
          rw [HX.out.2.2.2.2.1, ofT_snoc, if_neg (show ¬ b.bl.t = t from hbt), HX.out.2.2.1, HX.out.2.2.2.1]
          exact HY.out
        case measure => simp [intOf]; omega
    · obtain rfl : k = n := by omega
      have hall : M.B.take k = M.B := List.take_of_length_le (by have := HB.out.2.2.1; simp [Mo.B]; omega)
      rw [hall] at how
      have HZ := Lib.hid (And.intro how hbe)
      clear how hbe hall
      go_wp2_with fail
      go_ret
      exact ⟨_, rfl, HZ.out.1, HZ.out.2⟩
end
end Go.Proofs.Ytgnpoehcmlmajaa
namespace Go.Proofs.Ytgnpoehcmlmajaa
open Go.RowKit Go.Shelf
set_option linter.unusedVariables false
theorem lpiece {w : World} {B g n c : Nat} {L : List Bl} (h : w.ownsRow B 86 2 (.slice (some ⟨g, 0, none⟩) n c) n (pcl L)) {k : Nat} {b : Bl} (hb : L[k]? = some b) (hk : k < n) : (loadSem 86 (.pointer (some ⟨g, k * 2, none⟩))).run Try.prog w = .ok (.agg (pccs b)) w := by
  have hc : ∀ j, j < 2 → w.cell? ⟨g, k * 2 + j, none⟩ = (pccs b)[j]? := fun j hj => by
    rw [h.cellAt (k * 2 + j) (by omega), pcl_get hb hj]
  have := run_loadAt_mid (P := Try.prog) w g (k * 2) 86 (pccs b).toList _ (fun j u hj => by
    have hl : j < 2 := (List.getElem?_eq_some_iff.1 hj).1
    rw [hc j hl]; simpa using hj) Try.underlying86 rfl (by exact s_piece b)
  exact this
theorem own_drewN {w : World} {B : Nat} {e : TypeId} {z : Nat} {v : Value} {n : Nat} {xs : List Value} (h : w.ownsRow B e z v n xs) (m : Nat) : (w.drewN m).ownsRow B e z v n xs := owns_later h (below_drewN (Below.refl _ _) m)
section
attribute [local go_sem ↓] load_piece_rule
variable {w : World} {B B' : Nat}
set_option maxRecDepth 100000 in
set_option maxHeartbeats 2000000 in
theorem samep_any {va vb : Value} {L : List Bl} (hL : L.length ≤ 20000) (ha : w.ownsRow B 86 2 va L.length (pcl L)) (hb : w.ownsRow B' 86 2 vb L.length (pcl L)) : Calls Try.prog 32 #[va, vb] w fun e w' => e = .returned (.bool true) ∧ ∃ n, w' = w.drewN n := by
  obtain ⟨n, hn⟩ : ∃ n, L.length = n := ⟨_, rfl⟩
  obtain ⟨aa, ca, rfl⟩ := owns_sl ha
  obtain ⟨ab, cb, rfl⟩ := owns_sl hb
  have HA := Lib.hid (And.intro ha hb)
  clear ha hb
  rw [hn] at hL ⊢
  go_enter Try.func32, Try.ntmps32
  go_wp2_with fail
  go_loopw [13] (fun i wr => ∃ k m : Nat, k ≤ n ∧ i = .int .i64 k ∧ wr = w.drewN m) (fun i _ => n - (intOf i).toNat)
  case atStart => exact ⟨0, 0, Nat.zero_le _, rfl, rfl⟩
  case round =>
    obtain ⟨k, m, hk, rfl, rfl⟩ := hrel
    by_cases hlt : k < n
    · obtain ⟨b, hb⟩ : ∃ b, L[k]? = some b := ⟨_, List.getElem?_eq_getElem (by omega)⟩
      obtain ⟨ga, ca', hva, _⟩ := owns_cell HA.out.1 (by omega)
      obtain ⟨gb, cb', hvb, _⟩ := owns_cell HA.out.2 (by omega)
      rw [hn] at hva hvb
      cases hva
      cases hvb
      have h1 := HA.out.1
      have h2 := HA.out.2
      rw [hn] at h1 h2
      have la : ∀ j, (loadSem 86 (.pointer (some ⟨ga, k * 2, none⟩))).run Try.prog ((w.drewN m).drewN j) = .ok (.agg (pccs b)) ((w.drewN m).drewN j) := fun j => lpiece (own_drewN (own_drewN h1 m) j) hb hlt
      have lb : ∀ j, (loadSem 86 (.pointer (some ⟨gb, k * 2, none⟩))).run Try.prog ((w.drewN m).drewN j) = .ok (.agg (pccs b)) ((w.drewN m).drewN j) := fun j => lpiece (own_drewN (own_drewN h2 m) j) hb hlt
      have hki : (k : Int) < (n : Int) := by omega
      have HW : Hid (∀ j, ∃ m', (w.drewN m).drewN j = w.drewN m') := Lib.hid fun j => ⟨m + j, by simp [World.drewN, Nat.add_assoc]⟩
      clear h1 h2 hb
      unfold pccs at la lb
      generalize w.drewN m = W at *
      go_wp2_with fail
      go_quiet (fail)
      go_wp2_with fail
      go_roundw
      case rel =>
        obtain ⟨m', hm'⟩ := HW.out nq
        exact ⟨k + 1, m', by omega, by go_num, hm'⟩
      case measure => simp [intOf]; omega
    · obtain rfl : k = n := by omega
      go_wp2_with fail
      go_ret
      exact ⟨rfl, _, rfl⟩
end
section
attribute [local go_sem ↓] load_ra_rule store_ra_rule load_rb_rule store_rb_rule
variable {w W W' : World} {g z lo : Nat} {bv : Value} {ls : Nat → Value} {vs : List Value} {M : Mo}
set_option maxRecDepth 100000 in
set_option maxHeartbeats 2000000 in
theorem rnext_any (h : Rfa w lo bv ls vs M) (b : Rb) (v : Value) (hc : b.c ≤ 5) {l1 r : List Nat} (hl : M.L b.c = l1 ++ b.x :: r) (hx : b.x ∉ l1) (hbd : ∀ y ∈ r, y < 4294967296) : Calls Try.prog 79 #[.agg (M.vals bv ls), .agg (b.cs v)] w fun e w' => e = .returned (.int .u32 ((r.headD 0 : Nat) : Int)) ∧ Below w.heap.size w w' := by
  have hB := bx_new h
  obtain ⟨W1, hW1⟩ : ∃ W1, w.alloc (.cells (M.vals bv ls) 36) = W1 := ⟨_, rfl⟩
  rw [hW1] at hB
  have hs1 : W1.heap.size = w.heap.size + 1 := by rw [← hW1]; simp
  obtain ⟨W2, hW2⟩ : ∃ W2, W1.alloc (.cells (b.cs v) 84) = W2 := ⟨_, rfl⟩
  have B2 : Bx w W2 w.heap.size lo bv ls vs M := by rw [← hW2]; exact hB.later ((Below.refl _ _).alloc (Nat.le_refl _) _)
  have bk : Blk W2 (w.heap.size + 1) 84 (b.cs v) := by rw [← hW2, ← hs1]; exact Blk.new _ _ _
  have k0 : W2.cell? ⟨w.heap.size + 1, 0, none⟩ = some (.int .i64 (b.x : Int)) := bk.cell 0
  have k1 : W2.cell? ⟨w.heap.size + 1, 1, none⟩ = some (.int .i64 (b.c : Int)) := bk.cell 1
  have cl := B2.cl hc
  have hI := B2.rf.lst b.c hc
  have hfl := h.fewl b.c hc
  obtain ⟨n, hn⟩ : ∃ n, (M.L b.c).length = n := ⟨_, rfl⟩
  have hn2 : n = l1.length + 1 + r.length := by rw [← hn, hl]; simp; omega
  obtain ⟨al, ca, hIl, hca, han, hIr⟩ := id hI
  obtain ⟨ga, oa, Ca, hal, hga, hbka, hcela⟩ : ∃ g o C, al = some ⟨g, o, none⟩ ∧ lo ≤ g ∧ Blk W2 g 3 C ∧ ∀ (i : Nat) (u : Value), (ivl (M.L b.c))[i]? = some u → C[o + i]? = some u := by
    rcases hIr with h9 | h9
    · rw [hl] at h9; simp at h9
    · exact h9
  subst hal
  rw [hIl, hn] at cl
  rw [hn] at hfl
  have hcel : ∀ (k y : Nat), (M.L b.c)[k]? = some y → W2.cell? ⟨ga, oa + k, none⟩ = some (.int .i64 (y : Int)) := fun k y hy => (hbka.cell (oa + k)).trans (hcela k _ (by simp [ivl, hy]))
  have HB := Lib.hid (And.intro hcel (And.intro hl (And.intro hx (And.intro hbd B2.hb))))
  clear hI hIl han hIr hcela hbka hcel hl hx hbd B2 bk hB h hca
  have hc6 : (b.c : Int) < 6 := by omega
  obtain ⟨V, hV⟩ : ∃ V, M.vals bv ls = V := ⟨_, rfl⟩
  rw [hV] at hW1 ⊢
  clear hV
  obtain ⟨V4, hV4⟩ : ∃ V4, b.cs v = V4 := ⟨_, rfl⟩
  rw [hV4] at hW2 ⊢
  clear hV4 hn
  go_enter Try.func79, Try.ntmps79
  go_wp2_with fail
  clear hW1 hW2 cl k1 hs1
  go_loopw [15] (fun i wr => ∃ k : Nat, k ≤ n ∧ i = .int .i64 k ∧ (k ≤ l1.length ∨ r = []) ∧ wr = W2) (fun i _ => n - (intOf i).toNat)
  case atStart => exact ⟨0, Nat.zero_le _, rfl, .inl (Nat.zero_le _), rfl⟩
  case round =>
    obtain ⟨k, hk, rfl, hor, rfl⟩ := hrel
    by_cases hlt : k < n
    · have hki : (k : Int) < (n : Int) := by omega
      have hkl : k ≤ l1.length := by
        rcases hor with h9 | h9
        · exact h9
        · subst h9; simp at hn2; omega
      obtain ⟨y, hy⟩ : ∃ y, (M.L b.c)[k]? = some y := ⟨_, List.getElem?_eq_getElem (by rw [HB.out.2.1]; simp; omega)⟩
      have ck := HB.out.1 k y hy
      have hy9 := hy
      rw [HB.out.2.1] at hy9
      rcases Nat.lt_or_ge k l1.length with hk1 | hk1
      · rw [List.getElem?_append_left hk1] at hy9
        have hne : y ≠ b.x := fun e => HB.out.2.2.1 (by rw [← e]; exact List.mem_of_getElem? hy9)
        have dx : ((y : Int) == (b.x : Int)) = false := by simp; omega
        clear hy hy9 hor
        go_wp2_with fail
        go_roundw
        case rel => exact ⟨k + 1, by omega, by go_num, .inl (by omega), by trivial⟩
        case measure => simp [intOf]; omega
      · obtain rfl : k = l1.length := by omega
        rw [List.getElem?_append_right (Nat.le_refl _), Nat.sub_self] at hy9
        obtain rfl : b.x = y := by simpa using hy9
        have dx : ((b.x : Int) == (b.x : Int)) = true := by simp
        cases r with
        | nil =>
          have hnk : ¬ ((l1.length : Int) + 1 < (n : Int)) := by simp at hn2; omega
          clear hy hy9 hor
          go_wp2_with fail
          go_roundw
          case rel => exact ⟨l1.length + 1, by omega, by go_num, by simp, by trivial⟩
          case measure => simp [intOf]; omega
        | cons y2 r2 =>
          have hnk : (l1.length : Int) + 1 < (n : Int) := by simp at hn2; omega
          have ck2 := HB.out.1 (l1.length + 1) y2 (by rw [HB.out.2.1, List.getElem?_append_right (by omega)]; simp)
          have hlt2 : y2 < 4294967296 := HB.out.2.2.2.1 y2 (by simp)
          have hw2 : IntKind.u32.wrap (y2 : Int) = (y2 : Int) := by
            unfold IntKind.wrap
            simp [IntKind.bits, IntKind.signed]
            omega
          have ck2' : wr.cell? ⟨ga, oa + (l1.length + 1), none⟩ = some (.int .i64 (y2 : Int)) := ck2
          clear hy hy9 hor ck2
          go_wp2_with fail
          go_ret
          exact ⟨ret_int (by simp), HB.out.2.2.2.2⟩
    · obtain rfl : k = n := by omega
      have hr : r = [] := by
        rcases hor with h9 | h9
        · omega
        · exact h9
      subst hr
      clear hor
      go_wp2_with fail
      go_ret
      exact ⟨rfl, HB.out.2.2.2.2⟩
end
end Go.Proofs.Ytgnpoehcmlmajaa
