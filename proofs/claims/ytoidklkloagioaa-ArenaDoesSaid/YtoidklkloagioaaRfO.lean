/-
  The document's arena: a free block taken. Nothing here is a statement of the document.
-/
import Derived.Test.YtoidklkloagioaaRfN
namespace Go.Proofs.Ytoidklkloagioaa
open Go.RowKit Go.Shelf
set_option linter.unusedVariables false
attribute [local go_sem ↓] load_ra_rule store_ra_rule load_rb_rule store_rb_rule
section
variable {w W W' : World} {g z lo : Nat} {bv : Value} {ls : Nat → Value} {vs : List Value} {M : Mo}
set_option maxRecDepth 100000 in
set_option maxHeartbeats 2000000 in
theorem ralloc_list (h : Rfa w lo bv ls vs M) (c : Nat) (hc : c ≤ 5) {k : Nat} {b : Rb} {r : List Nat} (hL : M.L c = b.x :: r) (hb : M.R[k]? = some b) (hbc : b.c = c) : Calls Try.prog 22 #[.agg (M.vals bv ls), .int .i64 (c : Int)] w fun e w' => ∃ u, e = .returned (.tuple #[u, .int .i64 (b.x : Int), .int .i64 0]) ∧ Ans w w' u { M with R := M.R.set k { b with t := true, ws := List.replicate (2 ^ c) 0 }, L := upd M.L c r } := by
  obtain ⟨W, hW, F⟩ := fr_new h
  have hl := F.bx.ld
  have hcp := rcopy_any F.bx.rf
  have hfewl := h.fewl c hc
  have hfew := h.few
  have hok := h.ok b (List.mem_of_getElem? hb)
  have HF := Lib.hid F
  clear F h
  have hp := pow5 hc
  have hsi := fun w => rsize_any c hc w
  obtain ⟨V, hV⟩ : ∃ V, M.vals bv ls = V := ⟨_, rfl⟩
  rw [hV] at hW hl hcp ⊢
  have HV := Lib.hid hV
  clear hV
  have hc0 : ¬ ((c : Int) < 0) := by omega
  have hc5 : ¬ (5 < (c : Int)) := by omega
  have hc6 : (c : Int) < 6 := by omega
  go_enter Try.func22, Try.ntmps22
  go_wp2_with fail
  refine hcp.mono ?_
  rintro e9 W' ⟨bv', ls', vs', rfl, hR, hb3⟩
  have hst := sra_new W' (M.vals_size bv' ls') hR.vals_one
  obtain ⟨W6, hW6⟩ : ∃ W6, W'.alloc (.cells (M.vals bv' ls') 36) = W6 := ⟨_, rfl⟩
  have B6 : Bx W' W6 W'.heap.size W.heap.size bv' ls' vs' M := by rw [← hW6]; exact bx_new hR
  rw [hW6] at hst
  clear hcp hl
  have HB6 := Lib.hid (And.intro B6 hb3)
  obtain ⟨V3, hV3⟩ : ∃ V3, M.vals bv' ls' = V3 := ⟨_, rfl⟩
  rw [hV3] at hst hW6 ⊢
  have HV3 := Lib.hid hV3
  clear hR hb3 B6 hV3
  go_wp2_with fail
  refine (hsi W6).mono ?_
  rintro e8 _ ⟨rfl, rfl⟩
  obtain ⟨hmk, hmo⟩ := mk32 W6 (2 ^ c) (by omega)
  obtain ⟨W7, hW7⟩ : ∃ W7, W6.alloc (.cells (wcs (List.replicate (2 ^ c) 0)) 53) = W7 := ⟨_, rfl⟩
  have k7 : Below W6.heap.size W6 W7 := by rw [← hW7]; exact (Below.refl _ _).alloc (Nat.le_refl _) _
  rw [hW7] at hmk hmo
  clear hst hW6 hW7
  have B7 := HB6.out.1.later k7
  have hsz6 : W'.heap.size < W6.heap.size := HB6.out.1.bx.lt
  have cl := B7.cl hc
  have hI := B7.rf.lst c hc
  obtain ⟨al, ca, hIl, hca, han, hIr⟩ := id hI
  obtain ⟨ga, oa, Ca, hal, hga, hbka, hcela⟩ : ∃ g o C, al = some ⟨g, o, none⟩ ∧ W.heap.size ≤ g ∧ Blk W7 g 3 C ∧ ∀ (i : Nat) (u : Value), (ivl (M.L c))[i]? = some u → C[o + i]? = some u := by
    rcases hIr with h9 | h9
    · rw [hL] at h9; cases h9
    · exact h9
  subst hal
  have hlen : (M.L c).length = r.length + 1 := by rw [hL]; rfl
  rw [hlen] at hIl hca hfewl
  have HFL := Lib.hid (show r.length ≤ 20000 by omega)
  rw [hIl] at cl
  have ca0 : W7.cell? ⟨ga, oa, none⟩ = some (.int .i64 (b.x : Int)) := (hbka.cell oa).trans (by have := hcela 0 _ (by rw [hL]; rfl); rwa [Nat.add_zero] at this)
  obtain ⟨gb, cb, gw, cw, hbv, hvk, c1, _, _, c2, c3, _, hk⟩ := B7.blk hb
  have hrow7 := B7.rf.row
  rw [hbv] at hrow7
  obtain ⟨Cb, hCb⟩ := own_has hrow7
  have hgb := hCb.lt
  have hgal := hbka.lt
  have f2 := hCb.free (k * 4 + 2)
  have f3 := hCb.free (k * 4 + 3)
  -- what stays while others look
  obtain ⟨S, hS⟩ : ∃ S : World → Prop, S = fun w' => Below W7.heap.size W7 w' := ⟨_, rfl⟩
  have hSb : ∀ w', S w' → Below W7.heap.size W7 w' := fun w' h' => by rw [hS] at h'; exact h'
  have hSs : ∀ w', Below W7.heap.size W7 w' → S w' := fun w' h' => by rw [hS]; exact h'
  have q0 : ∀ w', S w' → w'.cell? ⟨ga, oa, none⟩ = some (.int .i64 (b.x : Int)) := fun w' h' => (World.cell?_of_block ((hSb w' h').block ga hgal)).trans ca0
  have ql : ∀ w', S w' → (loadSem 36 (.pointer (some ⟨W'.heap.size, 0, none⟩))).run Try.prog w' = .ok (.agg V3) w' := fun w' h' => by rw [← HV3.out]; exact (B7.later (hSb w' h')).ld
  have qt : ∀ w', S w' → Calls Try.prog 49 #[.agg V3, .int .i64 (b.x : Int)] w' fun e w'' => e = .returned (.int .i64 (k : Int)) ∧ S w'' := fun w' h' => by
    rw [← HV3.out]
    exact (rat_yes (B7.later (hSb w' h')).rf hb).mono fun e w'' ⟨h1, h2⟩ => ⟨h1, hSs _ (bel_later (hSb w' h') h2)⟩
  have hS0 : S W7.drew := hSs _ ⟨rfl, rfl, rfl, Nat.le_refl _, fun _ _ => rfl⟩
  have HS := Lib.hid (And.intro hSb (And.intro B7 (And.intro hmo (And.intro k7 (And.intro hbv (And.intro hvk (And.intro hI (And.intro hIl (And.intro hcela (And.intro hbka hga))))))))))
  have hS0' := hS0
  clear hS hSs hSb B7 hmo k7 hvk hI hIr hcela hbka hga hrow7 hCb ca0 c1 c2 c3 f2 f3 hgb hgal
  have hrn : ((r.length : Int) + 1) > 0 := by omega
  generalize hnn : M.R.length = n at *
  generalize hzz : 2 ^ c = zz at *
  go_wp2_with fail
  refine wp_region_linB S [] [0, 1, 2, 3, 4, 5] (by kernel_rfl) (by kernel_rfl) hS0 ?_
  (repeat (first | (refine linB_off rfl rfl (by rfl) ?_; (try simp only [Act.put, List.getElem_toArray, List.getElem_cons_zero, List.getElem_cons_succ, List.setIfInBounds_toArray, List.set_cons_zero, List.set_cons_succ])) | (refine linB_op (v := ?_) rfl rfl (by rfl) (fun w9 hS9 => ?_) ?_; rotate_left; (focus ((have k0 := q0 w9 hS9; have k1 := ql w9 hS9; (try dsimp only at hS9); go_simp; (try go_bits)) <;> with_reducible rfl)); (try simp only [Act.put, List.getElem_toArray, List.getElem_cons_zero, List.getElem_cons_succ, List.setIfInBounds_toArray, List.set_cons_zero, List.set_cons_succ])) | (refine linB_fn (f := 49) rfl rfl (by rfl) rfl rfl (enters_of Try.func49 (by kernel_rfl) rfl) (fun w9 hS9 => qt w9 hS9) ?_ ?_; (focus (simp [Act.eval]; done)); (try simp only [Act.put, List.getElem_toArray, List.getElem_cons_zero, List.getElem_cons_succ, List.setIfInBounds_toArray, List.set_cons_zero, List.set_cons_succ]))))
  refine linB_nil (fun w9 hS9 => ?_)
  have k9 := HS.out.1 w9 hS9
  have B9 := HS.out.2.1.later k9
  obtain ⟨gb', cb', gw', cw', hbv', hvk', c1, _, _, c2, c3, _, hk'⟩ := B9.blk hb
  have e1 : gb = gb' ∧ cb = cb' := by
    have h9 := HS.out.2.2.2.2.1
    rw [h9, hnn] at hbv'
    injection hbv' with e1 _ e2
    injection e1 with e1
    injection e1 with e1 _
    exact ⟨e1, e2⟩
  obtain ⟨rfl, rfl⟩ := e1
  clear hbv'
  have hrow9 := B9.rf.row
  rw [HS.out.2.2.2.2.1] at hrow9
  have hrow9' : w9.ownsRow W.heap.size 84 4 (.slice (some ⟨gb, 0, none⟩) n cb) n (rbs M.R vs') := by rw [hnn] at hrow9; exact hrow9
  obtain ⟨Cb, hCb⟩ := own_has hrow9'
  have f2 := hCb.free (k * 4 + 2)
  have f3 := hCb.free (k * 4 + 3)
  have c1' : w9.cell? ⟨W'.heap.size, 1, none⟩ = some (.slice (some ⟨gb, 0, none⟩) n cb) := by rw [hnn] at c1; exact c1
  have HB9 := Lib.hid (And.intro B9 (And.intro hrow9' k9))
  have hki : (k : Int) < (n : Int) := by omega
  clear k9 B9 hrow9 hrow9' hCb c1 q0 ql qt hS0 hS0' hS9 hvk' hk' hmk cl
  go_wp2_with fail
  go_region
  have B9 := HB9.out.1
  have hbv := HS.out.2.2.2.2.1
  have R10 := B9.rf.mark hb hbv true
  have hk := (List.getElem?_eq_some_iff.1 hb).1
  have hb10 : (M.R.set k { b with t := true })[k]? = some { b with t := true } := by rw [List.getElem?_set]; simp [hk]
  have hmo9 : w9.ownsRow W6.heap.size 53 1 (.slice (some ⟨W6.heap.size, 0, none⟩) zz zz) zz (wvl (List.replicate zz 0)) := owns_later HS.out.2.2.1 HB9.out.2.2
  obtain ⟨Cb, hCb⟩ := own_has HB9.out.2.1
  have hmoA := ownk hmo9 ((Kept.refl [gb] w9).setCell (p := ⟨gb, k * 4 + 2, none⟩) (.inl (by simp)) (.bool true)) (fun j hj h9 => by
    obtain rfl : j = gb := by simpa using h9
    exact own_ne_blk hmo9 hCb (by decide) hj.symm)
  have hfr : ∀ v ∈ vs', v.ownBlock ≠ (Value.slice (some ⟨W6.heap.size, 0, none⟩) zz zz).ownBlock := fun v hv => by
    obtain ⟨i, hi9, rfl⟩ := List.mem_iff_getElem.1 hv
    have h6 := HB6.out.1.rf
    have hil : i < M.R.length := by have := h6.len; omega
    have hwi := h6.wds i _ _ (List.getElem?_eq_getElem hil) (List.getElem?_eq_getElem hi9)
    obtain ⟨g, e9, _, hlt9⟩ := own_pos hwi (by have := Nat.pos_of_ne_zero (show 2 ^ (M.R[i]).c ≠ 0 by simp); omega)
    rw [e9]
    intro e
    simp [Value.ownBlock] at e
    omega
  have hge6 : W.heap.size ≤ W6.heap.size := by have := HB6.out.2.size; omega
  have hzb : 2 ^ b.c = zz := by rw [hbc]; exact hzz
  have R11 := R10.fill (v' := .slice (some ⟨W6.heap.size, 0, none⟩) zz zz) hb10 hbv (l := List.replicate zz 0) (by simp [hok.2.1, hzb]) (by show World.ownsRow _ _ _ _ _ (2 ^ b.c) _; rw [hzb]; exact ownsRow_le hmoA hge6) hfr
  have e11 : ({ M with R := (M.R.set k { b with t := true }).set k { b with t := true, ws := List.replicate zz 0 } } : Mo) = { M with R := M.R.set k { b with t := true, ws := List.replicate zz 0 } } := by rw [List.set_set]
  have bxA := ((B9.bx.far (p := ⟨gb, k * 4 + 2, none⟩) (B9.bx.ne hCb (by decide)) (.bool true)).far (p := ⟨gb, k * 4 + 3, none⟩) (B9.bx.ne hCb (by decide)) (.slice (some ⟨W6.heap.size, 0, none⟩) zz zz)).drew
  have kA : Below W.heap.size W ((w9.setCell ⟨gb, k * 4 + 2, none⟩ (.bool true)).setCell ⟨gb, k * 4 + 3, none⟩ (.slice (some ⟨W6.heap.size, 0, none⟩) zz zz)).drew := by
    have hg := (HB9.out.2.1.lt gb rfl).1
    exact below_drewN (((bel_later HB6.out.2 B9.hb).setCell hg _).setCell hg _) 1
  by_cases hca1 : ca = 1
  · have hr0 : r = [] := List.eq_nil_of_length_eq_zero (by omega)
    subst hr0
    subst hca1
    rw [List.length_nil] at *
    have IA : Ints ((w9.setCell ⟨gb, k * 4 + 2, none⟩ (.bool true)).setCell ⟨gb, k * 4 + 3, none⟩ (.slice (some ⟨W6.heap.size, 0, none⟩) zz zz)).drew W.heap.size (.slice (some ⟨ga, oa, none⟩) 0 0) [] := Ints.nil _ _ _ _ (by simp)
    have RA : Rfa ((w9.setCell ⟨gb, k * 4 + 2, none⟩ (.bool true)).setCell ⟨gb, k * 4 + 3, none⟩ (.slice (some ⟨W6.heap.size, 0, none⟩) zz zz)).drew W.heap.size bv' ls' (vs'.set k (.slice (some ⟨W6.heap.size, 0, none⟩) zz zz)) { M with R := M.R.set k { b with t := true, ws := List.replicate zz 0 } } := by rw [← e11]; exact R11.later (w' := ((w9.setCell ⟨gb, k * 4 + 2, none⟩ (.bool true)).setCell ⟨gb, k * 4 + 3, none⟩ (.slice (some ⟨W6.heap.size, 0, none⟩) zz zz)).drew) ⟨rfl, rfl, rfl, Nat.le_refl _, fun _ _ => rfl⟩
    obtain ⟨WA, hWA⟩ : ∃ WA, ((w9.setCell ⟨gb, k * 4 + 2, none⟩ (.bool true)).setCell ⟨gb, k * 4 + 3, none⟩ (.slice (some ⟨W6.heap.size, 0, none⟩) zz zz)).drew = WA := ⟨_, rfl⟩
    rw [hWA] at bxA kA IA RA ⊢
    clear hWA hmo9 hmoA hfr R10 R11 B9 c1' c2 c3 f2 f3
    have cA : WA.cell? ⟨W'.heap.size, 2 + c, none⟩ = some (.slice (some ⟨ga, oa, none⟩) (0 + 1) 1) := (bxA.cell _).trans (by rw [M.vals_l _ _ hc]; exact congrArg some HS.out.2.2.2.2.2.2.2.1)
    have fA := bxA.free (2 + c)
    have RB := (Blks.farI RA bxA (2 + c) (.slice (some ⟨ga, oa, none⟩) 0 0)).list (c := c) hc (IA.far bxA (by decide) _ _) HFL.out
    have bxB := bxA.set (2 + c) (.slice (some ⟨ga, oa, none⟩) 0 0)
    rw [M.vals_setL bv' ls' hc (upd M.L c [])] at bxB
    have kB := kA.setCell (p := ⟨W'.heap.size, 2 + c, none⟩) (by have := HB6.out.2.size; show _ ≤ W'.heap.size; omega) (.slice (some ⟨ga, oa, none⟩) 0 0)
    obtain ⟨hsB, hbk, hans⟩ := HF.out.ans (RB.later (w' := (WA.setCell ⟨W'.heap.size, 2 + c, none⟩ (.slice (some ⟨ga, oa, none⟩) 0 0)).drew) ⟨rfl, rfl, rfl, Nat.le_refl _, fun _ _ => rfl⟩) (below_drewN kB 1)
    have hlB := lra bxB rfl
    obtain ⟨V4, hV4⟩ : ∃ V4, ({ M with L := upd M.L c [] } : Mo).vals bv' (upd ls' c (.slice (some ⟨ga, oa, none⟩) 0 0)) = V4 := ⟨_, rfl⟩
    have e4 : ({ M with R := M.R.set k { b with t := true, ws := List.replicate zz 0 }, L := upd M.L c [] } : Mo).vals bv' (upd ls' c (.slice (some ⟨ga, oa, none⟩) 0 0)) = V4 := hV4
    rw [hV4] at hlB
    rw [e4] at hsB
    have hsB : (storeSem 36 (.pointer (some ⟨w.heap.size + 1, 0, none⟩)) (.agg V4)).run Try.prog (WA.setCell ⟨W'.heap.size, 2 + c, none⟩ (.slice (some ⟨ga, oa, none⟩) 0 0)).drew = .ok () ((WA.setCell ⟨W'.heap.size, 2 + c, none⟩ (.slice (some ⟨ga, oa, none⟩) 0 0)).drew.setRow (w.heap.size + 1) V4) := hsB
    have hBB : Bx (WA.setCell ⟨W'.heap.size, 2 + c, none⟩ (.slice (some ⟨ga, oa, none⟩) 0 0)) (WA.setCell ⟨W'.heap.size, 2 + c, none⟩ (.slice (some ⟨ga, oa, none⟩) 0 0)) W'.heap.size W.heap.size bv' (upd ls' c (.slice (some ⟨ga, oa, none⟩) 0 0)) (vs'.set k (.slice (some ⟨W6.heap.size, 0, none⟩) zz zz)) { M with R := M.R.set k { b with t := true, ws := List.replicate zz 0 }, L := upd M.L c [] } := ⟨Below.refl _ _, bxB, RB⟩
    obtain ⟨gb9, cb9, gw9, cw9, hbv9, _, d1, d0, _⟩ := hBB.blk (k := k) (b := { b with t := true, ws := List.replicate zz 0 }) (by show (M.R.set k _)[k]? = _; rw [List.getElem?_set]; simp [hk])
    have e1 : gb = gb9 ∧ cb = cb9 := by
      rw [hbv] at hbv9
      injection hbv9 with e1 _ e2
      injection e1 with e1
      injection e1 with e1 _
      exact ⟨e1, e2⟩
    obtain ⟨rfl, rfl⟩ := e1
    clear hbv9
    have hlen9 : (M.R.set k { b with t := true, ws := List.replicate zz 0 }).length = n := by rw [List.length_set]; exact hnn
    have d1' : (WA.setCell ⟨W'.heap.size, 2 + c, none⟩ (.slice (some ⟨ga, oa, none⟩) 0 0)).cell? ⟨W'.heap.size, 1, none⟩ = some (.slice (some ⟨gb, 0, none⟩) n cb) := by rw [← hlen9]; exact d1
    have h13 : V4.size = 13 := by rw [← hV4]; rfl
    have HB := Lib.hid (And.intro hbk (And.intro hans (And.intro e4 (And.intro h13 hzz))))
    obtain ⟨WB, hWB⟩ : ∃ WB, WA.setCell ⟨W'.heap.size, 2 + c, none⟩ (.slice (some ⟨ga, oa, none⟩) 0 0) = WB := ⟨_, rfl⟩
    rw [hWB] at hsB hlB d1' d0 HB
    have d0' : WB.cell? ⟨gb, k * 4, none⟩ = some (.int .i64 (b.x : Int)) := d0
    have hlBd : (loadSem 36 (.pointer (some ⟨W'.heap.size, 0, none⟩))).run Try.prog WB.drew = .ok (.agg V4) WB.drew := by rw [← hWB, ← hV4]; exact lra bxB.drew rfl
    have hzl := HF.out.zb.lt
    have hgg := (HB9.out.2.1.lt gb rfl).1
    have hwg : W.heap.size ≤ W'.heap.size := HB6.out.2.size
    have p1 : (WB.drew.setRow (w.heap.size + 1) V4).cell? ⟨W'.heap.size, 1, none⟩ = some (.slice (some ⟨gb, 0, none⟩) n cb) := (World.cell?_of_block (setRow_other WB.drew (w.heap.size + 1) _ V4 (by show W'.heap.size ≠ _; omega))).trans d1'
    have p0 : (WB.drew.setRow (w.heap.size + 1) V4).cell? ⟨gb, k * 4, none⟩ = some (.int .i64 (b.x : Int)) := (World.cell?_of_block (setRow_other WB.drew (w.heap.size + 1) _ V4 (by show gb ≠ _; omega))).trans d0'
    clear hbk hans hV4 e4 hBB d1 d0 hlen9 h13 RB bxB kB RA bxA kA IA hnn hzl hgg hwg
    go_wp2_with fail
    go_region
    have h1 := HB.out.1
    have h2 := HB.out.2.1
    rw [HB.out.2.2.1] at h1 h2
    have H12 := Lib.hid (And.intro h1 (And.intro h2 HB.out.2.2.2.1))
    clear h1 h2
    go_wp2
    refine bodyPost_ret (results_ra3 rfl _ _ (w.heap.size + 1) V4 rfl H12.out.1 H12.out.2.2) rfl ?_
    refine ⟨_, rfl, ?_⟩
    first | exact H12.out.2.1 | (rw [HB.out.2.2.2.2]; exact H12.out.2.1) | (rw [show 2 ^ c = zz from hzz]; exact H12.out.2.1)
  · have hca2 : ¬ (ca = 1) := hca1
    have IA : Ints ((w9.setCell ⟨gb, k * 4 + 2, none⟩ (.bool true)).setCell ⟨gb, k * 4 + 3, none⟩ (.slice (some ⟨W6.heap.size, 0, none⟩) zz zz)).drew W.heap.size (.slice (some ⟨ga, oa + 1, none⟩) r.length (ca - 1)) r := by
      have h7 : Ints W7 W.heap.size (.slice (some ⟨ga, oa + 1, none⟩) r.length (ca - 1)) r := ⟨_, _, rfl, by omega, (fun h => by cases h), .inr ⟨ga, oa + 1, Ca, rfl, HS.out.2.2.2.2.2.2.2.2.2.2, HS.out.2.2.2.2.2.2.2.2.2.1, fun i u hu => by
        have := HS.out.2.2.2.2.2.2.2.2.1 (i + 1) u (by rw [hL]; simpa [ivl] using hu)
        rw [show oa + 1 + i = oa + (i + 1) by omega]; exact this⟩⟩
      have h9 := h7.later HB9.out.2.2
      exact ((h9.far hCb (by decide) (k * 4 + 2) (.bool true)).far (hCb.set (k * 4 + 2) (.bool true)) (by decide) (k * 4 + 3) (.slice (some ⟨W6.heap.size, 0, none⟩) zz zz)).later ⟨rfl, rfl, rfl, Nat.le_refl _, fun _ _ => rfl⟩
    have RA : Rfa ((w9.setCell ⟨gb, k * 4 + 2, none⟩ (.bool true)).setCell ⟨gb, k * 4 + 3, none⟩ (.slice (some ⟨W6.heap.size, 0, none⟩) zz zz)).drew W.heap.size bv' ls' (vs'.set k (.slice (some ⟨W6.heap.size, 0, none⟩) zz zz)) { M with R := M.R.set k { b with t := true, ws := List.replicate zz 0 } } := by rw [← e11]; exact R11.later (w' := ((w9.setCell ⟨gb, k * 4 + 2, none⟩ (.bool true)).setCell ⟨gb, k * 4 + 3, none⟩ (.slice (some ⟨W6.heap.size, 0, none⟩) zz zz)).drew) ⟨rfl, rfl, rfl, Nat.le_refl _, fun _ _ => rfl⟩
    obtain ⟨WA, hWA⟩ : ∃ WA, ((w9.setCell ⟨gb, k * 4 + 2, none⟩ (.bool true)).setCell ⟨gb, k * 4 + 3, none⟩ (.slice (some ⟨W6.heap.size, 0, none⟩) zz zz)).drew = WA := ⟨_, rfl⟩
    rw [hWA] at bxA kA IA RA ⊢
    clear hWA hmo9 hmoA hfr R10 R11 B9 c1' c2 c3 f2 f3
    have cA : WA.cell? ⟨W'.heap.size, 2 + c, none⟩ = some (.slice (some ⟨ga, oa, none⟩) (r.length + 1) ca) := (bxA.cell _).trans (by rw [M.vals_l _ _ hc]; exact congrArg some HS.out.2.2.2.2.2.2.2.1)
    have fA := bxA.free (2 + c)
    have RB := (Blks.farI RA bxA (2 + c) (.slice (some ⟨ga, oa + 1, none⟩) r.length (ca - 1))).list (c := c) hc (IA.far bxA (by decide) _ _) HFL.out
    have bxB := bxA.set (2 + c) (.slice (some ⟨ga, oa + 1, none⟩) r.length (ca - 1))
    rw [M.vals_setL bv' ls' hc (upd M.L c r)] at bxB
    have kB := kA.setCell (p := ⟨W'.heap.size, 2 + c, none⟩) (by have := HB6.out.2.size; show _ ≤ W'.heap.size; omega) (.slice (some ⟨ga, oa + 1, none⟩) r.length (ca - 1))
    obtain ⟨hsB, hbk, hans⟩ := HF.out.ans (RB.later (w' := (WA.setCell ⟨W'.heap.size, 2 + c, none⟩ (.slice (some ⟨ga, oa + 1, none⟩) r.length (ca - 1))).drew) ⟨rfl, rfl, rfl, Nat.le_refl _, fun _ _ => rfl⟩) (below_drewN kB 1)
    have hlB := lra bxB rfl
    obtain ⟨V4, hV4⟩ : ∃ V4, ({ M with L := upd M.L c r } : Mo).vals bv' (upd ls' c (.slice (some ⟨ga, oa + 1, none⟩) r.length (ca - 1))) = V4 := ⟨_, rfl⟩
    have e4 : ({ M with R := M.R.set k { b with t := true, ws := List.replicate zz 0 }, L := upd M.L c r } : Mo).vals bv' (upd ls' c (.slice (some ⟨ga, oa + 1, none⟩) r.length (ca - 1))) = V4 := hV4
    rw [hV4] at hlB
    rw [e4] at hsB
    have hsB : (storeSem 36 (.pointer (some ⟨w.heap.size + 1, 0, none⟩)) (.agg V4)).run Try.prog (WA.setCell ⟨W'.heap.size, 2 + c, none⟩ (.slice (some ⟨ga, oa + 1, none⟩) r.length (ca - 1))).drew = .ok () ((WA.setCell ⟨W'.heap.size, 2 + c, none⟩ (.slice (some ⟨ga, oa + 1, none⟩) r.length (ca - 1))).drew.setRow (w.heap.size + 1) V4) := hsB
    have hBB : Bx (WA.setCell ⟨W'.heap.size, 2 + c, none⟩ (.slice (some ⟨ga, oa + 1, none⟩) r.length (ca - 1))) (WA.setCell ⟨W'.heap.size, 2 + c, none⟩ (.slice (some ⟨ga, oa + 1, none⟩) r.length (ca - 1))) W'.heap.size W.heap.size bv' (upd ls' c (.slice (some ⟨ga, oa + 1, none⟩) r.length (ca - 1))) (vs'.set k (.slice (some ⟨W6.heap.size, 0, none⟩) zz zz)) { M with R := M.R.set k { b with t := true, ws := List.replicate zz 0 }, L := upd M.L c r } := ⟨Below.refl _ _, bxB, RB⟩
    obtain ⟨gb9, cb9, gw9, cw9, hbv9, _, d1, d0, _⟩ := hBB.blk (k := k) (b := { b with t := true, ws := List.replicate zz 0 }) (by show (M.R.set k _)[k]? = _; rw [List.getElem?_set]; simp [hk])
    have e1 : gb = gb9 ∧ cb = cb9 := by
      rw [hbv] at hbv9
      injection hbv9 with e1 _ e2
      injection e1 with e1
      injection e1 with e1 _
      exact ⟨e1, e2⟩
    obtain ⟨rfl, rfl⟩ := e1
    clear hbv9
    have hlen9 : (M.R.set k { b with t := true, ws := List.replicate zz 0 }).length = n := by rw [List.length_set]; exact hnn
    have d1' : (WA.setCell ⟨W'.heap.size, 2 + c, none⟩ (.slice (some ⟨ga, oa + 1, none⟩) r.length (ca - 1))).cell? ⟨W'.heap.size, 1, none⟩ = some (.slice (some ⟨gb, 0, none⟩) n cb) := by rw [← hlen9]; exact d1
    have h13 : V4.size = 13 := by rw [← hV4]; rfl
    have HB := Lib.hid (And.intro hbk (And.intro hans (And.intro e4 (And.intro h13 hzz))))
    obtain ⟨WB, hWB⟩ : ∃ WB, WA.setCell ⟨W'.heap.size, 2 + c, none⟩ (.slice (some ⟨ga, oa + 1, none⟩) r.length (ca - 1)) = WB := ⟨_, rfl⟩
    rw [hWB] at hsB hlB d1' d0 HB
    have d0' : WB.cell? ⟨gb, k * 4, none⟩ = some (.int .i64 (b.x : Int)) := d0
    have hlBd : (loadSem 36 (.pointer (some ⟨W'.heap.size, 0, none⟩))).run Try.prog WB.drew = .ok (.agg V4) WB.drew := by rw [← hWB, ← hV4]; exact lra bxB.drew rfl
    have hzl := HF.out.zb.lt
    have hgg := (HB9.out.2.1.lt gb rfl).1
    have hwg : W.heap.size ≤ W'.heap.size := HB6.out.2.size
    have p1 : (WB.drew.setRow (w.heap.size + 1) V4).cell? ⟨W'.heap.size, 1, none⟩ = some (.slice (some ⟨gb, 0, none⟩) n cb) := (World.cell?_of_block (setRow_other WB.drew (w.heap.size + 1) _ V4 (by show W'.heap.size ≠ _; omega))).trans d1'
    have p0 : (WB.drew.setRow (w.heap.size + 1) V4).cell? ⟨gb, k * 4, none⟩ = some (.int .i64 (b.x : Int)) := (World.cell?_of_block (setRow_other WB.drew (w.heap.size + 1) _ V4 (by show gb ≠ _; omega))).trans d0'
    clear hbk hans hV4 e4 hBB d1 d0 hlen9 h13 RB bxB kB RA bxA kA IA hnn hzl hgg hwg
    go_wp2_with fail
    go_region
    have h1 := HB.out.1
    have h2 := HB.out.2.1
    rw [HB.out.2.2.1] at h1 h2
    have H12 := Lib.hid (And.intro h1 (And.intro h2 HB.out.2.2.2.1))
    clear h1 h2
    go_wp2
    refine bodyPost_ret (results_ra3 rfl _ _ (w.heap.size + 1) V4 rfl H12.out.1 H12.out.2.2) rfl ?_
    refine ⟨_, rfl, ?_⟩
    first | exact H12.out.2.1 | (rw [HB.out.2.2.2.2]; exact H12.out.2.1) | (rw [show 2 ^ c = zz from hzz]; exact H12.out.2.1)
end
end Go.Proofs.Ytoidklkloagioaa
