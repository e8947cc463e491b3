/-
  The document's arena: a word stored. Nothing here is a statement of the document.
-/
import Derived.Test.YtoidklkloagioaaRfK
import Derived.Test.YtoidklkloagioaaLinB
namespace Go.Proofs.Ytoidklkloagioaa
open Go.RowKit Go.Shelf
set_option linter.unusedVariables false
attribute [local go_sem ↓] load_ra_rule store_ra_rule load_rb_rule store_rb_rule
section
variable {w W W' : World} {g z lo : Nat} {bv : Value} {ls : Nat → Value} {vs : List Value} {M : Mo}
set_option maxRecDepth 100000 in
set_option maxHeartbeats 1000000 in
theorem rstore_err (h : Rfa w lo bv ls vs M) (x i y : Int) (er : Nat) (her : er = 2 ∨ er = 4) (hld : ∀ {W : World}, Rfa W lo bv ls vs M → Calls Try.prog 24 #[.agg (M.vals bv ls), .int .i64 x, .int .i64 i] W fun e w' => e = .returned (.tuple #[.int .u32 0, .int .i64 (er : Int)]) ∧ Below W.heap.size W w') :
    Calls Try.prog 25 #[.agg (M.vals bv ls), .int .i64 x, .int .i64 i, .int .u32 y] w fun e w' => e = .returned (.tuple #[.agg (M.vals bv ls), .int .i64 (er : Int)]) ∧ Below w.heap.size w w' := by
  obtain ⟨W, hW, F⟩ := fr_new h
  have hl := F.bx.ld
  have hlw := hld F.bx.rf
  have HF := Lib.hid (And.intro F (M.vals_size bv ls))
  clear F h hld
  have hne : ¬ ((er : Int) = 0) := by omega
  generalize (er : Int) = ei at *
  obtain ⟨V, hV⟩ : ∃ V, M.vals bv ls = V := ⟨_, rfl⟩
  rw [hV] at hW hl hlw ⊢
  have HV := Lib.hid hV
  clear hV
  go_enter Try.func25, Try.ntmps25
  go_wp2_with fail
  refine hlw.mono ?_
  rintro e W2 ⟨rfl, hb2⟩
  have F2 := HF.out.1.lat hb2
  have hl2 := F2.bx.ld
  obtain ⟨hs, hbk, hbe⟩ := F2.st
  rw [HV.out] at hl2 hs hbk hbe
  have HX := Lib.hid (And.intro hbk hbe)
  clear hlw hl hb2 F2 hbk hbe hW
  have h13 : V.size = 13 := by rw [← HV.out]; exact HF.out.2
  have H13 := Lib.hid h13
  clear h13
  go_wp2_with fail
  refine bodyPost_ret (results_ra2 rfl _ _ (w.heap.size + 1) V rfl HX.out.1 H13.out) rfl ?_
  exact ⟨rfl, HX.out.2⟩
set_option maxRecDepth 100000 in
set_option maxHeartbeats 2000000 in
theorem rstore_yes (h : Rfa w lo bv ls vs M) {k : Nat} {b : Rb} (hb : M.R[k]? = some b) (ht : b.t = true) (i : Nat) (hi : i < 2 ^ b.c) (y : Nat) :
    Calls Try.prog 25 #[.agg (M.vals bv ls), .int .i64 (b.x : Int), .int .i64 (i : Int), .int .u32 (y : Int)] w fun e w' => ∃ u, e = .returned (.tuple #[u, .int .i64 0]) ∧ Ans w w' u { M with R := M.R.set k { b with ws := b.ws.set i y } } := by
  obtain ⟨W, hW, F⟩ := fr_new h
  have hl := F.bx.ld
  have hlw := rload_yes F.bx.rf hb ht i hi
  have hok := h.ok b (List.mem_of_getElem? hb)
  have hfew := h.few
  have HF := Lib.hid F
  clear F h
  generalize b.ws.getD i 0 = y0 at *
  obtain ⟨V, hV⟩ : ∃ V, M.vals bv ls = V := ⟨_, rfl⟩
  rw [hV] at hW hl hlw ⊢
  have HV := Lib.hid hV
  clear hV
  go_enter Try.func25, Try.ntmps25
  go_wp2_with fail
  refine hlw.mono ?_
  rintro e W2 ⟨rfl, hb2⟩
  have F2 := HF.out.lat hb2
  have hl2 := F2.bx.ld
  have hcp := rcopy_any F2.bx.rf
  rw [HV.out] at hl2 hcp
  have HF2 := Lib.hid F2
  clear hlw hl hb2 F2 hW
  go_wp2_with fail
  refine hcp.mono ?_
  rintro e9 W' ⟨bv', ls', vs', rfl, hR, hb3⟩
  have hst := sra_new W' (M.vals_size bv' ls') hR.vals_one
  obtain ⟨W6, hW6⟩ : ∃ W6, W'.alloc (.cells (M.vals bv' ls') 36) = W6 := ⟨_, rfl⟩
  have B6 : Bx W' W6 W'.heap.size W2.heap.size bv' ls' vs' M := by rw [← hW6]; exact bx_new hR
  rw [hW6] at hst
  obtain ⟨gb, c, gw, cw, hbv, hvk, c1, _, _, _, c3, hcl, hk⟩ := B6.blk hb
  have hsz6 : W6.heap.size = W'.heap.size + 1 := by rw [← hW6]; simp
  clear hcp hl2
  have HR := Lib.hid (And.intro hbv (And.intro hvk (And.intro B6 (And.intro hb3 (And.intro hb ht)))))
  have hrow6 := B6.rf.row
  rw [hbv] at hrow6
  have hgb : gb < W6.heap.size := (hrow6.lt gb rfl).2
  have hwd6 := B6.rf.wds k b _ hb hvk
  have hgw : gw < W6.heap.size := (hwd6.lt gw rfl).2
  obtain ⟨C6, hC6⟩ := own_has hwd6
  have ci := hcl i _ (wvl_get (l := b.ws) (j := i) (by omega))
  obtain ⟨S, hS⟩ : ∃ S : World → Prop, S = fun w' => Below W6.heap.size W6 w' := ⟨_, rfl⟩
  have hSb : ∀ w', S w' → Below W6.heap.size W6 w' := fun w' h' => by rw [hS] at h'; exact h'
  have hSs : ∀ w', Below W6.heap.size W6 w' → S w' := fun w' h' => by rw [hS]; exact h'
  have q1 : ∀ w', S w' → w'.cell? ⟨W'.heap.size, 1, none⟩ = some (.slice (some ⟨gb, 0, none⟩) M.R.length c) := fun w' h' => (World.cell?_of_block ((hSb w' h').block _ (by show W'.heap.size < _; omega))).trans c1
  have q3 : ∀ w', S w' → w'.cell? ⟨gb, k * 4 + 3, none⟩ = some (.slice (some ⟨gw, 0, none⟩) (2 ^ b.c) cw) := fun w' h' => (World.cell?_of_block ((hSb w' h').block _ (by show gb < _; omega))).trans c3
  have qi : ∀ w', S w' → w'.cell? ⟨gw, i, none⟩ = some (.int .u32 ((b.ws.getD i 0 : Nat) : Int)) := fun w' h' => (World.cell?_of_block ((hSb w' h').block _ (by show gw < _; omega))).trans ci
  have qf : ∀ w', S w' → w'.frozen? ⟨gw, i, none⟩ = false := fun w' h' => (hC6.kept (Kept.of_below [] (hSb w' h')) (by simp)).free i
  have ql : ∀ w', S w' → (loadSem 36 (.pointer (some ⟨W'.heap.size, 0, none⟩))).run Try.prog w' = .ok (.agg (M.vals bv' ls')) w' := fun w' h' => (B6.later (hSb w' h')).ld
  have qt : ∀ w', S w' → Calls Try.prog 36 #[.agg (M.vals bv' ls'), .int .i64 (b.x : Int)] w' fun e w'' => e = .returned (.int .i64 (k : Int)) ∧ S w'' := fun w' h' => (rtk_yes (B6.later (hSb w' h')).rf hb ht).mono fun e w'' ⟨h1, h2⟩ => ⟨h1, hSs _ (bel_later (hSb w' h') h2)⟩
  have hS0 : S W6.drew := hSs _ ⟨rfl, rfl, rfl, Nat.le_refl _, fun _ _ => rfl⟩
  have HS := Lib.hid hSb
  clear hS hSs hSb c1 c3 ci hcl hC6 hR hb3 B6 hrow6 hwd6 hbv hvk hgb hgw
  obtain ⟨V3, hV3⟩ : ∃ V3, M.vals bv' ls' = V3 := ⟨_, rfl⟩
  rw [hV3] at hst hW6 ql qt ⊢
  have HV3 := Lib.hid hV3
  clear hV3
  generalize M.R.length = n at *
  have hp := (pow5 hok.1).2
  generalize b.ws.getD i 0 = y1 at *
  generalize hzz : 2 ^ b.c = zz at *
  have hki : (k : Int) < (n : Int) := by omega
  have hi1 : (i : Int) < (zz : Int) := by omega
  go_wp2_with fail
  refine wp_region_linB S [11] [0, 1, 2, 3, 4, 5, 6, 7, 8, 9, 10, 11] (by kernel_rfl) (by kernel_rfl) hS0 ?_
  (repeat (first | (refine linB_off rfl rfl (by rfl) ?_; (try simp only [Act.put, List.getElem_toArray, List.getElem_cons_zero, List.getElem_cons_succ, List.setIfInBounds_toArray, List.set_cons_zero, List.set_cons_succ])) | (refine linB_op (v := ?_) rfl rfl (by rfl) (fun w9 hS9 => ?_) ?_; rotate_left; (focus ((have k0 := q1 w9 hS9; have k1 := q3 w9 hS9; have k2 := ql w9 hS9; (try dsimp only at hS9); go_simp; (try go_bits)) <;> with_reducible rfl)); (try simp only [Act.put, List.getElem_toArray, List.getElem_cons_zero, List.getElem_cons_succ, List.setIfInBounds_toArray, List.set_cons_zero, List.set_cons_succ])) | (refine linB_fn (f := 36) rfl rfl (by rfl) rfl rfl (enters_of Try.func36 (by kernel_rfl) rfl) (fun w9 hS9 => qt w9 hS9) ?_ ?_; (focus (simp [Act.eval]; done)); (try simp only [Act.put, List.getElem_toArray, List.getElem_cons_zero, List.getElem_cons_succ, List.setIfInBounds_toArray, List.set_cons_zero, List.set_cons_succ]))))
  refine linB_store rfl rfl (by rfl) (fun w9 hS9 => ?_)
  have F9 := HS.out w9 hS9
  have k0 := qi w9 hS9
  have k1 := qf w9 hS9
  refine ⟨w9.setCell ⟨gw, i, none⟩ (.int .u32 (y : Int)), by go_simp, ?_⟩
  have B9 := HR.out.2.2.1.later F9
  have hvk9 : vs'[k]? = some (.slice (some ⟨gw, 0, none⟩) (2 ^ b.c) cw) := by rw [hzz]; exact HR.out.2.1
  have R9 := B9.rf.store HR.out.2.2.2.2.1 hvk9 i y
  have hwd9 := B9.rf.wds k b _ HR.out.2.2.2.2.1 hvk9
  obtain ⟨C9, hC9⟩ := own_has hwd9
  have hl9 := lra (B9.bx.far (p := ⟨gw, i, none⟩) (B9.bx.ne hC9 (by decide)) (.int .u32 (y : Int))) rfl
  have hb9 : Below W2.heap.size W2 (w9.setCell ⟨gw, i, none⟩ (.int .u32 (y : Int))) := (bel_later HR.out.2.2.2.1 B9.hb).setCell ((hwd9.lt gw rfl).1) _
  obtain ⟨hs4, hbk, hans⟩ := HF2.out.ans R9 hb9
  have e9 : ({ M with R := M.R.set k { b with ws := b.ws.set i y } } : Mo).vals bv' ls' = V3 := HV3.out
  rw [e9] at hs4 hbk hans
  rw [HV3.out] at hl9
  have HX := Lib.hid (And.intro hbk hans)
  have h13 : V3.size = 13 := by rw [← HV3.out]; rfl
  have H13 := Lib.hid h13
  clear B9 R9 hvk9 hwd9 hC9 hb9 hbk hans h13 q1 q3 qi qf ql qt k0 k1 F9 hst hW6
  generalize w9.setCell ⟨gw, i, none⟩ (.int .u32 (y : Int)) = W9 at *
  go_wp2_with fail
  refine bodyPost_ret (results_ra2 rfl _ _ (w.heap.size + 1) V3 rfl HX.out.1 H13.out) rfl ?_
  exact ⟨_, rfl, HX.out.2⟩
end
end Go.Proofs.Ytoidklkloagioaa
