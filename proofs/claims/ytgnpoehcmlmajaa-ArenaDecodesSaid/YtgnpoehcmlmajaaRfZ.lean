/-
  One op, done on both arenas: a store. Nothing here is a statement of the document.
-/
import Derived.Test.YtgnpoehcmlmajaaRfY
namespace Go.Proofs.Ytgnpoehcmlmajaa
open Go.RowKit Go.Shelf
set_option linter.unusedVariables false
section
attribute [local go_sem ↓] load_ra_rule store_ra_rule load_op_rule load_root_rule store_root_rule
variable {w W W' : World} {g p q z lo : Nat} {ws : List Nat} {bs : List Bool} {bv : Value} {ls : Nat → Value} {vs : List Value} {M : Mo} {o : OpM}
set_option maxRecDepth 100000 in
set_option maxHeartbeats 4000000 in
theorem does_4 (h : Agr w g p q lo ws bs bv ls vs M) (o : OpM) (ho : o.Ok) (hK : o.k = 4) : Calls Try.prog 7 #[.pointer (some ⟨g, 0, none⟩), .agg (M.vals bv ls), .agg o.cs] w fun e w' => ∃ v, e = .returned (.tuple #[v, .bool true]) ∧ Don w w' g p q lo v := by
  obtain ⟨W, hW, D⟩ := dz_new h o
  have hkk : IntKind.u64.wrap o.kind = (unN o.kind : Int) := by rw [IntKind.wrap_u64]; unfold unN; omega
  have hk8 : (IntKind.u64.wrap o.kind).tmod 8 = (4 : Int) := by
    have h8 : (unN o.kind % 8 : Nat) = 4 := hK
    rw [hkk, show ((unN o.kind : Nat) : Int).tmod 8 = ((unN o.kind % 8 : Nat) : Int) from rfl, h8]; rfl
  have hpl := fun {W : World} (hR : Rfa W lo bv ls vs M) => place_any hR o ho
  generalize o.row M.B = r at *
  have hlo := h.ar.lo
  have hhi := h.ar.hi
  have HU := Lib.hid (And.intro h.pur (And.intro h.wl (And.intro ho (And.intro h.ar.len (And.intro h.ar.sml (And.intro hlo hhi))))))
  have HR0 := Lib.hid h.rf
  clear hkk hK h ho hlo hhi
  have hld := lra D.bx rfl
  have hlo := ld_op D.bo
  have hpl1 := hpl D.rf
  have HD := Lib.hid D
  clear D hpl
  obtain ⟨k1, k2, k3, k4, k5, k6, k7⟩ := o
  unfold OpM.cs at hW hlo hpl1 ⊢
  dsimp only at hW hlo hpl1 hk8 ⊢
  obtain ⟨V, hV⟩ : ∃ V, M.vals bv ls = V := ⟨_, rfl⟩
  rw [hV] at hW hld hpl1 ⊢
  have HV := Lib.hid hV
  clear hV
  go_enter Try.func7, Try.ntmps7
  go_wp2_with fail
  refine hpl1.mono ?_
  rintro e W3 ⟨rfl, hb3⟩
  have HD3 := Lib.hid (HD.out.below hb3)
  have c0 : W3.cell? ⟨w.heap.size + 1, 0, none⟩ = some (.int .i64 k1) := HD3.out.bo.cell 0
  clear hpl1 hb3 hld hlo hW HD
  have hx9 := HU.out.2.2.1.x
  dsimp only at hx9
  obtain ⟨y, hy, hyy⟩ : ∃ y : Nat, y < 4294967296 ∧ IntKind.u32.wrap k6 = (y : Int) := by
    refine ⟨(k6 % 4294967296).toNat, by omega, ?_⟩
    unfold IntKind.wrap
    simp [IntKind.bits, IntKind.signed]
    omega
  have hy2 : k6 % 4294967296 = (y : Int) := by
    rw [← hyy]
    unfold IntKind.wrap
    simp [IntKind.bits, IntKind.signed]
  obtain ⟨ws', M', er, hpr, hrf, hpu⟩ := store_both (g := g) (p := p) (q := q) HU.out.1 HU.out.2.1 r k4 y hy
  clear hx9 hy
  have HF := Lib.hid (And.intro hrf (And.intro hpu hpr))
  clear hrf hpu hpr
  have hrf := HF.out.1 W3 lo bv ls vs HD3.out.rf HD3.out.size
  rw [HV.out] at hrf
  have c3 : W3.cell? ⟨w.heap.size + 1, 3, none⟩ = some (.int .i64 k4) := HD3.out.bo.cell 3
  have c5 : W3.cell? ⟨w.heap.size + 1, 5, none⟩ = some (.int .u64 k6) := HD3.out.bo.cell 5
  have hld := lra HD3.out.bx rfl
  rw [HV.out] at hld
  go_wp2_with fail
  refine hrf.mono ?_
  rintro e W5 ⟨v, rfl, bv', ls', vs', lo', rfl, hR5, hlo1, hlo2, hb5⟩
  have D5 := HD3.out.below hb5
  have hst := sra_new W5 (Mo.vals_size _ _ _) hR5.vals_one
  have kb6 : Below W5.heap.size W5 (W5.alloc (.cells (M'.vals bv' ls') 36)) := (Below.refl _ _).alloc (Nat.le_refl _) _
  have b6 := Blk.new W5 36 (M'.vals bv' ls')
  obtain ⟨W6, hW6⟩ : ∃ W6, W5.alloc (.cells (M'.vals bv' ls') 36) = W6 := ⟨_, rfl⟩
  rw [hW6] at hst kb6 b6
  have D6 := D5.below kb6
  have R6 := hR5.later kb6
  have h6l : lo' ≤ W6.heap.size := Nat.le_trans hlo2 kb6.size
  obtain ⟨V', hV'⟩ : ∃ V', M'.vals bv' ls' = V' := ⟨_, rfl⟩
  have h13 : V'.size = 13 := by rw [← hV']; rfl
  have HT := Lib.hid (And.intro (D6.below (below_drewN (Below.refl _ W6) 1)) (And.intro (R6.later (below_drewN (Below.refl _ W6) 1)) (And.intro h6l (And.intro hlo1 (And.intro HF.out.2.1 (And.intro hV' h13))))))
  rw [hV'] at hst hW6 b6 ⊢
  have HB6 := Lib.hid (And.intro b6 D5.zb.lt)
  have hl6 := lra b6.drew h13
  have hpr := HF.out.2.2 W6.drew HT.out.1.ar
  have d3 : W6.cell? ⟨w.heap.size + 1, 3, none⟩ = some (.int .i64 k4) := D6.bo.cell 3
  have d5 : W6.cell? ⟨w.heap.size + 1, 5, none⟩ = some (.int .u64 k6) := D6.bo.cell 5
  clear hV' h13 hR5 hb5 D5 kb6 b6 D6 R6 h6l hlo1 hlo2 hrf hld c3 c5
  have de : (er == er) = true := by simp
  go_wp2_with fail
  go_region_with (first | (go_at_call 13; refine hpr.mono ?_; rintro e10 W10 ⟨rfl, hA10, hk9⟩; have D10 := HT.out.1.go hA10 hk9; have b10 := (HB6.out.1.drew).kept hk9 (by have := HT.out.1.hp; have := HT.out.1.hq; have := HT.out.1.hl; have := HB6.out.2; simp; omega); have hl10 := lra b10 HT.out.2.2.2.2.2.2; have R10 := HT.out.2.1.kept hk9 (by have := HT.out.1.hp; have := HT.out.1.hq; have := HT.out.2.2.2.1; simp; omega); obtain ⟨hs10, hbk10, hdn10⟩ := D10.don HT.out.2.2.2.2.1 R10 HT.out.2.2.2.1 (Nat.le_trans HT.out.2.2.1 hk9.size); rw [HT.out.2.2.2.2.2.1] at hs10 hbk10 hdn10; have g3 : W10.cell? ⟨w.heap.size + 1, 3, none⟩ = some (.int .i64 k4) := D10.bo.cell 3; have g5 : W10.cell? ⟨w.heap.size + 1, 5, none⟩ = some (.int .u64 k6) := D10.bo.cell 5; have HX := Lib.hid (And.intro hbk10 hdn10); clear hA10 hk9 D10 b10 R10 hbk10 hdn10))
  all_goals
    go_wp2
    refine bodyPost_ret (results_ra2 rfl _ _ (w.heap.size + 2) V' rfl HX.out.1 HT.out.2.2.2.2.2.2) rfl ?_
    first | exact ⟨_, rfl, HX.out.2⟩ | exact ⟨_, rfl, HX.out.2.drew⟩
set_option maxRecDepth 100000 in
set_option maxHeartbeats 4000000 in
theorem does_5 (h : Agr w g p q lo ws bs bv ls vs M) (o : OpM) (ho : o.Ok) (hK : o.k = 5) : Calls Try.prog 7 #[.pointer (some ⟨g, 0, none⟩), .agg (M.vals bv ls), .agg o.cs] w fun e w' => ∃ v, e = .returned (.tuple #[v, .bool true]) ∧ Don w w' g p q lo v := by
  obtain ⟨W, hW, D⟩ := dz_new h o
  have hkk : IntKind.u64.wrap o.kind = (unN o.kind : Int) := by rw [IntKind.wrap_u64]; unfold unN; omega
  have hk8 : (IntKind.u64.wrap o.kind).tmod 8 = (5 : Int) := by
    have h8 : (unN o.kind % 8 : Nat) = 5 := hK
    rw [hkk, show ((unN o.kind : Nat) : Int).tmod 8 = ((unN o.kind % 8 : Nat) : Int) from rfl, h8]; rfl
  have hpl := fun {W : World} (hR : Rfa W lo bv ls vs M) => place_any hR o ho
  generalize o.row M.B = r at *
  have hlo := h.ar.lo
  have hhi := h.ar.hi
  have HU := Lib.hid (And.intro h.pur (And.intro h.wl (And.intro ho (And.intro h.ar.len (And.intro h.ar.sml (And.intro hlo hhi))))))
  have HR0 := Lib.hid h.rf
  clear hkk hK h ho hlo hhi
  have hld := lra D.bx rfl
  have hlo := ld_op D.bo
  have hpl1 := hpl D.rf
  have HD := Lib.hid D
  clear D hpl
  obtain ⟨k1, k2, k3, k4, k5, k6, k7⟩ := o
  unfold OpM.cs at hW hlo hpl1 ⊢
  dsimp only at hW hlo hpl1 hk8 ⊢
  obtain ⟨V, hV⟩ : ∃ V, M.vals bv ls = V := ⟨_, rfl⟩
  rw [hV] at hW hld hpl1 ⊢
  have HV := Lib.hid hV
  clear hV
  go_enter Try.func7, Try.ntmps7
  go_wp2_with fail
  refine hpl1.mono ?_
  rintro e W3 ⟨rfl, hb3⟩
  have HD3 := Lib.hid (HD.out.below hb3)
  have c0 : W3.cell? ⟨w.heap.size + 1, 0, none⟩ = some (.int .i64 k1) := HD3.out.bo.cell 0
  clear hpl1 hb3 hld hlo hW HD
  have hx9 := HU.out.2.2.1.x
  dsimp only at hx9
  obtain ⟨y, hy, hyy⟩ : ∃ y : Nat, y < 4294967296 ∧ IntKind.u32.wrap k6 = (y : Int) := by
    refine ⟨(k6 % 4294967296).toNat, by omega, ?_⟩
    unfold IntKind.wrap
    simp [IntKind.bits, IntKind.signed]
    omega
  have hy2 : k6 % 4294967296 = (y : Int) := by
    rw [← hyy]
    unfold IntKind.wrap
    simp [IntKind.bits, IntKind.signed]
  obtain ⟨ws', M', er, hpr, hrf, hpu⟩ := store_both (g := g) (p := p) (q := q) HU.out.1 HU.out.2.1 r k4 y hy
  clear hx9 hy
  have HF := Lib.hid (And.intro hrf (And.intro hpu hpr))
  clear hrf hpu hpr
  have hrf := HF.out.1 W3 lo bv ls vs HD3.out.rf HD3.out.size
  rw [HV.out] at hrf
  have c3 : W3.cell? ⟨w.heap.size + 1, 3, none⟩ = some (.int .i64 k4) := HD3.out.bo.cell 3
  have c5 : W3.cell? ⟨w.heap.size + 1, 5, none⟩ = some (.int .u64 k6) := HD3.out.bo.cell 5
  have hld := lra HD3.out.bx rfl
  rw [HV.out] at hld
  go_wp2_with fail
  refine hrf.mono ?_
  rintro e W5 ⟨v, rfl, bv', ls', vs', lo', rfl, hR5, hlo1, hlo2, hb5⟩
  have D5 := HD3.out.below hb5
  have hst := sra_new W5 (Mo.vals_size _ _ _) hR5.vals_one
  have kb6 : Below W5.heap.size W5 (W5.alloc (.cells (M'.vals bv' ls') 36)) := (Below.refl _ _).alloc (Nat.le_refl _) _
  have b6 := Blk.new W5 36 (M'.vals bv' ls')
  obtain ⟨W6, hW6⟩ : ∃ W6, W5.alloc (.cells (M'.vals bv' ls') 36) = W6 := ⟨_, rfl⟩
  rw [hW6] at hst kb6 b6
  have D6 := D5.below kb6
  have R6 := hR5.later kb6
  have h6l : lo' ≤ W6.heap.size := Nat.le_trans hlo2 kb6.size
  obtain ⟨V', hV'⟩ : ∃ V', M'.vals bv' ls' = V' := ⟨_, rfl⟩
  have h13 : V'.size = 13 := by rw [← hV']; rfl
  have HT := Lib.hid (And.intro (D6.below (below_drewN (Below.refl _ W6) 1)) (And.intro (R6.later (below_drewN (Below.refl _ W6) 1)) (And.intro h6l (And.intro hlo1 (And.intro HF.out.2.1 (And.intro hV' h13))))))
  rw [hV'] at hst hW6 b6 ⊢
  have HB6 := Lib.hid (And.intro b6 D5.zb.lt)
  have hl6 := lra b6.drew h13
  have hpr := HF.out.2.2 W6.drew HT.out.1.ar
  have d3 : W6.cell? ⟨w.heap.size + 1, 3, none⟩ = some (.int .i64 k4) := D6.bo.cell 3
  have d5 : W6.cell? ⟨w.heap.size + 1, 5, none⟩ = some (.int .u64 k6) := D6.bo.cell 5
  clear hV' h13 hR5 hb5 D5 kb6 b6 D6 R6 h6l hlo1 hlo2 hrf hld c3 c5
  have de : (er == er) = true := by simp
  go_wp2_with fail
  go_region_with (first | (go_at_call 13; refine hpr.mono ?_; rintro e10 W10 ⟨rfl, hA10, hk9⟩; have D10 := HT.out.1.go hA10 hk9; have b10 := (HB6.out.1.drew).kept hk9 (by have := HT.out.1.hp; have := HT.out.1.hq; have := HT.out.1.hl; have := HB6.out.2; simp; omega); have hl10 := lra b10 HT.out.2.2.2.2.2.2; have R10 := HT.out.2.1.kept hk9 (by have := HT.out.1.hp; have := HT.out.1.hq; have := HT.out.2.2.2.1; simp; omega); obtain ⟨hs10, hbk10, hdn10⟩ := D10.don HT.out.2.2.2.2.1 R10 HT.out.2.2.2.1 (Nat.le_trans HT.out.2.2.1 hk9.size); rw [HT.out.2.2.2.2.2.1] at hs10 hbk10 hdn10; have g3 : W10.cell? ⟨w.heap.size + 1, 3, none⟩ = some (.int .i64 k4) := D10.bo.cell 3; have g5 : W10.cell? ⟨w.heap.size + 1, 5, none⟩ = some (.int .u64 k6) := D10.bo.cell 5; have HX := Lib.hid (And.intro hbk10 hdn10); clear hA10 hk9 D10 b10 R10 hbk10 hdn10))
  all_goals
    go_wp2
    refine bodyPost_ret (results_ra2 rfl _ _ (w.heap.size + 2) V' rfl HX.out.1 HT.out.2.2.2.2.2.2) rfl ?_
    first | exact ⟨_, rfl, HX.out.2⟩ | exact ⟨_, rfl, HX.out.2.drew⟩
theorem does_any (h : Agr w g p q lo ws bs bv ls vs M) (o : OpM) (ho : o.Ok) : Calls Try.prog 7 #[.pointer (some ⟨g, 0, none⟩), .agg (M.vals bv ls), .agg o.cs] w fun e w' => ∃ v, e = .returned (.tuple #[v, .bool true]) ∧ Don w w' g p q lo v := by
  have hk7 : o.k < 8 := Nat.mod_lt _ (by omega)
  rcases (show o.k = 0 ∨ o.k = 1 ∨ o.k = 2 ∨ o.k = 3 ∨ o.k = 4 ∨ o.k = 5 ∨ o.k = 6 ∨ o.k = 7 by omega) with h9 | h9 | h9 | h9 | h9 | h9 | h9 | h9
  · exact does_0 h o ho h9
  · exact does_1 h o ho h9
  · exact does_2 h o ho h9
  · exact does_3 h o ho h9
  · exact does_4 h o ho h9
  · exact does_5 h o ho h9
  · exact does_6 h o ho h9
  · exact does_7 h o ho h9
end
end Go.Proofs.Ytgnpoehcmlmajaa
