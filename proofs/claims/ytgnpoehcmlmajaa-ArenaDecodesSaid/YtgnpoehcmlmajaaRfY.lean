/-
  One op, done on both arenas: they agree. Nothing here is a statement of the document.
-/
import Derived.Test.YtgnpoehcmlmajaaRhS
namespace Go.Proofs.Ytgnpoehcmlmajaa
open Go.RowKit Go.Shelf
set_option linter.unusedVariables false
section
variable {w W W' : World} {g p q z lo : Nat} {ws : List Nat} {bs : List Bool} {bv : Value} {ls : Nat → Value} {vs : List Value} {M : Mo} {o : OpM}
theorem Ints.farR {v : Value} {l : List Nat} (h : Ints w lo v l) {g : Nat} {t : TypeId} {C : Array Value} (hb : Blk w g t C) (ht : t ≠ 3) (V : Array Value) : Ints (w.setRow g V) lo v l := by
  obtain ⟨a, c, h1, h2, h0, h3⟩ := h
  exact ⟨a, c, h1, h2, h0, h3.imp id fun ⟨g', o, C', h4, h5, h6, h7⟩ => ⟨g', o, C', h4, h5, h6.kept ((Kept.refl [g] w).setRow (.inl (by simp)) V) (by simpa using h6.ne hb (Ne.symm ht)), h7⟩⟩
theorem Rfa.farR (h : Rfa w lo bv ls vs M) {g : Nat} {C : Array Value} (hb : Blk w g 36 C) (V : Array Value) : Rfa (w.setRow g V) lo bv ls vs M := by
  have := h.blks.farR hb V
  exact ⟨this.row, this.len, this.wds, this.apart, h.ok, h.uq, fun c hc => (h.lst c hc).farR hb (by decide) V, h.few, h.fewl, h.small⟩
/-- What holds when an op is to be done: the program's arena, the document's, apart. -/
structure Agr (w : World) (g p q lo : Nat) (ws : List Nat) (bs : List Bool) (bv : Value) (ls : Nat → Value) (vs : List Value) (M : Mo) : Prop where
  ar : Ar w g p q ws bs
  pur : Pur ws bs M
  rf : Rfa w lo bv ls vs M
  hg : g < lo
  hp : p < lo
  hq : q < lo
  hl : lo ≤ w.heap.size
theorem Agr.wl (h : Agr w g p q lo ws bs bv ls vs M) : ∀ b ∈ M.R, b.ws.length = 2 ^ b.c := fun b hb => (h.rf.ok b hb).2.1
/-- The frame of an op that is done. -/
structure Dz (w W : World) (g p q lo : Nat) (ws : List Nat) (bs : List Bool) (bv : Value) (ls : Nat → Value) (vs : List Value) (M : Mo) (o : OpM) : Prop where
  ar : Ar W g p q ws bs
  kp : Kept [p, q] w W
  bx : Blk W w.heap.size 36 (M.vals bv ls)
  rf : Rfa W lo bv ls vs M
  bo : Blk W (w.heap.size + 1) 38 o.cs
  zb : Blk W (w.heap.size + 2) 36 zeroRa
  hg : g < lo
  hp : p < lo
  hq : q < lo
  hl : lo ≤ w.heap.size
theorem Dz.go {ws' : List Nat} {bs' : List Bool} (D : Dz w W g p q lo ws bs bv ls vs M o) (hA : Ar W' g p q ws' bs') (k : Kept [p, q] W W') : Dz w W' g p q lo ws' bs' bv ls vs M o := by
  have h1 := D.hp
  have h2 := D.hq
  have h3 := D.hl
  exact ⟨hA, D.kp.trans k, D.bx.kept k (by simp; omega), D.rf.kept k (by simp; omega), D.bo.kept k (by simp; omega), D.zb.kept k (by simp; omega), D.hg, D.hp, D.hq, D.hl⟩
theorem Dz.below (D : Dz w W g p q lo ws bs bv ls vs M o) (k : Below W.heap.size W W') : Dz w W' g p q lo ws bs bv ls vs M o := D.go (D.ar.later k) (Kept.of_below _ k)
theorem Dz.size (D : Dz w W g p q lo ws bs bv ls vs M o) : lo ≤ W.heap.size := Nat.le_trans D.hl D.kp.size
/-- What is answered, and what holds then. -/
def Don (w w' : World) (g p q lo : Nat) (v : Value) : Prop := ∃ ws' bs' M' bv' ls' vs' lo', v = .agg (Mo.vals M' bv' ls') ∧ Agr w' g p q lo' ws' bs' bv' ls' vs' M' ∧ lo ≤ lo' ∧ Kept [p, q] w w'
theorem Dz.don {ws' : List Nat} {bs' : List Bool} {M' : Mo} {bv' : Value} {ls' : Nat → Value} {vs' : List Value} {lo' : Nat} (D : Dz w W g p q lo ws' bs' bv ls vs M o) (hp : Pur ws' bs' M') (hR : Rfa W lo' bv' ls' vs' M') (h1 : lo ≤ lo') (h2 : lo' ≤ W.heap.size) :
    (storeSem 36 (.pointer (some ⟨w.heap.size + 2, 0, none⟩)) (.agg (M'.vals bv' ls'))).run Try.prog W = .ok () (W.setRow (w.heap.size + 2) (M'.vals bv' ls')) ∧ Blk (W.setRow (w.heap.size + 2) (M'.vals bv' ls')) (w.heap.size + 2) 36 (M'.vals bv' ls') ∧ Don w (W.setRow (w.heap.size + 2) (M'.vals bv' ls')) g p q lo (.agg (M'.vals bv' ls')) := by
  have a1 := D.hg
  have a2 := D.hp
  have a3 := D.hq
  have a4 := D.hl
  have hk : Kept [w.heap.size + 2] W (W.setRow (w.heap.size + 2) (M'.vals bv' ls')) := (Kept.refl _ _).setRow (.inl (by simp)) _
  refine ⟨sra D.zb rfl (Mo.vals_size _ _ _) hR.vals_one, D.zb.row _, ws', bs', M', bv', ls', vs', lo', rfl, ⟨D.ar.kept hk (by simp; omega) (by simp; omega) (by simp; omega), hp, hR.farR D.zb _, by omega, by omega, by omega, by simpa using h2⟩, h1, D.kp.setRow (.inr (by omega)) _⟩
theorem Don.drew {v : Value} (h : Don w W g p q lo v) : Don w W.drew g p q lo v := by
  obtain ⟨ws9, bs9, M9, bv9, ls9, vs9, lo9, hv9, hag, hl9, hk9⟩ := h
  exact ⟨ws9, bs9, M9, bv9, ls9, vs9, lo9, hv9, ⟨hag.ar.drewN 1, hag.pur, hag.rf.later (below_drewN (Below.refl _ _) 1), hag.hg, hag.hp, hag.hq, hag.hl⟩, hl9, hk9.drewN 1⟩
theorem Blk.drewN {w : World} {g : Nat} {t : TypeId} {cs : Array Value} (h : Blk w g t cs) (n : Nat) : Blk (w.drewN n) g t cs := h
end
section
attribute [local go_sem ↓] load_ra_rule store_ra_rule load_op_rule load_root_rule store_root_rule
variable {w W W' : World} {g p q z lo : Nat} {ws : List Nat} {bs : List Bool} {bv : Value} {ls : Nat → Value} {vs : List Value} {M : Mo} {o : OpM}
theorem dz_new (h : Agr w g p q lo ws bs bv ls vs M) (o : OpM) : ∃ W, ((w.alloc (.cells (M.vals bv ls) 36)).alloc (.cells o.cs 38)).alloc (.cells #[.int .i64 0, .slice none 0 0, .slice none 0 0, .slice none 0 0, .slice none 0 0, .slice none 0 0, .slice none 0 0, .slice none 0 0, .int .u64 0, .int .u64 0, .int .i64 0, .int .i64 0, .int .u64 0] 36) = W ∧ Dz w W g p q lo ws bs bv ls vs M o := by
  have hb : Below w.heap.size w (((w.alloc (.cells (M.vals bv ls) 36)).alloc (.cells o.cs 38)).alloc (.cells zeroRa 36)) := (((Below.refl _ _).alloc (Nat.le_refl _) _).alloc (by simp) _).alloc (by simp; omega) _
  refine ⟨_, rfl, h.ar.later hb, Kept.of_below _ hb, ((Blk.new _ _ _).alloc _).alloc _, h.rf.later hb, ?_, ?_, h.hg, h.hp, h.hq, h.hl⟩
  · have := Blk.new (w.alloc (.cells (M.vals bv ls) 36)) 38 o.cs
    rw [show (w.alloc (.cells (M.vals bv ls) 36)).heap.size = w.heap.size + 1 by simp] at this
    exact this.alloc _
  · have := Blk.new ((w.alloc (.cells (M.vals bv ls) 36)).alloc (.cells o.cs 38)) 36 zeroRa
    rw [show ((w.alloc (.cells (M.vals bv ls) 36)).alloc (.cells o.cs 38)).heap.size = w.heap.size + 2 by simp] at this
    exact this
set_option maxRecDepth 100000 in
set_option maxHeartbeats 4000000 in
theorem does_0 (h : Agr w g p q lo ws bs bv ls vs M) (o : OpM) (ho : o.Ok) (hK : o.k = 0) : Calls Try.prog 7 #[.pointer (some ⟨g, 0, none⟩), .agg (M.vals bv ls), .agg o.cs] w fun e w' => ∃ v, e = .returned (.tuple #[v, .bool true]) ∧ Don w w' g p q lo v := by
  obtain ⟨W, hW, D⟩ := dz_new h o
  have hkk : IntKind.u64.wrap o.kind = (unN o.kind : Int) := by rw [IntKind.wrap_u64]; unfold unN; omega
  have hk8 : (IntKind.u64.wrap o.kind).tmod 8 = (0 : Int) := by
    have h8 : (unN o.kind % 8 : Nat) = 0 := hK
    rw [hkk, show ((unN o.kind : Nat) : Int).tmod 8 = ((unN o.kind % 8 : Nat) : Int) from rfl, h8]; rfl
  have hpl := fun {W : World} (hR : Rfa W lo bv ls vs M) => place_any hR o ho
  generalize o.row M.B = r at *
  have hlo := h.ar.lo
  have hhi := h.ar.hi
  have HU := Lib.hid (And.intro h.pur (And.intro h.wl (And.intro ho (And.intro h.ar.len (And.intro h.ar.sml (And.intro hlo hhi))))))
  have HR0 := Lib.hid h.rf
  clear hkk hK h ho hlo hhi
  have hld := lra D.bx rfl
  have hlo := ld_op D.bo
  have hpl1 := hpl D.rf
  have HD := Lib.hid D
  clear D hpl
  obtain ⟨k1, k2, k3, k4, k5, k6, k7⟩ := o
  unfold OpM.cs at hW hlo hpl1 ⊢
  dsimp only at hW hlo hpl1 hk8 ⊢
  obtain ⟨V, hV⟩ : ∃ V, M.vals bv ls = V := ⟨_, rfl⟩
  rw [hV] at hW hld hpl1 ⊢
  have HV := Lib.hid hV
  clear hV
  go_enter Try.func7, Try.ntmps7
  go_wp2_with fail
  refine hpl1.mono ?_
  rintro e W3 ⟨rfl, hb3⟩
  have HD3 := Lib.hid (HD.out.below hb3)
  have c0 : W3.cell? ⟨w.heap.size + 1, 0, none⟩ = some (.int .i64 k1) := HD3.out.bo.cell 0
  clear hpl1 hb3 hld hlo hW HD
  obtain ⟨ws', bs', M', x, er, hpr, hrf, hpu⟩ := alloc_both (g := g) (p := p) (q := q) HU.out.1 HU.out.2.2.2.1 HU.out.2.2.2.2.2.1 HU.out.2.2.2.2.2.2 HU.out.2.1 k2
  have hpr := hpr W3 HD3.out.ar
  have HF := Lib.hid (And.intro hrf hpu)
  clear hrf hpu
  have c1 : W3.cell? ⟨w.heap.size + 1, 1, none⟩ = some (.int .i64 k2) := HD3.out.bo.cell 1
  go_wp2_with fail
  refine hpr.mono ?_
  rintro e W4 ⟨rfl, hA4, hk4⟩
  have HD4 := Lib.hid (HD3.out.go hA4 hk4)
  clear hpr hA4 hk4 c0 c1
  have hrf := HF.out.1 W4 lo bv ls vs HD4.out.rf HD4.out.size
  rw [HV.out] at hrf
  have c1 : W4.cell? ⟨w.heap.size + 1, 1, none⟩ = some (.int .i64 k2) := HD4.out.bo.cell 1
  have hld := lra HD4.out.bx rfl
  rw [HV.out] at hld
  go_wp2_with fail
  refine hrf.mono ?_
  rintro e W5 ⟨v, rfl, bv', ls', vs', lo', rfl, hR5, hlo1, hlo2, hb5⟩
  have D5 := HD4.out.below hb5
  have hst := sra_new W5 (Mo.vals_size _ _ _) hR5.vals_one
  have kb6 : Below W5.heap.size W5 (W5.alloc (.cells (M'.vals bv' ls') 36)) := (Below.refl _ _).alloc (Nat.le_refl _) _
  have b6 := Blk.new W5 36 (M'.vals bv' ls')
  obtain ⟨W6, hW6⟩ : ∃ W6, W5.alloc (.cells (M'.vals bv' ls') 36) = W6 := ⟨_, rfl⟩
  rw [hW6] at hst kb6 b6
  have D6 := D5.below kb6
  have R6 := hR5.later kb6
  have h6l : lo' ≤ W6.heap.size := Nat.le_trans hlo2 kb6.size
  have hl6 := lra b6 rfl
  obtain ⟨hs6, hbk, hdn⟩ := D6.don HF.out.2 R6 hlo1 h6l
  have HX := Lib.hid (And.intro hbk (And.intro hdn (Mo.vals_size M' bv' ls')))
  clear hR5 hb5 D5 kb6 b6 D6 R6 h6l hbk hdn hlo1 hlo2 hrf
  generalize M'.vals bv' ls' = V' at *
  have dx : (x == x) = true := by simp
  have de : (er == er) = true := by simp
  go_wp2_with fail
  refine bodyPost_ret (results_ra2 rfl _ _ (w.heap.size + 2) V' rfl HX.out.1 HX.out.2.2) rfl ?_
  exact ⟨_, rfl, HX.out.2.1⟩
set_option maxRecDepth 100000 in
set_option maxHeartbeats 4000000 in
theorem does_1 (h : Agr w g p q lo ws bs bv ls vs M) (o : OpM) (ho : o.Ok) (hK : o.k = 1) : Calls Try.prog 7 #[.pointer (some ⟨g, 0, none⟩), .agg (M.vals bv ls), .agg o.cs] w fun e w' => ∃ v, e = .returned (.tuple #[v, .bool true]) ∧ Don w w' g p q lo v := by
  obtain ⟨W, hW, D⟩ := dz_new h o
  have hkk : IntKind.u64.wrap o.kind = (unN o.kind : Int) := by rw [IntKind.wrap_u64]; unfold unN; omega
  have hk8 : (IntKind.u64.wrap o.kind).tmod 8 = (1 : Int) := by
    have h8 : (unN o.kind % 8 : Nat) = 1 := hK
    rw [hkk, show ((unN o.kind : Nat) : Int).tmod 8 = ((unN o.kind % 8 : Nat) : Int) from rfl, h8]; rfl
  have hpl := fun {W : World} (hR : Rfa W lo bv ls vs M) => place_any hR o ho
  generalize o.row M.B = r at *
  have hlo := h.ar.lo
  have hhi := h.ar.hi
  have HU := Lib.hid (And.intro h.pur (And.intro h.wl (And.intro ho (And.intro h.ar.len (And.intro h.ar.sml (And.intro hlo hhi))))))
  have HR0 := Lib.hid h.rf
  clear hkk hK h ho hlo hhi
  have hld := lra D.bx rfl
  have hlo := ld_op D.bo
  have hpl1 := hpl D.rf
  have HD := Lib.hid D
  clear D hpl
  obtain ⟨k1, k2, k3, k4, k5, k6, k7⟩ := o
  unfold OpM.cs at hW hlo hpl1 ⊢
  dsimp only at hW hlo hpl1 hk8 ⊢
  obtain ⟨V, hV⟩ : ∃ V, M.vals bv ls = V := ⟨_, rfl⟩
  rw [hV] at hW hld hpl1 ⊢
  have HV := Lib.hid hV
  clear hV
  go_enter Try.func7, Try.ntmps7
  go_wp2_with fail
  refine hpl1.mono ?_
  rintro e W3 ⟨rfl, hb3⟩
  have HD3 := Lib.hid (HD.out.below hb3)
  have c0 : W3.cell? ⟨w.heap.size + 1, 0, none⟩ = some (.int .i64 k1) := HD3.out.bo.cell 0
  clear hpl1 hb3 hld hlo hW HD
  obtain ⟨ws', bs', M', x, er, hpr, hrf, hpu⟩ := alloc_both (g := g) (p := p) (q := q) HU.out.1 HU.out.2.2.2.1 HU.out.2.2.2.2.2.1 HU.out.2.2.2.2.2.2 HU.out.2.1 k2
  have hpr := hpr W3 HD3.out.ar
  have HF := Lib.hid (And.intro hrf hpu)
  clear hrf hpu
  have c1 : W3.cell? ⟨w.heap.size + 1, 1, none⟩ = some (.int .i64 k2) := HD3.out.bo.cell 1
  go_wp2_with fail
  refine hpr.mono ?_
  rintro e W4 ⟨rfl, hA4, hk4⟩
  have HD4 := Lib.hid (HD3.out.go hA4 hk4)
  clear hpr hA4 hk4 c0 c1
  have hrf := HF.out.1 W4 lo bv ls vs HD4.out.rf HD4.out.size
  rw [HV.out] at hrf
  have c1 : W4.cell? ⟨w.heap.size + 1, 1, none⟩ = some (.int .i64 k2) := HD4.out.bo.cell 1
  have hld := lra HD4.out.bx rfl
  rw [HV.out] at hld
  go_wp2_with fail
  refine hrf.mono ?_
  rintro e W5 ⟨v, rfl, bv', ls', vs', lo', rfl, hR5, hlo1, hlo2, hb5⟩
  have D5 := HD4.out.below hb5
  have hst := sra_new W5 (Mo.vals_size _ _ _) hR5.vals_one
  have kb6 : Below W5.heap.size W5 (W5.alloc (.cells (M'.vals bv' ls') 36)) := (Below.refl _ _).alloc (Nat.le_refl _) _
  have b6 := Blk.new W5 36 (M'.vals bv' ls')
  obtain ⟨W6, hW6⟩ : ∃ W6, W5.alloc (.cells (M'.vals bv' ls') 36) = W6 := ⟨_, rfl⟩
  rw [hW6] at hst kb6 b6
  have D6 := D5.below kb6
  have R6 := hR5.later kb6
  have h6l : lo' ≤ W6.heap.size := Nat.le_trans hlo2 kb6.size
  have hl6 := lra b6 rfl
  obtain ⟨hs6, hbk, hdn⟩ := D6.don HF.out.2 R6 hlo1 h6l
  have HX := Lib.hid (And.intro hbk (And.intro hdn (Mo.vals_size M' bv' ls')))
  clear hR5 hb5 D5 kb6 b6 D6 R6 h6l hbk hdn hlo1 hlo2 hrf
  generalize M'.vals bv' ls' = V' at *
  have dx : (x == x) = true := by simp
  have de : (er == er) = true := by simp
  go_wp2_with fail
  refine bodyPost_ret (results_ra2 rfl _ _ (w.heap.size + 2) V' rfl HX.out.1 HX.out.2.2) rfl ?_
  exact ⟨_, rfl, HX.out.2.1⟩
set_option maxRecDepth 100000 in
set_option maxHeartbeats 4000000 in
theorem does_2 (h : Agr w g p q lo ws bs bv ls vs M) (o : OpM) (ho : o.Ok) (hK : o.k = 2) : Calls Try.prog 7 #[.pointer (some ⟨g, 0, none⟩), .agg (M.vals bv ls), .agg o.cs] w fun e w' => ∃ v, e = .returned (.tuple #[v, .bool true]) ∧ Don w w' g p q lo v := by
  obtain ⟨W, hW, D⟩ := dz_new h o
  have hkk : IntKind.u64.wrap o.kind = (unN o.kind : Int) := by rw [IntKind.wrap_u64]; unfold unN; omega
  have hk8 : (IntKind.u64.wrap o.kind).tmod 8 = (2 : Int) := by
    have h8 : (unN o.kind % 8 : Nat) = 2 := hK
    rw [hkk, show ((unN o.kind : Nat) : Int).tmod 8 = ((unN o.kind % 8 : Nat) : Int) from rfl, h8]; rfl
  have hpl := fun {W : World} (hR : Rfa W lo bv ls vs M) => place_any hR o ho
  generalize o.row M.B = r at *
  have hlo := h.ar.lo
  have hhi := h.ar.hi
  have HU := Lib.hid (And.intro h.pur (And.intro h.wl (And.intro ho (And.intro h.ar.len (And.intro h.ar.sml (And.intro hlo hhi))))))
  have HR0 := Lib.hid h.rf
  clear hkk hK h ho hlo hhi
  have hld := lra D.bx rfl
  have hlo := ld_op D.bo
  have hpl1 := hpl D.rf
  have HD := Lib.hid D
  clear D hpl
  obtain ⟨k1, k2, k3, k4, k5, k6, k7⟩ := o
  unfold OpM.cs at hW hlo hpl1 ⊢
  dsimp only at hW hlo hpl1 hk8 ⊢
  obtain ⟨V, hV⟩ : ∃ V, M.vals bv ls = V := ⟨_, rfl⟩
  rw [hV] at hW hld hpl1 ⊢
  have HV := Lib.hid hV
  clear hV
  go_enter Try.func7, Try.ntmps7
  go_wp2_with fail
  refine hpl1.mono ?_
  rintro e W3 ⟨rfl, hb3⟩
  have HD3 := Lib.hid (HD.out.below hb3)
  have c0 : W3.cell? ⟨w.heap.size + 1, 0, none⟩ = some (.int .i64 k1) := HD3.out.bo.cell 0
  clear hpl1 hb3 hld hlo hW HD
  obtain ⟨ws', M', er, hpr, hrf, hpu⟩ := free_both (g := g) (p := p) (q := q) HU.out.1 HU.out.2.2.2.2.2.2 r
  have HF := Lib.hid (And.intro hrf (And.intro hpu hpr))
  clear hrf hpu hpr
  have hrf := HF.out.1 W3 lo bv ls vs HD3.out.rf HD3.out.size
  rw [HV.out] at hrf
  have hld := lra HD3.out.bx rfl
  rw [HV.out] at hld
  go_wp2_with fail
  refine hrf.mono ?_
  rintro e W5 ⟨v, rfl, bv', ls', vs', lo', rfl, hR5, hlo1, hlo2, hb5⟩
  have D5 := HD3.out.below hb5
  have hst := sra_new W5 (Mo.vals_size _ _ _) hR5.vals_one
  have kb6 : Below W5.heap.size W5 (W5.alloc (.cells (M'.vals bv' ls') 36)) := (Below.refl _ _).alloc (Nat.le_refl _) _
  have b6 := Blk.new W5 36 (M'.vals bv' ls')
  obtain ⟨W6, hW6⟩ : ∃ W6, W5.alloc (.cells (M'.vals bv' ls') 36) = W6 := ⟨_, rfl⟩
  rw [hW6] at hst kb6 b6
  have D6 := D5.below kb6
  have R6 := hR5.later kb6
  have h6l : lo' ≤ W6.heap.size := Nat.le_trans hlo2 kb6.size
  obtain ⟨V', hV'⟩ : ∃ V', M'.vals bv' ls' = V' := ⟨_, rfl⟩
  have h13 : V'.size = 13 := by rw [← hV']; rfl
  have HT := Lib.hid (And.intro (D6.below (below_drewN (Below.refl _ W6) 1)) (And.intro (R6.later (below_drewN (Below.refl _ W6) 1)) (And.intro h6l (And.intro hlo1 (And.intro HF.out.2.1 (And.intro hV' h13))))))
  rw [hV'] at hst hW6 b6 ⊢
  have HB6 := Lib.hid (And.intro b6 D5.zb.lt)
  have hl6 := lra b6.drew h13
  have hpr := HF.out.2.2 W6.drew HT.out.1.ar
  clear hV' h13 hR5 hb5 D5 kb6 b6 D6 R6 h6l hlo1 hlo2 hrf hld
  have de : (er == er) = true := by simp
  go_wp2_with fail
  go_region_with (first | (go_at_call 16; refine hpr.mono ?_; rintro e10 W10 ⟨rfl, hA10, hk9⟩; have D10 := HT.out.1.go hA10 hk9; have b10 := (HB6.out.1.drew).kept hk9 (by have := HT.out.1.hp; have := HT.out.1.hq; have := HT.out.1.hl; have := HB6.out.2; simp; omega); have hl10 := lra b10 HT.out.2.2.2.2.2.2; have R10 := HT.out.2.1.kept hk9 (by have := HT.out.1.hp; have := HT.out.1.hq; have := HT.out.2.2.2.1; simp; omega); obtain ⟨hs10, hbk10, hdn10⟩ := D10.don HT.out.2.2.2.2.1 R10 HT.out.2.2.2.1 (Nat.le_trans HT.out.2.2.1 hk9.size); rw [HT.out.2.2.2.2.2.1] at hs10 hbk10 hdn10; have HX := Lib.hid (And.intro hbk10 hdn10); clear hA10 hk9 D10 b10 R10 hbk10 hdn10))
  all_goals
    go_wp2
    refine bodyPost_ret (results_ra2 rfl _ _ (w.heap.size + 2) V' rfl HX.out.1 HT.out.2.2.2.2.2.2) rfl ?_
    first | exact ⟨_, rfl, HX.out.2⟩ | exact ⟨_, rfl, HX.out.2.drew⟩
set_option maxRecDepth 100000 in
set_option maxHeartbeats 4000000 in
theorem does_3 (h : Agr w g p q lo ws bs bv ls vs M) (o : OpM) (ho : o.Ok) (hK : o.k = 3) : Calls Try.prog 7 #[.pointer (some ⟨g, 0, none⟩), .agg (M.vals bv ls), .agg o.cs] w fun e w' => ∃ v, e = .returned (.tuple #[v, .bool true]) ∧ Don w w' g p q lo v := by
  obtain ⟨W, hW, D⟩ := dz_new h o
  have hkk : IntKind.u64.wrap o.kind = (unN o.kind : Int) := by rw [IntKind.wrap_u64]; unfold unN; omega
  have hk8 : (IntKind.u64.wrap o.kind).tmod 8 = (3 : Int) := by
    have h8 : (unN o.kind % 8 : Nat) = 3 := hK
    rw [hkk, show ((unN o.kind : Nat) : Int).tmod 8 = ((unN o.kind % 8 : Nat) : Int) from rfl, h8]; rfl
  have hpl := fun {W : World} (hR : Rfa W lo bv ls vs M) => place_any hR o ho
  generalize o.row M.B = r at *
  have hlo := h.ar.lo
  have hhi := h.ar.hi
  have HU := Lib.hid (And.intro h.pur (And.intro h.wl (And.intro ho (And.intro h.ar.len (And.intro h.ar.sml (And.intro hlo hhi))))))
  have HR0 := Lib.hid h.rf
  clear hkk hK h ho hlo hhi
  have hld := lra D.bx rfl
  have hlo := ld_op D.bo
  have hpl1 := hpl D.rf
  have HD := Lib.hid D
  clear D hpl
  obtain ⟨k1, k2, k3, k4, k5, k6, k7⟩ := o
  unfold OpM.cs at hW hlo hpl1 ⊢
  dsimp only at hW hlo hpl1 hk8 ⊢
  obtain ⟨V, hV⟩ : ∃ V, M.vals bv ls = V := ⟨_, rfl⟩
  rw [hV] at hW hld hpl1 ⊢
  have HV := Lib.hid hV
  clear hV
  go_enter Try.func7, Try.ntmps7
  go_wp2_with fail
  refine hpl1.mono ?_
  rintro e W3 ⟨rfl, hb3⟩
  have HD3 := Lib.hid (HD.out.below hb3)
  have c0 : W3.cell? ⟨w.heap.size + 1, 0, none⟩ = some (.int .i64 k1) := HD3.out.bo.cell 0
  clear hpl1 hb3 hld hlo hW HD
  obtain ⟨y, er, hpr, hrf, _⟩ := load_both (g := g) (p := p) (q := q) HU.out.1 r k4
  have hpr := hpr W3 HD3.out.ar
  have HF := Lib.hid hrf
  clear hrf
  have c3 : W3.cell? ⟨w.heap.size + 1, 3, none⟩ = some (.int .i64 k4) := HD3.out.bo.cell 3
  go_wp2_with fail
  refine hpr.mono ?_
  rintro e W4 ⟨rfl, hA4, hk4⟩
  have HD4 := Lib.hid (HD3.out.go hA4 hk4)
  clear hpr hA4 hk4 c0 c3
  have hrf := HF.out W4 lo bv ls vs HD4.out.rf
  rw [HV.out] at hrf
  have c3 : W4.cell? ⟨w.heap.size + 1, 3, none⟩ = some (.int .i64 k4) := HD4.out.bo.cell 3
  have hld := lra HD4.out.bx rfl
  rw [HV.out] at hld
  go_wp2_with fail
  refine hrf.mono ?_
  rintro e W5 ⟨rfl, hb5⟩
  have D5 := HD4.out.below hb5
  have hl5 := lra D5.bx rfl
  obtain ⟨hs5, hbk, hdn⟩ := D5.don HU.out.1 D5.rf (Nat.le_refl _) D5.size
  have HX := Lib.hid (And.intro hbk (And.intro hdn (Mo.vals_size M bv ls)))
  rw [HV.out] at hl5 hs5 HX
  clear hb5 D5 hbk hdn hrf hld c3
  have dy : (y == y) = true := by simp
  have de : (er == er) = true := by simp
  go_wp2_with fail
  refine bodyPost_ret (results_ra2 rfl _ _ (w.heap.size + 2) V rfl HX.out.1 HX.out.2.2) rfl ?_
  exact ⟨_, rfl, HX.out.2.1⟩
set_option maxRecDepth 100000 in
set_option maxHeartbeats 4000000 in
theorem does_6 (h : Agr w g p q lo ws bs bv ls vs M) (o : OpM) (ho : o.Ok) (hK : o.k = 6) : Calls Try.prog 7 #[.pointer (some ⟨g, 0, none⟩), .agg (M.vals bv ls), .agg o.cs] w fun e w' => ∃ v, e = .returned (.tuple #[v, .bool true]) ∧ Don w w' g p q lo v := by
  obtain ⟨W, hW, D⟩ := dz_new h o
  have hkk : IntKind.u64.wrap o.kind = (unN o.kind : Int) := by rw [IntKind.wrap_u64]; unfold unN; omega
  have hk8 : (IntKind.u64.wrap o.kind).tmod 8 = (6 : Int) := by
    have h8 : (unN o.kind % 8 : Nat) = 6 := hK
    rw [hkk, show ((unN o.kind : Nat) : Int).tmod 8 = ((unN o.kind % 8 : Nat) : Int) from rfl, h8]; rfl
  have hpl := fun {W : World} (hR : Rfa W lo bv ls vs M) => place_any hR o ho
  generalize o.row M.B = r at *
  have hlo := h.ar.lo
  have hhi := h.ar.hi
  have HU := Lib.hid (And.intro h.pur (And.intro h.wl (And.intro ho (And.intro h.ar.len (And.intro h.ar.sml (And.intro hlo hhi))))))
  have HR0 := Lib.hid h.rf
  clear hkk hK h ho hlo hhi
  have hld := lra D.bx rfl
  have hlo := ld_op D.bo
  have hpl1 := hpl D.rf
  have HD := Lib.hid D
  clear D hpl
  obtain ⟨k1, k2, k3, k4, k5, k6, k7⟩ := o
  unfold OpM.cs at hW hlo hpl1 ⊢
  dsimp only at hW hlo hpl1 hk8 ⊢
  obtain ⟨V, hV⟩ : ∃ V, M.vals bv ls = V := ⟨_, rfl⟩
  rw [hV] at hW hld hpl1 ⊢
  have HV := Lib.hid hV
  clear hV
  go_enter Try.func7, Try.ntmps7
  go_wp2_with fail
  refine hpl1.mono ?_
  rintro e W3 ⟨rfl, hb3⟩
  have HD3 := Lib.hid (HD.out.below hb3)
  have c0 : W3.cell? ⟨w.heap.size + 1, 0, none⟩ = some (.int .i64 k1) := HD3.out.bo.cell 0
  clear hpl1 hb3 hld hlo hW HD
  obtain ⟨R, ⟨v9, e9, a9, b9, rfl, hv9, he9⟩, hro⟩ := oroot_any HR0.out ⟨k1, k2, k3, k4, k5, k6, k7⟩ HU.out.2.2.1
  obtain ⟨ws', M', er, hpr, hrf, hpu⟩ := pub_both (g := g) (p := p) (q := q) HU.out.1 HU.out.2.2.2.2.2.1 HU.out.2.2.2.2.2.2 HU.out.2.2.2.2.1 v9 e9 hv9 he9 a9 b9
  have hro3 := hro HD3.out.rf
  unfold OpM.cs at hro3
  dsimp only at hro3
  rw [HV.out] at hro3
  clear hro
  have HF := Lib.hid (And.intro hrf (And.intro hpu hpr))
  clear hrf hpu hpr
  have hld := lra HD3.out.bx rfl
  rw [HV.out] at hld
  have hlo : (loadSem 38 (.pointer (some ⟨w.heap.size + 1, 0, none⟩))).run Try.prog W3 = .ok (.agg #[.int .i64 k1, .int .i64 k2, .int .i64 k3, .int .i64 k4, .int .i64 k5, .int .u64 k6, .bool k7]) W3 := ld_op HD3.out.bo
  go_wp2_with fail
  refine hro3.mono ?_
  rintro e Wr ⟨rfl, hbr⟩
  have hst0 := st_root (Blk.new Wr 34 (rtcs 0 0 0 0)) rfl v9 e9 a9 b9
  rw [World.setRow_alloc_new] at hst0
  have hst0' : (storeSem 34 (.pointer (some ⟨Wr.heap.size, 0, none⟩)) (.agg (rtcs v9 e9 a9 b9))).run Try.prog (Wr.alloc (.cells #[.int .u64 0, .int .u64 0, .int .i64 0, .int .i64 0] 34)) = .ok () (Wr.alloc (.cells (rtcs v9 e9 a9 b9) 34)) := hst0
  have k4' : Below Wr.heap.size Wr (Wr.alloc (.cells (rtcs v9 e9 a9 b9) 34)) := (Below.refl _ _).alloc (Nat.le_refl _) _
  have br4 := Blk.new Wr 34 (rtcs v9 e9 a9 b9)
  obtain ⟨W4, hW4⟩ : ∃ W4, Wr.alloc (.cells (rtcs v9 e9 a9 b9) 34) = W4 := ⟨_, rfl⟩
  rw [hW4] at hst0' k4' br4
  have HRs := Lib.hid (show w.heap.size + 2 < Wr.heap.size from (HD3.out.below hbr).zb.lt)
  have HD4 := Lib.hid (And.intro ((HD3.out.below hbr).below k4') br4)
  have hlr := ld_root br4
  clear hst0 hro3 hbr k4' br4 hld hlo c0
  generalize hRR : rtcs v9 e9 a9 b9 = RR at *
  have hls := HF.out.1 W4 lo bv ls vs HD4.out.1.rf HD4.out.1.size
  rw [HV.out] at hls
  have hrf := hls
  clear hls
  have hld := lra HD4.out.1.bx rfl
  rw [HV.out] at hld
  go_wp2_with fail
  refine hrf.mono ?_
  rintro e W5 ⟨v, rfl, bv', ls', vs', lo', rfl, hR5, hlo1, hlo2, hb5⟩
  have D5 := HD4.out.1.below hb5
  have hst := sra_new W5 (Mo.vals_size _ _ _) hR5.vals_one
  have kb6 : Below W5.heap.size W5 (W5.alloc (.cells (M'.vals bv' ls') 36)) := (Below.refl _ _).alloc (Nat.le_refl _) _
  have b6 := Blk.new W5 36 (M'.vals bv' ls')
  obtain ⟨W6, hW6⟩ : ∃ W6, W5.alloc (.cells (M'.vals bv' ls') 36) = W6 := ⟨_, rfl⟩
  rw [hW6] at hst kb6 b6
  have D6 := D5.below kb6
  have R6 := hR5.later kb6
  have h6l : lo' ≤ W6.heap.size := Nat.le_trans hlo2 kb6.size
  have br6 := (HD4.out.2.kept (Kept.of_below [] hb5) (by simp)).kept (Kept.of_below [] kb6) (by simp)
  obtain ⟨V', hV'⟩ : ∃ V', M'.vals bv' ls' = V' := ⟨_, rfl⟩
  have h13 : V'.size = 13 := by rw [← hV']; rfl
  have HT := Lib.hid (And.intro (D6.below (below_drewN (Below.refl _ W6) 1)) (And.intro (R6.later (below_drewN (Below.refl _ W6) 1)) (And.intro h6l (And.intro hlo1 (And.intro HF.out.2.1 (And.intro hV' h13))))))
  rw [hV'] at hst hW6 b6 ⊢
  have HB6 := Lib.hid (And.intro b6 D5.zb.lt)
  have hl6 := lra b6.drew h13
  have hpr := HF.out.2.2 W6.drew HT.out.1.ar
  have HBR := Lib.hid br6
  have hlr6 := ld_root (w := W6.drew) (v := v9) (e := e9) (a := a9) (b := b9) (by rw [hRR]; exact br6.drew)
  rw [hRR] at hlr6
  clear hV' h13 hR5 hb5 D5 kb6 b6 D6 R6 h6l hlo1 hlo2 hrf hld br6
  have de : (er == er) = true := by simp
  go_wp2_with fail
  go_region_with (first | (go_at_call 15; refine hpr.mono ?_; rintro e10 W10 ⟨rfl, hA10, hk9⟩; have D10 := HT.out.1.go hA10 hk9; have b10 := (HB6.out.1.drew).kept hk9 (by have := HT.out.1.hp; have := HT.out.1.hq; have := HT.out.1.hl; have := HB6.out.2; simp; omega); have hl10 := lra b10 HT.out.2.2.2.2.2.2; have R10 := HT.out.2.1.kept hk9 (by have := HT.out.1.hp; have := HT.out.1.hq; have := HT.out.2.2.2.1; simp; omega); obtain ⟨hs10, hbk10, hdn10⟩ := D10.don HT.out.2.2.2.2.1 R10 HT.out.2.2.2.1 (Nat.le_trans HT.out.2.2.1 hk9.size); rw [HT.out.2.2.2.2.2.1] at hs10 hbk10 hdn10; have hlr10 := ld_root (w := W10) (v := v9) (e := e9) (a := a9) (b := b9) (by rw [hRR]; exact (HBR.out.drew).kept hk9 (by have := HT.out.1.hp; have := HT.out.1.hq; have := HT.out.1.hl; have := HRs.out; simp; omega)); rw [hRR] at hlr10; have HX := Lib.hid (And.intro hbk10 hdn10); clear hA10 hk9 D10 b10 R10 hbk10 hdn10))
  all_goals
    go_wp2
    refine bodyPost_ret (results_ra2 rfl _ _ (w.heap.size + 2) V' rfl HX.out.1 HT.out.2.2.2.2.2.2) rfl ?_
    first | exact ⟨_, rfl, HX.out.2⟩ | exact ⟨_, rfl, HX.out.2.drew⟩
set_option maxRecDepth 100000 in
set_option maxHeartbeats 4000000 in
theorem does_7 (h : Agr w g p q lo ws bs bv ls vs M) (o : OpM) (ho : o.Ok) (hK : o.k = 7) : Calls Try.prog 7 #[.pointer (some ⟨g, 0, none⟩), .agg (M.vals bv ls), .agg o.cs] w fun e w' => ∃ v, e = .returned (.tuple #[v, .bool true]) ∧ Don w w' g p q lo v := by
  obtain ⟨W, hW, D⟩ := dz_new h o
  have hkk : IntKind.u64.wrap o.kind = (unN o.kind : Int) := by rw [IntKind.wrap_u64]; unfold unN; omega
  have hk8 : (IntKind.u64.wrap o.kind).tmod 8 = (7 : Int) := by
    have h8 : (unN o.kind % 8 : Nat) = 7 := hK
    rw [hkk, show ((unN o.kind : Nat) : Int).tmod 8 = ((unN o.kind % 8 : Nat) : Int) from rfl, h8]; rfl
  have hpl := fun {W : World} (hR : Rfa W lo bv ls vs M) => place_any hR o ho
  generalize o.row M.B = r at *
  have hlo := h.ar.lo
  have hhi := h.ar.hi
  have HU := Lib.hid (And.intro h.pur (And.intro h.wl (And.intro ho (And.intro h.ar.len (And.intro h.ar.sml (And.intro hlo hhi))))))
  have HR0 := Lib.hid h.rf
  clear hkk hK h ho hlo hhi
  have hld := lra D.bx rfl
  have hlo := ld_op D.bo
  have hpl1 := hpl D.rf
  have HD := Lib.hid D
  clear D hpl
  obtain ⟨k1, k2, k3, k4, k5, k6, k7⟩ := o
  unfold OpM.cs at hW hlo hpl1 ⊢
  dsimp only at hW hlo hpl1 hk8 ⊢
  obtain ⟨V, hV⟩ : ∃ V, M.vals bv ls = V := ⟨_, rfl⟩
  rw [hV] at hW hld hpl1 ⊢
  have HV := Lib.hid hV
  clear hV
  go_enter Try.func7, Try.ntmps7
  go_wp2_with fail
  refine hpl1.mono ?_
  rintro e W3 ⟨rfl, hb3⟩
  have HD3 := Lib.hid (HD.out.below hb3)
  have c0 : W3.cell? ⟨w.heap.size + 1, 0, none⟩ = some (.int .i64 k1) := HD3.out.bo.cell 0
  clear hpl1 hb3 hld hlo hW HD
  have hx9 := HU.out.2.2.1.x
  dsimp only at hx9
  obtain ⟨y, rfl⟩ := Int.eq_ofNat_of_zero_le hx9.1
  obtain ⟨ws', M', er, hpr, hrf, hpu⟩ := raise_both (g := g) (p := p) (q := q) HU.out.1 HU.out.2.2.2.2.2.1 y (by omega)
  clear hx9
  have HF := Lib.hid (And.intro hrf (And.intro hpu hpr))
  clear hrf hpu hpr
  have hrf := HF.out.1 W3 lo bv ls vs HD3.out.rf HD3.out.size
  rw [HV.out] at hrf
  have c5 : W3.cell? ⟨w.heap.size + 1, 5, none⟩ = some (.int .u64 (y : Int)) := HD3.out.bo.cell 5
  have hld := lra HD3.out.bx rfl
  rw [HV.out] at hld
  go_wp2_with fail
  refine hrf.mono ?_
  rintro e W5 ⟨v, rfl, bv', ls', vs', lo', rfl, hR5, hlo1, hlo2, hb5⟩
  have D5 := HD3.out.below hb5
  have hst := sra_new W5 (Mo.vals_size _ _ _) hR5.vals_one
  have kb6 : Below W5.heap.size W5 (W5.alloc (.cells (M'.vals bv' ls') 36)) := (Below.refl _ _).alloc (Nat.le_refl _) _
  have b6 := Blk.new W5 36 (M'.vals bv' ls')
  obtain ⟨W6, hW6⟩ : ∃ W6, W5.alloc (.cells (M'.vals bv' ls') 36) = W6 := ⟨_, rfl⟩
  rw [hW6] at hst kb6 b6
  have D6 := D5.below kb6
  have R6 := hR5.later kb6
  have h6l : lo' ≤ W6.heap.size := Nat.le_trans hlo2 kb6.size
  obtain ⟨V', hV'⟩ : ∃ V', M'.vals bv' ls' = V' := ⟨_, rfl⟩
  have h13 : V'.size = 13 := by rw [← hV']; rfl
  have HT := Lib.hid (And.intro (D6.below (below_drewN (Below.refl _ W6) 1)) (And.intro (R6.later (below_drewN (Below.refl _ W6) 1)) (And.intro h6l (And.intro hlo1 (And.intro HF.out.2.1 (And.intro hV' h13))))))
  rw [hV'] at hst hW6 b6 ⊢
  have HB6 := Lib.hid (And.intro b6 D5.zb.lt)
  have hl6 := lra b6.drew h13
  have hpr := HF.out.2.2 W6.drew HT.out.1.ar
  have d5 : W6.cell? ⟨w.heap.size + 1, 5, none⟩ = some (.int .u64 (y : Int)) := D6.bo.cell 5
  clear hV' h13 hR5 hb5 D5 kb6 b6 D6 R6 h6l hlo1 hlo2 hrf hld c5
  have de : (er == er) = true := by simp
  go_wp2_with fail
  go_region_with (first | (go_at_call 17; refine hpr.mono ?_; rintro e10 W10 ⟨rfl, hA10, hk9⟩; have D10 := HT.out.1.go hA10 hk9; have b10 := (HB6.out.1.drew).kept hk9 (by have := HT.out.1.hp; have := HT.out.1.hq; have := HT.out.1.hl; have := HB6.out.2; simp; omega); have hl10 := lra b10 HT.out.2.2.2.2.2.2; have R10 := HT.out.2.1.kept hk9 (by have := HT.out.1.hp; have := HT.out.1.hq; have := HT.out.2.2.2.1; simp; omega); obtain ⟨hs10, hbk10, hdn10⟩ := D10.don HT.out.2.2.2.2.1 R10 HT.out.2.2.2.1 (Nat.le_trans HT.out.2.2.1 hk9.size); rw [HT.out.2.2.2.2.2.1] at hs10 hbk10 hdn10; have g5 : W10.cell? ⟨w.heap.size + 1, 5, none⟩ = some (.int .u64 (y : Int)) := D10.bo.cell 5; have HX := Lib.hid (And.intro hbk10 hdn10); clear hA10 hk9 D10 b10 R10 hbk10 hdn10))
  all_goals
    go_wp2
    refine bodyPost_ret (results_ra2 rfl _ _ (w.heap.size + 2) V' rfl HX.out.1 HT.out.2.2.2.2.2.2) rfl ?_
    first | exact ⟨_, rfl, HX.out.2⟩ | exact ⟨_, rfl, HX.out.2.drew⟩
end
end Go.Proofs.Ytgnpoehcmlmajaa
