/-
  A view behind a change: what was offered stands there, nothing ahead of it is touched, and the same offer again puts nothing. Nothing here is a statement of the document.
-/
import Derived.Test.YtkoenconjldojaaShR
namespace Go.Proofs.Ytkoenconjldojaa
open Go.RowKit Go.Shelf
set_option linter.unusedVariables false
set_option linter.unusedSimpArgs false
set_option maxRecDepth 100000
attribute [local go_sem 10000] gtU_rule leU_rule ltU_rule geU_rule adU_rule sbU_rule mxU_rule mnU_rule mnI_rule
attribute [local go_sem ↓] load_at_rule store_at_rule load_la_rule store_la_rule load_bs_rule store_bs_rule load_vw_rule store_vw_rule load_jo_rule store_jo_rule load_ms_rule store_ms_rule load_ch_rule store_ch_rule load_hd_rule store_hd_rule load_rb_rule store_rb_rule load_en_rule store_en_rule
attribute [local go_sem ↓] build_hd_rule build_rb_rule build_en_rule build_at_rule build_jo_rule upbuild_rule upapp_rule robuild_rule roapp_rule enbuild_rule enapp_rule build_vw_rule eq_at_rule eq_la_rule build_ch_rule build_ms_rule
/-- Two bases say the same. -/
def Bs.As (b d : Bs) : Prop := b.i = d.i ∧ b.e = d.e ∧ b.l = d.l ∧ b.R = d.R
/-- Two views say the same. -/
def Vw.As (v u : Vw) : Prop := v.v = u.v ∧ v.b.As u.b ∧ Same' v.L u.L
/-- Two changes say the same. -/
def Ch.As (c d : Ch) : Prop := c.ok = d.ok ∧ c.ix = d.ix ∧ c.hv = d.hv ∧ Same' c.L d.L
/-- Two messages say the same. -/
def Ms.As (m o : Ms) : Prop := (m.kd = o.kd ∧ m.fr = o.fr ∧ m.to = o.to ∧ m.ep = o.ep ∧ m.pi = o.pi ∧ m.pe = o.pe ∧ m.dn = o.dn ∧ m.ok = o.ok ∧ m.ix = o.ix ∧ m.st = o.st ∧ m.sq = o.sq ∧ m.er = o.er ∧ m.un = o.un) ∧ Same' m.L o.L ∧ m.b.As o.b
theorem dec_same {L M : List En} (h : Same' L M) : decide (Same' L M) = true := decide_eq_true h
set_option maxRecDepth 100000 in
set_option maxHeartbeats 1600000 in
theorem samebase_as (b d : Bs) (w : World) (h : b.As d) (hb : RoIn w 0 b.a b.n b.c b.R) (hd : RoIn w 0 d.a d.n d.c d.R) : Calls Try.prog 40 #[.agg b.cs, .agg d.cs] w fun e w' => e = .returned (.bool true) ∧ Below w.heap.size w w' := by
  obtain ⟨i, e, a, n, c, l, R⟩ := b
  obtain ⟨i2, e2, a2, n2, c2, l2, R2⟩ := d
  obtain ⟨rfl, rfl, rfl, rfl⟩ : i = i2 ∧ e = e2 ∧ l = l2 ∧ R = R2 := h
  obtain ⟨b0, hb0⟩ : ∃ b0, (Bs.mk i e a n c l R) = b0 := ⟨_, rfl⟩
  obtain ⟨d0, hd0⟩ : ∃ d0, (Bs.mk i e a2 n2 c2 l R) = d0 := ⟨_, rfl⟩
  rw [hb0, hd0]
  obtain ⟨W1, hW1⟩ : ∃ W1, w.alloc (.cells b0.cs 33) = W1 := ⟨_, rfl⟩
  have hb1 : Below w.heap.size w W1 := by rw [← hW1]; exact below_alloc w _
  have b1 : Blk W1 w.heap.size 33 b0.cs := by rw [← hW1]; exact Blk.new w _ _
  obtain ⟨W2, hW2⟩ : ∃ W2, W1.alloc (.cells d0.cs 33) = W2 := ⟨_, rfl⟩
  have hb12 : Below W1.heap.size W1 W2 := by rw [← hW2]; exact below_alloc W1 _
  have b2 : Blk W2 W1.heap.size 33 d0.cs := by rw [← hW2]; exact Blk.new W1 _ _
  have b3 : Blk W2 w.heap.size 33 b0.cs := b1.later hb12
  have hb02 := bel_trans hb1 hb12
  clear b1 hb1 hb12
  have q1 := bs_at b3
  have q2 := bs_at b2
  have q3 := bs_la b3
  have q4 := bs_la b2
  have q5 := bs_rb b3
  have q6 := bs_rb b2
  simp only [← hb0] at q1 q3 q5
  simp only [← hd0] at q2 q4 q6
  have mx : ∀ {a : Option Addr} {n c : Nat}, RoIn w 0 a n c R → n ≤ 9223372036854775807 := fun h => by have h3 := h.2.2.1; have h4 := h.2.2.2.1; unfold maxLen at h4; omega
  have HS := rorsame_any a a2 n c n2 c2 R R W2 hb.1 (mx hb) (hb.later hb02).2.1 hd.1 (mx hd) (hd.later hb02).2.1
  have QA : ∀ w, (eqSem 24 (.agg (acs (i : Int) e)) (.agg (acs (i : Int) e))).run Try.prog w = .ok true w := fun w => by rw [eqAt]; simp
  have QL : ∀ w, (eqSem 31 (.agg l.cs) (.agg l.cs)).run Try.prog w = .ok true w := fun w => by rw [eqLa]; simp
  have E3 : decide (R = R) = true := by simp
  rw [E3] at HS
  have HB := Lib.hid hb02
  clear hb hd b2 b3 hb02 mx hb0 hd0
  go_enter Try.func40, Try.ntmps40
  go_wp2_with fail
  refine HS.mono ?_
  rintro e9 W5 ⟨rfl, hb5⟩
  have HE := Lib.hid (bel_trans HB.out hb5)
  clear hb5
  go_wp2_with fail
  go_ret
  exact ⟨rfl, HE.out⟩
set_option maxRecDepth 100000 in
set_option maxHeartbeats 1600000 in
theorem same_as (v u : Vw) (w : World) (h : v.As u) (hv : v.In w 0) (hu : u.In w 0) : Calls Try.prog 18 #[.agg v.cs, .agg u.cs] w fun e w' => e = .returned (.bool true) ∧ Below w.heap.size w w' := by
  obtain ⟨h1, h2, h3⟩ := h
  obtain ⟨W1, hW1⟩ : ∃ W1, w.alloc (.cells v.cs 36) = W1 := ⟨_, rfl⟩
  have hb1 : Below w.heap.size w W1 := by rw [← hW1]; exact below_alloc w _
  have b1 : Blk W1 w.heap.size 36 v.cs := by rw [← hW1]; exact Blk.new w _ _
  obtain ⟨W2, hW2⟩ : ∃ W2, W1.alloc (.cells u.cs 36) = W2 := ⟨_, rfl⟩
  have hb12 : Below W1.heap.size W1 W2 := by rw [← hW2]; exact below_alloc W1 _
  have b2 : Blk W2 W1.heap.size 36 u.cs := by rw [← hW2]; exact Blk.new W1 _ _
  have b3 : Blk W2 w.heap.size 36 v.cs := b1.later hb12
  have hb02 := bel_trans hb1 hb12
  clear b1 hb1 hb12
  have q1 : W2.cell? ⟨w.heap.size, 0, none⟩ = some (.int .u64 v.v) := b3.cell 0
  have q2 : W2.cell? ⟨W1.heap.size, 0, none⟩ = some (.int .u64 u.v) := b2.cell 0
  rw [h1] at q1
  have q3 := vw_bs b3
  have q4 := vw_bs b2
  have HS := samebase_as v.b u.b W2 h2 (hv.1.later hb02) (hu.1.later hb02)
  have E1 : decide (u.v = u.v) = true := by simp
  have HB := Lib.hid (And.intro hb02 (And.intro b3 (And.intro b2 (And.intro h3 (And.intro hv.2 hu.2)))))
  clear hv hu b2 b3 hb02 h1 h2 h3
  go_enter Try.func18, Try.ntmps18
  go_wp2_with fail
  refine HS.mono ?_
  rintro e9 W5 ⟨rfl, hb5⟩
  have k1 : W5.cell? ⟨w.heap.size, 10, none⟩ = some (.slice v.a v.n v.c) := (HB.out.2.1.later hb5).cell 10
  have k2 : W5.cell? ⟨W1.heap.size, 10, none⟩ = some (.slice u.a u.n u.c) := (HB.out.2.2.1.later hb5).cell 10
  have k05 := bel_trans HB.out.1 hb5
  have HS2 := sameentries_any _ _ _ _ _ _ _ _ W5 (HB.out.2.2.2.2.1.later k05) (HB.out.2.2.2.2.2.later k05)
  rw [dec_same HB.out.2.2.2.1] at HS2
  have HC := Lib.hid k05
  clear k05 hb5
  go_wp2_with fail
  refine HS2.mono ?_
  rintro e9 W6 ⟨rfl, hb6⟩
  have HE := Lib.hid (bel_trans HC.out hb6)
  clear hb6
  go_wp2_with fail
  go_ret
  exact ⟨rfl, HE.out⟩
set_option maxRecDepth 100000 in
set_option maxHeartbeats 1600000 in
theorem samechange_as (c d : Ch) (w : World) (h : c.As d) (hc : EnIn w 0 c.a c.n c.c c.L) (hd : EnIn w 0 d.a d.n d.c d.L) : Calls Try.prog 22 #[.agg c.cs, .agg d.cs] w fun e w' => e = .returned (.bool true) ∧ Below w.heap.size w w' := by
  obtain ⟨h1, h2, h3, h4⟩ := h
  obtain ⟨W1, hW1⟩ : ∃ W1, w.alloc (.cells c.cs 67) = W1 := ⟨_, rfl⟩
  have hb1 : Below w.heap.size w W1 := by rw [← hW1]; exact below_alloc w _
  have b1 : Blk W1 w.heap.size 67 c.cs := by rw [← hW1]; exact Blk.new w _ _
  obtain ⟨W2, hW2⟩ : ∃ W2, W1.alloc (.cells d.cs 67) = W2 := ⟨_, rfl⟩
  have hb12 : Below W1.heap.size W1 W2 := by rw [← hW2]; exact below_alloc W1 _
  have b2 : Blk W2 W1.heap.size 67 d.cs := by rw [← hW2]; exact Blk.new W1 _ _
  have b3 : Blk W2 w.heap.size 67 c.cs := b1.later hb12
  have hb02 := bel_trans hb1 hb12
  clear b1 hb1 hb12
  have q0 : W2.cell? ⟨w.heap.size, 0, none⟩ = some (.bool c.ok) := b3.cell 0
  have q1 : W2.cell? ⟨w.heap.size, 1, none⟩ = some (.int .u64 (c.ix : Int)) := b3.cell 1
  have q2 : W2.cell? ⟨w.heap.size, 2, none⟩ = some (.slice c.a c.n c.c) := b3.cell 2
  have q3 : W2.cell? ⟨w.heap.size, 3, none⟩ = some (.int .u64 (c.hv : Int)) := b3.cell 3
  have p0 : W2.cell? ⟨W1.heap.size, 0, none⟩ = some (.bool d.ok) := b2.cell 0
  have p1 : W2.cell? ⟨W1.heap.size, 1, none⟩ = some (.int .u64 (d.ix : Int)) := b2.cell 1
  have p2 : W2.cell? ⟨W1.heap.size, 2, none⟩ = some (.slice d.a d.n d.c) := b2.cell 2
  have p3 : W2.cell? ⟨W1.heap.size, 3, none⟩ = some (.int .u64 (d.hv : Int)) := b2.cell 3
  rw [h1] at q0
  rw [h2] at q1
  rw [h3] at q3
  have HS2 := sameentries_any _ _ _ _ _ _ _ _ W2 (hc.later hb02) (hd.later hb02)
  rw [dec_same h4] at HS2
  have HB := Lib.hid hb02
  clear hc hd b2 b3 hb02 h1 h2 h3 h4
  go_enter Try.func22, Try.ntmps22
  go_wp2_with fail
  refine HS2.mono ?_
  rintro e9 W6 ⟨rfl, hb6⟩
  have HE := Lib.hid (bel_trans HB.out hb6)
  clear hb6
  go_wp2_with fail
  go_ret
  exact ⟨rfl, HE.out⟩
set_option maxRecDepth 100000 in
set_option maxHeartbeats 8000000 in
theorem samemsg_as (m o : Ms) (w : World) (h : m.As o) (hm : m.In w 0) (ho : o.In w 0) : Calls Try.prog 14 #[.agg m.cs, .agg o.cs] w fun e w' => e = .returned (.bool true) ∧ Below w.heap.size w w' := by
  obtain ⟨⟨hkd, hfr, hto, hep, hpi, hpe, hdn, hok, hix, hst, hsq, her, hun⟩, h2, h3⟩ := h
  obtain ⟨W1, hW1⟩ : ∃ W1, w.alloc (.cells m.cs 47) = W1 := ⟨_, rfl⟩
  have hb1 : Below w.heap.size w W1 := by rw [← hW1]; exact below_alloc w _
  have b1 : Blk W1 w.heap.size 47 m.cs := by rw [← hW1]; exact Blk.new w _ _
  obtain ⟨W2, hW2⟩ : ∃ W2, W1.alloc (.cells o.cs 47) = W2 := ⟨_, rfl⟩
  have hb12 : Below W1.heap.size W1 W2 := by rw [← hW2]; exact below_alloc W1 _
  have b2 : Blk W2 W1.heap.size 47 o.cs := by rw [← hW2]; exact Blk.new W1 _ _
  have b3 : Blk W2 w.heap.size 47 m.cs := b1.later hb12
  have hb02 := bel_trans hb1 hb12
  clear b1 hb1 hb12
  have q0 : W2.cell? ⟨w.heap.size, 0, none⟩ = some (.int .i64 m.kd) := b3.cell 0
  have p0 : W2.cell? ⟨W1.heap.size, 0, none⟩ = some (.int .i64 o.kd) := b2.cell 0
  rw [hkd] at q0
  have q1 : W2.cell? ⟨w.heap.size, 1, none⟩ = some (.int .i64 m.fr) := b3.cell 1
  have p1 : W2.cell? ⟨W1.heap.size, 1, none⟩ = some (.int .i64 o.fr) := b2.cell 1
  rw [hfr] at q1
  have q2 : W2.cell? ⟨w.heap.size, 2, none⟩ = some (.int .i64 m.to) := b3.cell 2
  have p2 : W2.cell? ⟨W1.heap.size, 2, none⟩ = some (.int .i64 o.to) := b2.cell 2
  rw [hto] at q2
  have q3 : W2.cell? ⟨w.heap.size, 3, none⟩ = some (.int .u64 m.ep) := b3.cell 3
  have p3 : W2.cell? ⟨W1.heap.size, 3, none⟩ = some (.int .u64 o.ep) := b2.cell 3
  rw [hep] at q3
  have q6 : W2.cell? ⟨w.heap.size, 6, none⟩ = some (.slice m.a m.n m.c) := b3.cell 6
  have p6 : W2.cell? ⟨W1.heap.size, 6, none⟩ = some (.slice o.a o.n o.c) := b2.cell 6
  have q7 : W2.cell? ⟨w.heap.size, 7, none⟩ = some (.int .u64 m.dn) := b3.cell 7
  have p7 : W2.cell? ⟨W1.heap.size, 7, none⟩ = some (.int .u64 o.dn) := b2.cell 7
  rw [hdn] at q7
  have q8 : W2.cell? ⟨w.heap.size, 8, none⟩ = some (.bool m.ok) := b3.cell 8
  have p8 : W2.cell? ⟨W1.heap.size, 8, none⟩ = some (.bool o.ok) := b2.cell 8
  rw [hok] at q8
  have q9 : W2.cell? ⟨w.heap.size, 9, none⟩ = some (.int .u64 (m.ix : Int)) := b3.cell 9
  have p9 : W2.cell? ⟨W1.heap.size, 9, none⟩ = some (.int .u64 (o.ix : Int)) := b2.cell 9
  rw [hix] at q9
  have q10 : W2.cell? ⟨w.heap.size, 10, none⟩ = some (.int .u64 m.st) := b3.cell 10
  have p10 : W2.cell? ⟨W1.heap.size, 10, none⟩ = some (.int .u64 o.st) := b2.cell 10
  rw [hst] at q10
  have q20 : W2.cell? ⟨w.heap.size, 20, none⟩ = some (.int .u32 m.sq) := b3.cell 20
  have p20 : W2.cell? ⟨W1.heap.size, 20, none⟩ = some (.int .u32 o.sq) := b2.cell 20
  rw [hsq] at q20
  have q21 : W2.cell? ⟨w.heap.size, 21, none⟩ = some (.slice m.ua m.un m.uc) := b3.cell 21
  have p21 : W2.cell? ⟨W1.heap.size, 21, none⟩ = some (.slice o.ua o.un o.uc) := b2.cell 21
  rw [hun] at q21
  have q22 : W2.cell? ⟨w.heap.size, 22, none⟩ = some (.int .i64 m.er) := b3.cell 22
  have p22 : W2.cell? ⟨W1.heap.size, 22, none⟩ = some (.int .i64 o.er) := b2.cell 22
  rw [her] at q22
  have qa := ms_at b3
  have pa := ms_at b2
  rw [hpi, hpe] at qa
  have QA : ∀ w, (eqSem 24 (.agg (acs (o.pi : Int) o.pe)) (.agg (acs (o.pi : Int) o.pe))).run Try.prog w = .ok true w := fun w => by rw [eqAt]; simp
  have HS := sameentries_any _ _ _ _ _ _ _ _ W2 (hm.1.later hb02) (ho.1.later hb02)
  rw [dec_same h2] at HS
  have HB := Lib.hid (And.intro hb02 (And.intro b3 (And.intro b2 (And.intro h3 (And.intro hm.2 ho.2)))))
  clear hm ho b2 b3 hb02 h2 h3 hkd hfr hto hep hpi hpe hdn hok hix hst hsq her hun
  go_enter Try.func14, Try.ntmps14
  go_wp2_with fail
  refine HS.mono ?_
  rintro e9 W5 ⟨rfl, hb5⟩
  have k1 := ms_bs (HB.out.2.1.later hb5)
  have k2 := ms_bs (HB.out.2.2.1.later hb5)
  have k05 := bel_trans HB.out.1 hb5
  have HS2 := samebase_as _ _ W5 HB.out.2.2.2.1 (HB.out.2.2.2.2.1.later k05) (HB.out.2.2.2.2.2.later k05)
  have HC := Lib.hid k05
  clear k05 hb5
  go_wp2_with fail
  refine HS2.mono ?_
  rintro e9 W6 ⟨rfl, hb6⟩
  have HE := Lib.hid (bel_trans HC.out hb6)
  clear hb6
  go_wp2_with fail
  go_ret
  exact ⟨rfl, HE.out⟩
end Go.Proofs.Ytkoenconjldojaa
namespace Go.Proofs.Ytkoenconjldojaa
open Go.RowKit Go.Shelf
set_option linter.unusedVariables false
set_option linter.unusedSimpArgs false
set_option maxRecDepth 100000
attribute [local go_sem 10000] gtU_rule leU_rule ltU_rule geU_rule adU_rule sbU_rule mxU_rule mnU_rule mnI_rule
attribute [local go_sem ↓] load_at_rule store_at_rule load_la_rule store_la_rule load_bs_rule store_bs_rule load_vw_rule store_vw_rule load_jo_rule store_jo_rule load_ms_rule store_ms_rule load_ch_rule store_ch_rule load_hd_rule store_hd_rule load_rb_rule store_rb_rule load_en_rule store_en_rule
attribute [local go_sem ↓] build_hd_rule build_rb_rule build_en_rule build_at_rule build_jo_rule upbuild_rule upapp_rule robuild_rule roapp_rule enbuild_rule enapp_rule build_vw_rule eq_at_rule eq_la_rule build_ch_rule build_ms_rule
theorem Bs.As.symm {b d : Bs} (h : b.As d) : d.As b := ⟨h.1.symm, h.2.1.symm, h.2.2.1.symm, h.2.2.2.symm⟩
theorem Bs.As.trans {b d f : Bs} (h : b.As d) (k : d.As f) : b.As f := ⟨h.1.trans k.1, h.2.1.trans k.2.1, h.2.2.1.trans k.2.2.1, h.2.2.2.trans k.2.2.2⟩
theorem Bs.Of.as {b d x : Bs} {w w' : World} {B B' : Nat} (h : b.Of x w B) (k : d.Of x w' B') : b.As d := ⟨h.i.trans k.i.symm, h.e.trans k.e.symm, h.l.trans k.l.symm, h.R.trans k.R.symm⟩
theorem Vw.Of.as {v u x : Vw} {w w' : World} {B B' : Nat} (h : v.Of x w B) (k : u.Of x w' B') : v.As u ∧ v.n = u.n := ⟨⟨h.v.trans k.v.symm, h.b.as k.b, h.L.trans k.L.symm⟩, h.n.trans k.n.symm⟩
theorem Ms.Of.as {m o x : Ms} {w w' : World} {B B' : Nat} (h : m.Of x w B) (k : o.Of x w' B') : m.As o ∧ m.n = o.n := by
  obtain ⟨h1, h2, h3, h4, h5, h6, h7, h8, h9, h10, h11, h12⟩ := h.f
  obtain ⟨k1, k2, k3, k4, k5, k6, k7, k8, k9, k10, k11, k12⟩ := k.f
  exact ⟨⟨⟨h1.trans k1.symm, h2.trans k2.symm, h3.trans k3.symm, h4.trans k4.symm, h5.trans k5.symm, h6.trans k6.symm, h7.trans k7.symm, h8.trans k8.symm, h9.trans k9.symm, h10.trans k10.symm, h11.trans k11.symm, h12.trans k12.symm, h.ub.2.1.trans k.ub.2.1.symm⟩, h.L.trans k.L.symm, h.b.as k.b⟩, h.n.trans k.n.symm⟩
theorem Vw.As.z {v u : Vw} (h : v.As u) (hn : v.n = u.n) : v.z = u.z := by
  unfold Vw.z
  rw [h.2.1.1, hn]
theorem Vw.As.ok {v u : Vw} (h : v.As u) (hn : v.n = u.n) : v.ok = u.ok := by
  unfold Vw.ok
  rw [h.2.1.1, hn]
theorem Ms.As.off {m o : Ms} (h : m.As o) (hn : m.n = o.n) : m.off = o.off := by
  unfold Ms.off
  rw [h.1.1, hn, h.1.2.2.2.2.1]
theorem Vw.As.place {v u : Vw} (h : v.As u) (hn : v.n = u.n) (x : Nat) : placeR v x = placeR u x := by
  unfold placeR
  rw [h.z hn, h.2.1.1, h.2.1.2.1, (con_eq.1 (h.2.2.get (x - u.b.i - 1))).1]
theorem there_as {v u : Vw} {m o : Ms} (h : v.As u) (hn : v.n = u.n) (k : m.As o) (q : Nat) : there v m q = there u o q := by
  unfold there
  rw [h.z hn, h.2.1.1, k.1.2.2.2.2.1, h.2.2.get, k.2.1.get]
theorem Same'.drop {L M : List En} (h : Same' L M) (k : Nat) : Same' (L.drop k) (M.drop k) := by
  have h9 : L.map con = M.map con := h
  show (L.drop k).map con = (M.drop k).map con
  rw [List.map_drop, List.map_drop, h9]
theorem fit_as {v u : Vw} {m o : Ms} {c : Ch} (h : v.As u) (hn : v.n = u.n) (k : m.As o) (km : m.n = o.n) (hc : FitR v m c) : FitR u o c := by
  obtain ⟨h1, h2, h3⟩ := hc
  have e1 := h.2.1.1
  have e2 := k.1.2.2.2.2.1
  refine ⟨h1, by rw [h2, e2, km], ?_⟩
  rcases h3 with ⟨p1, p2, p3, p4⟩ | ⟨j, p1, p2, p3, p4, p5, p6⟩
  · refine .inl ⟨p1, p2, p3, fun q hq => ?_⟩
    rw [← e1, ← e2, ← km] at hq
    have := p4 q hq
    rw [there_as h hn k, e1, e2] at this
    exact this
  · rw [e1, e2] at p1 p2 p3 p4 p5 p6
    rw [km] at p1 p5
    refine .inr ⟨j, p1, fun q hq => ?_, ?_, p4, p5, Eq.trans p6 (k.2.1.drop _)⟩
    · rw [← there_as h hn k]; exact p2 q hq
    · rw [← there_as h hn k]; exact p3
theorem made_as {v u : Vw} {m o : Ms} {c : Ch} (h : v.As u) (hn : v.n = u.n) (k : m.As o) (km : m.n = o.n) (hc : MadeR v m c) : MadeR u o c := by
  unfold MadeR at *
  rw [← h.z hn, ← k.1.2.2.2.2.1, ← h.place hn, ← k.1.2.2.2.2.2.1]
  rcases hc with hc | hc | ⟨h1, h2, hc⟩
  · exact .inl hc
  · exact .inr (.inl hc)
  · exact .inr (.inr ⟨h1, h2, fit_as h hn k km hc⟩)
theorem fit_one {v : Vw} {m : Ms} {c d : Ch} (h : FitR v m c) (k : FitR v m d) : c.As d := by
  obtain ⟨h1, h2, h3⟩ := h
  obtain ⟨k1, k2, k3⟩ := k
  refine ⟨h1.trans k1.symm, ?_, h2.trans k2.symm, ?_⟩
  · rcases h3 with ⟨p1, p2, p3, p4⟩ | ⟨i, p1, p2, p3, p4, p5, p6⟩
    · rcases k3 with ⟨q1, q2, q3, q4⟩ | ⟨j, q1, q2, q3, q4, q5, q6⟩
      · rw [p1, q1]
      · rw [p4 j q1] at q3; cases q3
    · rcases k3 with ⟨q1, q2, q3, q4⟩ | ⟨j, q1, q2, q3, q4, q5, q6⟩
      · rw [q4 i p1] at p3; cases p3
      · obtain rfl : i = j := by
          rcases Nat.lt_trichotomy i j with e | e | e
          · rw [q2 i e] at p3; cases p3
          · exact e
          · rw [p2 j e] at q3; cases q3
        rw [p4, q4]
  · rcases h3 with ⟨p1, p2, p3, p4⟩ | ⟨i, p1, p2, p3, p4, p5, p6⟩
    · rcases k3 with ⟨q1, q2, q3, q4⟩ | ⟨j, q1, q2, q3, q4, q5, q6⟩
      · rw [p3, q3]; rfl
      · rw [p4 j q1] at q3; cases q3
    · rcases k3 with ⟨q1, q2, q3, q4⟩ | ⟨j, q1, q2, q3, q4, q5, q6⟩
      · rw [q4 i p1] at p3; cases p3
      · obtain rfl : i = j := by
          rcases Nat.lt_trichotomy i j with e | e | e
          · rw [q2 i e] at p3; cases p3
          · exact e
          · rw [p2 j e] at q3; cases q3
        exact Eq.trans p6 (Eq.symm q6)
theorem Ch.As.refl (c : Ch) : c.As c := ⟨rfl, rfl, rfl, rfl⟩
theorem made_one {v : Vw} {m : Ms} {c d : Ch} (h : MadeR v m c) (k : MadeR v m d) : c.As d := by
  rcases h with ⟨h1, rfl⟩ | ⟨h1, h2, rfl⟩ | ⟨h1, h2, h3⟩
  · rcases k with ⟨k1, rfl⟩ | ⟨k1, k2, rfl⟩ | ⟨k1, k2, k3⟩
    · exact Ch.As.refl _
    · exact absurd h1 k1
    · exact absurd h1 k1
  · rcases k with ⟨k1, rfl⟩ | ⟨k1, k2, rfl⟩ | ⟨k1, k2, k3⟩
    · exact absurd k1 h1
    · exact Ch.As.refl _
    · exact absurd h2 k2
  · rcases k with ⟨k1, rfl⟩ | ⟨k1, k2, rfl⟩ | ⟨k1, k2, k3⟩
    · exact absurd k1 h1
    · exact absurd k2 h2
    · exact fit_one h3 k3
/-- What spoil leaves standing. -/
structure Soil (a : Option Addr) (L : List En) (B : Nat) (w0 w : World) : Prop where
  bel : Below B w0 w
  oth : ∀ g t cs, t ≠ 92 → t ≠ 106 → Blk w0 g t cs → Blk w g t cs
  row : L ≠ [] → ∃ g cur, a = some ⟨g, 0, none⟩ ∧ B ≤ g ∧ Blk w g 92 cur ∧ ∀ i, i < L.length → (∃ v, cur[i * 4]? = some v) ∧ cur[i * 4 + 3]? = some (.slice (eng L i).a (eng L i).n (eng L i).c)
  ups : ∀ x ∈ L, x.n ≠ 0 → ∃ g cur, x.a = some ⟨g, 0, none⟩ ∧ B ≤ g ∧ Blk w g 106 cur ∧ x.n * 22 ≤ cur.size
theorem Soil.of {w : World} {B : Nat} {a : Option Addr} {n c : Nat} {L : List En} (h : EnOwn w B (.slice a n c) L) : Soil a L B w w := by
  refine ⟨Below.refl _ _, fun _ _ _ _ _ h => h, fun hne => ?_, fun x hx hne => ?_⟩
  · rcases h.1.2 with ⟨h9, h0⟩ | ⟨g, cap, cur, h1, hb, hg, hc, hm, hs, ht⟩
    · exact absurd (List.eq_nil_of_length_eq_zero h0) hne
    · injection h1 with h1
      refine ⟨g, cur, h1, hb, hg, fun i hi => ?_⟩
      have key : ∀ j, j < 4 → cur[i * 4 + j]? = (eng L i).cs[j]? := fun j hj => by
        rw [← encs_get L hi hj, ← ht, List.getElem?_take, if_pos (by omega), Array.getElem?_toList]
      exact ⟨⟨_, (key 0 (by decide)).trans (eng L i).q0⟩, (key 3 (by decide)).trans (eng L i).q3⟩
  · rcases (h.2 x hx).2 with ⟨h9, h0⟩ | ⟨g, cap, cur, h1, hb, hg, hc, hm, hs, ht⟩
    · injection h9 with _ h9 _
      exact absurd h9 hne
    · injection h1 with h1 h2 h3
      exact ⟨g, cur, h1, hb, hg, by rw [hs, h2]; have := hc; exact Nat.mul_le_mul_right 22 hc⟩
theorem Soil.put {a : Option Addr} {L : List En} {B : Nat} {w0 w : World} (h : Soil a L B w0 w) {g : Nat} {t : TypeId} {cur : Array Value} (hb : Blk w g t cur) (hB : B ≤ g) (ht : t = 92 ∨ t = 106) (i : Nat) (v : Value) (hS : B ≤ w.heap.size)
    (hk : t = 92 → i % 4 = 0) : Soil a L B w0 (w.setCell ⟨g, i, none⟩ v) := by
  have k : Kept [g] w (w.setCell ⟨g, i, none⟩ v) := Kept.setCell (p := ⟨g, i, none⟩) (Kept.refl _ _) (.inl (by simp)) _
  have hn := hb.set i v
  refine ⟨Below.trans h.bel (k.below (fun j hj => by simp at hj; omega) hS), fun g2 t2 cs h1 h2 h3 => ?_, fun hne => ?_, fun x hx hne => ?_⟩
  · have h4 := h.oth g2 t2 cs h1 h2 h3
    refine h4.kept k (fun hm => ?_)
    obtain rfl : g2 = g := by simpa using hm
    refine (Blk.ne h4 hb (fun e => ?_)) rfl
    rcases ht with rfl | rfl
    · exact h1 e
    · exact h2 e
  · obtain ⟨g2, cs, e, hB2, hb2, hr⟩ := h.row hne
    by_cases hg : g2 = g
    · subst hg
      have et : t = 92 := by
        refine Classical.byContradiction fun hne => ?_
        exact (Blk.ne hb hb2 hne) rfl
      subst et
      have ec : cs = cur := by
        have h8 := hb2.symm.trans hb
        injection h8 with h8
        injection h8
      subst ec
      refine ⟨g2, _, e, hB2, hn, fun q hq => ⟨?_, ?_⟩⟩
      · obtain ⟨u, hu⟩ := (hr q hq).1
        by_cases e9 : i = q * 4
        · subst e9
          refine ⟨v, ?_⟩
          rw [Array.getElem?_setIfInBounds_self_of_lt]
          exact (Array.getElem?_eq_some_iff.1 hu).1
        · refine ⟨u, ?_⟩
          rw [Array.getElem?_setIfInBounds_ne e9]
          exact hu
      · rw [Array.getElem?_setIfInBounds_ne (by have := hk rfl; omega)]
        exact (hr q hq).2
    · exact ⟨g2, cs, e, hB2, hb2.kept k (by simp; exact hg), hr⟩
  · obtain ⟨g2, cs, e, hB2, hb2, hr⟩ := h.ups x hx hne
    by_cases hg : g2 = g
    · subst hg
      have et : t = 106 := by
        refine Classical.byContradiction fun hne => ?_
        exact (Blk.ne hb hb2 hne) rfl
      subst et
      have ec : cs = cur := by
        have h8 := hb2.symm.trans hb
        injection h8 with h8
        injection h8
      subst ec
      exact ⟨g2, _, e, hB2, hn, by simpa using hr⟩
    · exact ⟨g2, cs, e, hB2, hb2.kept k (by simp; exact hg), hr⟩
set_option maxHeartbeats 4000000 in
theorem spoil_any (a : Option Addr) (n c : Nat) (L : List En) (B : Nat) (w : World) (h : EnOwn w B (.slice a n c) L) (hB : B ≤ w.heap.size) : Calls Try.prog 17 #[.slice a n c] w fun e w' => e = .returned (.tuple #[]) ∧ Soil a L B w w' := by
  have hI := h.into
  have hn := hI.1
  have hs : n ≤ 9223372036854775807 := by have h3 := hI.2.2.1; have h4 := hI.2.2.2.1; unfold maxLen at h4; omega
  have hxs : ∀ x ∈ L, x.n ≤ 9223372036854775807 := fun x hx => by have h3 := (hI.2.2.2.2.2.2 x hx).2.2.1; have h4 := (hI.2.2.2.2.2.2 x hx).2.2.2.1; unfold maxLen at h4; omega
  have H0 := Lib.hid (And.intro (Soil.of h) (And.intro hB hxs))
  clear h hI hB hxs
  go_enter Try.func17, Try.ntmps17
  go_wp2_with fail
  go_loopw [6] (fun i wr => ∃ q : Nat, q ≤ n ∧ i = .int .i64 (q : Int) ∧ Soil a L B w wr) (fun i _ => n - (intOf i).toNat)
  case atStart => exact ⟨0, Nat.zero_le _, rfl, H0.out.1⟩
  case round =>
    obtain ⟨q, hq, rfl, hso⟩ := hrel
    by_cases hlt : q < n
    · have hql : q < L.length := by omega
      have hne : L ≠ [] := fun e => by rw [e] at hql; simp at hql
      obtain ⟨g, cur, ha, hB2, hb, hr⟩ := hso.row hne
      subst ha
      have c3 : wr.cell? ⟨g, q * 4 + 3, none⟩ = some (.slice (eng L q).a (eng L q).n (eng L q).c) := (hb.cell _).trans (hr q hql).2
      have hxm := H0.out.2.2 _ (eng_mem hql)
      obtain ⟨x, hx⟩ : ∃ x, eng L q = x := ⟨_, rfl⟩
      have hxL : x ∈ L := by rw [← hx]; exact eng_mem hql
      rw [hx] at c3 hxm
      have HX := Lib.hid (And.intro hso (And.intro hxL (And.intro hql hx)))
      clear hso hb hr hxL hx
      go_wp2_with fail
      go_loopw [16] (fun i wr => ∃ k : Nat, k ≤ x.n ∧ i = .int .i64 (k : Int) ∧ Soil (some ⟨g, 0, none⟩) L B w wr) (fun i _ => x.n - (intOf i).toNat)
      case atStart => exact ⟨0, Nat.zero_le _, rfl, HX.out.1⟩
      case round =>
        obtain ⟨k, hk, rfl, hso⟩ := hrel
        by_cases hlk : k < x.n
        · obtain ⟨g2, cur2, ha2, hB3, hb2, hr2⟩ := hso.row (fun e => by have := HX.out.2.2.1; rw [e] at this; simp at this)
          injection ha2 with ha2
          injection ha2 with ha2 _ _
          subst ha2
          have e3 := (hb2.cell _).trans (hr2 q HX.out.2.2.1).2
          rw [HX.out.2.2.2] at e3
          obtain ⟨gu, cu, hau, hBu, hbu, hru⟩ := hso.ups x HX.out.2.1 (by omega)
          rw [hau] at e3
          obtain ⟨old, hold⟩ : ∃ old, wr.cell? ⟨gu, k * 22 + 21, none⟩ = some old := ⟨_, (hbu.cell _).trans (Array.getElem?_eq_getElem (by omega))⟩
          have hfr := hbu.free (k * 22 + 21)
          have hP := hso.put hbu hBu (.inr rfl) (k * 22 + 21) (.int .i64 99) (Nat.le_trans H0.out.2.1 hso.bel.size) (fun e => absurd e (by decide))
          have HP := Lib.hid hP
          clear hP hso hb2 hr2 hbu hru hau
          go_wp2_with fail
          go_roundw
          case rel => exact ⟨k + 1, by omega, by go_num, HP.out⟩
          case measure => (simp [intOf]; try omega)
        · obtain rfl : k = x.n := by omega
          obtain ⟨g2, cur2, ha2, hB3, hb2, hr2⟩ := hso.row (fun e => by have := HX.out.2.2.1; rw [e] at this; simp at this)
          injection ha2 with ha2
          injection ha2 with ha2 _ _
          subst ha2
          obtain ⟨old, hold⟩ := (hr2 q HX.out.2.2.1).1
          have e0 := (hb2.cell _).trans hold
          have hfr := hb2.free (q * 4)
          have hP := hso.put hb2 hB3 (.inl rfl) (q * 4) (.int .u64 99) (Nat.le_trans H0.out.2.1 hso.bel.size) (fun _ => by omega)
          have HP := Lib.hid hP
          clear hP hso hb2 hr2 hold
          go_wp2_with fail
          go_roundw
          case rel => exact ⟨q + 1, by omega, by go_num, HP.out⟩
          case measure => (simp [intOf]; try omega)
    · obtain rfl : q = n := by omega
      have HE := Lib.hid hso
      clear hso
      go_wp2_with fail
      go_end0
      exact ⟨rfl, HE.out⟩
end Go.Proofs.Ytkoenconjldojaa
namespace Go.Proofs.Ytkoenconjldojaa
open Go.RowKit Go.Shelf
set_option linter.unusedVariables false
set_option linter.unusedSimpArgs false
set_option maxRecDepth 100000
theorem eng_low {L M : List En} {k i : Nat} (hk : k ≤ L.length) (hi : i < k) : eng (L.take k ++ M) i = eng L i := by
  have h1 : i < (L.take k).length := by rw [List.length_take]; omega
  unfold eng
  rw [List.getD_eq_getElem?_getD, List.getD_eq_getElem?_getD, List.getElem?_append_left h1, List.getElem?_take_of_lt hi]
theorem eng_high {L M : List En} {k t : Nat} (hk : k ≤ L.length) : eng (L.take k ++ M) (k + t) = eng M t := by
  have h1 : (L.take k).length = k := by rw [List.length_take]; omega
  unfold eng
  rw [List.getD_eq_getElem?_getD, List.getD_eq_getElem?_getD, List.getElem?_append_right (by omega), h1]
  congr 2
  omega
theorem eng_drop (L : List En) (q t : Nat) : eng (L.drop q) t = eng L (q + t) := by
  unfold eng
  rw [List.getD_eq_getElem?_getD, List.getD_eq_getElem?_getD, List.getElem?_drop]
/-- A view behind a change that puts entries from a place on. -/
def Vw.put (v : Vw) (k : Nat) (a : Option Addr) (c : Nat) (M : List En) : Vw := { v with a := a, n := k + M.length, c := c, L := v.L.take k ++ M }
/-- The view behind a change of an offer that fits. -/
def Behind (v : Vw) (c : Ch) (u : Vw) : Prop :=
  (c.ix = 0 ∧ u = v) ∨ (c.ix ≠ 0 ∧ ∃ a cp M, Same' M c.L ∧ u = v.put (c.ix - v.b.i - 1) a cp M)
theorem fit_at {v : Vw} {m : Ms} {c : Ch} (h1 : ¬ v.z < m.pi) (hc : FitR v m c) (h0 : c.ix ≠ 0) : ∃ q, q < m.n ∧ v.b.i ≤ m.pi + q ∧ c.ix = m.pi + q + 1 ∧ m.pi + q ≤ v.z ∧ c.n = m.n - q ∧ Same' c.L (m.L.drop q) ∧ ∀ j, j < q → v.b.i ≤ m.pi + j → there v m j = true := by
  obtain ⟨_, _, h3⟩ := hc
  rcases h3 with ⟨p1, _⟩ | ⟨k, p1, p2, p3, p4, p5, p6⟩
  · exact absurd p1 h0
  · refine ⟨v.b.i - m.pi + k, by omega, by omega, p4, ?_, p5, p6, fun j hj hb => ?_⟩
    · cases k with
      | zero => unfold Vw.z at *; omega
      | succ k =>
        have := p2 k (Nat.lt_succ_self _)
        unfold there at this
        have := (of_decide_eq_true this).1
        omega
    · have := p2 (j - (v.b.i - m.pi)) (by omega)
      rwa [show v.b.i - m.pi + (j - (v.b.i - m.pi)) = j by omega] at this
theorem behind_z {v u : Vw} {m : Ms} {c : Ch} (hv : v.L.length = v.n) (hm : m.L.length = m.n) (h1 : ¬ v.z < m.pi) (hc : FitR v m c) (hu : Behind v c u) : u.b = v.b ∧ u.L.length = u.n ∧ (u = v ∨ u.z = m.pi + m.n) := by
  rcases hu with ⟨_, rfl⟩ | ⟨h0, a, cp, M, hM, rfl⟩
  · exact ⟨rfl, hv, .inl rfl⟩
  · obtain ⟨q, h2, h3, h4, h5, h6, h7, _⟩ := fit_at h1 hc h0
    have e1 : M.length = m.n - q := by rw [hM.len, h7.len, List.length_drop, hm]
    refine ⟨rfl, ?_, .inr ?_⟩
    · show (v.L.take (c.ix - v.b.i - 1) ++ M).length = c.ix - v.b.i - 1 + M.length
      rw [List.length_append, List.length_take]
      unfold Vw.z at h5
      omega
    · show v.b.i + (c.ix - v.b.i - 1 + M.length) = _
      omega
/-- What was offered stands there. -/
theorem behind_there {v u : Vw} {m : Ms} {c : Ch} (hv : v.L.length = v.n) (hm : m.L.length = m.n) (h1 : ¬ v.z < m.pi) (hc : FitR v m c) (hu : Behind v c u) : ∀ j, j < m.n → u.b.i ≤ m.pi + j → there u m j = true := by
  intro j hj hb
  rcases hu with ⟨h0, rfl⟩ | ⟨h0, a, cp, M, hM, rfl⟩
  · obtain ⟨_, _, h3⟩ := hc
    rcases h3 with ⟨p1, p2, p3, p4⟩ | ⟨k, p1, p2, p3, p4, _⟩
    · have := p4 (j - (u.b.i - m.pi)) (by omega)
      rwa [show u.b.i - m.pi + (j - (u.b.i - m.pi)) = j by omega] at this
    · omega
  · obtain ⟨q, h2, h3, h4, h5, h6, h7, h8⟩ := fit_at h1 hc h0
    have e1 : M.length = m.n - q := by rw [hM.len, h7.len, List.length_drop, hm]
    have e2 : c.ix - v.b.i - 1 = m.pi + q - v.b.i := by omega
    have hk : m.pi + q - v.b.i ≤ v.L.length := by rw [hv]; unfold Vw.z at h5; omega
    have hb2 : v.b.i ≤ m.pi + j := hb
    unfold there
    refine decide_eq_true ⟨?_, ?_⟩
    · show m.pi + j + 1 ≤ v.b.i + (c.ix - v.b.i - 1 + M.length)
      omega
    · show con (eng (v.L.take (c.ix - v.b.i - 1) ++ M) (m.pi + j - v.b.i)) = _
      rw [e2]
      by_cases hjq : j < q
      · rw [eng_low hk (by omega)]
        have := h8 j hjq hb2
        unfold there at this
        exact (of_decide_eq_true this).2
      · rw [show m.pi + j - v.b.i = m.pi + q - v.b.i + (j - q) by omega, eng_high hk, hM.get, h7.get, eng_drop]
        congr 2
        omega
/-- Nothing ahead of the offer is touched. -/
theorem behind_ahead {v u : Vw} {m : Ms} {c : Ch} (hv : v.L.length = v.n) (h1 : ¬ v.z < m.pi) (hc : FitR v m c) (hu : Behind v c u) : ∀ i, v.b.i ≤ i → i < m.pi → eng u.L (i - v.b.i) = eng v.L (i - v.b.i) := by
  intro i hi hp
  rcases hu with ⟨_, rfl⟩ | ⟨h0, a, cp, M, hM, rfl⟩
  · rfl
  · obtain ⟨q, h2, h3, h4, h5, h6, h7, h8⟩ := fit_at h1 hc h0
    show eng (v.L.take (c.ix - v.b.i - 1) ++ M) (i - v.b.i) = _
    exact eng_low (by rw [hv]; unfold Vw.z at h5; omega) (by omega)
/-- The same offer again puts nothing. -/
theorem behind_again {v u : Vw} {m : Ms} {c d : Ch} (hv : v.L.length = v.n) (hm : m.L.length = m.n) (h1 : ¬ v.z < m.pi) (h2 : ¬ ((placeR v m.pi).2.2 = true ∧ (placeR v m.pi).2.1 ≠ m.pe)) (hc : FitR v m c) (hu : Behind v c u) (hd : MadeR u m d) : d.ok = true ∧ d.ix = 0 ∧ d.hv = c.hv := by
  obtain ⟨hb, _, hz⟩ := behind_z hv hm h1 hc hu
  have hz2 : m.pi ≤ u.z := by
    rcases hz with rfl | hz
    · omega
    · omega
  have hpl : placeR u m.pi = placeR v m.pi := by
    unfold placeR
    rw [hb]
    by_cases e1 : m.pi = v.b.i
    · rw [if_pos e1, if_pos e1]
    · rw [if_neg e1, if_neg e1]
      by_cases e2 : m.pi < v.b.i
      · rw [if_pos (.inl e2), if_pos (.inl e2)]
      · rw [if_neg (by omega), if_neg (by omega)]
        have := behind_ahead hv h1 hc hu (m.pi - 1) (by omega) (by omega)
        rw [show m.pi - v.b.i - 1 = m.pi - 1 - v.b.i by omega, this]
  rcases hd with ⟨h9, _⟩ | ⟨_, h9, _⟩ | ⟨_, _, hf⟩
  · omega
  · rw [hpl] at h9
    exact absurd h9 h2
  · obtain ⟨p1, p2, p3⟩ := hf
    refine ⟨p1, ?_, p2.trans hc.2.1.symm⟩
    rcases p3 with ⟨q1, _⟩ | ⟨k, q1, q2, q3, _⟩
    · exact q1
    · rw [behind_there hv hm h1 hc hu _ (by omega) (by omega)] at q3
      cases q3
end Go.Proofs.Ytkoenconjldojaa
