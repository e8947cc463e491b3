/-
  Places, last entries, entries are compared: the contracts of ship.same, of the law's same, and of the reference's SameEntries. Nothing here is a statement of the document.
-/
import Derived.Test.YtkoenconjldojaaShJ
import Derived.Test.YtkoenconjldojaaRtX
namespace Go.Proofs.Ytkoenconjldojaa
open Go.RowKit Go.Shelf
set_option linter.unusedVariables false
set_option linter.unusedSimpArgs false
set_option maxRecDepth 100000
attribute [local go_sem 10000] gtU_rule leU_rule ltU_rule geU_rule adU_rule sbU_rule mxU_rule mnU_rule mnI_rule
attribute [local go_sem ↓] load_at_rule store_at_rule load_la_rule store_la_rule load_bs_rule store_bs_rule load_vw_rule store_vw_rule load_jo_rule store_jo_rule load_ms_rule store_ms_rule load_ch_rule store_ch_rule load_hd_rule store_hd_rule load_rb_rule store_rb_rule load_en_rule store_en_rule
attribute [local go_sem ↓] build_hd_rule build_rb_rule build_en_rule build_at_rule build_jo_rule upbuild_rule upapp_rule robuild_rule roapp_rule enbuild_rule enapp_rule
theorem eq_at_rule (a b : Value) : Op.equalIn 10000 24 a b = eqSem 24 a b := rfl
theorem eq_la_rule (a b : Value) : Op.equalIn 10000 31 a b = eqSem 31 a b := rfl
theorem stood_at : Try.prog.stoodInHeld 24 = false := by kernel_rfl
theorem stood_last : Try.prog.stoodInHeld 30 = false := by kernel_rfl
theorem equal_u64 (d : Nat) (x y : Int) (w : World) : (Op.equalIn (d + 1) 22 (.int .u64 x) (.int .u64 y)).run Try.prog w = .ok (decide (x = y)) w := by
  have := run_equalIn_int (P := Try.prog) (w := w) d 22 .u64 .u64 x y Try.underlying22
  rw [this]
  congr 1
theorem equal_u32 (d : Nat) (x y : Int) (w : World) : (Op.equalIn (d + 1) 28 (.int .u32 x) (.int .u32 y)).run Try.prog w = .ok (decide (x = y)) w := by
  have := run_equalIn_int (P := Try.prog) (w := w) d 28 .u32 .u32 x y Try.underlying28
  rw [this]
  congr 1
def lcs (p : Int × Int) : Array Value := #[.int .u32 p.1, .int .u64 p.2]
theorem atp0 (i e : Int) (w : World) : (part 22 (acs i e) 0).run Try.prog w = .ok (.int .u64 i) w := by kernel_rfl
theorem atp1 (i e : Int) (w : World) : (part 22 (acs i e) 1).run Try.prog w = .ok (.int .u64 e) w := by kernel_rfl
theorem lap0 (p : Int × Int) (w : World) : (part 28 (lcs p) 0).run Try.prog w = .ok (.int .u32 p.1) w := by kernel_rfl
theorem lap1 (p : Int × Int) (w : World) : (part 22 (lcs p) 1).run Try.prog w = .ok (.int .u64 p.2) w := by kernel_rfl
theorem equal_at (d : Nat) (i e i2 e2 : Int) (w : World) : (Op.equalIn (d + 2) 24 (.agg (acs i e)) (.agg (acs i2 e2))).run Try.prog w = .ok (decide (i = i2 ∧ e = e2)) w := by
  rw [show d + 2 = (d + 1) + 1 from rfl, Op.equalIn]
  have hu := run_underlying (P := Try.prog) Try.underlying24 w
  have h2 := fun x y => equal_u64 d x y w
  have h3 := fun x y => equal_u64 d x y w
  simp only [Sem.run_bind, hu, Result.andThen_ok, run_prog, stood_at]
  simp only [Bool.false_eq_true, if_false, List.forIn_toArray, List.forIn_cons, List.forIn_nil, Sem.run_bind, Sem.run_pure, Result.andThen_ok]
  simp only [show ("Index" ≠ "_") = True from by simp, show ("Epoch" ≠ "_") = True from by simp, if_true, Sem.run_bind, Result.andThen_ok, atp0, atp1, h2, h3]
  by_cases k0 : i = i2
  · have hd0 : (!decide (i = i2)) = false := by simp [k0]
    simp only [hd0, Bool.false_eq_true, if_false, Sem.run_pure, Sem.run_bind, Result.andThen_ok, atp0, atp1, h2, h3]
    by_cases k1 : e = e2
    · have hd1 : (!decide (e = e2)) = false := by simp [k1]
      have he : decide (i = i2 ∧ e = e2) = true := decide_eq_true ⟨k0, k1⟩
      simp only [hd1, Bool.false_eq_true, if_false, he, Sem.run_pure, Result.andThen_ok]
    · have hd1 : (!decide (e = e2)) = true := by simp [k1]
      have he : decide (i = i2 ∧ e = e2) = false := decide_eq_false (fun h => k1 h.2)
      simp only [hd1, if_true, he, Sem.run_pure, Result.andThen_ok]
  · have hd0 : (!decide (i = i2)) = true := by simp [k0]
    have he : decide (i = i2 ∧ e = e2) = false := decide_eq_false (fun h => k0 h.1)
    simp only [hd0, if_true, he, Sem.run_pure, Result.andThen_ok]
theorem equal_last (d : Nat) (p q : Int × Int) (w : World) : (Op.equalIn (d + 2) 30 (.agg (lcs p)) (.agg (lcs q))).run Try.prog w = .ok (decide (p.1 = q.1 ∧ p.2 = q.2)) w := by
  rw [show d + 2 = (d + 1) + 1 from rfl, Op.equalIn]
  have hu := run_underlying (P := Try.prog) Try.underlying30 w
  have h2 := fun x y => equal_u32 d x y w
  have h3 := fun x y => equal_u64 d x y w
  simp only [Sem.run_bind, hu, Result.andThen_ok, run_prog, stood_last]
  simp only [Bool.false_eq_true, if_false, List.forIn_toArray, List.forIn_cons, List.forIn_nil, Sem.run_bind, Sem.run_pure, Result.andThen_ok]
  simp only [show ("Seq" ≠ "_") = True from by simp, show ("Index" ≠ "_") = True from by simp, if_true, Sem.run_bind, Result.andThen_ok, lap0, lap1, h2, h3]
  by_cases k0 : p.1 = q.1
  · have hd0 : (!decide (p.1 = q.1)) = false := by simp [k0]
    simp only [hd0, Bool.false_eq_true, if_false, Sem.run_pure, Sem.run_bind, Result.andThen_ok, lap0, lap1, h2, h3]
    by_cases k1 : p.2 = q.2
    · have hd1 : (!decide (p.2 = q.2)) = false := by simp [k1]
      have he : decide (p.1 = q.1 ∧ p.2 = q.2) = true := decide_eq_true ⟨k0, k1⟩
      simp only [hd1, Bool.false_eq_true, if_false, he, Sem.run_pure, Result.andThen_ok]
    · have hd1 : (!decide (p.2 = q.2)) = true := by simp [k1]
      have he : decide (p.1 = q.1 ∧ p.2 = q.2) = false := decide_eq_false (fun h => k1 h.2)
      simp only [hd1, if_true, he, Sem.run_pure, Result.andThen_ok]
  · have hd0 : (!decide (p.1 = q.1)) = true := by simp [k0]
    have he : decide (p.1 = q.1 ∧ p.2 = q.2) = false := decide_eq_false (fun h => k0 h.1)
    simp only [hd0, if_true, he, Sem.run_pure, Result.andThen_ok]
def La.at (l : La) : Nat → Int × Int
  | 0 => (l.s0, l.i0)
  | 1 => (l.s1, l.i1)
  | _ => (l.s2, l.i2)
theorem La.ext_at {a b : La} (h : ∀ i, i < 3 → a.at i = b.at i) : a = b := by
  have h0 := h 0 (by omega)
  have h1 := h 1 (by omega)
  have h2 := h 2 (by omega)
  obtain ⟨a0, a1, a2, a3, a4, a5⟩ := a
  obtain ⟨b0, b1, b2, b3, b4, b5⟩ := b
  simp only [La.at, Prod.mk.injEq] at h0 h1 h2
  obtain ⟨rfl, rfl⟩ := h0
  obtain ⟨rfl, rfl⟩ := h1
  obtain ⟨rfl, rfl⟩ := h2
  rfl
theorem la_part0 (c : La) (w : World) : (part 30 c.cs (0 * 2)).run Try.prog w = .ok (.agg (lcs (c.at 0))) w := by kernel_rfl
theorem la_part1 (c : La) (w : World) : (part 30 c.cs (1 * 2)).run Try.prog w = .ok (.agg (lcs (c.at 1))) w := by kernel_rfl
theorem la_part2 (c : La) (w : World) : (part 30 c.cs (2 * 2)).run Try.prog w = .ok (.agg (lcs (c.at 2))) w := by kernel_rfl
theorem equal_la (d : Nat) (a b : La) (w : World) : (Op.equalIn (d + 3) 31 (.agg a.cs) (.agg b.cs)).run Try.prog w = .ok (decide (a = b)) w := by
  rw [show d + 3 = (d + 2) + 1 from rfl, Op.equalIn]
  have hu := run_underlying (P := Try.prog) Try.underlying31 w
  have hn : (sizeOf 30).run Try.prog w = .ok 2 w := by kernel_rfl
  simp only [Sem.run_bind, hu, Result.andThen_ok, hn]
  have hpart : ∀ (c : La) i, i < 3 → (part 30 c.cs (i * 2)).run Try.prog w = .ok (.agg (lcs (c.at i))) w := by
    intro c i hi
    match i, hi with
    | 0, _ => exact la_part0 c w
    | 1, _ => exact la_part1 c w
    | 2, _ => exact la_part2 c w
  have he : ∀ x y : Int × Int, (Op.equalIn (d + 2) 30 (.agg (lcs x)) (.agg (lcs y))).run Try.prog w = .ok (decide (x = y)) w := by
    intro x y
    rw [equal_last d x y w]
    congr 1
    rw [Bool.eq_iff_iff, decide_eq_true_eq, decide_eq_true_eq, Prod.ext_iff]
  have hloop : ∀ l : List Nat, (∀ i ∈ l, i < 3) → Sem.run Try.prog (forIn l ((none : Option Bool), ()) fun i __s => do
      let x ← part 30 a.cs (i * 2)
      let y ← part 30 b.cs (i * 2)
      let z ← Op.equalIn (d + 2) 30 x y
      if (!z) = true then pure (ForInStep.done (some false, ())) else pure (ForInStep.yield (none, ()))) w = .ok (if (∀ i ∈ l, a.at i = b.at i) then (none, ()) else (some false, ())) w := by
    intro l
    induction l with
    | nil => intro _; simp
    | cons i l ih =>
      intro h
      rw [List.forIn_cons]
      simp only [Sem.run_bind, hpart a i (h i (by simp)), hpart b i (h i (by simp)), he, Result.andThen_ok]
      by_cases hx : a.at i = b.at i
      · have hd : (!decide (a.at i = b.at i)) = false := by simp [hx]
        simp only [hd, Bool.false_eq_true, if_false, Sem.run_pure, Result.andThen_ok]
        rw [ih (fun j hj => h j (by simp [hj]))]
        simp [hx]
      · have hd : (!decide (a.at i = b.at i)) = true := by simp [hx]
        simp only [hd, if_true, Sem.run_pure, Result.andThen_ok]
        have : ¬ (∀ j ∈ i :: l, a.at j = b.at j) := fun h9 => hx (h9 i (by simp))
        rw [if_neg this]
  simp only [Std.Legacy.Range.forIn_eq_forIn_range', Std.Legacy.Range.size, Nat.sub_zero, Nat.add_sub_cancel, Nat.div_one]
  rw [hloop _ (by intro i hi; have := List.mem_range'_1.1 hi; omega)]
  by_cases hab : a = b
  · subst hab
    simp
  · have : ¬ (∀ i ∈ List.range' 0 3, a.at i = b.at i) := fun h9 => hab (La.ext_at fun i hi => h9 i (List.mem_range'_1.2 ⟨by omega, by omega⟩))
    rw [if_neg this]
    simp [hab]
theorem eqAt (i e i2 e2 : Int) (w : World) : (eqSem 24 (.agg (acs i e)) (.agg (acs i2 e2))).run Try.prog w = .ok (decide (i = i2 ∧ e = e2)) w := by
  unfold eqSem
  obtain ⟨d, hd⟩ : ∃ d, d + 2 = 10000 := ⟨9998, rfl⟩
  rw [← hd]
  exact equal_at d i e i2 e2 w
theorem eqLa (a b : La) (w : World) : (eqSem 31 (.agg a.cs) (.agg b.cs)).run Try.prog w = .ok (decide (a = b)) w := by
  unfold eqSem
  obtain ⟨d, hd⟩ : ∃ d, d + 3 = 10000 := ⟨9997, rfl⟩
  rw [← hd]
  exact equal_la d a b w
attribute [local go_sem ↓] eq_at_rule eq_la_rule
theorem con_eq {x y : En} : con x = con y ↔ x.ep = y.ep ∧ x.cl = y.cl ∧ x.sq = y.sq ∧ x.U = y.U := by
  simp [con]
theorem Ens.loadb {w : World} {g o : Nat} {L : List En} (h : Ens w g o L) {i : Nat} (hi : i < L.length) : (loadSem 45 (.pointer (some ⟨g, o + i * 4 + 3, none⟩))).run Try.prog w = .ok (.agg #[.slice (eng L i).a (eng L i).n (eng L i).c]) w :=
  run_loadAt_mid (P := Try.prog) w g (o + i * 4 + 3) 45 [.slice (eng L i).a (eng L i).n (eng L i).c] _ (fun j v hj => by
    have hj0 : j = 0 := by have := (List.getElem?_eq_some_iff.1 hj).1; simpa using this
    subst hj0
    have hv : v = .slice (eng L i).a (eng L i).n (eng L i).c := by simpa using hj.symm
    rw [hv]
    exact h.c3 hi) Try.underlying45 rfl (by simpa using s_hd (eng L i).a (eng L i).n (eng L i).c)
theorem en_cells {w : World} {g : Nat} {x : En} (h : Blk w g 92 x.cs) : w.cell? ⟨g, 0, none⟩ = some (.int .u64 x.ep) ∧ w.cell? ⟨g, 1, none⟩ = some (.int .i64 x.cl) ∧ w.cell? ⟨g, 2, none⟩ = some (.int .u32 x.sq) ∧ w.cell? ⟨g, 3, none⟩ = some (.slice x.a x.n x.c) :=
  ⟨h.cell 0, h.cell 1, h.cell 2, h.cell 3⟩
set_option maxRecDepth 100000 in
set_option maxHeartbeats 1600000 in
theorem ssame_any (x y : En) (w : World) (hx : UpIn w 0 x.a x.n x.c x.U) (hy : UpIn w 0 y.a y.n y.c y.U) : Calls Try.prog 64 #[.agg x.cs, .agg y.cs] w fun e w' => e = .returned (.bool (decide (con x = con y))) ∧ Below w.heap.size w w' := by
  obtain ⟨W1, hW1⟩ : ∃ W1, w.alloc (.cells x.cs 92) = W1 := ⟨_, rfl⟩
  have hb1 : Below w.heap.size w W1 := by rw [← hW1]; exact below_alloc w _
  have b1 : Blk W1 w.heap.size 92 x.cs := by rw [← hW1]; exact Blk.new w _ _
  obtain ⟨W2, hW2⟩ : ∃ W2, W1.alloc (.cells y.cs 92) = W2 := ⟨_, rfl⟩
  have hb12 : Below W1.heap.size W1 W2 := by rw [← hW2]; exact below_alloc W1 _
  have b2 : Blk W2 W1.heap.size 92 y.cs := by rw [← hW2]; exact Blk.new W1 _ _
  have hb02 := bel_trans hb1 hb12
  have v2 := b1.later hb12
  obtain ⟨c0, c1, c2, c3⟩ := en_cells v2
  obtain ⟨p0, p1, p2, p3⟩ := en_cells b2
  have LX := en_ba v2
  have LY := en_ba b2
  have HU := upsame_any x.a y.a x.n x.c y.n y.c x.U y.U W2 hx.1 (by have := hx.2.2.1; have := hx.2.2.2.1; unfold maxLen at this; omega) (hx.2.1.later hb02) hy.1 (by have := hy.2.2.1; have := hy.2.2.2.1; unfold maxLen at this; omega) (hy.2.1.later hb02)
  have HB := Lib.hid hb02
  clear hx hy hb1 b1 hb12 b2 hb02 v2
  obtain ⟨r, hr⟩ : ∃ r, decide (con x = con y) = r := ⟨_, rfl⟩
  rw [hr]
  by_cases k0 : x.ep = y.ep
  · have d0 : (x.ep == y.ep) = true := by simp [k0]
    by_cases k1 : x.cl = y.cl
    · have d1 : (x.cl == y.cl) = true := by simp [k1]
      by_cases k2 : x.sq = y.sq
      · have d2 : (x.sq == y.sq) = true := by simp [k2]
        have hr2 : r = decide (x.U = y.U) := by rw [← hr, decide_eq_decide, con_eq]; simp [k0, k1, k2]
        rw [← hr2] at HU
        clear k0 k1 k2 hr hr2
        go_enter Try.func64, Try.ntmps64
        go_wp2_with fail
        refine HU.mono ?_
        rintro e w3 ⟨rfl, hb3⟩
        go_wp2_with fail
        go_ret
        exact ⟨rfl, bel_trans HB.out hb3⟩
      · have d2 : (x.sq == y.sq) = false := by simp [k2]
        have hr2 : r = false := by rw [← hr, decide_eq_false_iff_not, con_eq]; simp [k2]
        subst hr2
        clear k0 k1 k2 hr HU
        go_enter Try.func64, Try.ntmps64
        go_wp2_with fail
        go_ret
        exact ⟨rfl, HB.out⟩
    · have d1 : (x.cl == y.cl) = false := by simp [k1]
      have hr2 : r = false := by rw [← hr, decide_eq_false_iff_not, con_eq]; simp [k1]
      subst hr2
      clear k0 k1 hr HU
      go_enter Try.func64, Try.ntmps64
      go_wp2_with fail
      go_ret
      exact ⟨rfl, HB.out⟩
  · have d0 : (x.ep == y.ep) = false := by simp [k0]
    have hr2 : r = false := by rw [← hr, decide_eq_false_iff_not, con_eq]; simp [k0]
    subst hr2
    clear k0 hr HU
    go_enter Try.func64, Try.ntmps64
    go_wp2_with fail
    go_ret
    exact ⟨rfl, HB.out⟩

set_option maxRecDepth 100000 in
set_option maxHeartbeats 1600000 in
theorem lsame_any (x y : En) (w : World) (hx : UpIn w 0 x.a x.n x.c x.U) (hy : UpIn w 0 y.a y.n y.c y.U) : Calls Try.prog 31 #[.agg x.cs, .agg y.cs] w fun e w' => e = .returned (.bool (decide (con x = con y))) ∧ Below w.heap.size w w' := by
  obtain ⟨W1, hW1⟩ : ∃ W1, w.alloc (.cells x.cs 92) = W1 := ⟨_, rfl⟩
  have hb1 : Below w.heap.size w W1 := by rw [← hW1]; exact below_alloc w _
  have b1 : Blk W1 w.heap.size 92 x.cs := by rw [← hW1]; exact Blk.new w _ _
  obtain ⟨W2, hW2⟩ : ∃ W2, W1.alloc (.cells y.cs 92) = W2 := ⟨_, rfl⟩
  have hb12 : Below W1.heap.size W1 W2 := by rw [← hW2]; exact below_alloc W1 _
  have b2 : Blk W2 W1.heap.size 92 y.cs := by rw [← hW2]; exact Blk.new W1 _ _
  have hb02 := bel_trans hb1 hb12
  have v2 := b1.later hb12
  obtain ⟨c0, c1, c2, c3⟩ := en_cells v2
  obtain ⟨p0, p1, p2, p3⟩ := en_cells b2
  have LX := en_ba v2
  have LY := en_ba b2
  have HU := upsame_any x.a y.a x.n x.c y.n y.c x.U y.U W2 hx.1 (by have := hx.2.2.1; have := hx.2.2.2.1; unfold maxLen at this; omega) (hx.2.1.later hb02) hy.1 (by have := hy.2.2.1; have := hy.2.2.2.1; unfold maxLen at this; omega) (hy.2.1.later hb02)
  have HB := Lib.hid hb02
  clear hx hy hb1 b1 hb12 b2 hb02 v2
  obtain ⟨r, hr⟩ : ∃ r, decide (con x = con y) = r := ⟨_, rfl⟩
  rw [hr]
  by_cases k0 : x.ep = y.ep
  · have d0 : (x.ep == y.ep) = true := by simp [k0]
    by_cases k1 : x.cl = y.cl
    · have d1 : (x.cl == y.cl) = true := by simp [k1]
      by_cases k2 : x.sq = y.sq
      · have d2 : (x.sq == y.sq) = true := by simp [k2]
        have hr2 : r = decide (x.U = y.U) := by rw [← hr, decide_eq_decide, con_eq]; simp [k0, k1, k2]
        rw [← hr2] at HU
        clear k0 k1 k2 hr hr2
        go_enter Try.func31, Try.ntmps31
        go_wp2_with fail
        refine HU.mono ?_
        rintro e w3 ⟨rfl, hb3⟩
        go_wp2_with fail
        go_ret
        exact ⟨rfl, bel_trans HB.out hb3⟩
      · have d2 : (x.sq == y.sq) = false := by simp [k2]
        have hr2 : r = false := by rw [← hr, decide_eq_false_iff_not, con_eq]; simp [k2]
        subst hr2
        clear k0 k1 k2 hr HU
        go_enter Try.func31, Try.ntmps31
        go_wp2_with fail
        go_ret
        exact ⟨rfl, HB.out⟩
    · have d1 : (x.cl == y.cl) = false := by simp [k1]
      have hr2 : r = false := by rw [← hr, decide_eq_false_iff_not, con_eq]; simp [k1]
      subst hr2
      clear k0 k1 hr HU
      go_enter Try.func31, Try.ntmps31
      go_wp2_with fail
      go_ret
      exact ⟨rfl, HB.out⟩
  · have d0 : (x.ep == y.ep) = false := by simp [k0]
    have hr2 : r = false := by rw [← hr, decide_eq_false_iff_not, con_eq]; simp [k0]
    subst hr2
    clear k0 hr HU
    go_enter Try.func31, Try.ntmps31
    go_wp2_with fail
    go_ret
    exact ⟨rfl, HB.out⟩

set_option maxRecDepth 100000 in
set_option maxHeartbeats 1600000 in
theorem sameentries_any (a a2 : Option Addr) (n c n2 c2 : Nat) (L M : List En) (w : World) (hL : EnIn w 0 a n c L) (hM : EnIn w 0 a2 n2 c2 M) : Calls Try.prog 39 #[.slice a n c, .slice a2 n2 c2] w fun e w' => e = .returned (.bool (decide (Same' L M))) ∧ Below w.heap.size w w' := by
  have HL := Lib.hid hL
  have HM := Lib.hid hM
  have hn := hL.1
  have hn2 := hM.1
  have hs : n ≤ 9223372036854775807 := by have := hL.2.2.1; have := hL.2.2.2.1; unfold maxLen at this; omega
  have hc1 := hL.2.2.1
  have hc2 := hM.2.2.1
  clear hL hM
  obtain ⟨r, hr⟩ : ∃ r, decide (Same' L M) = r := ⟨_, rfl⟩
  rw [hr]
  by_cases hnn : n = n2
  · subst hnn
    have dn : ((n : Int) != (n : Int)) = false := by simp
    have HN := Lib.hid (And.intro hn hn2)
    have HR := Lib.hid hr
    clear hn2 hr
    go_enter Try.func39, Try.ntmps39
    go_wp2_with fail
    go_loopw [13] (fun i wr => ∃ k : Nat, k ≤ n ∧ i = .int .i64 (k : Int) ∧ (∀ j, j < k → con (eng L j) = con (eng M j)) ∧ Below w.heap.size w wr) (fun i _ => n - (intOf i).toNat)
    case atStart => exact ⟨0, Nat.zero_le _, rfl, fun j hj => absurd hj (Nat.not_lt_zero _), Below.refl _ _⟩
    case round =>
      obtain ⟨k, hk, rfl, hok, hkb⟩ := hrel
      by_cases hlt : k < n
      · have hkl : k < L.length := by omega
        have hkm : k < M.length := by have := HN.out.2; omega
        obtain ⟨g, o, ha, hrow⟩ := (HL.out.later hkb).2.1.spot hkl
        obtain ⟨g2, o2, ha2, hrow2⟩ := (HM.out.later hkb).2.1.spot hkm
        subst ha ha2
        have hx := (HL.out.later hkb).2.2.2.2.2.2 _ (eng_mem hkl)
        have hy := (HM.out.later hkb).2.2.2.2.2.2 _ (eng_mem hkm)
        have HU : ∀ w', Below wr.heap.size wr w' → Calls Try.prog 54 #[.agg #[.slice (eng L k).a (eng L k).n (eng L k).c], .agg #[.slice (eng M k).a (eng M k).n (eng M k).c]] w' fun e w2 => e = .returned (.bool (decide ((eng L k).U = (eng M k).U))) ∧ Below w'.heap.size w' w2 := fun w' hS => uprsame_any _ _ _ _ _ _ _ _ w' hx.1 (by have := hx.2.2.1; have := hx.2.2.2.1; unfold maxLen at this; omega) (hx.2.1.later hS) hy.1 (by have := hy.2.2.1; have := hy.2.2.2.1; unfold maxLen at this; omega) (hy.2.1.later hS)
        have HC : ∀ w', Below wr.heap.size wr w' → w'.cell? ⟨g, o + k * 4, none⟩ = some (.int .u64 (eng L k).ep) ∧ w'.cell? ⟨g, o + k * 4 + 1, none⟩ = some (.int .i64 (eng L k).cl) ∧ w'.cell? ⟨g, o + k * 4 + 2, none⟩ = some (.int .u32 (eng L k).sq) ∧ (loadSem 45 (.pointer (some ⟨g, o + k * 4 + 3, none⟩))).run Try.prog w' = .ok (.agg #[.slice (eng L k).a (eng L k).n (eng L k).c]) w' ∧ w'.cell? ⟨g2, o2 + k * 4, none⟩ = some (.int .u64 (eng M k).ep) ∧ w'.cell? ⟨g2, o2 + k * 4 + 1, none⟩ = some (.int .i64 (eng M k).cl) ∧ w'.cell? ⟨g2, o2 + k * 4 + 2, none⟩ = some (.int .u32 (eng M k).sq) ∧ (loadSem 45 (.pointer (some ⟨g2, o2 + k * 4 + 3, none⟩))).run Try.prog w' = .ok (.agg #[.slice (eng M k).a (eng M k).n (eng M k).c]) w' := fun w' hS =>
          ⟨(hrow.later hS).c0 hkl, (hrow.later hS).c1 hkl, (hrow.later hS).c2 hkl, (hrow.later hS).loadb hkl, (hrow2.later hS).c0 hkm, (hrow2.later hS).c1 hkm, (hrow2.later hS).c2 hkm, (hrow2.later hS).loadb hkm⟩
        have hce := con_eq (x := eng L k) (y := eng M k)
        have hno : ¬ con (eng L k) = con (eng M k) → r = false := fun h => by
          rw [← HR.out, decide_eq_false_iff_not]
          exact fun hs => h (hs.get k)
        have HK := Lib.hid (And.intro hok hkb)
        clear hok hkb hx hy hrow hrow2 hkl hkm
        obtain ⟨x, hxe⟩ : ∃ x, eng L k = x := ⟨_, rfl⟩
        obtain ⟨y, hye⟩ : ∃ y, eng M k = y := ⟨_, rfl⟩
        have HEE := Lib.hid (show con x = con y → con (eng L k) = con (eng M k) from fun h => by rw [hxe, hye]; exact h)
        rw [hxe, hye] at HU HC hce hno
        clear hxe hye
        
        by_cases k0 : x.ep = y.ep
        · have d0 : (x.ep != y.ep) = false := by simp [k0]
          by_cases k1 : x.cl = y.cl
          · have d1 : (x.cl != y.cl) = false := by simp [k1]
            by_cases k2 : x.sq = y.sq
            · have d2 : (x.sq != y.sq) = false := by simp [k2]
              by_cases k3 : x.U = y.U
              · rw [decide_eq_true k3] at HU
                have HE := Lib.hid (hce.2 ⟨k0, k1, k2, k3⟩)
                clear k0 k1 k2 k3 hce hno
                go_wp2_with (refine wp_region_lin (fun w' => Below wr.heap.size wr w') (by kernel_rfl) (by kernel_rfl) (bel_drew (Below.refl _ _)) ?_; (repeat (first | (refine lin_off (by rfl) ?_; (try simp only [Act.put, List.setIfInBounds_toArray, List.set_cons_zero, List.set_cons_succ])) | (refine lin_op (v := ?_) (by rfl) (fun w9 hS9 => ?_) ?_; rotate_left; (focus (((try dsimp only at hS9); obtain ⟨k0, k1, k2, k3, m0, m1, m2, m3⟩ := HC w9 hS9; go_simp; (try go_bits)) <;> with_reducible rfl)); (try simp only [Act.put, List.setIfInBounds_toArray, List.set_cons_zero, List.set_cons_succ])) | (refine lin_fn (f := 54) (by rfl) rfl rfl (enters_of Try.func54 (by kernel_rfl) rfl) (fun w9 hS9 => (HU w9 hS9).mono (fun e w' h => ⟨h.1, bel_trans hS9 h.2⟩)) ?_ ?_; (focus (simp [Act.eval]; done)); (try simp only [Act.put, List.setIfInBounds_toArray, List.set_cons_zero, List.set_cons_succ])))); refine lin_nil (fun w8 hS8 => ?_))
                go_roundw
                case rel => exact ⟨k + 1, by omega, by go_num, fun j hj => by
                  by_cases e : j = k
                  · rw [e]; exact HEE.out HE.out
                  · exact HK.out.1 j (by omega), bel_trans HK.out.2 hS8⟩
                case measure => (simp [intOf]; try omega)
              · rw [decide_eq_false k3] at HU
                obtain rfl := hno (fun h => k3 (hce.1 h).2.2.2)
                clear k0 k1 k2 k3 hce hno
                go_wp2_with (refine wp_region_lin (fun w' => Below wr.heap.size wr w') (by kernel_rfl) (by kernel_rfl) (bel_drew (Below.refl _ _)) ?_; (repeat (first | (refine lin_off (by rfl) ?_; (try simp only [Act.put, List.setIfInBounds_toArray, List.set_cons_zero, List.set_cons_succ])) | (refine lin_op (v := ?_) (by rfl) (fun w9 hS9 => ?_) ?_; rotate_left; (focus (((try dsimp only at hS9); obtain ⟨k0, k1, k2, k3, m0, m1, m2, m3⟩ := HC w9 hS9; go_simp; (try go_bits)) <;> with_reducible rfl)); (try simp only [Act.put, List.setIfInBounds_toArray, List.set_cons_zero, List.set_cons_succ])) | (refine lin_fn (f := 54) (by rfl) rfl rfl (enters_of Try.func54 (by kernel_rfl) rfl) (fun w9 hS9 => (HU w9 hS9).mono (fun e w' h => ⟨h.1, bel_trans hS9 h.2⟩)) ?_ ?_; (focus (simp [Act.eval]; done)); (try simp only [Act.put, List.setIfInBounds_toArray, List.set_cons_zero, List.set_cons_succ])))); refine lin_nil (fun w8 hS8 => ?_))
                go_ret
                exact ⟨rfl, bel_trans HK.out.2 hS8⟩
            · have d2 : (x.sq != y.sq) = true := by simp [k2]
              obtain rfl := hno (fun h => k2 (hce.1 h).2.2.1)
              clear k0 k1 k2 hce hno HU
              go_wp2_with (refine wp_region_lin (fun w' => Below wr.heap.size wr w') (by kernel_rfl) (by kernel_rfl) (bel_drew (Below.refl _ _)) ?_; (repeat (first | (refine lin_off (by rfl) ?_; (try simp only [Act.put, List.setIfInBounds_toArray, List.set_cons_zero, List.set_cons_succ])) | (refine lin_op (v := ?_) (by rfl) (fun w9 hS9 => ?_) ?_; rotate_left; (focus (((try dsimp only at hS9); obtain ⟨k0, k1, k2, k3, m0, m1, m2, m3⟩ := HC w9 hS9; go_simp; (try go_bits)) <;> with_reducible rfl)); (try simp only [Act.put, List.setIfInBounds_toArray, List.set_cons_zero, List.set_cons_succ])))); refine lin_nil (fun w8 hS8 => ?_))
              go_ret
              exact ⟨rfl, bel_trans HK.out.2 hS8⟩
          · have d1 : (x.cl != y.cl) = true := by simp [k1]
            obtain rfl := hno (fun h => k1 (hce.1 h).2.1)
            clear k0 k1 hce hno HU
            go_wp2_with (refine wp_region_lin (fun w' => Below wr.heap.size wr w') (by kernel_rfl) (by kernel_rfl) (bel_drew (Below.refl _ _)) ?_; (repeat (first | (refine lin_off (by rfl) ?_; (try simp only [Act.put, List.setIfInBounds_toArray, List.set_cons_zero, List.set_cons_succ])) | (refine lin_op (v := ?_) (by rfl) (fun w9 hS9 => ?_) ?_; rotate_left; (focus (((try dsimp only at hS9); obtain ⟨k0, k1, k2, k3, m0, m1, m2, m3⟩ := HC w9 hS9; go_simp; (try go_bits)) <;> with_reducible rfl)); (try simp only [Act.put, List.setIfInBounds_toArray, List.set_cons_zero, List.set_cons_succ])))); refine lin_nil (fun w8 hS8 => ?_))
            go_ret
            exact ⟨rfl, bel_trans HK.out.2 hS8⟩
        · have d0 : (x.ep != y.ep) = true := by simp [k0]
          obtain rfl := hno (fun h => k0 (hce.1 h).1)
          clear k0 hce hno HU
          go_wp2_with (refine wp_region_lin (fun w' => Below wr.heap.size wr w') (by kernel_rfl) (by kernel_rfl) (bel_drew (Below.refl _ _)) ?_; (repeat (first | (refine lin_off (by rfl) ?_; (try simp only [Act.put, List.setIfInBounds_toArray, List.set_cons_zero, List.set_cons_succ])) | (refine lin_op (v := ?_) (by rfl) (fun w9 hS9 => ?_) ?_; rotate_left; (focus (((try dsimp only at hS9); obtain ⟨k0, k1, k2, k3, m0, m1, m2, m3⟩ := HC w9 hS9; go_simp; (try go_bits)) <;> with_reducible rfl)); (try simp only [Act.put, List.setIfInBounds_toArray, List.set_cons_zero, List.set_cons_succ])))); refine lin_nil (fun w8 hS8 => ?_))
          go_ret
          exact ⟨rfl, bel_trans HK.out.2 hS8⟩
      · have hkn : k = n := by omega
        have hrt : r = true := by
          rw [← HR.out, decide_eq_true_eq]
          exact same_of (HN.out.1.trans HN.out.2.symm) (fun j hj => hok j (by have := HN.out.1; omega))
        subst hrt hkn
        have i1 : ¬ ((k : Int) < (k : Int)) := by omega
        clear hok
        go_wp2_with fail
        go_ret
        exact ⟨rfl, hkb⟩
  · have dn : ((n : Int) != (n2 : Int)) = true := by simp; omega
    have hrf : r = false := by
      rw [← hr, decide_eq_false_iff_not]
      exact fun h => hnn (by rw [← hn, ← hn2]; exact h.len)
    subst hrf
    clear hnn hr
    go_enter Try.func39, Try.ntmps39
    go_wp2_with fail
    go_ret
    exact ⟨rfl, Below.refl _ _⟩

end Go.Proofs.Ytkoenconjldojaa
