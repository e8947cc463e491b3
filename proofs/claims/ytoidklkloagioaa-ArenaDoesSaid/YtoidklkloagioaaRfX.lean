/-
  The place and the root that an op names, by the document's arena. Nothing here is a statement of the document.
-/
import Derived.Test.YtoidklkloagioaaRfW
import Derived.Test.YtoidklkloagioaaArnT
namespace Go.Proofs.Ytoidklkloagioaa
open Go.RowKit Go.Shelf
set_option linter.unusedVariables false
section
attribute [local go_sem ↓] load_ra_rule store_ra_rule load_op_rule load_root_rule store_root_rule
variable {w W W' : World} {g z lo : Nat} {bv : Value} {ls : Nat → Value} {vs : List Value} {M : Mo}
set_option maxRecDepth 100000 in
set_option maxHeartbeats 1000000 in
theorem place_any (h : Rfa w lo bv ls vs M) (o : OpM) (ho : o.Ok) : Calls Try.prog 21 #[.agg o.cs, .agg (M.vals bv ls)] w fun e w' => e = .returned (.int .i64 (o.row M.B)) ∧ Below w.heap.size w w' := by
  obtain ⟨W0, hW0⟩ : ∃ W0, w.alloc (.cells o.cs 38) = W0 := ⟨_, rfl⟩
  have hb0 : Below w.heap.size w W0 := by rw [← hW0]; exact (Below.refl _ _).alloc (Nat.le_refl _) _
  have b0 : Blk W0 w.heap.size 38 o.cs := by rw [← hW0]; exact Blk.new _ _ _
  have hs0 : W0.heap.size = w.heap.size + 1 := by rw [← hW0]; simp
  have hB := bx_new (h.later hb0)
  obtain ⟨W1, hW1⟩ : ∃ W1, W0.alloc (.cells (M.vals bv ls) 36) = W1 := ⟨_, rfl⟩
  rw [hW1, hs0] at hB
  have hb1 : Below w.heap.size w W1 := by rw [← hW1]; exact hb0.alloc (by omega) _
  have b1 : Blk W1 w.heap.size 38 o.cs := by rw [← hW1]; exact b0.alloc _
  have hl := hB.ld
  have hta := rpieces_any hB.rf true
  have hbl : (ofT true M.B).length ≤ 20000 := by have := ofT_len true M.B; have := h.few; have : M.B.length = M.R.length := (by simp [Mo.B]); omega
  obtain ⟨rr, hrr⟩ : ∃ rr, o.row M.B = rr := ⟨_, rfl⟩
  have hr1 := hrr
  unfold OpM.row at hr1
  obtain ⟨k1, k2, k3, k4, k5, k6, k7⟩ := o
  have hplb := ho.place
  dsimp only at hr1 hplb
  unfold OpM.cs at hW0 b1 ⊢
  dsimp only at hW0 b1 ⊢
  rw [hrr]
  have HB := Lib.hid (And.intro hb1 (And.intro b1 hr1))
  clear hrr hr1 ho h hB hb1 b1 b0 hb0
  obtain ⟨V, hV⟩ : ∃ V, M.vals bv ls = V := ⟨_, rfl⟩
  rw [hV] at hW1 hl hta ⊢
  clear hV
  go_enter Try.func21, Try.ntmps21
  go_wp2_with fail
  refine hta.mono ?_
  rintro e w2 ⟨v, rfl, how, hb2⟩
  have hbb : Below w.heap.size w w2 := bel_later HB.out.1 hb2
  have b2 := HB.out.2.1.kept (Kept.of_below [] hb2) (by simp)
  have c2 : w2.cell? ⟨w.heap.size, 2, none⟩ = some (.int .i64 k3) := b2.cell 2
  have c6 : w2.cell? ⟨w.heap.size, 6, none⟩ = some (.bool k7) := b2.cell 6
  have HR := Lib.hid HB.out.2.2
  have HBB := Lib.hid hbb
  clear HB hb2 b2 hta hW1 hW0 hbb hl hs0
  by_cases hpos : k7 = true ∧ 0 < (ofT true M.B).length
  · obtain ⟨rfl, hpos⟩ := hpos
    obtain ⟨g9, c9, rfl, hc9, hm9, hcl⟩ := owns_cell how hpos
    have hj : unN k3 % (ofT true M.B).length < (ofT true M.B).length := Nat.mod_lt _ hpos
    obtain ⟨b9, hb9⟩ : ∃ b9, (ofT true M.B)[unN k3 % (ofT true M.B).length]? = some b9 := ⟨_, List.getElem?_eq_getElem hj⟩
    have hcc : w2.cell? ⟨g9, unN k3 % (ofT true M.B).length * 2, none⟩ = some (.int .i64 (b9.x : Int)) := hcl (unN k3 % (ofT true M.B).length * 2) _ (by have := pcl_get hb9 (j := 0) (by omega); rw [Nat.add_zero] at this; exact this)
    have hval : (b9.x : Int) = rr := by
      have := HR.out
      rw [if_pos ⟨rfl, hpos⟩] at this
      rw [← this]
      simp [List.getD, hb9]
    rw [hval] at hcc
    clear how hcl hval HR
    have hun : IntKind.u64.wrap k3 = (unN k3 : Int) := by rw [IntKind.wrap_u64]; unfold unN; omega
    have hmod : (IntKind.u64.wrap k3).tmod (((ofT true M.B).length : Nat) : Int) = ((unN k3 % (ofT true M.B).length : Nat) : Int) := by rw [hun]; rfl
    clear hun
    generalize unN k3 % (ofT true M.B).length = u at *
    generalize (ofT true M.B).length = m at *
    have hum : (u : Int) < (m : Int) := by omega
    have d1 : decide (0 < m) = true := decide_eq_true hpos
    have d1' : decide ((0 : Int) < (m : Int)) = true := decide_eq_true (by omega)
    go_wp2_with fail
    go_ret
    exact ⟨rfl, HBB.out⟩
  · obtain ⟨a9, c9, rfl⟩ := owns_sl how
    have hval : k3 = rr := by
      have := HR.out
      rw [if_neg hpos] at this
      exact this
    subst hval
    clear how HR
    by_cases hf : k7 = true
    · subst hf
      have hm0 : (ofT true M.B).length = 0 := by
        rcases Nat.eq_zero_or_pos (ofT true M.B).length with h | h
        · exact h
        · exact absurd ⟨rfl, h⟩ hpos
      rw [hm0]
      clear hm0 hpos hbl
      go_wp2_with fail
      go_ret
      exact ⟨rfl, HBB.out⟩
    · obtain rfl : k7 = false := by simpa using hf
      clear hpos hf
      go_wp2_with fail
      go_ret
      exact ⟨rfl, HBB.out⟩
/-- A root that an op publishes: its numbers fit. -/
def RootOk (R : Array Value) : Prop := ∃ (v e : Nat) (a b : Int), R = rtcs v e a b ∧ v < 18446744073709551616 ∧ e < 18446744073709551616
theorem un_wrap (x : Int) : IntKind.u64.wrap x = ((unN x : Nat) : Int) ∧ unN x < 18446744073709551616 := by
  rw [IntKind.wrap_u64]; unfold unN; omega
set_option maxRecDepth 100000 in
set_option maxHeartbeats 2000000 in
theorem oroot_any (h : Rfa w lo bv ls vs M) (o : OpM) (ho : o.Ok) : ∃ (R : Array Value), RootOk R ∧ ∀ {W : World}, Rfa W lo bv ls vs M → Calls Try.prog 26 #[.agg o.cs, .agg (M.vals bv ls)] W fun e w' => e = .returned (.agg R) ∧ Below W.heap.size W w' := by
  obtain ⟨r, hr⟩ : ∃ r, o.row M.B = r := ⟨_, rfl⟩
  have hx := ho.x
  have w1 := fun z => (un_wrap z).1
  have w2 := fun z => (un_wrap z).2
  -- three ways
  refine ⟨if o.f = false then rtcs o.x.toNat (unN o.n) r o.i else rtcs (unN ((M.v : Int) + ((unN (o.n.tmod 3) : Nat) : Int))) (unN ((M.gd : Int) + ((unN (o.i.tmod 3) : Nat) : Int))) r (if o.x % 2 = 0 then 0 else r), ?_, fun {W} hR => ?_⟩
  · split
    · exact ⟨_, _, _, _, rfl, by omega, w2 _⟩
    · exact ⟨_, _, _, _, rfl, w2 _, w2 _⟩
  · obtain ⟨W0, hW0⟩ : ∃ W0, W.alloc (.cells o.cs 38) = W0 := ⟨_, rfl⟩
    have hb0 : Below W.heap.size W W0 := by rw [← hW0]; exact (Below.refl _ _).alloc (Nat.le_refl _) _
    have b0 : Blk W0 W.heap.size 38 o.cs := by rw [← hW0]; exact Blk.new _ _ _
    have hs0 : W0.heap.size = W.heap.size + 1 := by rw [← hW0]; simp
    have hB := bx_new (hR.later hb0)
    obtain ⟨W1, hW1⟩ : ∃ W1, W0.alloc (.cells (M.vals bv ls) 36) = W1 := ⟨_, rfl⟩
    rw [hW1, hs0] at hB
    have hs1 : W1.heap.size = W.heap.size + 2 := by rw [← hW1]; simp [hs0]
    obtain ⟨W2, hW2⟩ : ∃ W2, W1.alloc (.cells #[.int .u64 0, .int .u64 0, .int .i64 0, .int .i64 0] 34) = W2 := ⟨_, rfl⟩
    have hB2 : Bx W0 W2 (W.heap.size + 1) lo bv ls vs M := by rw [← hW2]; exact hB.later ((Below.refl _ _).alloc (Nat.le_refl _) _)
    have bo2 : Blk W2 W.heap.size 38 o.cs := by rw [← hW2, ← hW1]; exact (b0.alloc _).alloc _
    have br2 : Blk W2 (W.heap.size + 2) 34 (rtcs 0 0 0 0) := by rw [← hW2, ← hs1]; exact Blk.new _ _ _
    have hb2 : Below W.heap.size W W2 := bel_later hb0 (by have := hB2.hb; exact this)
    have hl := hB2.ld
    have hop := ld_op bo2
    have hpl := place_any hB2.rf o ho
    rw [hr] at hpl
    obtain ⟨k1, k2, k3, k4, k5, k6, k7⟩ := o
    dsimp only at hx
    obtain ⟨x, rfl⟩ := Int.eq_ofNat_of_zero_le hx.1
    have HB := Lib.hid (And.intro hb2 (And.intro bo2 (And.intro br2 hB2)))
    unfold OpM.cs at hW0 hop hpl ⊢
    dsimp only at hW0 hop hpl ⊢
    clear hb2 bo2 br2 hB2 hB b0 hb0 hr ho hR h
    obtain ⟨V, hV⟩ : ∃ V, M.vals bv ls = V := ⟨_, rfl⟩
    rw [hV] at hW1 hl hpl ⊢
    clear hV
    go_enter Try.func26, Try.ntmps26
    go_wp2_with fail
    refine hpl.mono ?_
    rintro e w3 ⟨rfl, hb3⟩
    have bo3 := HB.out.2.1.kept (Kept.of_below [] hb3) (by simp)
    have br3 := HB.out.2.2.1.kept (Kept.of_below [] hb3) (by simp)
    have B3 := HB.out.2.2.2.later hb3
    have c3 : w3.cell? ⟨W.heap.size, 3, none⟩ = some (.int .i64 k4) := bo3.cell 3
    have c4 : w3.cell? ⟨W.heap.size, 4, none⟩ = some (.int .i64 k5) := bo3.cell 4
    have c5 : w3.cell? ⟨W.heap.size, 5, none⟩ = some (.int .u64 (x : Int)) := bo3.cell 5
    have c6 : w3.cell? ⟨W.heap.size, 6, none⟩ = some (.bool k7) := bo3.cell 6
    have v8 : w3.cell? ⟨W.heap.size + 1, 8, none⟩ = some (.int .u64 (M.v : Int)) := B3.bx.cell 8
    have v12 : w3.cell? ⟨W.heap.size + 1, 12, none⟩ = some (.int .u64 (M.gd : Int)) := B3.bx.cell 12
    have hb4 := bel_later HB.out.1 hb3
    have hsz3 : W.heap.size + 2 < w3.heap.size := br3.lt
    clear hpl hl hop hW0 hW1 hW2 hb3 B3 hs0 hs1
    cases k7 with
    | false =>
      have e5 := (un_wrap k5).1
      obtain ⟨n5, hn5⟩ : ∃ n5, unN k5 = n5 := ⟨_, rfl⟩
      rw [hn5] at e5
      have hst := st_root br3 rfl x n5 r k4
      have bf := br3.row (rtcs x n5 r k4)
      have HQ := Lib.hid (And.intro bf (below_setRow hb4 (g := W.heap.size + 2) (by omega) (rtcs x n5 r k4)))
      have hst' : (storeSem 34 (.pointer (some ⟨W.heap.size + 2, 0, none⟩)) (.agg #[.int .u64 (x : Int), .int .u64 (n5 : Int), .int .i64 r, .int .i64 k4])).run Try.prog w3 = .ok () (w3.setRow (W.heap.size + 2) (rtcs x n5 r k4)) := hst
      clear hst bf br3 bo3 hb4 w1 w2
      go_wp2_with fail
      refine bodyPost_ret (results_cell_row rfl _ _ (W.heap.size + 2) 34 (rtcs x n5 r k4) (0, 0) _ rfl HQ.out.1 Try.underlying34 rfl s_root) rfl ?_
      exact ⟨rfl, HQ.out.2⟩
    | true =>
      have e5 := (un_wrap (k5.tmod 3)).1
      have e4 := (un_wrap (k4.tmod 3)).1
      obtain ⟨n5, hn5⟩ : ∃ n5, unN (k5.tmod 3) = n5 := ⟨_, rfl⟩
      obtain ⟨n4, hn4⟩ : ∃ n4, unN (k4.tmod 3) = n4 := ⟨_, rfl⟩
      rw [hn5] at e5
      rw [hn4] at e4
      have f5 := (un_wrap ((M.v : Int) + (n5 : Int))).1
      have f4 := (un_wrap ((M.gd : Int) + (n4 : Int))).1
      obtain ⟨p5, hp5⟩ : ∃ p5, unN ((M.v : Int) + (n5 : Int)) = p5 := ⟨_, rfl⟩
      obtain ⟨p4, hp4⟩ : ∃ p4, unN ((M.gd : Int) + (n4 : Int)) = p4 := ⟨_, rfl⟩
      rw [hp5] at f5
      rw [hp4] at f4
      have hn : (storeSem 34 (.pointer (some ⟨w3.heap.size, 0, none⟩)) (.agg #[.int .u64 (p5 : Int), .int .u64 (p4 : Int), .int .i64 r, .int .i64 r])).run Try.prog (w3.alloc (.cells #[.int .u64 0, .int .u64 0, .int .i64 0, .int .i64 0] 34)) = .ok () (w3.alloc (.cells (rtcs p5 p4 r r) 34)) := by
        have := st_root (Blk.new w3 34 (rtcs 0 0 0 0)) rfl p5 p4 r r
        rw [World.setRow_alloc_new] at this
        exact this
      obtain ⟨W5, hW5⟩ : ∃ W5, w3.alloc (.cells (rtcs p5 p4 r r) 34) = W5 := ⟨_, rfl⟩
      have k5' : Below w3.heap.size w3 W5 := by rw [← hW5]; exact (Below.refl _ _).alloc (Nat.le_refl _) _
      have b6 : Blk W5 w3.heap.size 34 (rtcs p5 p4 r r) := by rw [← hW5]; exact Blk.new _ _ _
      rw [hW5] at hn
      have br5 := br3.kept (Kept.of_below [] k5') (by simp)
      have bo5 := bo3.kept (Kept.of_below [] k5') (by simp)
      have d5 : W5.cell? ⟨W.heap.size, 5, none⟩ = some (.int .u64 (x : Int)) := bo5.cell 5
      have d3 : W5.cell? ⟨w3.heap.size, 3, none⟩ = some (.int .i64 r) := b6.cell 3
      have g3 := b6.free 3
      by_cases hev : (x : Int) % 2 = 0
      · have dx : (((x : Int).tmod 2) == 0) = true := by
          have : (x : Int).tmod 2 = (x : Int) % 2 := by rw [Int.tmod_eq_emod_of_nonneg (by omega)]
          rw [this]; simpa using hev
        have b7 := b6.set 3 (.int .i64 0)
        have b7' : Blk (W5.setCell ⟨w3.heap.size, 3, none⟩ (.int .i64 0)) w3.heap.size 34 (rtcs p5 p4 r 0) := b7
        have br7 := br5.far (p := ⟨w3.heap.size, 3, none⟩) (by show W.heap.size + 2 ≠ w3.heap.size; omega) (.int .i64 0)
        have hl7 := ld_root b7'
        have hst := st_root br7 rfl p5 p4 r 0
        have bf := br7.row (rtcs p5 p4 r 0)
        have HQ := Lib.hid (And.intro bf (below_setRow ((bel_later hb4 k5').setCell (p := ⟨w3.heap.size, 3, none⟩) (by show W.heap.size ≤ w3.heap.size; omega) (.int .i64 0)) (g := W.heap.size + 2) (by omega) (rtcs p5 p4 r 0)))
        clear bf br3 bo3 hb4 w1 w2 b7 b7' br7 br5 bo5 b6 k5'
        generalize hRR : rtcs p5 p4 r 0 = RR at *
        go_wp2_with fail
        refine bodyPost_ret (results_cell_row rfl _ _ (W.heap.size + 2) 34 RR (0, 0) _ rfl HQ.out.1 Try.underlying34 rfl (by rw [← hRR]; exact s_root)) rfl ?_
        exact ⟨rfl, HQ.out.2⟩
      · have dx : (((x : Int).tmod 2) == 0) = false := by
          have : (x : Int).tmod 2 = (x : Int) % 2 := by rw [Int.tmod_eq_emod_of_nonneg (by omega)]
          rw [this]; simpa using hev
        have hl7 := ld_root b6
        have hst := st_root br5 rfl p5 p4 r r
        have bf := br5.row (rtcs p5 p4 r r)
        have HQ := Lib.hid (And.intro bf (below_setRow (bel_later hb4 k5') (g := W.heap.size + 2) (by omega) (rtcs p5 p4 r r)))
        clear bf br3 bo3 hb4 w1 w2 br5 bo5 b6 k5'
        generalize hRR : rtcs p5 p4 r r = RR at *
        go_wp2_with fail
        refine bodyPost_ret (results_cell_row rfl _ _ (W.heap.size + 2) 34 RR (0, 0) _ rfl HQ.out.1 Try.underlying34 rfl (by rw [← hRR]; exact s_root)) rfl ?_
        exact ⟨rfl, HQ.out.2⟩
end
end Go.Proofs.Ytoidklkloagioaa
