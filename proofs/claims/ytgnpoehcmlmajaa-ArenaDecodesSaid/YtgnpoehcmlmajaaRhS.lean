/-
  The document's Decode: its last comparison, in words. No walk. Nothing here is a statement of the document.
-/
import Derived.Test.YtgnpoehcmlmajaaRfV
import Derived.Test.YtgnpoehcmlmajaaRfJ
import Derived.Test.YtgnpoehcmlmajaaArpH
import Derived.Test.YtgnpoehcmlmajaaRfC
import Derived.Test.YtgnpoehcmlmajaaRfS
import Derived.Test.YtgnpoehcmlmajaaOctM
import Derived.Test.YtgnpoehcmlmajaaRhC
namespace Go.Proofs.Ytgnpoehcmlmajaa
open Go.RowKit Go.Shelf
set_option linter.unusedVariables false
section
variable {g p q : Nat} {ws : List Nat} {bs : List Bool} {M : Mo}
theorem same_root (h : Same ws M) (hI : Inv ws bs M.B M.L) (hlo : 64 ≤ ws.length) {v e : Nat} {four six : Int} (h4 : 0 ≤ four) (h6 : 0 ≤ six) : Same (rootW ws v e four.toNat six.toNat) { M with v := v, e := e, four := four, six := six } := by
  have hw := rootW_two hlo v e four.toNat six.toNat
  have hg := fun i hi => rootW_get hlo v e four.toNat six.toNat i hi
  have hl := rootW_len ws v e four.toNat six.toNat
  refine ⟨by show M.N = _; rw [hl]; exact h.n, fun b hb ht j hj => ?_, hw.1.symm, hw.2.symm, ?_, ?_, ?_⟩
  · have h17 : 17 ≤ b.x := (hI.at (mem_bl hb)).2.1
    rw [hg _ (by omega)]
    exact h.words b hb ht j hj
  · show four = _
    unfold rootW
    rw [getD_set _ _ _ _ _ (by simp [setN_len]; omega), if_neg (by omega), getD_set _ _ _ _ _ (by simp [setN_len]; omega), if_pos rfl]
    omega
  · show six = _
    unfold rootW
    rw [getD_set _ _ _ _ _ (by simp [setN_len]; omega), if_pos rfl]
    omega
  · show M.gd = _
    rw [h.gd, twoN_same (hg 7 (by omega)) (hg 8 (by omega))]
theorem same_raise (h : Same ws M) (hI : Inv ws bs M.B M.L) (hlo : 64 ≤ ws.length) (y : Nat) : Same (setN ws 7 y) { M with gd := y } := by
  have hg : ∀ i, i ≠ 7 → i ≠ 8 → (setN ws 7 y).getD i 0 = ws.getD i 0 := fun i h1 h2 => by rw [setN_get (by omega), if_neg (by omega), if_neg (by omega)]
  refine ⟨by show M.N = _; rw [setN_len]; exact h.n, fun b hb ht j hj => ?_, ?_, ?_, ?_, ?_, (twoN_setN (by omega)).symm⟩
  · have h17 : 17 ≤ b.x := (hI.at (mem_bl hb)).2.1
    rw [hg _ (by omega) (by omega)]
    exact h.words b hb ht j hj
  · show M.v = _; rw [h.v, twoN_same (hg 1 (by omega) (by omega)) (hg 2 (by omega) (by omega))]
  · show M.e = _; rw [h.e, twoN_same (hg 3 (by omega) (by omega)) (hg 4 (by omega) (by omega))]
  · show M.four = _; rw [h.four, hg 5 (by omega) (by omega)]
  · show M.six = _; rw [h.six, hg 6 (by omega) (by omega)]
theorem raise_both (h : Pur ws bs M) (hlo : 64 ≤ ws.length) (y : Nat) (hy : y < 18446744073709551616) : ∃ (ws' : List Nat) (M' : Mo) (er : Int),
    (∀ W, Ar W g p q ws bs → Calls Try.prog 17 #[.pointer (some ⟨g, 0, none⟩), .int .u64 (y : Int)] W fun e W' => e = .returned (.int .i64 er) ∧ Ar W' g p q ws' bs ∧ Kept [p, q] W W') ∧
    (∀ W lo bv ls vs, Rfa W lo bv ls vs M → lo ≤ W.heap.size → Calls Try.prog 28 #[.agg (M.vals bv ls), .int .u64 (y : Int)] W fun e W' => ∃ v, e = .returned (.tuple #[v, .int .i64 er]) ∧ An W W' lo v M') ∧ Pur ws' bs M' := by
  by_cases h1 : y < twoN ws 7
  · exact ⟨ws, M, 161, fun W hA => (raise_low hA y h1).mono fun e W' ⟨h2, n, h3⟩ => ⟨h2, h3 ▸ hA.drewN n, h3 ▸ kept_drewN _ n _⟩, fun W lo bv ls vs hR hl => (rraise_low hR y (by rw [h.same.gd]; exact h1)).mono fun e W' ⟨h1, h2⟩ => ⟨_, h1, An.same hR h2 hl⟩, h⟩
  · exact ⟨setN ws 7 y, { M with gd := y }, 0, fun W hA => (raise_yes hA y (by omega) hy).mono fun e W' ⟨h1, h2, h3⟩ => ⟨h1, h2, h3.more (by simp)⟩, fun W lo bv ls vs hR hl => (rraise_yes hR y (by rw [h.same.gd]; omega)).mono fun e W' ⟨u, h1, h2⟩ => ⟨u, h1, An.of_ans h2 hl⟩, ⟨h.inv.raise hlo y, (h.inv.step_raise hlo (by omega) (fun _ => False)).nice h.nice, same_raise h.same h.inv hlo y⟩⟩
/-- A place: nought, a block that is taken, or neither. -/
theorem Pur.lead (h : Pur ws bs M) (x : Int) : (Lead ws bs x ∧ (x = 0 ∨ Tkn M.R x)) ∨ (x ≠ 0 ∧ No ws bs x ∧ Bad M.R x) := by
  rcases h.cases x with ⟨k, b, hk, ht, rfl, hy⟩ | ⟨hn, hx⟩
  · exact .inl ⟨.inr ⟨b.x, b.c, rfl, hy⟩, .inr ⟨k, b, hk, ht, rfl⟩⟩
  · by_cases h0 : x = 0
    · subst h0; exact .inl ⟨.inl ⟨rfl, hn⟩, .inl rfl⟩
    · exact .inr ⟨h0, hn, h0, hx⟩
theorem pub_both (h : Pur ws bs M) (hlo : 64 ≤ ws.length) (hhi : ws.length ≤ 16384) (hsm : ∀ n ∈ ws, n < 4294967296) (v e : Nat) (hv : v < 18446744073709551616) (he : e < 18446744073709551616) (four six : Int) : ∃ (ws' : List Nat) (M' : Mo) (er : Int),
    (∀ W, Ar W g p q ws bs → Calls Try.prog 15 #[.pointer (some ⟨g, 0, none⟩), .agg (rtcs v e four six)] W fun e W' => e = .returned (.int .i64 er) ∧ Ar W' g p q ws' bs ∧ Kept [p, q] W W') ∧
    (∀ W lo bv ls vs, Rfa W lo bv ls vs M → lo ≤ W.heap.size → Calls Try.prog 27 #[.agg (M.vals bv ls), .agg (rtcs v e four six)] W fun e W' => ∃ v, e = .returned (.tuple #[v, .int .i64 er]) ∧ An W W' lo v M') ∧ Pur ws' bs M' := by
  have hpos : ∀ b ∈ M.R, 0 < b.x := fun b hb => by
    have : 17 ≤ b.x := (h.inv.at (mem_bl hb)).2.1
    omega
  have hvv : M.v < 18446744073709551616 := by
    rw [h.same.v]
    have h1 := word_lt hsm 1
    have h2 := word_lt hsm 2
    unfold twoN
    show ws.getD 1 0 * 4294967296 + ws.getD 2 0 < _
    omega
  have bel : ∀ {W W' : World}, Ar W g p q ws bs → Below W.heap.size W W' → Ar W' g p q ws bs ∧ Kept [p, q] W W' := fun hA hb => ⟨hA.later hb, Kept.of_below _ hb⟩
  by_cases h1 : e < twoN ws 7
  · exact ⟨ws, M, 161, fun W hA => (pub_fence hA v e four six h1).mono fun x W' ⟨h2, h3⟩ => ⟨h2, bel hA h3⟩, fun W lo bv ls vs hR hl => (rpub_fence hR v e four six (by rw [h.same.gd]; exact h1)).mono fun x W' ⟨h1, h2⟩ => ⟨_, h1, An.same hR h2 hl⟩, h⟩
  · have hge : M.gd ≤ e := by rw [h.same.gd]; omega
    by_cases h2 : v = 0 ∨ v - 1 ≠ twoN ws 1
    · exact ⟨ws, M, 162, fun W hA => (pub_version hA v e four six (by omega) hv h2).mono fun x W' ⟨h2, h3⟩ => ⟨h2, bel hA h3⟩, fun W lo bv ls vs hR hl => (rpub_version hR v e four six hge hvv hv (by rw [h.same.v]; exact h2)).mono fun x W' ⟨h1, h2⟩ => ⟨_, h1, An.same hR h2 hl⟩, h⟩
    · have hz : v ≠ 0 := fun e => h2 (.inl e)
      have hn : v - 1 = twoN ws 1 := Decidable.byContradiction fun e => h2 (.inr e)
      have hn' : v - 1 = M.v := by rw [h.same.v]; exact hn
      have none : ∀ (_ : (four ≠ 0 ∧ No ws bs four) ∨ (Lead ws bs four ∧ six ≠ 0 ∧ No ws bs six)) (_ : ∀ W lo bv ls vs, Rfa W lo bv ls vs M → Calls Try.prog 27 #[.agg (M.vals bv ls), .agg (rtcs v e four six)] W fun x W' => x = .returned (.tuple #[.agg (M.vals bv ls), .int .i64 4]) ∧ Below W.heap.size W W'), ∃ (ws' : List Nat) (M' : Mo) (er : Int),
          (∀ W, Ar W g p q ws bs → Calls Try.prog 15 #[.pointer (some ⟨g, 0, none⟩), .agg (rtcs v e four six)] W fun e W' => e = .returned (.int .i64 er) ∧ Ar W' g p q ws' bs ∧ Kept [p, q] W W') ∧
          (∀ W lo bv ls vs, Rfa W lo bv ls vs M → lo ≤ W.heap.size → Calls Try.prog 27 #[.agg (M.vals bv ls), .agg (rtcs v e four six)] W fun e W' => ∃ v, e = .returned (.tuple #[v, .int .i64 er]) ∧ An W W' lo v M') ∧ Pur ws' bs M' := fun hp hr =>
        ⟨ws, M, 4, fun W hA => (pub_none hA v e four six (by omega) hv hz hn hp).mono fun x W' ⟨h2, h3⟩ => ⟨h2, bel hA h3⟩, fun W lo bv ls vs hR hl => (hr W lo bv ls vs hR).mono fun x W' ⟨h1, h2⟩ => ⟨_, h1, An.same hR h2 hl⟩, h⟩
      rcases h.lead four with ⟨hl4, h4⟩ | ⟨h40, h4n, h4b⟩
      · rcases h.lead six with ⟨hl6, h6⟩ | ⟨h60, h6n, h6b⟩
        · have s4 := (hl4.small hhi).1
          have s6 := (hl6.small hhi).1
          refine ⟨rootW ws v e four.toNat six.toNat, { M with v := v, e := e, four := four, six := six }, 0, fun W hA => (pub_yes hA v e four six (by omega) he hv hz hn hl4 hl6).mono fun x W' ⟨h1, h2, h3⟩ => ⟨h1, h2, h3.more (by simp)⟩, fun W lo bv ls vs hR hl => ?_, ⟨h.inv.root hlo v e four.toNat six.toNat, (h.inv.step_root hlo four.toNat six.toNat hz hn (by omega) (h.inv.led hl4) (h.inv.led hl6) (fun _ => False)).nice h.nice, same_root h.same h.inv hlo s4 s6⟩⟩
          have fin : ∀ {x : Ending} {W' : World}, (∃ u, x = .returned (.tuple #[u, .int .i64 0]) ∧ Ans W W' u { M with v := v, e := e, four := four, six := six }) → ∃ v', x = .returned (.tuple #[v', .int .i64 0]) ∧ An W W' lo v' { M with v := v, e := e, four := four, six := six } := fun ⟨u, h1, h2⟩ => ⟨u, h1, An.of_ans h2 hl⟩
          rcases h4 with h4 | h4 <;> rcases h6 with h6 | h6
          · exact (rpub_zz hR v e four six hge hv hz hn' h4 h6).mono fun x W' hh => fin hh
          · exact (rpub_zt hR v e four six hge hv hz hn' h4 h6 hpos).mono fun x W' hh => fin hh
          · exact (rpub_tz hR v e four six hge hv hz hn' h4 h6 hpos).mono fun x W' hh => fin hh
          · exact (rpub_tt hR v e four six hge hv hz hn' h4 h6 hpos).mono fun x W' hh => fin hh
        · refine none (.inr ⟨hl4, h60, h6n⟩) (fun W lo bv ls vs hR => ?_)
          rcases h4 with h4 | h4
          · exact rpub_zb hR v e four six hge hv hz hn' h4 h6b
          · exact rpub_tb hR v e four six hge hv hz hn' h4 h6b hpos
      · exact none (.inl ⟨h40, h4n⟩) (fun W lo bv ls vs hR => rpub_bx hR v e four six hge hv hz hn' h4b)
end
end Go.Proofs.Ytgnpoehcmlmajaa
namespace Go.Proofs.Ytgnpoehcmlmajaa
open Go.RowKit Go.Shelf
set_option linter.unusedVariables false
section
attribute [local go_sem ↓] load_ra_rule store_ra_rule load_op_rule load_root_rule store_root_rule
variable {w W W' : World} {g z lo : Nat} {bv : Value} {ls : Nat → Value} {vs : List Value} {M : Mo}
set_option maxRecDepth 100000 in
set_option maxHeartbeats 1000000 in
theorem place_any (h : Rfa w lo bv ls vs M) (o : OpM) (ho : o.Ok) : Calls Try.prog 21 #[.agg o.cs, .agg (M.vals bv ls)] w fun e w' => e = .returned (.int .i64 (o.row M.B)) ∧ Below w.heap.size w w' := by
  obtain ⟨W0, hW0⟩ : ∃ W0, w.alloc (.cells o.cs 38) = W0 := ⟨_, rfl⟩
  have hb0 : Below w.heap.size w W0 := by rw [← hW0]; exact (Below.refl _ _).alloc (Nat.le_refl _) _
  have b0 : Blk W0 w.heap.size 38 o.cs := by rw [← hW0]; exact Blk.new _ _ _
  have hs0 : W0.heap.size = w.heap.size + 1 := by rw [← hW0]; simp
  have hB := bx_new (h.later hb0)
  obtain ⟨W1, hW1⟩ : ∃ W1, W0.alloc (.cells (M.vals bv ls) 36) = W1 := ⟨_, rfl⟩
  rw [hW1, hs0] at hB
  have hb1 : Below w.heap.size w W1 := by rw [← hW1]; exact hb0.alloc (by omega) _
  have b1 : Blk W1 w.heap.size 38 o.cs := by rw [← hW1]; exact b0.alloc _
  have hl := hB.ld
  have hta := rpieces_any hB.rf true
  have hbl : (ofT true M.B).length ≤ 20000 := by have := ofT_len true M.B; have := h.few; have : M.B.length = M.R.length := (by simp [Mo.B]); omega
  obtain ⟨rr, hrr⟩ : ∃ rr, o.row M.B = rr := ⟨_, rfl⟩
  have hr1 := hrr
  unfold OpM.row at hr1
  obtain ⟨k1, k2, k3, k4, k5, k6, k7⟩ := o
  have hplb := ho.place
  dsimp only at hr1 hplb
  unfold OpM.cs at hW0 b1 ⊢
  dsimp only at hW0 b1 ⊢
  rw [hrr]
  have HB := Lib.hid (And.intro hb1 (And.intro b1 hr1))
  clear hrr hr1 ho h hB hb1 b1 b0 hb0
  obtain ⟨V, hV⟩ : ∃ V, M.vals bv ls = V := ⟨_, rfl⟩
  rw [hV] at hW1 hl hta ⊢
  clear hV
  go_enter Try.func21, Try.ntmps21
  go_wp2_with fail
  refine hta.mono ?_
  rintro e w2 ⟨v, rfl, how, hb2⟩
  have hbb : Below w.heap.size w w2 := bel_later HB.out.1 hb2
  have b2 := HB.out.2.1.kept (Kept.of_below [] hb2) (by simp)
  have c2 : w2.cell? ⟨w.heap.size, 2, none⟩ = some (.int .i64 k3) := b2.cell 2
  have c6 : w2.cell? ⟨w.heap.size, 6, none⟩ = some (.bool k7) := b2.cell 6
  have HR := Lib.hid HB.out.2.2
  have HBB := Lib.hid hbb
  clear HB hb2 b2 hta hW1 hW0 hbb hl hs0
  by_cases hpos : k7 = true ∧ 0 < (ofT true M.B).length
  · obtain ⟨rfl, hpos⟩ := hpos
    obtain ⟨g9, c9, rfl, hc9, hm9, hcl⟩ := owns_cell how hpos
    have hj : unN k3 % (ofT true M.B).length < (ofT true M.B).length := Nat.mod_lt _ hpos
    obtain ⟨b9, hb9⟩ : ∃ b9, (ofT true M.B)[unN k3 % (ofT true M.B).length]? = some b9 := ⟨_, List.getElem?_eq_getElem hj⟩
    have hcc : w2.cell? ⟨g9, unN k3 % (ofT true M.B).length * 2, none⟩ = some (.int .i64 (b9.x : Int)) := hcl (unN k3 % (ofT true M.B).length * 2) _ (by have := pcl_get hb9 (j := 0) (by omega); rw [Nat.add_zero] at this; exact this)
    have hval : (b9.x : Int) = rr := by
      have := HR.out
      rw [if_pos ⟨rfl, hpos⟩] at this
      rw [← this]
      simp [List.getD, hb9]
    rw [hval] at hcc
    clear how hcl hval HR
    have hun : IntKind.u64.wrap k3 = (unN k3 : Int) := by rw [IntKind.wrap_u64]; unfold unN; omega
    have hmod : (IntKind.u64.wrap k3).tmod (((ofT true M.B).length : Nat) : Int) = ((unN k3 % (ofT true M.B).length : Nat) : Int) := by rw [hun]; rfl
    clear hun
    generalize unN k3 % (ofT true M.B).length = u at *
    generalize (ofT true M.B).length = m at *
    have hum : (u : Int) < (m : Int) := by omega
    have d1 : decide (0 < m) = true := decide_eq_true hpos
    have d1' : decide ((0 : Int) < (m : Int)) = true := decide_eq_true (by omega)
    go_wp2_with fail
    go_ret
    exact ⟨rfl, HBB.out⟩
  · obtain ⟨a9, c9, rfl⟩ := owns_sl how
    have hval : k3 = rr := by
      have := HR.out
      rw [if_neg hpos] at this
      exact this
    subst hval
    clear how HR
    by_cases hf : k7 = true
    · subst hf
      have hm0 : (ofT true M.B).length = 0 := by
        rcases Nat.eq_zero_or_pos (ofT true M.B).length with h | h
        · exact h
        · exact absurd ⟨rfl, h⟩ hpos
      rw [hm0]
      clear hm0 hpos hbl
      go_wp2_with fail
      go_ret
      exact ⟨rfl, HBB.out⟩
    · obtain rfl : k7 = false := by simpa using hf
      clear hpos hf
      go_wp2_with fail
      go_ret
      exact ⟨rfl, HBB.out⟩
/-- A root that an op publishes: its numbers fit. -/
def RootOk (R : Array Value) : Prop := ∃ (v e : Nat) (a b : Int), R = rtcs v e a b ∧ v < 18446744073709551616 ∧ e < 18446744073709551616
theorem un_wrap (x : Int) : IntKind.u64.wrap x = ((unN x : Nat) : Int) ∧ unN x < 18446744073709551616 := by
  rw [IntKind.wrap_u64]; unfold unN; omega
set_option maxRecDepth 100000 in
set_option maxHeartbeats 2000000 in
theorem oroot_any (h : Rfa w lo bv ls vs M) (o : OpM) (ho : o.Ok) : ∃ (R : Array Value), RootOk R ∧ ∀ {W : World}, Rfa W lo bv ls vs M → Calls Try.prog 26 #[.agg o.cs, .agg (M.vals bv ls)] W fun e w' => e = .returned (.agg R) ∧ Below W.heap.size W w' := by
  obtain ⟨r, hr⟩ : ∃ r, o.row M.B = r := ⟨_, rfl⟩
  have hx := ho.x
  have w1 := fun z => (un_wrap z).1
  have w2 := fun z => (un_wrap z).2
  -- three ways
  refine ⟨if o.f = false then rtcs o.x.toNat (unN o.n) r o.i else rtcs (unN ((M.v : Int) + ((unN (o.n.tmod 3) : Nat) : Int))) (unN ((M.gd : Int) + ((unN (o.i.tmod 3) : Nat) : Int))) r (if o.x % 2 = 0 then 0 else r), ?_, fun {W} hR => ?_⟩
  · split
    · exact ⟨_, _, _, _, rfl, by omega, w2 _⟩
    · exact ⟨_, _, _, _, rfl, w2 _, w2 _⟩
  · obtain ⟨W0, hW0⟩ : ∃ W0, W.alloc (.cells o.cs 38) = W0 := ⟨_, rfl⟩
    have hb0 : Below W.heap.size W W0 := by rw [← hW0]; exact (Below.refl _ _).alloc (Nat.le_refl _) _
    have b0 : Blk W0 W.heap.size 38 o.cs := by rw [← hW0]; exact Blk.new _ _ _
    have hs0 : W0.heap.size = W.heap.size + 1 := by rw [← hW0]; simp
    have hB := bx_new (hR.later hb0)
    obtain ⟨W1, hW1⟩ : ∃ W1, W0.alloc (.cells (M.vals bv ls) 36) = W1 := ⟨_, rfl⟩
    rw [hW1, hs0] at hB
    have hs1 : W1.heap.size = W.heap.size + 2 := by rw [← hW1]; simp [hs0]
    obtain ⟨W2, hW2⟩ : ∃ W2, W1.alloc (.cells #[.int .u64 0, .int .u64 0, .int .i64 0, .int .i64 0] 34) = W2 := ⟨_, rfl⟩
    have hB2 : Bx W0 W2 (W.heap.size + 1) lo bv ls vs M := by rw [← hW2]; exact hB.later ((Below.refl _ _).alloc (Nat.le_refl _) _)
    have bo2 : Blk W2 W.heap.size 38 o.cs := by rw [← hW2, ← hW1]; exact (b0.alloc _).alloc _
    have br2 : Blk W2 (W.heap.size + 2) 34 (rtcs 0 0 0 0) := by rw [← hW2, ← hs1]; exact Blk.new _ _ _
    have hb2 : Below W.heap.size W W2 := bel_later hb0 (by have := hB2.hb; exact this)
    have hl := hB2.ld
    have hop := ld_op bo2
    have hpl := place_any hB2.rf o ho
    rw [hr] at hpl
    obtain ⟨k1, k2, k3, k4, k5, k6, k7⟩ := o
    dsimp only at hx
    obtain ⟨x, rfl⟩ := Int.eq_ofNat_of_zero_le hx.1
    have HB := Lib.hid (And.intro hb2 (And.intro bo2 (And.intro br2 hB2)))
    unfold OpM.cs at hW0 hop hpl ⊢
    dsimp only at hW0 hop hpl ⊢
    clear hb2 bo2 br2 hB2 hB b0 hb0 hr ho hR h
    obtain ⟨V, hV⟩ : ∃ V, M.vals bv ls = V := ⟨_, rfl⟩
    rw [hV] at hW1 hl hpl ⊢
    clear hV
    go_enter Try.func26, Try.ntmps26
    go_wp2_with fail
    refine hpl.mono ?_
    rintro e w3 ⟨rfl, hb3⟩
    have bo3 := HB.out.2.1.kept (Kept.of_below [] hb3) (by simp)
    have br3 := HB.out.2.2.1.kept (Kept.of_below [] hb3) (by simp)
    have B3 := HB.out.2.2.2.later hb3
    have c3 : w3.cell? ⟨W.heap.size, 3, none⟩ = some (.int .i64 k4) := bo3.cell 3
    have c4 : w3.cell? ⟨W.heap.size, 4, none⟩ = some (.int .i64 k5) := bo3.cell 4
    have c5 : w3.cell? ⟨W.heap.size, 5, none⟩ = some (.int .u64 (x : Int)) := bo3.cell 5
    have c6 : w3.cell? ⟨W.heap.size, 6, none⟩ = some (.bool k7) := bo3.cell 6
    have v8 : w3.cell? ⟨W.heap.size + 1, 8, none⟩ = some (.int .u64 (M.v : Int)) := B3.bx.cell 8
    have v12 : w3.cell? ⟨W.heap.size + 1, 12, none⟩ = some (.int .u64 (M.gd : Int)) := B3.bx.cell 12
    have hb4 := bel_later HB.out.1 hb3
    have hsz3 : W.heap.size + 2 < w3.heap.size := br3.lt
    clear hpl hl hop hW0 hW1 hW2 hb3 B3 hs0 hs1
    cases k7 with
    | false =>
      have e5 := (un_wrap k5).1
      obtain ⟨n5, hn5⟩ : ∃ n5, unN k5 = n5 := ⟨_, rfl⟩
      rw [hn5] at e5
      have hst := st_root br3 rfl x n5 r k4
      have bf := br3.row (rtcs x n5 r k4)
      have HQ := Lib.hid (And.intro bf (below_setRow hb4 (g := W.heap.size + 2) (by omega) (rtcs x n5 r k4)))
      have hst' : (storeSem 34 (.pointer (some ⟨W.heap.size + 2, 0, none⟩)) (.agg #[.int .u64 (x : Int), .int .u64 (n5 : Int), .int .i64 r, .int .i64 k4])).run Try.prog w3 = .ok () (w3.setRow (W.heap.size + 2) (rtcs x n5 r k4)) := hst
      clear hst bf br3 bo3 hb4 w1 w2
      go_wp2_with fail
      refine bodyPost_ret (results_cell_row rfl _ _ (W.heap.size + 2) 34 (rtcs x n5 r k4) (0, 0) _ rfl HQ.out.1 Try.underlying34 rfl s_root) rfl ?_
      exact ⟨rfl, HQ.out.2⟩
    | true =>
      have e5 := (un_wrap (k5.tmod 3)).1
      have e4 := (un_wrap (k4.tmod 3)).1
      obtain ⟨n5, hn5⟩ : ∃ n5, unN (k5.tmod 3) = n5 := ⟨_, rfl⟩
      obtain ⟨n4, hn4⟩ : ∃ n4, unN (k4.tmod 3) = n4 := ⟨_, rfl⟩
      rw [hn5] at e5
      rw [hn4] at e4
      have f5 := (un_wrap ((M.v : Int) + (n5 : Int))).1
      have f4 := (un_wrap ((M.gd : Int) + (n4 : Int))).1
      obtain ⟨p5, hp5⟩ : ∃ p5, unN ((M.v : Int) + (n5 : Int)) = p5 := ⟨_, rfl⟩
      obtain ⟨p4, hp4⟩ : ∃ p4, unN ((M.gd : Int) + (n4 : Int)) = p4 := ⟨_, rfl⟩
      rw [hp5] at f5
      rw [hp4] at f4
      have hn : (storeSem 34 (.pointer (some ⟨w3.heap.size, 0, none⟩)) (.agg #[.int .u64 (p5 : Int), .int .u64 (p4 : Int), .int .i64 r, .int .i64 r])).run Try.prog (w3.alloc (.cells #[.int .u64 0, .int .u64 0, .int .i64 0, .int .i64 0] 34)) = .ok () (w3.alloc (.cells (rtcs p5 p4 r r) 34)) := by
        have := st_root (Blk.new w3 34 (rtcs 0 0 0 0)) rfl p5 p4 r r
        rw [World.setRow_alloc_new] at this
        exact this
      obtain ⟨W5, hW5⟩ : ∃ W5, w3.alloc (.cells (rtcs p5 p4 r r) 34) = W5 := ⟨_, rfl⟩
      have k5' : Below w3.heap.size w3 W5 := by rw [← hW5]; exact (Below.refl _ _).alloc (Nat.le_refl _) _
      have b6 : Blk W5 w3.heap.size 34 (rtcs p5 p4 r r) := by rw [← hW5]; exact Blk.new _ _ _
      rw [hW5] at hn
      have br5 := br3.kept (Kept.of_below [] k5') (by simp)
      have bo5 := bo3.kept (Kept.of_below [] k5') (by simp)
      have d5 : W5.cell? ⟨W.heap.size, 5, none⟩ = some (.int .u64 (x : Int)) := bo5.cell 5
      have d3 : W5.cell? ⟨w3.heap.size, 3, none⟩ = some (.int .i64 r) := b6.cell 3
      have g3 := b6.free 3
      by_cases hev : (x : Int) % 2 = 0
      · have dx : (((x : Int).tmod 2) == 0) = true := by
          have : (x : Int).tmod 2 = (x : Int) % 2 := by rw [Int.tmod_eq_emod_of_nonneg (by omega)]
          rw [this]; simpa using hev
        have b7 := b6.set 3 (.int .i64 0)
        have b7' : Blk (W5.setCell ⟨w3.heap.size, 3, none⟩ (.int .i64 0)) w3.heap.size 34 (rtcs p5 p4 r 0) := b7
        have br7 := br5.far (p := ⟨w3.heap.size, 3, none⟩) (by show W.heap.size + 2 ≠ w3.heap.size; omega) (.int .i64 0)
        have hl7 := ld_root b7'
        have hst := st_root br7 rfl p5 p4 r 0
        have bf := br7.row (rtcs p5 p4 r 0)
        have HQ := Lib.hid (And.intro bf (below_setRow ((bel_later hb4 k5').setCell (p := ⟨w3.heap.size, 3, none⟩) (by show W.heap.size ≤ w3.heap.size; omega) (.int .i64 0)) (g := W.heap.size + 2) (by omega) (rtcs p5 p4 r 0)))
        clear bf br3 bo3 hb4 w1 w2 b7 b7' br7 br5 bo5 b6 k5'
        generalize hRR : rtcs p5 p4 r 0 = RR at *
        go_wp2_with fail
        refine bodyPost_ret (results_cell_row rfl _ _ (W.heap.size + 2) 34 RR (0, 0) _ rfl HQ.out.1 Try.underlying34 rfl (by rw [← hRR]; exact s_root)) rfl ?_
        exact ⟨rfl, HQ.out.2⟩
      · have dx : (((x : Int).tmod 2) == 0) = false := by
          have : (x : Int).tmod 2 = (x : Int) % 2 := by rw [Int.tmod_eq_emod_of_nonneg (by omega)]
          rw [this]; simpa using hev
        have hl7 := ld_root b6
        have hst := st_root br5 rfl p5 p4 r r
        have bf := br5.row (rtcs p5 p4 r r)
        have HQ := Lib.hid (And.intro bf (below_setRow (bel_later hb4 k5') (g := W.heap.size + 2) (by omega) (rtcs p5 p4 r r)))
        clear bf br3 bo3 hb4 w1 w2 br5 bo5 b6 k5'
        generalize hRR : rtcs p5 p4 r r = RR at *
        go_wp2_with fail
        refine bodyPost_ret (results_cell_row rfl _ _ (W.heap.size + 2) 34 RR (0, 0) _ rfl HQ.out.1 Try.underlying34 rfl (by rw [← hRR]; exact s_root)) rfl ?_
        exact ⟨rfl, HQ.out.2⟩
end
end Go.Proofs.Ytgnpoehcmlmajaa
namespace Go.Proofs.Ytgnpoehcmlmajaa
open Go.RowKit Go.Shelf
set_option linter.unusedVariables false
/-- Of this word an arena says nothing but nought. -/
def zap (B : List Bl) (e i : Nat) : Bool := decide (e ≤ i) || B.any fun b => !b.t && (decide (b.x < i) && decide (i < b.x + 2 ^ b.c))
def canon (ws : List Nat) (B : List Bl) : List Nat := (List.range ws.length).map fun i => if zap B (ws.getD 15 0) i then 0 else ws.getD i 0
section
variable {ws : List Nat} {B : List Bl} {L : Nat → List Nat} {bs : List Bool}
theorem canon_len (ws : List Nat) (B : List Bl) : (canon ws B).length = ws.length := by simp [canon]
theorem canon_get (ws : List Nat) (B : List Bl) (i : Nat) : (canon ws B).getD i 0 = if zap B (ws.getD 15 0) i then 0 else ws.getD i 0 := by
  rcases Nat.lt_or_ge i ws.length with h | h
  · simp [canon, h]
  · have h1 : (canon ws B).getD i 0 = 0 := by simp [List.getElem?_eq_none (show (canon ws B).length ≤ i by rw [canon_len]; exact h)]
    have h2 : ws.getD i 0 = 0 := by simp [List.getElem?_eq_none h]
    rw [h1, h2]; simp
theorem canon_sm (h : ∀ n ∈ ws, n < 4294967296) : ∀ n ∈ canon ws B, n < 4294967296 := by
  intro n hn
  obtain ⟨i, _, rfl⟩ := List.mem_map.1 hn
  split
  · omega
  · exact word_sm h i
theorem zap_no {e i : Nat} (h1 : i < e) (h2 : ∀ b ∈ B, b.t = false → ¬ (b.x < i ∧ i < b.x + 2 ^ b.c)) : zap B e i = false := by
  unfold zap
  rw [Bool.or_eq_false_iff]
  refine ⟨by simpa using h1, ?_⟩
  rw [List.any_eq_false]
  intro b hb
  cases ht : b.t with
  | true => simp
  | false =>
    have := h2 b hb ht
    simp
    intro h3
    exact Nat.le_of_not_lt fun h4 => this ⟨h3, h4⟩
theorem zap_edge {e i : Nat} (h : e ≤ i) : zap B e i = true := by
  unfold zap
  rw [Bool.or_eq_true]
  exact .inl (decide_eq_true h)
/-- Of a block: its head, its first word, all words of one that is taken. -/
theorem keep_in (hC : Chain ws 16 B) {b : Bl} (hb : b ∈ B) {i : Nat} (h1 : b.x - 1 ≤ i) (h2 : i < b.x + 2 ^ b.c) (h3 : b.t = true ∨ i ≤ b.x) : (canon ws B).getD i 0 = ws.getD i 0 := by
  obtain ⟨g1, g2, g3, g4⟩ := chain_mem hC (Nat.le_refl _) hb
  have hz : zap B (ws.getD 15 0) i = false := by
    refine zap_no (by omega) fun b' hb' ht' ⟨k1, k2⟩ => ?_
    rcases chain_apart hC (Nat.le_refl _) hb hb' with h | h | h
    · subst h
      rcases h3 with h3 | h3
      · rw [h3] at ht'; cases ht'
      · omega
    · omega
    · omega
  rw [canon_get, hz]; rfl
theorem keep_low (hC : Chain ws 16 B) (h16 : 16 ≤ ws.getD 15 0) {i : Nat} (hi : i < 16) : (canon ws B).getD i 0 = ws.getD i 0 := by
  have hz : zap B (ws.getD 15 0) i = false := by
    refine zap_no (by omega) fun b hb _ ⟨k1, _⟩ => ?_
    have := (chain_mem hC (Nat.le_refl _) hb).2.1
    omega
  rw [canon_get, hz]; rfl
theorem inv_canon (h : Inv ws bs B L) (h16 : 16 ≤ ws.getD 15 0) : Inv (canon ws B) bs B L := by
  have e15 : (canon ws B).getD 15 0 = ws.getD 15 0 := keep_low h.chain h16 (by omega)
  refine ⟨chain_congr h.chain e15 fun b hb => ?_, by rw [e15, canon_len]; exact h.edge, h.begs, fun c hc => ?_, h.mem, h.nodup⟩
  · have := (h.at hb).2.1
    have := (pow5 (h.at hb).1).1
    exact keep_in h.chain hb (Nat.le_refl _) (by omega) (.inr (by omega))
  · rw [keep_low h.chain h16 (by omega)]
    refine lst_congr (h.lst c hc) fun x hx => ?_
    obtain ⟨b, hb, rfl, _, _⟩ := (h.mem c hc x).1 hx
    have := (pow5 (h.at hb).1).1
    exact keep_in h.chain hb (by omega) (by omega) (.inr (Nat.le_refl _))
theorem nice_canon (hC : Chain ws 16 B) (h16 : 16 ≤ ws.getD 15 0) (h0 : ws.getD 0 0 = ws.length) (h4 : ws.getD 5 0 = 0 ∨ ∃ b ∈ B, b.t = true ∧ b.x = ws.getD 5 0) (h6 : ws.getD 6 0 = 0 ∨ ∃ b ∈ B, b.t = true ∧ b.x = ws.getD 6 0) : Nice (canon ws B) B := by
  have e15 : (canon ws B).getD 15 0 = ws.getD 15 0 := keep_low hC h16 (by omega)
  refine ⟨by rw [keep_low hC h16 (by omega), canon_len]; exact h0, fun i hi hl => ?_, fun b hb ht i hi1 hi2 => ?_, by rw [keep_low hC h16 (by omega)]; exact h4, by rw [keep_low hC h16 (by omega)]; exact h6⟩
  · rw [e15] at hi
    have : zap B (ws.getD 15 0) i = true := zap_edge hi
    rw [canon_get, this]; rfl
  · have : zap B (ws.getD 15 0) i = true := by
      unfold zap
      rw [Bool.or_eq_true]
      exact .inr (List.any_eq_true.2 ⟨b, hb, by simp [ht, hi1, hi2]⟩)
    rw [canon_get, this]; rfl
theorem canon_id (hz : ∀ i, ws.getD 15 0 ≤ i → i < ws.length → ws.getD i 0 = 0) (hn : ∀ b ∈ B, b.t = false → ∀ i, b.x < i → i < b.x + 2 ^ b.c → ws.getD i 0 = 0) : canon ws B = ws := by
  refine list_ext (canon_len ws B) fun i hi => ?_
  rw [canon_len] at hi
  rw [canon_get]
  cases hzz : zap B (ws.getD 15 0) i with
  | false => rfl
  | true =>
    unfold zap at hzz
    rw [Bool.or_eq_true] at hzz
    rcases hzz with h | h
    · exact (hz i (by simpa using h) hi).symm
    · obtain ⟨b, hb, h9⟩ := List.any_eq_true.1 h
      simp at h9
      exact (hn b hb h9.1 i h9.2.1 h9.2.2).symm
theorem id_canon (he : ws.getD 15 0 ≤ ws.length) (h : canon ws B = ws) : (∀ i, ws.getD 15 0 ≤ i → i < ws.length → ws.getD i 0 = 0) ∧ (∀ b ∈ B, b.t = false → ∀ i, b.x < i → i < b.x + 2 ^ b.c → ws.getD i 0 = 0) := by
  refine ⟨fun i hi hl => ?_, fun b hb ht i hi1 hi2 => ?_⟩
  · have h1 := canon_get ws B i
    rw [h, zap_edge hi] at h1
    exact h1
  · have h1 := canon_get ws B i
    rw [h, show zap B (ws.getD 15 0) i = true by
      unfold zap
      rw [Bool.or_eq_true]
      exact .inr (List.any_eq_true.2 ⟨b, hb, by simp [ht, hi1, hi2]⟩)] at h1
    exact h1
/-- The words and the document's arena of words say the same. -/
theorem same_of {R : List Rb} (hRw : ∀ r ∈ R, r.ws = (ws.drop r.x).take (2 ^ r.c)) (M : Mo) (hM : M.N = ws.length ∧ M.R = R ∧ M.v = twoN ws 1 ∧ M.e = twoN ws 3 ∧ M.four = ((ws.getD 5 0 : Nat) : Int) ∧ M.six = ((ws.getD 6 0 : Nat) : Int) ∧ M.gd = twoN ws 7) : Same ws M := by
  obtain ⟨h1, h2, h3, h4, h5, h6, h7⟩ := hM
  refine ⟨h1, fun b hb ht j hj => ?_, h3, h4, h5, h6, h7⟩
  rw [h2] at hb
  rw [hRw b hb]
  simp only [List.getD_eq_getElem?_getD]
  rw [List.getElem?_take, if_pos hj, List.getElem?_drop]
theorem same_canon (hC : Chain ws 16 B) (h16 : 16 ≤ ws.getD 15 0) {M : Mo} (h : Same ws M) (hB : ∀ b ∈ M.R, (⟨b.x, b.c, b.t⟩ : Bl) ∈ B) : Same (canon ws B) M := by
  have t : ∀ k, k < 15 → twoN (canon ws B) k = twoN ws k := fun k hk => by unfold twoN; rw [keep_low hC h16 (by omega), keep_low hC h16 (by omega)]
  refine ⟨by rw [canon_len]; exact h.n, fun b hb ht j hj => ?_, by rw [t 1 (by omega)]; exact h.v, by rw [t 3 (by omega)]; exact h.e, by rw [keep_low hC h16 (by omega)]; exact h.four, by rw [keep_low hC h16 (by omega)]; exact h.six, by rw [t 7 (by omega)]; exact h.gd⟩
  rw [keep_in hC (hB b hb) (by show b.x - 1 ≤ _; omega) (by show _ < b.x + 2 ^ b.c; omega) (.inl ht)]
  exact h.words b hb ht j hj
end
end Go.Proofs.Ytgnpoehcmlmajaa
namespace Go.Proofs.Ytgnpoehcmlmajaa
open Go.RowKit Go.Shelf
set_option linter.unusedVariables false
section
variable {ws : List Nat} {bs : List Bool} {B : List Bl} {L : Nat → List Nat}
theorem no_yes {x c : Nat} (h : No ws bs (x : Int)) (hy : Yes ws bs x c) : False := by
  rcases h with h | ⟨_, _, _, d, hd, hh⟩
  · rw [hy.isB] at h; cases h
  · have h1 := hy.hd
    rw [Int.toNat_natCast] at hh
    have := (hdN_both hy.cl hd (h1.symm.trans hh)).2
    cases this
/-- No block that is taken has this place: the document's Taken tells none. -/
theorem tk_no {R : List Rb} (hI : Inv ws bs B L) (hRB : R.map bl3 = B) {x : Nat} {r : Int} (hn : No ws bs (x : Int)) (h : TkIs R (x : Int) r) : r = -1 := by
  rcases h with ⟨i, b, hb, ht, hx, hr⟩ | ⟨_, hr⟩
  · exfalso
    have hm : bl3 b ∈ B := by rw [← hRB]; exact List.mem_map_of_mem (List.mem_of_getElem? hb)
    have hy := hI.yes hm ht
    have hx' : b.x = x := by omega
    rw [show (bl3 b).x = x from hx'] at hy
    exact no_yes hn hy
  · exact hr
/-- A block that is taken has this place: it tells its number. -/
theorem tk_yes {R : List Rb} (hI : Inv ws bs B L) (hRB : R.map bl3 = B) {x : Nat} {r : Int} (h0 : x ≠ 0) (hn : Lead ws bs (x : Int)) (h : TkIs R (x : Int) r) : 0 ≤ r := by
  rcases h with ⟨i, b, hb, ht, hx, hr⟩ | ⟨hno, hr⟩
  · omega
  · exfalso
    rcases hn with ⟨hx, _⟩ | ⟨y, c, hxy, hy⟩
    · omega
    · obtain rfl : x = y := by omega
      obtain ⟨b, hb, hbx⟩ := (hI.begs x).1 hy.beg
      rw [← hRB] at hb
      obtain ⟨q, hq, rfl⟩ := List.mem_map.1 hb
      have h3 := (hI.at (b := bl3 q) (by rw [← hRB]; exact List.mem_map_of_mem hq)).2.2.1
      rw [hbx, hy.hd] at h3
      have ht := (hdN_both hy.cl (hI.at (b := bl3 q) (by rw [← hRB]; exact List.mem_map_of_mem hq)).1 h3).2
      exact hno q hq ht.symm (by rw [show q.x = x from hbx])
theorem taken_of (hI : Inv ws bs B L) {x : Nat} (hn : Lead ws bs (x : Int)) : x = 0 ∨ ∃ b ∈ B, b.t = true ∧ b.x = x := by
  rcases hn with ⟨hx, _⟩ | ⟨y, c, hxy, hy⟩
  · exact .inl (by omega)
  · obtain rfl : x = y := by omega
    obtain ⟨b, hb, hbx⟩ := (hI.begs x).1 hy.beg
    have h3 := (hI.at hb).2.2.1
    rw [hbx, hy.hd] at h3
    exact .inr ⟨b, hb, ((hdN_both hy.cl (hI.at hb).1 h3).2).symm, hbx⟩
theorem no_dec4 (hC : Chain ws 16 B) {k : Nat} (hk : k = 5 ∨ k = 6) (h0 : ((ws.getD k 0 : Nat) : Int) ≠ 0) (hn : No ws (begK B ws.length B.length) ((ws.getD k 0 : Nat) : Int)) : ¬ ∃ B L, Dec ws B L := by
  rintro ⟨B', L', h⟩
  have := chain_det hC h.chain
  subst this
  have hl : Lead ws (begK B ws.length B.length) ((ws.getD k 0 : Nat) : Int) := by
    rcases hk with rfl | rfl
    · exact h.four
    · exact h.six
  rcases hl with ⟨hx, _⟩ | ⟨y, c, hxy, hy⟩
  · exact h0 hx
  · rw [hxy] at hn
    exact no_yes hn hy
theorem no_dec5 (hC : Chain ws 16 B) (hc : canon ws B ≠ ws) : ¬ ∃ B L, Dec ws B L := by
  rintro ⟨B', L', h⟩
  have := chain_det hC h.chain
  subst this
  exact hc (canon_id h.behind h.nought)
end
end Go.Proofs.Ytgnpoehcmlmajaa
namespace Go.Proofs.Ytgnpoehcmlmajaa
open Go.RowKit Go.Shelf
set_option linter.unusedVariables false
section
attribute [local go_sem ↓] load_ra_rule store_ra_rule load_rb_rule store_rb_rule
variable {w W W' : World} {g z lo : Nat} {bv : Value} {ls : Nat → Value} {vs : List Value} {M : Mo}
set_option maxRecDepth 100000 in
set_option maxHeartbeats 2000000 in
theorem rbytes_any (h : Rfa w lo bv ls vs M) {ws : List Nat} {bs : List Bool} (hS : Same ws M) (hI : Inv ws bs M.B M.L) (hN : Nice ws M.B) (hlo : 64 ≤ ws.length) (hhi : ws.length ≤ 16384) (hsm : ∀ n ∈ ws, n < 4294967296) : Calls Try.prog 39 #[.agg (M.vals bv ls)] w fun e w' => ∃ b c, e = .returned (.slice (some ⟨b, 0, none⟩) (4 * ws.length) c) ∧ Lies w' (some ⟨b, 0, none⟩) (wbytes ws) ∧ Below w.heap.size w w' := by
  have hB := bx_new h
  obtain ⟨i0, hi, hz0, hz1, hz2⟩ := info_parts Try.info5
  obtain ⟨W1, hW1⟩ : ∃ W1, w.alloc (.cells (M.vals bv ls) 36) = W1 := ⟨_, rfl⟩
  rw [hW1] at hB
  have hl := hB.ld
  have hw := rwords_any hB.rf hS hI hN hlo hhi hsm
  have HB := Lib.hid (And.intro hB.hb hsm)
  clear hB h hS hI hN
  obtain ⟨V, hV⟩ : ∃ V, M.vals bv ls = V := ⟨_, rfl⟩
  rw [hV] at hW1 hl hw ⊢
  clear hV
  obtain ⟨n, hn⟩ : ∃ n, ws.length = n := ⟨_, rfl⟩
  rw [hn] at hw hlo hhi ⊢
  have Hn := Lib.hid hn
  clear hn
  go_enter Try.func39, Try.ntmps39
  go_wp2_with fail
  refine hw.mono ?_
  rintro e W2 ⟨v, rfl, how, hb2⟩
  obtain ⟨gw, cw, rfl, hcw, hmw, hcl⟩ := owns_cell how (by omega)
  have hB2 := bel_later HB.out.1 hb2
  have hgw := how.lt gw rfl
  have HK := Lib.hid (And.intro hB2 (And.intro hcl hgw))
  clear hw hb2 hl hW1 how hB2 hcl hgw
  go_wp2_with fail
  go_loopw [3, 9] (fun o i wr => ∃ k : Nat, k ≤ n ∧ i = .int .i64 k ∧ wr.ownsRow W2.heap.size 5 1 o (4 * k) ((wbytes (ws.take k)).map byc) ∧ Below W2.heap.size W2 wr) (fun _ i _ => n - (intOf i).toNat)
  case atStart => exact ⟨0, Nat.zero_le _, rfl, World.ownsRow_nil _ _ _ _, Below.refl _ _⟩
  case round =>
    obtain ⟨k, hk, rfl, how, hbe⟩ := hrel
    have hlw : ws.length = n := Hn.out
    by_cases hlt : k < n
    · have hki : (k : Int) < (n : Int) := by omega
      have hx : ws.getD k 0 < 4294967296 := word_lt HB.out.2 k
      have cx : wr.cell? ⟨gw, k, none⟩ = some (.int .u32 ((ws.getD k 0 : Nat) : Int)) := (World.cell?_of_block (hbe.block gw HK.out.2.2.2)).trans (HK.out.2.1 k _ (wvl_get (by omega)))
      have htk := wbytes_take (ws := ws) (k := k) (by omega)
      have hgh := fun w' => high_any (ws.getD k 0) 4 w' (by omega) (by omega) (by omega)
      have HX := Lib.hid (And.intro how (And.intro htk hbe))
      clear how hbe htk
      have hln : (4 : Int).toNat = 4 := rfl
      rw [hln] at hgh
      generalize ws.getD k 0 = x at *
      go_wp2_with fail
      refine (hgh wr).mono ?_
      rintro e w2 ⟨rfl, hO, hb2⟩
      have how2 := owns_later HX.out.1 hb2
      have hL := hO.lies
      have hB2 := bel_later HX.out.2.2 hb2
      have hlt0 := hB2.size
      have hbw := HX.out.2.2.size
      have hsz : (highB x 4).length = 4 := length_highB _ _
      obtain ⟨ad, had, hcl⟩ := hL.cells (by rw [hsz]; omega)
      cases had
      have HY := Lib.hid HX.out.2.1
      clear hgh cx
      generalize hbx : highB x 4 = bx at *
      clear hbx hO hL
      generalize wr.heap.size = pb at *
      go_wp2_with (at_builtin; refine wpList_append_own _ rfl _ _ 44 rfl W2.heap.size 5 i0 (.int .u8 0) 1 1 Try.underlying44 hi hz0 hz1 hz2 rfl (by decide) _ _ _ rfl how2 ⟨pb, 0, none⟩ 4 4 (bx.map byc) rfl ?c0 ?c1 ?c2 ?c3 ?c4 ?c5 ?_)
      case c0 => rw [List.length_map, hsz]
      case c1 => exact hcl
      case c2 => exact byc_one _
      case c3 => unfold maxLen; omega
      case c4 => omega
      case c5 => exact hlt0
      intro v' w3 how3 hg3 _
      have hb3 : Below W2.heap.size W2 w3 := hB2.grown hg3 hlt0 (fun j hj => (how2.lt j hj).1)
      go_wp2_with fail
      go_roundw
      case rel => exact ⟨k + 1, by omega, by go_num, by rw [HY.out, List.map_append]; exact how3, hb3⟩
      case measure => simp [intOf]; omega
    · obtain rfl : k = n := by omega
      have hfull : ws.take k = ws := List.take_of_length_le (by omega)
      rw [hfull] at how
      obtain ⟨g9, c9, rfl, hc9, hm9, hcl⟩ := owns_cell how (by omega)
      have hfin : Lies wr (some ⟨g9, 0, none⟩) (wbytes ws) := .inr ⟨g9, 0, rfl, (how.lt g9 rfl).2, fun i hi => by
        rw [Nat.zero_add]
        refine hcl i _ ?_
        simp [byc, hi]⟩
      have HZ := Lib.hid (And.intro hfin (bel_later HK.out.1 hbe))
      clear hfin hbe how hcl
      go_wp2_with fail
      go_ret
      exact ⟨g9, c9, rfl, HZ.out.1, HZ.out.2⟩
end
end Go.Proofs.Ytgnpoehcmlmajaa
namespace Go.Proofs.Ytgnpoehcmlmajaa
open Go.RowKit Go.Shelf
set_option linter.unusedVariables false
theorem wbytes_inj {c ws : List Nat} (hl : c.length = ws.length) (hc : ∀ n ∈ c, n < 4294967296) (hw : ∀ n ∈ ws, n < 4294967296) (h : wbytes c = wbytes ws) : c = ws := by
  refine list_ext hl fun i hi => ?_
  have e1 := wbytes_drop c i hi
  have e2 := wbytes_drop ws i (by omega)
  rw [h] at e1
  have e3 := congrArg (fun l => pile 0 l % 4294967296) (e1.symm.trans e2)
  rwa [pile_word (word_sm hc i), pile_word (word_sm hw i)] at e3
theorem byt_wbytes {l ws : List Nat} {len : Nat} (h : Byt l ws len) : l = wbytes ws := by
  have h1 := bytes_words (n := ws.length) h.bys (by rw [h.ln, h.four])
  have h2 : wordsB ws.length l = ws := list_ext (wordsB_len _ _) fun i hi => by
    rw [wordsB_len] at hi
    rw [wordsB_get l hi, h.words i hi]
  rw [h2] at h1
  exact h1
section
variable {w : World} {lo : Nat} {bv : Value} {ls : Nat → Value} {vs : List Value} {M : Mo} {ws l : List Nat} {B : List Bl} {L : Nat → List Nat} {len : Nat}
/-- What the last comparison tells: that the words are those of an arena, or that they are none's. -/
theorem rd_last (hs : Sz ws) (h : Byt l ws len) (h16 : 16 ≤ ws.getD 15 0) (he : ws.getD 15 0 ≤ ws.length) (hI : Inv ws (begK B ws.length B.length) B L) (hF : Fl ws (begK B ws.length B.length) L) (hfree : ∀ b ∈ B, b.t = false → b.x ∈ L b.c) (h4 : Lead ws (begK B ws.length B.length) ((ws.getD 5 0 : Nat) : Int)) (h6 : Lead ws (begK B ws.length B.length) ((ws.getD 6 0 : Nat) : Int)) (hB : M.B = B) (hL : M.L = L) (hS : Same ws M) :
    (wbytes (canon ws B) = l → Dec ws B L ∧ Pur ws (begK B ws.length B.length) M) ∧ (wbytes (canon ws B) ≠ l → ¬ ∃ B L, Dec ws B L) := by
  have hl := byt_wbytes h
  refine ⟨fun e => ?_, fun e => ?_⟩
  · have hc : canon ws B = ws := wbytes_inj (canon_len ws B) (canon_sm hs.sml) hs.sml (e.trans hl)
    obtain ⟨i1, i2⟩ := id_canon he hc
    have hN := nice_canon hI.chain h16 hs.first (taken_of hI h4) (taken_of hI h6)
    rw [hc] at hN
    exact ⟨⟨hs.lo, hs.hi, hs.sml, hs.first, hI.chain, he, h16, i1, hF, hfree, i2, h4, h6⟩, by rw [hB, hL]; exact hI, by rw [hB]; exact hN, hS⟩
  · refine no_dec5 hI.chain fun hc => e ?_
    rw [hc, hl]
/-- Its bytes, for any world in which it lies. -/
theorem rd_bytes (hs : Sz ws) (h16 : 16 ≤ ws.getD 15 0) (hI : Inv ws (begK B ws.length B.length) B L) (h4 : Lead ws (begK B ws.length B.length) ((ws.getD 5 0 : Nat) : Int)) (h6 : Lead ws (begK B ws.length B.length) ((ws.getD 6 0 : Nat) : Int)) (hB : M.B = B) (hL : M.L = L) (hS : Same ws M) (hR : Rfa w lo bv ls vs M) :
    Calls Try.prog 39 #[.agg (M.vals bv ls)] w fun e w' => ∃ b c, e = .returned (.slice (some ⟨b, 0, none⟩) (4 * ws.length) c) ∧ Lies w' (some ⟨b, 0, none⟩) (wbytes (canon ws B)) ∧ Below w.heap.size w w' := by
  have := rbytes_any hR (ws := canon ws B) (bs := begK B ws.length B.length) (same_canon hI.chain h16 hS fun b hb => by
    rw [← hB]
    exact List.mem_map_of_mem (f := Rb.bl) hb) (by rw [hB, hL]; exact inv_canon hI h16) (by rw [hB]; exact nice_canon hI.chain h16 hs.first (taken_of hI h4) (taken_of hI h6)) (by rw [canon_len]; exact hs.lo) (by rw [canon_len]; exact hs.hi) (canon_sm hs.sml)
  rw [canon_len] at this
  exact this
end
end Go.Proofs.Ytgnpoehcmlmajaa
