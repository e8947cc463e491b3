/-
  Rows are compared; a table that is data; what setting a prefix makes of matches. Nothing here is a statement of the document.
-/
import Derived.Test.YtfnagfmbhcaphaaDoorTbI
import Derived.Test.YtfnagfmbhcaphaaDoorPfxQ
import Derived.Deep.Slices
namespace Go.Proofs.YtfnagfmbhcaphaaDoor
open Go.RowKit Go.Shelf Go.ChangeShapes Go.WideShapes Go.ChangeAt
set_option linter.unusedVariables false
set_option maxRecDepth 100000

/-! ### Rows are compared -/
theorem eq_rt_rule (a b : Value) : Op.equalIn 10000 43 a b = eqSem 43 a b := rfl
theorem stood_rt : Tryd.prog.stoodInHeld 43 = false := by kernel_rfl
theorem part_p (r : Rt) (w : World) : (part 29 r.cs 0).run Tryd.prog w = .ok (.agg r.p.cs) w := by
  have hagg : (isAgg 29).run Tryd.prog w = .ok true w := by kernel_rfl
  have hn : (sizeOf 29).run Tryd.prog w = .ok 18 w := by kernel_rfl
  have e : r.cs.extract 0 (0 + 18) = r.p.cs := by
    apply Array.ext_getElem?
    intro j
    rw [Array.getElem?_extract, r.size]
    by_cases hj : j < 18
    · rw [if_pos (by omega), Nat.zero_add, r.cp j hj]
    · rw [if_neg (by omega), Array.getElem?_eq_none (by rw [Px.size]; omega)]
  unfold part
  simp only [Sem.run_bind, hagg, hn, Result.andThen_ok, if_true, r.size, e]
  first | rfl | (simp; rfl) | simp
theorem part_h (r : Rt) (w : World) : (part 3 r.cs 18).run Tryd.prog w = .ok (.int .i64 r.h) w := by
  have hagg : (isAgg 3).run Tryd.prog w = .ok false w := by kernel_rfl
  unfold part
  simp only [Sem.run_bind, hagg, Result.andThen_ok, r.ch]
  rfl
theorem equal_rt (d : Nat) (p q : Rt) (w : World) : (Op.equalIn (d + 5) 43 (.agg p.cs) (.agg q.cs)).run Tryd.prog w = .ok (decide (p = q)) w := by
  rw [show d + 5 = (d + 4) + 1 from rfl, Op.equalIn]
  have hu := run_underlying (P := Tryd.prog) Tryd.underlying43 w
  have h2 := fun x y => equal_int (d + 3) x y w
  have h3 := fun x y => equal_px d x y w
  simp only [Sem.run_bind, hu, Result.andThen_ok, run_prog, stood_rt]
  simp only [Bool.false_eq_true, if_false, List.forIn_toArray, List.forIn_cons, List.forIn_nil, Sem.run_bind, Sem.run_pure, Result.andThen_ok]
  simp only [show ("Prefix" ≠ "_") = True from by simp, show ("Hop" ≠ "_") = True from by simp, if_true, Sem.run_bind, Result.andThen_ok, part_p, part_h, h2, h3]
  by_cases hv : p.p = q.p
  · have hd : (!decide (p.p = q.p)) = false := by simp [hv]
    simp only [hd, Bool.false_eq_true, if_false, Sem.run_pure, Sem.run_bind, Result.andThen_ok, part_h, h2]
    by_cases hb : p.h = q.h
    · have hd2 : (!decide (p.h = q.h)) = false := by simp [hb]
      have he : decide (p = q) = true := decide_eq_true (Rt.same.2 ⟨hv, hb⟩)
      simp only [hd2, Bool.false_eq_true, if_false, Sem.run_pure, Result.andThen_ok, he]
    · have hd2 : (!decide (p.h = q.h)) = true := by simp [hb]
      have he : decide (p = q) = false := decide_eq_false (fun h => hb (Rt.same.1 h).2)
      simp only [hd2, if_true, Sem.run_pure, Result.andThen_ok, he]
  · have hd : (!decide (p.p = q.p)) = true := by simp [hv]
    have he : decide (p = q) = false := decide_eq_false (fun h => hv (Rt.same.1 h).1)
    simp only [hd, if_true, Sem.run_pure, Result.andThen_ok, he]
theorem eqR (a b : Rt) (w : World) : (eqSem 43 (.agg a.cs) (.agg b.cs)).run Tryd.prog w = .ok (decide (a = b)) w := by
  unfold eqSem
  obtain ⟨d, hd⟩ : ∃ d, d + 5 = 10000 := ⟨9995, rfl⟩
  rw [← hd]
  exact equal_rt d a b w

/-! ### A table that is data -/
theorem c_rt : Tryd.prog.cellsOf 43 = 19 := by kernel_rfl
theorem c_sl : Tryd.prog.cellsOf 22 = 1 := by kernel_rfl
theorem c_tab : Tryd.prog.cellsOf 24 = 1 := by kernel_rfl
theorem rt_cells {H : Type} {enc : TypeId × Value → H} {W : World} {sp : Nat → Bool} {held : Bool} {fuel : Nat} {cs : List Value} {y : DataW H × List MemPlace} (h : DataW.trod enc Tryd.prog W 0 sp held fuel 43 cs = some y) : ∃ r : Rt, cs = r.cs.toList := by
  obtain ⟨xs, m, _, _, hlen, hxs, hg⟩ := DataW.trod_struct Tryd.underlying43 h
  rw [c_rt] at hlen
  obtain ⟨y0, y1, rfl⟩ : ∃ y0 y1, xs = [y0, y1] := by
    match xs, hxs with
    | [a, b], _ => exact ⟨a, b, rfl⟩
  have t0 : DataW.trod enc Tryd.prog W 0 sp held m 29 (List.take (Tryd.prog.cellsOf 29) (List.drop 0 cs)) = some y0 := hg 0 _ rfl
  rw [c_px] at t0
  have t1 : DataW.trod enc Tryd.prog W 0 sp held m 3 (List.take (Tryd.prog.cellsOf 3) (List.drop 18 cs)) = some y1 := hg 1 _ rfl
  rw [c_int] at t1
  obtain ⟨u0, e0, _, f0⟩ := DataW.trod_int Tryd.underlying3 t1
  obtain ⟨p, hp, _, _⟩ := px_cells t0
  refine ⟨⟨p, u0⟩, ?_⟩
  rw [show (Rt.mk p u0).cs.toList = p.cs.toList ++ [Value.int .i64 u0] from by simp [Rt.cs], ← hp, ← e0, List.drop_zero, List.take_of_length_le (l := cs.drop 18) (by simp; omega)]
  exact (List.take_append_drop 18 cs).symm
theorem rows_of {H : Type} {enc : TypeId × Value → H} {W : World} {sp : Nat → Bool} {held : Bool} {fuel : Nat} {cs : List Value} {y : DataW H × List MemPlace} (h : DataW.trod enc Tryd.prog W 0 sp held fuel 22 cs = some y) : ∃ a n c L, cs = [.slice a n c] ∧ L.length = n ∧ Tbl W a c L := by
  rcases Go.Deep.open_slice Tryd.underlying22 h with ⟨hcs, _⟩ | ⟨x, len', cap', q, nn, Dt, Pl, hcs, _, hl, hm, hq, _, hi⟩
  · exact ⟨none, 0, 0, [], hcs, rfl, Tbl.none W⟩
  · have hex : ∀ i, i < len' → ∃ y : Rt, ∀ j, j < 19 → W.cell? (x.add (i * 19 + j)) = (y.cs)[j]? := by
      intro i hil
      obtain ⟨cs', hc', ht'⟩ := hi i (by rw [hq]; split <;> omega)
      rw [c_rt] at hc'
      obtain ⟨_, hlen, hat⟩ := World.cells?_some hc'
      obtain ⟨y, rfl⟩ := rt_cells ht'
      refine ⟨y, fun j hj => ?_⟩
      have h9 := hat j hj
      rw [Go.Deep.add_add] at h9
      rw [h9]
      simp
    obtain ⟨f, hf2⟩ : ∃ f : Nat → Rt, ∀ i, i < len' → ∀ j, j < 19 → W.cell? (x.add (i * 19 + j)) = ((f i).cs)[j]? :=
      ⟨fun i => if h : i < len' then (hex i h).choose else Rt.zero, fun i hil => by simp only [dif_pos hil]; exact (hex i hil).choose_spec⟩
    refine ⟨some x, len', cap', (List.range len').map f, hcs, by simp, ?_, by simpa using hl, hm, fun h => by cases h⟩
    by_cases h0 : len' = 0
    · left; rw [h0]; rfl
    · right
      have h1 := hf2 0 (by omega) 0 (by omega)
      have h2 : ((f 0).cs)[0]? = some (.int .i64 (f 0).p.a.v) := by rw [Rt.cp _ _ (by omega), Px.ca _ _ (by omega), Ad.c0]
      rw [h2] at h1
      obtain ⟨b, o, s⟩ := x
      obtain rfl : s = none := by simpa [Addr.add] using World.cell?_spot h1
      refine ⟨b, o, rfl, ?_, fun i hi j hj => ?_⟩
      · have := cell_lt h1
        simpa [Addr.add_lit] using this
      · have hil : i < len' := by simpa using hi
        have h3 := hf2 i hil j hj
        rw [Addr.add_lit] at h3
        rw [Nat.add_assoc, h3]
        congr 2
        simp [rt, hil]
theorem tab_of {H : Type} {enc : TypeId × Value → H} {W : World} {sp : Nat → Bool} {base : Nat} {held : Bool} {v : Value} {d : DataW H} {p : List MemPlace} (hv : Value.okWide Tryd.prog W .any base 24 v) (h : DataW.Trod enc Tryd.prog W 0 sp held 24 v d p) : ∃ a n c L, v = .agg #[.slice a n c] ∧ L.length = n ∧ Tbl W a c L := by
  obtain ⟨cs, rfl, hsz⟩ := okWide_struct Tryd.underlying24 hv
  obtain ⟨fuel, hf⟩ := h
  obtain ⟨xs, m, _, _, hlen, hxs, hg⟩ := DataW.trod_struct Tryd.underlying24 (show DataW.trod enc Tryd.prog W 0 sp held fuel 24 cs.toList = some _ from hf)
  rw [c_tab] at hlen
  obtain ⟨y0, rfl⟩ : ∃ y0, xs = [y0] := by
    match xs, hxs with
    | [a], _ => exact ⟨a, rfl⟩
  have t0 : DataW.trod enc Tryd.prog W 0 sp held m 22 (List.take (Tryd.prog.cellsOf 22) (List.drop 0 cs.toList)) = some y0 := hg 0 _ rfl
  rw [c_sl, List.drop_zero, List.take_of_length_le (by omega)] at t0
  obtain ⟨a, n, c, L, h1, h2, h3⟩ := rows_of t0
  exact ⟨a, n, c, L, congrArg Value.agg (Array.toList_inj.1 (by rw [h1])), h2, h3⟩
theorem rt_of {H : Type} {enc : TypeId × Value → H} {W : World} {sp : Nat → Bool} {base : Nat} {held : Bool} {v : Value} {d : DataW H} {p : List MemPlace} (hv : Value.okWide Tryd.prog W .any base 43 v) (h : DataW.Trod enc Tryd.prog W 0 sp held 43 v d p) : ∃ r : Rt, v = .agg r.cs := by
  obtain ⟨cs, rfl, hsz⟩ := okWide_struct Tryd.underlying43 hv
  obtain ⟨fuel, hf⟩ := h
  obtain ⟨r, hr⟩ := rt_cells (show DataW.trod enc Tryd.prog W 0 sp held fuel 43 cs.toList = some _ from hf)
  exact ⟨r, congrArg Value.agg (Array.toList_inj.1 hr)⟩

/-! ### What setting a prefix makes of matches -/
section
variable {L : List Rt} {p : Px} {h : Int} {a : Ad}
theorem setM_mem (e : setE L p h = 0) (x : Rt) : x ∈ setM L p h ↔ x = ⟨p, h⟩ ∨ (x ∈ L ∧ x.p ≠ p) := by
  unfold setM
  rw [if_pos e]
  exact setL_mem (setE_ok e).1.2.2 p h x
theorem set_miss (e : setE L p h = 0) (hn : ¬ hasM p a) : longB (setM L p h) a = longB L a ∧ longR (setM L p h) a = longR L a := by
  have hL := (setE_ok e).1.2.2
  have hU := (setM_okT L p h).2.2
  rcases long_ways hL a with ⟨h1, h2⟩ | ⟨h1, h2, h3⟩
  · have hl : Long (setM L p h) a (longR L a) := ⟨(setM_mem e _).2 (.inr ⟨h2.1, fun q => hn (by rw [← q]; exact h2.2.1)⟩), h2.2.1, fun y hy hh => by
      rcases (setM_mem e y).1 hy with q | ⟨q, _⟩
      · rw [q] at hh; exact absurd hh hn
      · exact h2.2.2 y q hh⟩
    obtain ⟨g1, g2⟩ := long_is hU hl
    exact ⟨g1.trans h1.symm, g2⟩
  · obtain ⟨g1, g2⟩ := long_none hU (a := a) (fun y hy hh => by
      rcases (setM_mem e y).1 hy with q | ⟨q, _⟩
      · rw [q] at hh; exact hn hh
      · exact h3 y q hh)
    exact ⟨g1.trans h1.symm, g2.trans h2.symm⟩
theorem set_shorter (e : setE L p h = 0) (ht : longB L a = true) (hn : p.n < (longR L a).p.n) : longB (setM L p h) a = true ∧ longR (setM L p h) a = longR L a := by
  have hL := (setE_ok e).1.2.2
  rcases long_ways hL a with ⟨h1, h2⟩ | ⟨h1, _⟩
  · refine long_is (setM_okT L p h).2.2 ⟨(setM_mem e _).2 (.inr ⟨h2.1, fun q => by rw [q] at hn; omega⟩), h2.2.1, fun y hy hh => ?_⟩
    rcases (setM_mem e y).1 hy with q | ⟨q, _⟩
    · rw [q]; exact Int.le_of_lt hn
    · exact h2.2.2 y q hh
  · rw [ht] at h1; cases h1
theorem set_longer (e : setE L p h = 0) (hp : hasM p a) (hn : longB L a = true → (longR L a).p.n ≤ p.n) : longB (setM L p h) a = true ∧ longR (setM L p h) a = ⟨p, h⟩ := by
  have hL := (setE_ok e).1.2.2
  refine long_is (setM_okT L p h).2.2 ⟨(setM_mem e _).2 (.inl rfl), hp, fun y hy hh => ?_⟩
  rcases (setM_mem e y).1 hy with q | ⟨q, _⟩
  · rw [q]; exact Int.le_refl _
  · rcases long_ways hL a with ⟨h1, h2⟩ | ⟨_, _, h3⟩
    · exact Int.le_trans (h2.2.2 y q hh) (hn h1)
    · exact absurd hh (h3 y q)
end
end Go.Proofs.YtfnagfmbhcaphaaDoor
