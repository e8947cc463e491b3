/-
  A RIB that is data, and a batch that is data. Nothing here is a statement of the document.
-/
import Derived.Test.YtclkfmblogkakaaDoorRtB
import Derived.Test.YtclkfmblogkakaaDoorTbP
import Derived.Deep.Slices
namespace Go.Proofs.YtclkfmblogkakaaDoor
open Go.RowKit Go.Shelf Go.ChangeShapes Go.WideShapes Go.ChangeAt
set_option linter.unusedVariables false
set_option maxRecDepth 100000
theorem c_bool : Tryd.prog.cellsOf 4 = 1 := by kernel_rfl

/-! ### api.Rib -/
theorem c_ro : Tryd.prog.cellsOf 67 = 21 := by kernel_rfl
theorem c_slro : Tryd.prog.cellsOf 22 = 1 := by kernel_rfl
theorem c_bxro : Tryd.prog.cellsOf 24 = 1 := by kernel_rfl
theorem ro_cells {H : Type} {enc : TypeId × Value → H} {W : World} {sp : Nat → Bool} {held : Bool} {fuel : Nat} {cs : List Value} {y : DataW H × List MemPlace} (h : DataW.trod enc Tryd.prog W 0 sp held fuel 67 cs = some y) : ∃ r : Ro, cs = r.cs.toList := by
  obtain ⟨xs, m, _, _, hlen, hxs, hg⟩ := DataW.trod_struct Tryd.underlying67 h
  rw [c_ro] at hlen
  obtain ⟨y0, y1, y2, y3, rfl⟩ : ∃ y0 y1 y2 y3, xs = [y0, y1, y2, y3] := by
    match xs, hxs with
    | [y0, y1, y2, y3], _ => exact ⟨y0, y1, y2, y3, rfl⟩
  have t0 : DataW.trod enc Tryd.prog W 0 sp held m 65 (List.take (Tryd.prog.cellsOf 65) (List.drop 0 cs)) = some y0 := hg 0 _ rfl
  rw [c_px] at t0
  have t1 : DataW.trod enc Tryd.prog W 0 sp held m 3 (List.take (Tryd.prog.cellsOf 3) (List.drop 18 cs)) = some y1 := hg 1 _ rfl
  rw [c_int] at t1
  have t2 : DataW.trod enc Tryd.prog W 0 sp held m 3 (List.take (Tryd.prog.cellsOf 3) (List.drop 19 cs)) = some y2 := hg 2 _ rfl
  rw [c_int] at t2
  have t3 : DataW.trod enc Tryd.prog W 0 sp held m 3 (List.take (Tryd.prog.cellsOf 3) (List.drop 20 cs)) = some y3 := hg 3 _ rfl
  rw [c_int] at t3
  obtain ⟨p, hp, _, _⟩ := px_cells t0
  obtain ⟨u1, e1, _, f1⟩ := DataW.trod_int Tryd.underlying3 t1
  obtain ⟨u2, e2, _, f2⟩ := DataW.trod_int Tryd.underlying3 t2
  obtain ⟨u3, e3, _, f3⟩ := DataW.trod_int Tryd.underlying3 t3
  refine ⟨⟨p, u1, u2, u3⟩, ?_⟩
  have q18 : (cs.drop 18).take 1 ++ cs.drop 19 = cs.drop 18 := by rw [show cs.drop 19 = (cs.drop 18).drop 1 by rw [List.drop_drop], List.take_append_drop]
  have q19 : (cs.drop 19).take 1 ++ cs.drop 20 = cs.drop 19 := by rw [show cs.drop 20 = (cs.drop 19).drop 1 by rw [List.drop_drop], List.take_append_drop]
  have ql : (cs.drop 20).take 1 = cs.drop 20 := List.take_of_length_le (by simp; omega)
  have hs : cs = cs.take 18 ++ ((cs.drop 18).take 1 ++ ((cs.drop 19).take 1 ++ ((cs.drop 20).take 1))) := by rw [ql, q19, q18, List.take_append_drop]
  rw [List.drop_zero] at hp
  rw [hs, hp, e1, e2, e3]
  simp [Ro.cs]
theorem rorows_of {H : Type} {enc : TypeId × Value → H} {W : World} {sp : Nat → Bool} {held : Bool} {fuel : Nat} {cs : List Value} {y : DataW H × List MemPlace} (h : DataW.trod enc Tryd.prog W 0 sp held fuel 22 cs = some y) : ∃ a n c L, cs = [.slice a n c] ∧ List.length L = n ∧ RoAt W a L ∧ n ≤ c ∧ c ≤ maxLen ∧ (a = none → c = 0) := by
  rcases Go.Deep.open_slice Tryd.underlying22 h with ⟨hcs, _⟩ | ⟨x, len', cap', q, nn, Dt, Pl, hcs, _, hl, hm, hq, _, hi⟩
  · exact ⟨none, 0, 0, [], hcs, rfl, .inl rfl, Nat.le_refl _, Nat.zero_le _, fun _ => rfl⟩
  · have hex : ∀ i, i < len' → ∃ y : Ro, ∀ j, j < 21 → W.cell? (x.add (i * 21 + j)) = (y.cs)[j]? := by
      intro i hil
      obtain ⟨cs', hc', ht'⟩ := hi i (by rw [hq]; split <;> omega)
      rw [c_ro] at hc'
      obtain ⟨_, hlen, hat⟩ := World.cells?_some hc'
      obtain ⟨y, rfl⟩ := ro_cells ht'
      refine ⟨y, fun j hj => ?_⟩
      have h9 := hat j hj
      rw [Go.Deep.add_add] at h9
      rw [h9]
      simp
    obtain ⟨f, hf2⟩ : ∃ f : Nat → Ro, ∀ i, i < len' → ∀ j, j < 21 → W.cell? (x.add (i * 21 + j)) = ((f i).cs)[j]? :=
      ⟨fun i => if h : i < len' then (hex i h).choose else Ro.zero, fun i hil => by simp only [dif_pos hil]; exact (hex i hil).choose_spec⟩
    refine ⟨some x, len', cap', (List.range len').map f, hcs, by simp, ?_, hl, hm, fun h => by cases h⟩
    by_cases h0 : len' = 0
    · left; rw [h0]; rfl
    · right
      have h1 := hf2 0 (by omega) 0 (by omega)
      have h2 : ((f 0).cs)[0]? = some (.int .i64 (f 0).p.a.v) := by rw [Ro.cp _ _ (by omega), Px.ca _ _ (by omega), Ad.c0]
      rw [h2] at h1
      obtain ⟨b, o, s⟩ := x
      obtain rfl : s = none := by simpa [Addr.add] using World.cell?_spot h1
      refine ⟨b, o, rfl, ?_, fun i hi j hj => ?_⟩
      · have := cell_lt h1
        simpa [Addr.add_lit] using this
      · have hil : i < len' := by simpa using hi
        have h3 := hf2 i hil j hj
        rw [Addr.add_lit] at h3
        rw [Nat.add_assoc, h3]
        congr 2
        simp [rog, hil]
theorem rib_of {H : Type} {enc : TypeId × Value → H} {W : World} {sp : Nat → Bool} {base : Nat} {held : Bool} {v : Value} {d : DataW H} {p : List MemPlace} (hv : Value.okWide Tryd.prog W .any base 24 v) (h : DataW.Trod enc Tryd.prog W 0 sp held 24 v d p) : ∃ a n c L, v = .agg #[.slice a n c] ∧ List.length L = n ∧ RoAt W a L ∧ n ≤ c ∧ c ≤ maxLen ∧ (a = none → c = 0) := by
  obtain ⟨cs, rfl, hsz⟩ := okWide_struct Tryd.underlying24 hv
  obtain ⟨fuel, hf⟩ := h
  obtain ⟨xs, m, _, _, hlen, hxs, hg⟩ := DataW.trod_struct Tryd.underlying24 (show DataW.trod enc Tryd.prog W 0 sp held fuel 24 cs.toList = some _ from hf)
  rw [c_bxro] at hlen
  obtain ⟨y0, rfl⟩ : ∃ y0, xs = [y0] := by
    match xs, hxs with
    | [a], _ => exact ⟨a, rfl⟩
  have t0 : DataW.trod enc Tryd.prog W 0 sp held m 22 (List.take (Tryd.prog.cellsOf 22) (List.drop 0 cs.toList)) = some y0 := hg 0 _ rfl
  rw [c_slro, List.drop_zero, List.take_of_length_le (by omega)] at t0
  obtain ⟨a, n, c, L, h1, h2, h3⟩ := rorows_of t0
  exact ⟨a, n, c, L, congrArg Value.agg (Array.toList_inj.1 (by rw [h1])), h2, h3⟩

/-! ### api.Batch -/
theorem c_up : Tryd.prog.cellsOf 72 = 22 := by kernel_rfl
theorem c_slup : Tryd.prog.cellsOf 25 = 1 := by kernel_rfl
theorem c_bxup : Tryd.prog.cellsOf 27 = 1 := by kernel_rfl
theorem up_cells {H : Type} {enc : TypeId × Value → H} {W : World} {sp : Nat → Bool} {held : Bool} {fuel : Nat} {cs : List Value} {y : DataW H × List MemPlace} (h : DataW.trod enc Tryd.prog W 0 sp held fuel 72 cs = some y) : ∃ r : Up, cs = r.cs.toList := by
  obtain ⟨xs, m, _, _, hlen, hxs, hg⟩ := DataW.trod_struct Tryd.underlying72 h
  rw [c_up] at hlen
  obtain ⟨y0, y1, y2, y3, y4, rfl⟩ : ∃ y0 y1 y2 y3 y4, xs = [y0, y1, y2, y3, y4] := by
    match xs, hxs with
    | [y0, y1, y2, y3, y4], _ => exact ⟨y0, y1, y2, y3, y4, rfl⟩
  have t0 : DataW.trod enc Tryd.prog W 0 sp held m 65 (List.take (Tryd.prog.cellsOf 65) (List.drop 0 cs)) = some y0 := hg 0 _ rfl
  rw [c_px] at t0
  have t1 : DataW.trod enc Tryd.prog W 0 sp held m 3 (List.take (Tryd.prog.cellsOf 3) (List.drop 18 cs)) = some y1 := hg 1 _ rfl
  rw [c_int] at t1
  have t2 : DataW.trod enc Tryd.prog W 0 sp held m 4 (List.take (Tryd.prog.cellsOf 4) (List.drop 19 cs)) = some y2 := hg 2 _ rfl
  rw [c_bool] at t2
  have t3 : DataW.trod enc Tryd.prog W 0 sp held m 3 (List.take (Tryd.prog.cellsOf 3) (List.drop 20 cs)) = some y3 := hg 3 _ rfl
  rw [c_int] at t3
  have t4 : DataW.trod enc Tryd.prog W 0 sp held m 3 (List.take (Tryd.prog.cellsOf 3) (List.drop 21 cs)) = some y4 := hg 4 _ rfl
  rw [c_int] at t4
  obtain ⟨p, hp, _, _⟩ := px_cells t0
  obtain ⟨u1, e1, _, f1⟩ := DataW.trod_int Tryd.underlying3 t1
  obtain ⟨u2, e2, _⟩ := DataW.trod_bool Tryd.underlying4 t2
  obtain ⟨u3, e3, _, f3⟩ := DataW.trod_int Tryd.underlying3 t3
  obtain ⟨u4, e4, _, f4⟩ := DataW.trod_int Tryd.underlying3 t4
  refine ⟨⟨p, u1, u2, u3, u4⟩, ?_⟩
  have q18 : (cs.drop 18).take 1 ++ cs.drop 19 = cs.drop 18 := by rw [show cs.drop 19 = (cs.drop 18).drop 1 by rw [List.drop_drop], List.take_append_drop]
  have q19 : (cs.drop 19).take 1 ++ cs.drop 20 = cs.drop 19 := by rw [show cs.drop 20 = (cs.drop 19).drop 1 by rw [List.drop_drop], List.take_append_drop]
  have q20 : (cs.drop 20).take 1 ++ cs.drop 21 = cs.drop 20 := by rw [show cs.drop 21 = (cs.drop 20).drop 1 by rw [List.drop_drop], List.take_append_drop]
  have ql : (cs.drop 21).take 1 = cs.drop 21 := List.take_of_length_le (by simp; omega)
  have hs : cs = cs.take 18 ++ ((cs.drop 18).take 1 ++ ((cs.drop 19).take 1 ++ ((cs.drop 20).take 1 ++ ((cs.drop 21).take 1)))) := by rw [ql, q20, q19, q18, List.take_append_drop]
  rw [List.drop_zero] at hp
  rw [hs, hp, e1, e2, e3, e4]
  simp [Up.cs]
theorem uprows_of {H : Type} {enc : TypeId × Value → H} {W : World} {sp : Nat → Bool} {held : Bool} {fuel : Nat} {cs : List Value} {y : DataW H × List MemPlace} (h : DataW.trod enc Tryd.prog W 0 sp held fuel 25 cs = some y) : ∃ a n c L, cs = [.slice a n c] ∧ List.length L = n ∧ UpAt W a L ∧ n ≤ c ∧ c ≤ maxLen ∧ (a = none → c = 0) := by
  rcases Go.Deep.open_slice Tryd.underlying25 h with ⟨hcs, _⟩ | ⟨x, len', cap', q, nn, Dt, Pl, hcs, _, hl, hm, hq, _, hi⟩
  · exact ⟨none, 0, 0, [], hcs, rfl, .inl rfl, Nat.le_refl _, Nat.zero_le _, fun _ => rfl⟩
  · have hex : ∀ i, i < len' → ∃ y : Up, ∀ j, j < 22 → W.cell? (x.add (i * 22 + j)) = (y.cs)[j]? := by
      intro i hil
      obtain ⟨cs', hc', ht'⟩ := hi i (by rw [hq]; split <;> omega)
      rw [c_up] at hc'
      obtain ⟨_, hlen, hat⟩ := World.cells?_some hc'
      obtain ⟨y, rfl⟩ := up_cells ht'
      refine ⟨y, fun j hj => ?_⟩
      have h9 := hat j hj
      rw [Go.Deep.add_add] at h9
      rw [h9]
      simp
    obtain ⟨f, hf2⟩ : ∃ f : Nat → Up, ∀ i, i < len' → ∀ j, j < 22 → W.cell? (x.add (i * 22 + j)) = ((f i).cs)[j]? :=
      ⟨fun i => if h : i < len' then (hex i h).choose else Up.zero, fun i hil => by simp only [dif_pos hil]; exact (hex i hil).choose_spec⟩
    refine ⟨some x, len', cap', (List.range len').map f, hcs, by simp, ?_, hl, hm, fun h => by cases h⟩
    by_cases h0 : len' = 0
    · left; rw [h0]; rfl
    · right
      have h1 := hf2 0 (by omega) 0 (by omega)
      have h2 : ((f 0).cs)[0]? = some (.int .i64 (f 0).p.a.v) := by rw [Up.cp _ _ (by omega), Px.ca _ _ (by omega), Ad.c0]
      rw [h2] at h1
      obtain ⟨b, o, s⟩ := x
      obtain rfl : s = none := by simpa [Addr.add] using World.cell?_spot h1
      refine ⟨b, o, rfl, ?_, fun i hi j hj => ?_⟩
      · have := cell_lt h1
        simpa [Addr.add_lit] using this
      · have hil : i < len' := by simpa using hi
        have h3 := hf2 i hil j hj
        rw [Addr.add_lit] at h3
        rw [Nat.add_assoc, h3]
        congr 2
        simp [upg, hil]
theorem bat_of {H : Type} {enc : TypeId × Value → H} {W : World} {sp : Nat → Bool} {base : Nat} {held : Bool} {v : Value} {d : DataW H} {p : List MemPlace} (hv : Value.okWide Tryd.prog W .any base 27 v) (h : DataW.Trod enc Tryd.prog W 0 sp held 27 v d p) : ∃ a n c L, v = .agg #[.slice a n c] ∧ List.length L = n ∧ UpAt W a L ∧ n ≤ c ∧ c ≤ maxLen ∧ (a = none → c = 0) := by
  obtain ⟨cs, rfl, hsz⟩ := okWide_struct Tryd.underlying27 hv
  obtain ⟨fuel, hf⟩ := h
  obtain ⟨xs, m, _, _, hlen, hxs, hg⟩ := DataW.trod_struct Tryd.underlying27 (show DataW.trod enc Tryd.prog W 0 sp held fuel 27 cs.toList = some _ from hf)
  rw [c_bxup] at hlen
  obtain ⟨y0, rfl⟩ : ∃ y0, xs = [y0] := by
    match xs, hxs with
    | [a], _ => exact ⟨a, rfl⟩
  have t0 : DataW.trod enc Tryd.prog W 0 sp held m 25 (List.take (Tryd.prog.cellsOf 25) (List.drop 0 cs.toList)) = some y0 := hg 0 _ rfl
  rw [c_slup, List.drop_zero, List.take_of_length_le (by omega)] at t0
  obtain ⟨a, n, c, L, h1, h2, h3⟩ := uprows_of t0
  exact ⟨a, n, c, L, congrArg Value.agg (Array.toList_inj.1 (by rw [h1])), h2, h3⟩
end Go.Proofs.YtclkfmblogkakaaDoor
