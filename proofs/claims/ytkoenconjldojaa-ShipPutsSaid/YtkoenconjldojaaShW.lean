/-
  Views, messages, and what is asked of a match, that are data. Nothing here is a statement of the document.
-/
import Derived.Test.YtkoenconjldojaaShK
import Derived.WalkKit
import Derived.ProofKit
import Derived.OpenShut
import Derived.DataShut
import Derived.Deep.Slices
namespace Go.Proofs.Ytkoenconjldojaa
open Go.RowKit Go.Shelf Go.ChangeShapes Go.WideShapes Go.ChangeAt
set_option linter.unusedVariables false
set_option linter.unusedSimpArgs false
set_option maxRecDepth 100000
theorem c_int : Try.prog.cellsOf 3 = 1 := by kernel_rfl
theorem c_u8 : Try.prog.cellsOf 5 = 1 := by kernel_rfl
theorem c_b16 : Try.prog.cellsOf 55 = 16 := by kernel_rfl
theorem c_ad : Try.prog.cellsOf 57 = 17 := by kernel_rfl
theorem c_px : Try.prog.cellsOf 59 = 18 := by kernel_rfl
def natOf : Option Value → Nat
  | some (.int _ n) => n.toNat
  | _ => 0
theorem b16_cells {H : Type} {enc : TypeId × Value → H} {W : World} {sp : Nat → Bool} {held : Bool} {fuel : Nat} {cs : List Value} {y : DataW H × List MemPlace} (h : DataW.trod enc Try.prog W 0 sp held fuel 55 cs = some y) : ∃ b : B16, cs = b.cs.toList := by
  obtain ⟨xs, m, _, _, hlen, hxs, hg⟩ := DataW.trod_array Try.underlying55 h
  rw [c_b16] at hlen
  have hone : ∀ i, i < 16 → ∃ n : Nat, n < 256 ∧ cs[i]? = some (byc n) := by
    intro i hi
    have h1 := hg i hi
    rw [c_u8, Nat.mul_one] at h1
    have hx : xs[i]? = some xs[i] := List.getElem?_eq_getElem (by omega)
    rw [hx] at h1
    obtain ⟨u, e, _, f⟩ := DataW.trod_int Try.underlying5 h1
    have hb := bounds_u8 f
    refine ⟨u.toNat, by omega, ?_⟩
    have hc : cs[i]? = some cs[i] := List.getElem?_eq_getElem (by omega)
    have e2 : (cs.drop i).take 1 = [cs[i]] := by
      rw [List.take_one, List.head?_drop, hc]
      rfl
    rw [e2] at e
    injection e with e3
    rw [hc, e3]
    unfold byc
    congr 2
    omega
  refine ⟨⟨(List.range 16).map fun i => natOf cs[i]?, by simp, fun n hn => ?_⟩, ?_⟩
  · obtain ⟨i, hi, rfl⟩ := List.mem_map.1 hn
    obtain ⟨k, hk, e⟩ := hone i (List.mem_range.1 hi)
    rw [e]
    simpa [natOf, byc] using hk
  · apply List.ext_getElem?
    intro i
    by_cases hi : i < 16
    · obtain ⟨k, hk, e⟩ := hone i hi
      rw [e]
      simp [B16.cs, hi, e, natOf, byc]
    · rw [List.getElem?_eq_none (by omega), List.getElem?_eq_none (by simp [B16.cs]; omega)]
theorem ad_cells {H : Type} {enc : TypeId × Value → H} {W : World} {sp : Nat → Bool} {held : Bool} {fuel : Nat} {cs : List Value} {y : DataW H × List MemPlace} (h : DataW.trod enc Try.prog W 0 sp held fuel 57 cs = some y) : ∃ a : Ad, cs = a.cs.toList ∧ (Lit.int .i64 a.v).wf = true := by
  obtain ⟨xs, m, _, _, hlen, hxs, hg⟩ := DataW.trod_struct Try.underlying57 h
  rw [c_ad] at hlen
  obtain ⟨y0, y1, rfl⟩ : ∃ y0 y1, xs = [y0, y1] := by
    match xs, hxs with
    | [a, b], _ => exact ⟨a, b, rfl⟩
  have t0 : DataW.trod enc Try.prog W 0 sp held m 3 (List.take (Try.prog.cellsOf 3) (List.drop 0 cs)) = some y0 := hg 0 _ rfl
  rw [c_int] at t0
  have t1 : DataW.trod enc Try.prog W 0 sp held m 55 (List.take (Try.prog.cellsOf 55) (List.drop 1 cs)) = some y1 := hg 1 _ rfl
  rw [c_b16] at t1
  obtain ⟨u0, e0, _, f0⟩ := DataW.trod_int Try.underlying3 t0
  obtain ⟨b, hb⟩ := b16_cells t1
  refine ⟨⟨u0, b⟩, ?_, f0⟩
  rw [show (Ad.mk u0 b).cs.toList = [Value.int .i64 u0] ++ b.cs.toList from by simp [Ad.cs], ← hb, ← e0, List.drop_zero, List.take_of_length_le (l := cs.drop 1) (by simp; omega)]
  exact (List.take_append_drop 1 cs).symm
theorem px_cells {H : Type} {enc : TypeId × Value → H} {W : World} {sp : Nat → Bool} {held : Bool} {fuel : Nat} {cs : List Value} {y : DataW H × List MemPlace} (h : DataW.trod enc Try.prog W 0 sp held fuel 59 cs = some y) : ∃ p : Px, cs = p.cs.toList ∧ (Lit.int .i64 p.n).wf = true ∧ (Lit.int .i64 p.a.v).wf = true := by
  obtain ⟨xs, m, _, _, hlen, hxs, hg⟩ := DataW.trod_struct Try.underlying59 h
  rw [c_px] at hlen
  obtain ⟨y0, y1, rfl⟩ : ∃ y0 y1, xs = [y0, y1] := by
    match xs, hxs with
    | [a, b], _ => exact ⟨a, b, rfl⟩
  have t0 : DataW.trod enc Try.prog W 0 sp held m 57 (List.take (Try.prog.cellsOf 57) (List.drop 0 cs)) = some y0 := hg 0 _ rfl
  rw [c_ad] at t0
  have t1 : DataW.trod enc Try.prog W 0 sp held m 3 (List.take (Try.prog.cellsOf 3) (List.drop 17 cs)) = some y1 := hg 1 _ rfl
  rw [c_int] at t1
  obtain ⟨u0, e0, _, f0⟩ := DataW.trod_int Try.underlying3 t1
  obtain ⟨a, ha, fa⟩ := ad_cells t0
  refine ⟨⟨a, u0⟩, ?_, f0, fa⟩
  rw [show (Px.mk a u0).cs.toList = a.cs.toList ++ [Value.int .i64 u0] from by simp [Px.cs], ← ha, ← e0, List.drop_zero, List.take_of_length_le (l := cs.drop 17) (by simp; omega)]
  exact (List.take_append_drop 17 cs).symm
theorem c_bool : Try.prog.cellsOf 4 = 1 := by kernel_rfl
theorem c_ro : Try.prog.cellsOf 61 = 21 := by kernel_rfl
theorem c_slro : Try.prog.cellsOf 25 = 1 := by kernel_rfl
theorem ro_cells {H : Type} {enc : TypeId × Value → H} {W : World} {sp : Nat → Bool} {held : Bool} {fuel : Nat} {cs : List Value} {y : DataW H × List MemPlace} (h : DataW.trod enc Try.prog W 0 sp held fuel 61 cs = some y) : ∃ r : Ro, cs = r.cs.toList := by
  obtain ⟨xs, m, _, _, hlen, hxs, hg⟩ := DataW.trod_struct Try.underlying61 h
  rw [c_ro] at hlen
  obtain ⟨y0, y1, y2, y3, rfl⟩ : ∃ y0 y1 y2 y3, xs = [y0, y1, y2, y3] := by
    match xs, hxs with
    | [y0, y1, y2, y3], _ => exact ⟨y0, y1, y2, y3, rfl⟩
  have t0 : DataW.trod enc Try.prog W 0 sp held m 59 (List.take (Try.prog.cellsOf 59) (List.drop 0 cs)) = some y0 := hg 0 _ rfl
  rw [c_px] at t0
  have t1 : DataW.trod enc Try.prog W 0 sp held m 3 (List.take (Try.prog.cellsOf 3) (List.drop 18 cs)) = some y1 := hg 1 _ rfl
  rw [c_int] at t1
  have t2 : DataW.trod enc Try.prog W 0 sp held m 3 (List.take (Try.prog.cellsOf 3) (List.drop 19 cs)) = some y2 := hg 2 _ rfl
  rw [c_int] at t2
  have t3 : DataW.trod enc Try.prog W 0 sp held m 3 (List.take (Try.prog.cellsOf 3) (List.drop 20 cs)) = some y3 := hg 3 _ rfl
  rw [c_int] at t3
  obtain ⟨p, hp, _, _⟩ := px_cells t0
  obtain ⟨u1, e1, _, f1⟩ := DataW.trod_int Try.underlying3 t1
  obtain ⟨u2, e2, _, f2⟩ := DataW.trod_int Try.underlying3 t2
  obtain ⟨u3, e3, _, f3⟩ := DataW.trod_int Try.underlying3 t3
  refine ⟨⟨p, u1, u2, u3⟩, ?_⟩
  have q18 : (cs.drop 18).take 1 ++ cs.drop 19 = cs.drop 18 := by rw [show cs.drop 19 = (cs.drop 18).drop 1 by rw [List.drop_drop], List.take_append_drop]
  have q19 : (cs.drop 19).take 1 ++ cs.drop 20 = cs.drop 19 := by rw [show cs.drop 20 = (cs.drop 19).drop 1 by rw [List.drop_drop], List.take_append_drop]
  have ql : (cs.drop 20).take 1 = cs.drop 20 := List.take_of_length_le (by simp; omega)
  have hs : cs = cs.take 18 ++ ((cs.drop 18).take 1 ++ ((cs.drop 19).take 1 ++ ((cs.drop 20).take 1))) := by rw [ql, q19, q18, List.take_append_drop]
  rw [List.drop_zero] at hp
  rw [hs, hp, e1, e2, e3]
  simp [Ro.cs]
theorem rorows_of {H : Type} {enc : TypeId × Value → H} {W : World} {sp : Nat → Bool} {held : Bool} {fuel : Nat} {cs : List Value} {y : DataW H × List MemPlace} (h : DataW.trod enc Try.prog W 0 sp held fuel 25 cs = some y) : ∃ a n c L, cs = [.slice a n c] ∧ List.length L = n ∧ RoAt W a L ∧ n ≤ c ∧ c ≤ maxLen ∧ (a = none → c = 0) := by
  rcases Go.Deep.open_slice Try.underlying25 h with ⟨hcs, _⟩ | ⟨x, len', cap', q, nn, Dt, Pl, hcs, _, hl, hm, hq, _, hi⟩
  · exact ⟨none, 0, 0, [], hcs, rfl, .inl rfl, Nat.le_refl _, Nat.zero_le _, fun _ => rfl⟩
  · have hex : ∀ i, i < len' → ∃ y : Ro, ∀ j, j < 21 → W.cell? (x.add (i * 21 + j)) = (y.cs)[j]? := by
      intro i hil
      obtain ⟨cs', hc', ht'⟩ := hi i (by rw [hq]; split <;> omega)
      rw [c_ro] at hc'
      obtain ⟨_, hlen, hat⟩ := World.cells?_some hc'
      obtain ⟨y, rfl⟩ := ro_cells ht'
      refine ⟨y, fun j hj => ?_⟩
      have h9 := hat j hj
      rw [Go.Deep.add_add] at h9
      rw [h9]
      simp
    obtain ⟨f, hf2⟩ : ∃ f : Nat → Ro, ∀ i, i < len' → ∀ j, j < 21 → W.cell? (x.add (i * 21 + j)) = ((f i).cs)[j]? :=
      ⟨fun i => if h : i < len' then (hex i h).choose else Ro.zero, fun i hil => by simp only [dif_pos hil]; exact (hex i hil).choose_spec⟩
    refine ⟨some x, len', cap', (List.range len').map f, hcs, by simp, ?_, hl, hm, fun h => by cases h⟩
    by_cases h0 : len' = 0
    · left; rw [h0]; rfl
    · right
      have h1 := hf2 0 (by omega) 0 (by omega)
      have h2 : ((f 0).cs)[0]? = some (.int .i64 (f 0).p.a.v) := by rw [Ro.cp _ _ (by omega), Px.ca _ _ (by omega), Ad.c0]
      rw [h2] at h1
      obtain ⟨b, o, s⟩ := x
      obtain rfl : s = none := by simpa [Addr.add] using World.cell?_spot h1
      refine ⟨b, o, rfl, ?_, fun i hi j hj => ?_⟩
      · have := cell_lt h1
        simpa [Addr.add_lit] using this
      · have hil : i < len' := by simpa using hi
        have h3 := hf2 i hil j hj
        rw [Addr.add_lit] at h3
        rw [Nat.add_assoc, h3]
        congr 2
        simp [rog, hil]
theorem c_up : Try.prog.cellsOf 106 = 22 := by kernel_rfl
theorem c_slup : Try.prog.cellsOf 43 = 1 := by kernel_rfl
theorem up_cells {H : Type} {enc : TypeId × Value → H} {W : World} {sp : Nat → Bool} {held : Bool} {fuel : Nat} {cs : List Value} {y : DataW H × List MemPlace} (h : DataW.trod enc Try.prog W 0 sp held fuel 106 cs = some y) : ∃ r : Up, cs = r.cs.toList := by
  obtain ⟨xs, m, _, _, hlen, hxs, hg⟩ := DataW.trod_struct Try.underlying106 h
  rw [c_up] at hlen
  obtain ⟨y0, y1, y2, y3, y4, rfl⟩ : ∃ y0 y1 y2 y3 y4, xs = [y0, y1, y2, y3, y4] := by
    match xs, hxs with
    | [y0, y1, y2, y3, y4], _ => exact ⟨y0, y1, y2, y3, y4, rfl⟩
  have t0 : DataW.trod enc Try.prog W 0 sp held m 59 (List.take (Try.prog.cellsOf 59) (List.drop 0 cs)) = some y0 := hg 0 _ rfl
  rw [c_px] at t0
  have t1 : DataW.trod enc Try.prog W 0 sp held m 3 (List.take (Try.prog.cellsOf 3) (List.drop 18 cs)) = some y1 := hg 1 _ rfl
  rw [c_int] at t1
  have t2 : DataW.trod enc Try.prog W 0 sp held m 4 (List.take (Try.prog.cellsOf 4) (List.drop 19 cs)) = some y2 := hg 2 _ rfl
  rw [c_bool] at t2
  have t3 : DataW.trod enc Try.prog W 0 sp held m 3 (List.take (Try.prog.cellsOf 3) (List.drop 20 cs)) = some y3 := hg 3 _ rfl
  rw [c_int] at t3
  have t4 : DataW.trod enc Try.prog W 0 sp held m 3 (List.take (Try.prog.cellsOf 3) (List.drop 21 cs)) = some y4 := hg 4 _ rfl
  rw [c_int] at t4
  obtain ⟨p, hp, _, _⟩ := px_cells t0
  obtain ⟨u1, e1, _, f1⟩ := DataW.trod_int Try.underlying3 t1
  obtain ⟨u2, e2, _⟩ := DataW.trod_bool Try.underlying4 t2
  obtain ⟨u3, e3, _, f3⟩ := DataW.trod_int Try.underlying3 t3
  obtain ⟨u4, e4, _, f4⟩ := DataW.trod_int Try.underlying3 t4
  refine ⟨⟨p, u1, u2, u3, u4⟩, ?_⟩
  have q18 : (cs.drop 18).take 1 ++ cs.drop 19 = cs.drop 18 := by rw [show cs.drop 19 = (cs.drop 18).drop 1 by rw [List.drop_drop], List.take_append_drop]
  have q19 : (cs.drop 19).take 1 ++ cs.drop 20 = cs.drop 19 := by rw [show cs.drop 20 = (cs.drop 19).drop 1 by rw [List.drop_drop], List.take_append_drop]
  have q20 : (cs.drop 20).take 1 ++ cs.drop 21 = cs.drop 20 := by rw [show cs.drop 21 = (cs.drop 20).drop 1 by rw [List.drop_drop], List.take_append_drop]
  have ql : (cs.drop 21).take 1 = cs.drop 21 := List.take_of_length_le (by simp; omega)
  have hs : cs = cs.take 18 ++ ((cs.drop 18).take 1 ++ ((cs.drop 19).take 1 ++ ((cs.drop 20).take 1 ++ ((cs.drop 21).take 1)))) := by rw [ql, q20, q19, q18, List.take_append_drop]
  rw [List.drop_zero] at hp
  rw [hs, hp, e1, e2, e3, e4]
  simp [Up.cs]
theorem uprows_of {H : Type} {enc : TypeId × Value → H} {W : World} {sp : Nat → Bool} {held : Bool} {fuel : Nat} {cs : List Value} {y : DataW H × List MemPlace} (h : DataW.trod enc Try.prog W 0 sp held fuel 43 cs = some y) : ∃ a n c L, cs = [.slice a n c] ∧ List.length L = n ∧ UpAt W a L ∧ n ≤ c ∧ c ≤ maxLen ∧ (a = none → c = 0) := by
  rcases Go.Deep.open_slice Try.underlying43 h with ⟨hcs, _⟩ | ⟨x, len', cap', q, nn, Dt, Pl, hcs, _, hl, hm, hq, _, hi⟩
  · exact ⟨none, 0, 0, [], hcs, rfl, .inl rfl, Nat.le_refl _, Nat.zero_le _, fun _ => rfl⟩
  · have hex : ∀ i, i < len' → ∃ y : Up, ∀ j, j < 22 → W.cell? (x.add (i * 22 + j)) = (y.cs)[j]? := by
      intro i hil
      obtain ⟨cs', hc', ht'⟩ := hi i (by rw [hq]; split <;> omega)
      rw [c_up] at hc'
      obtain ⟨_, hlen, hat⟩ := World.cells?_some hc'
      obtain ⟨y, rfl⟩ := up_cells ht'
      refine ⟨y, fun j hj => ?_⟩
      have h9 := hat j hj
      rw [Go.Deep.add_add] at h9
      rw [h9]
      simp
    obtain ⟨f, hf2⟩ : ∃ f : Nat → Up, ∀ i, i < len' → ∀ j, j < 22 → W.cell? (x.add (i * 22 + j)) = ((f i).cs)[j]? :=
      ⟨fun i => if h : i < len' then (hex i h).choose else Up.zero, fun i hil => by simp only [dif_pos hil]; exact (hex i hil).choose_spec⟩
    refine ⟨some x, len', cap', (List.range len').map f, hcs, by simp, ?_, hl, hm, fun h => by cases h⟩
    by_cases h0 : len' = 0
    · left; rw [h0]; rfl
    · right
      have h1 := hf2 0 (by omega) 0 (by omega)
      have h2 : ((f 0).cs)[0]? = some (.int .i64 (f 0).p.a.v) := by rw [Up.cp _ _ (by omega), Px.ca _ _ (by omega), Ad.c0]
      rw [h2] at h1
      obtain ⟨b, o, s⟩ := x
      obtain rfl : s = none := by simpa [Addr.add] using World.cell?_spot h1
      refine ⟨b, o, rfl, ?_, fun i hi j hj => ?_⟩
      · have := cell_lt h1
        simpa [Addr.add_lit] using this
      · have hil : i < len' := by simpa using hi
        have h3 := hf2 i hil j hj
        rw [Addr.add_lit] at h3
        rw [Nat.add_assoc, h3]
        congr 2
        simp [upg, hil]
theorem c_u64 : Try.prog.cellsOf 22 = 1 := by kernel_rfl
theorem c_u32 : Try.prog.cellsOf 28 = 1 := by kernel_rfl
theorem c_at : Try.prog.cellsOf 24 = 2 := by kernel_rfl
theorem c_la1 : Try.prog.cellsOf 30 = 2 := by kernel_rfl
theorem c_la : Try.prog.cellsOf 31 = 6 := by kernel_rfl
theorem c_rb : Try.prog.cellsOf 27 = 1 := by kernel_rfl
theorem c_hd : Try.prog.cellsOf 45 = 1 := by kernel_rfl
theorem c_en : Try.prog.cellsOf 92 = 4 := by kernel_rfl
theorem c_slen : Try.prog.cellsOf 34 = 1 := by kernel_rfl
theorem c_bs : Try.prog.cellsOf 33 = 9 := by kernel_rfl
theorem c_er : Try.prog.cellsOf 41 = 1 := by kernel_rfl
theorem c_ms : Try.prog.cellsOf 47 = 23 := by kernel_rfl
theorem c_vw : Try.prog.cellsOf 36 = 11 := by kernel_rfl
theorem c_asked : Try.prog.cellsOf 79 = 25 := by kernel_rfl
theorem u64_of {a : Int} (h : (Lit.int .u64 a).wf = true) : ∃ s : Nat, a = (s : Int) ∧ s < 18446744073709551616 := by
  have h0 := bounds_u64 h
  exact ⟨a.toNat, by omega, by omega⟩
theorem tk {cs l : List Value} {k n j : Nat} (h : (cs.drop k).take n = l) (hj : j < n) : cs[k + j]? = l[j]? := by
  rw [← h, List.getElem?_take_of_lt hj, List.getElem?_drop]
theorem at_cells {H : Type} {enc : TypeId × Value → H} {W : World} {sp : Nat → Bool} {held : Bool} {fuel : Nat} {cs : List Value} {y : DataW H × List MemPlace} (h : DataW.trod enc Try.prog W 0 sp held fuel 24 cs = some y) : ∃ (i : Nat) (e : Int), cs = (acs i e).toList ∧ i < 18446744073709551616 := by
  obtain ⟨xs, m, _, _, hlen, hxs, hg⟩ := DataW.trod_struct Try.underlying24 h
  rw [c_at] at hlen
  obtain ⟨y0, y1, rfl⟩ : ∃ y0 y1, xs = [y0, y1] := by
    match xs, hxs with
    | [y0, y1], _ => exact ⟨y0, y1, rfl⟩
  have t0 : DataW.trod enc Try.prog W 0 sp held m 22 (List.take (Try.prog.cellsOf 22) (List.drop 0 cs)) = some y0 := hg 0 _ rfl
  rw [c_u64] at t0
  have t1 : DataW.trod enc Try.prog W 0 sp held m 22 (List.take (Try.prog.cellsOf 22) (List.drop 1 cs)) = some y1 := hg 1 _ rfl
  rw [c_u64] at t1
  obtain ⟨u0, e0, _, f0⟩ := DataW.trod_int Try.underlying22 t0
  obtain ⟨u1, e1, _, _f1⟩ := DataW.trod_int Try.underlying22 t1
  obtain ⟨i, rfl, hi⟩ := u64_of f0
  have key : ∀ kk : Nat, kk < 2 → cs[kk]? = (acs i u1 : Array Value)[kk]? := fun kk hi => by
    match kk, hi with
    | 0, _ => exact (tk e0 (show 0 < 1 by decide)).trans rfl
    | 1, _ => exact (tk e1 (show 0 < 1 by decide)).trans rfl
    | k + 2, h9 => exact absurd h9 (by omega)
  have hcs : cs = (acs i u1 : Array Value).toList := by
    apply List.ext_getElem?
    intro kk
    by_cases hi : kk < 2
    · rw [key kk hi, Array.getElem?_toList]
    · rw [List.getElem?_eq_none (by omega), List.getElem?_eq_none (by show 2 ≤ kk; omega)]
  exact ⟨i, u1, hcs, hi⟩
theorem last_cells {H : Type} {enc : TypeId × Value → H} {W : World} {sp : Nat → Bool} {held : Bool} {fuel : Nat} {cs : List Value} {y : DataW H × List MemPlace} (h : DataW.trod enc Try.prog W 0 sp held fuel 30 cs = some y) : ∃ (s i : Int), cs = [.int .u32 s, .int .u64 i] := by
  obtain ⟨xs, m, _, _, hlen, hxs, hg⟩ := DataW.trod_struct Try.underlying30 h
  rw [c_la1] at hlen
  obtain ⟨y0, y1, rfl⟩ : ∃ y0 y1, xs = [y0, y1] := by
    match xs, hxs with
    | [y0, y1], _ => exact ⟨y0, y1, rfl⟩
  have t0 : DataW.trod enc Try.prog W 0 sp held m 28 (List.take (Try.prog.cellsOf 28) (List.drop 0 cs)) = some y0 := hg 0 _ rfl
  rw [c_u32] at t0
  have t1 : DataW.trod enc Try.prog W 0 sp held m 22 (List.take (Try.prog.cellsOf 22) (List.drop 1 cs)) = some y1 := hg 1 _ rfl
  rw [c_u64] at t1
  obtain ⟨u0, e0, _, _f0⟩ := DataW.trod_int Try.underlying28 t0
  obtain ⟨u1, e1, _, _f1⟩ := DataW.trod_int Try.underlying22 t1
  have key : ∀ kk : Nat, kk < 2 → cs[kk]? = (#[.int .u32 u0, .int .u64 u1] : Array Value)[kk]? := fun kk hi => by
    match kk, hi with
    | 0, _ => exact (tk e0 (show 0 < 1 by decide)).trans rfl
    | 1, _ => exact (tk e1 (show 0 < 1 by decide)).trans rfl
    | k + 2, h9 => exact absurd h9 (by omega)
  have hcs : cs = (#[.int .u32 u0, .int .u64 u1] : Array Value).toList := by
    apply List.ext_getElem?
    intro kk
    by_cases hi : kk < 2
    · rw [key kk hi, Array.getElem?_toList]
    · rw [List.getElem?_eq_none (by omega), List.getElem?_eq_none (by show 2 ≤ kk; omega)]
  exact ⟨u0, u1, hcs⟩
theorem la_cells {H : Type} {enc : TypeId × Value → H} {W : World} {sp : Nat → Bool} {held : Bool} {fuel : Nat} {cs : List Value} {y : DataW H × List MemPlace} (h : DataW.trod enc Try.prog W 0 sp held fuel 31 cs = some y) : ∃ l : La, cs = l.cs.toList := by
  obtain ⟨xs, m, _, _, hlen, hxs, hg⟩ := DataW.trod_array Try.underlying31 h
  rw [c_la] at hlen
  have hone : ∀ i, i < 3 → ∃ (s k : Int), (cs.drop (i * 2)).take 2 = [.int .u32 s, .int .u64 k] := by
    intro i hi
    have h1 := hg i hi
    rw [c_la1] at h1
    have hx : xs[i]? = some xs[i] := List.getElem?_eq_getElem (by omega)
    rw [hx] at h1
    exact last_cells h1
  obtain ⟨s0, i0, e0⟩ := hone 0 (by decide)
  obtain ⟨s1, i1, e1⟩ := hone 1 (by decide)
  obtain ⟨s2, i2, e2⟩ := hone 2 (by decide)
  have key : ∀ kk : Nat, kk < 6 → cs[kk]? = ((La.mk s0 i0 s1 i1 s2 i2).cs : Array Value)[kk]? := fun kk hi => by
    match kk, hi with
    | 0, _ => exact (tk (k := 0) e0 (show 0 < 2 by decide)).trans rfl
    | 1, _ => exact (tk (k := 0) e0 (show 1 < 2 by decide)).trans rfl
    | 2, _ => exact (tk (k := 2) e1 (show 0 < 2 by decide)).trans rfl
    | 3, _ => exact (tk (k := 2) e1 (show 1 < 2 by decide)).trans rfl
    | 4, _ => exact (tk (k := 4) e2 (show 0 < 2 by decide)).trans rfl
    | 5, _ => exact (tk (k := 4) e2 (show 1 < 2 by decide)).trans rfl
    | k + 6, h9 => exact absurd h9 (by omega)
  have hcs : cs = ((La.mk s0 i0 s1 i1 s2 i2).cs : Array Value).toList := by
    apply List.ext_getElem?
    intro kk
    by_cases hi : kk < 6
    · rw [key kk hi, Array.getElem?_toList]
    · rw [List.getElem?_eq_none (by omega), List.getElem?_eq_none (by show 6 ≤ kk; omega)]
  exact ⟨_, hcs⟩
theorem rib_cells {H : Type} {enc : TypeId × Value → H} {W : World} {sp : Nat → Bool} {held : Bool} {fuel : Nat} {cs : List Value} {y : DataW H × List MemPlace} (h : DataW.trod enc Try.prog W 0 sp held fuel 27 cs = some y) : ∃ a n c L, cs = [.slice a n c] ∧ RoIn W 0 a n c L := by
  obtain ⟨xs, m, _, _, hlen, hxs, hg⟩ := DataW.trod_struct Try.underlying27 h
  rw [c_rb] at hlen
  obtain ⟨y0, rfl⟩ : ∃ y0, xs = [y0] := by
    match xs, hxs with
    | [y0], _ => exact ⟨y0, rfl⟩
  have t0 : DataW.trod enc Try.prog W 0 sp held m 25 (List.take (Try.prog.cellsOf 25) (List.drop 0 cs)) = some y0 := hg 0 _ rfl
  rw [c_slro] at t0
  rw [List.drop_zero, List.take_of_length_le (by omega)] at t0
  obtain ⟨a, n, c, L, h1, h2, h3, h4, h5, h6⟩ := rorows_of t0
  exact ⟨a, n, c, L, h1, h2, h3, h4, h5, h6, fun _ _ _ => Nat.zero_le _⟩
theorem bat_cells {H : Type} {enc : TypeId × Value → H} {W : World} {sp : Nat → Bool} {held : Bool} {fuel : Nat} {cs : List Value} {y : DataW H × List MemPlace} (h : DataW.trod enc Try.prog W 0 sp held fuel 45 cs = some y) : ∃ a n c L, cs = [.slice a n c] ∧ UpIn W 0 a n c L := by
  obtain ⟨xs, m, _, _, hlen, hxs, hg⟩ := DataW.trod_struct Try.underlying45 h
  rw [c_hd] at hlen
  obtain ⟨y0, rfl⟩ : ∃ y0, xs = [y0] := by
    match xs, hxs with
    | [y0], _ => exact ⟨y0, rfl⟩
  have t0 : DataW.trod enc Try.prog W 0 sp held m 43 (List.take (Try.prog.cellsOf 43) (List.drop 0 cs)) = some y0 := hg 0 _ rfl
  rw [c_slup] at t0
  rw [List.drop_zero, List.take_of_length_le (by omega)] at t0
  obtain ⟨a, n, c, L, h1, h2, h3, h4, h5, h6⟩ := uprows_of t0
  exact ⟨a, n, c, L, h1, h2, h3, h4, h5, h6, fun _ _ _ => Nat.zero_le _⟩
theorem en_cells' {H : Type} {enc : TypeId × Value → H} {W : World} {sp : Nat → Bool} {held : Bool} {fuel : Nat} {cs : List Value} {y : DataW H × List MemPlace} (h : DataW.trod enc Try.prog W 0 sp held fuel 92 cs = some y) : ∃ x : En, cs = x.cs.toList ∧ UpIn W 0 x.a x.n x.c x.U := by
  obtain ⟨xs, m, _, _, hlen, hxs, hg⟩ := DataW.trod_struct Try.underlying92 h
  rw [c_en] at hlen
  obtain ⟨y0, y1, y2, y3, rfl⟩ : ∃ y0 y1 y2 y3, xs = [y0, y1, y2, y3] := by
    match xs, hxs with
    | [y0, y1, y2, y3], _ => exact ⟨y0, y1, y2, y3, rfl⟩
  have t0 : DataW.trod enc Try.prog W 0 sp held m 22 (List.take (Try.prog.cellsOf 22) (List.drop 0 cs)) = some y0 := hg 0 _ rfl
  rw [c_u64] at t0
  have t1 : DataW.trod enc Try.prog W 0 sp held m 3 (List.take (Try.prog.cellsOf 3) (List.drop 1 cs)) = some y1 := hg 1 _ rfl
  rw [c_int] at t1
  have t2 : DataW.trod enc Try.prog W 0 sp held m 28 (List.take (Try.prog.cellsOf 28) (List.drop 2 cs)) = some y2 := hg 2 _ rfl
  rw [c_u32] at t2
  have t3 : DataW.trod enc Try.prog W 0 sp held m 45 (List.take (Try.prog.cellsOf 45) (List.drop 3 cs)) = some y3 := hg 3 _ rfl
  rw [c_hd] at t3
  obtain ⟨u0, e0, _, _f0⟩ := DataW.trod_int Try.underlying22 t0
  obtain ⟨u1, e1, _, _f1⟩ := DataW.trod_int Try.underlying3 t1
  obtain ⟨u2, e2, _, _f2⟩ := DataW.trod_int Try.underlying28 t2
  obtain ⟨a, n, c, U, e3, hU⟩ := bat_cells t3
  have key : ∀ kk : Nat, kk < 4 → cs[kk]? = ((En.mk u0 u1 u2 a n c U).cs : Array Value)[kk]? := fun kk hi => by
    match kk, hi with
    | 0, _ => exact (tk e0 (show 0 < 1 by decide)).trans rfl
    | 1, _ => exact (tk e1 (show 0 < 1 by decide)).trans rfl
    | 2, _ => exact (tk e2 (show 0 < 1 by decide)).trans rfl
    | 3, _ => exact (tk e3 (show 0 < 1 by decide)).trans rfl
    | k + 4, h9 => exact absurd h9 (by omega)
  have hcs : cs = ((En.mk u0 u1 u2 a n c U).cs : Array Value).toList := by
    apply List.ext_getElem?
    intro kk
    by_cases hi : kk < 4
    · rw [key kk hi, Array.getElem?_toList]
    · rw [List.getElem?_eq_none (by omega), List.getElem?_eq_none (by show 4 ≤ kk; omega)]
  exact ⟨_, hcs, hU⟩
theorem enrows_of {H : Type} {enc : TypeId × Value → H} {W : World} {sp : Nat → Bool} {held : Bool} {fuel : Nat} {cs : List Value} {y : DataW H × List MemPlace} (h : DataW.trod enc Try.prog W 0 sp held fuel 34 cs = some y) : ∃ a n c L, cs = [.slice a n c] ∧ EnIn W 0 a n c L := by
  rcases Go.Deep.open_slice Try.underlying34 h with ⟨hcs, _⟩ | ⟨x, len', cap', q, nn, Dt, Pl, hcs, _, hl, hm, hq, _, hi⟩
  · exact ⟨none, 0, 0, [], hcs, rfl, .inl rfl, Nat.le_refl _, Nat.zero_le _, fun _ => rfl, fun h => absurd rfl h, fun x hx => by simp at hx⟩
  · have hex : ∀ i, i < len' → ∃ y : En, UpIn W 0 y.a y.n y.c y.U ∧ ∀ j, j < 4 → W.cell? (x.add (i * 4 + j)) = (y.cs)[j]? := by
      intro i hil
      obtain ⟨cs', hc', ht'⟩ := hi i (by rw [hq]; split <;> omega)
      rw [c_en] at hc'
      obtain ⟨_, hlen, hat⟩ := World.cells?_some hc'
      obtain ⟨y, rfl, hy⟩ := en_cells' ht'
      refine ⟨y, hy, fun j hj => ?_⟩
      have h9 := hat j hj
      rw [Go.Deep.add_add] at h9
      rw [h9]
      simp
    obtain ⟨f, hf2⟩ : ∃ f : Nat → En, ∀ i, i < len' → UpIn W 0 (f i).a (f i).n (f i).c (f i).U ∧ ∀ j, j < 4 → W.cell? (x.add (i * 4 + j)) = ((f i).cs)[j]? :=
      ⟨fun i => if h : i < len' then (hex i h).choose else En.zero, fun i hil => by simp only [dif_pos hil]; exact (hex i hil).choose_spec⟩
    refine ⟨some x, len', cap', (List.range len').map f, hcs, by simp, ?_, hl, hm, fun h => (by cases h), fun _ _ _ => Nat.zero_le _, fun z hz => ?_⟩
    · by_cases h0 : len' = 0
      · left; rw [h0]; rfl
      · right
        have h1 := (hf2 0 (by omega)).2 0 (by omega)
        rw [En.q0] at h1
        obtain ⟨b, o, s⟩ := x
        obtain rfl : s = none := by simpa [Addr.add] using World.cell?_spot h1
        refine ⟨b, o, rfl, ?_, fun i hi j hj => ?_⟩
        · have := cell_lt h1
          simpa [Addr.add_lit] using this
        · have hil : i < len' := by simpa using hi
          have h3 := (hf2 i hil).2 j hj
          rw [Addr.add_lit] at h3
          rw [Nat.add_assoc, h3]
          congr 2
          simp [eng, hil]
    · obtain ⟨k, hk, rfl⟩ := List.mem_map.1 hz
      exact (hf2 k (List.mem_range.1 hk)).1
theorem bs_cells' {H : Type} {enc : TypeId × Value → H} {W : World} {sp : Nat → Bool} {held : Bool} {fuel : Nat} {cs : List Value} {y : DataW H × List MemPlace} (h : DataW.trod enc Try.prog W 0 sp held fuel 33 cs = some y) : ∃ b : Bs, cs = b.cs.toList ∧ RoIn W 0 b.a b.n b.c b.R ∧ b.i < 18446744073709551616 := by
  obtain ⟨xs, m, _, _, hlen, hxs, hg⟩ := DataW.trod_struct Try.underlying33 h
  rw [c_bs] at hlen
  obtain ⟨y0, y1, y2, rfl⟩ : ∃ y0 y1 y2, xs = [y0, y1, y2] := by
    match xs, hxs with
    | [y0, y1, y2], _ => exact ⟨y0, y1, y2, rfl⟩
  have t0 : DataW.trod enc Try.prog W 0 sp held m 24 (List.take (Try.prog.cellsOf 24) (List.drop 0 cs)) = some y0 := hg 0 _ rfl
  rw [c_at] at t0
  have t1 : DataW.trod enc Try.prog W 0 sp held m 27 (List.take (Try.prog.cellsOf 27) (List.drop 2 cs)) = some y1 := hg 1 _ rfl
  rw [c_rb] at t1
  have t2 : DataW.trod enc Try.prog W 0 sp held m 31 (List.take (Try.prog.cellsOf 31) (List.drop 3 cs)) = some y2 := hg 2 _ rfl
  rw [c_la] at t2
  obtain ⟨i, e, e0, hi⟩ := at_cells t0
  obtain ⟨a, n, c, R, e1, hR⟩ := rib_cells t1
  obtain ⟨l, e2⟩ := la_cells t2
  have key : ∀ kk : Nat, kk < 9 → cs[kk]? = ((Bs.mk i e a n c l R).cs : Array Value)[kk]? := fun kk hi => by
    match kk, hi with
    | 0, _ => exact (tk e0 (show 0 < 2 by decide)).trans rfl
    | 1, _ => exact (tk e0 (show 1 < 2 by decide)).trans rfl
    | 2, _ => exact (tk e1 (show 0 < 1 by decide)).trans rfl
    | 3, _ => exact (tk e2 (show 0 < 6 by decide)).trans rfl
    | 4, _ => exact (tk e2 (show 1 < 6 by decide)).trans rfl
    | 5, _ => exact (tk e2 (show 2 < 6 by decide)).trans rfl
    | 6, _ => exact (tk e2 (show 3 < 6 by decide)).trans rfl
    | 7, _ => exact (tk e2 (show 4 < 6 by decide)).trans rfl
    | 8, _ => exact (tk e2 (show 5 < 6 by decide)).trans rfl
    | k + 9, h9 => exact absurd h9 (by omega)
  have hcs : cs = ((Bs.mk i e a n c l R).cs : Array Value).toList := by
    apply List.ext_getElem?
    intro kk
    by_cases hi : kk < 9
    · rw [key kk hi, Array.getElem?_toList]
    · rw [List.getElem?_eq_none (by omega), List.getElem?_eq_none (by show 9 ≤ kk; omega)]
  exact ⟨_, hcs, hR, hi⟩
theorem ms_cells' {H : Type} {enc : TypeId × Value → H} {W : World} {sp : Nat → Bool} {held : Bool} {fuel : Nat} {cs : List Value} {y : DataW H × List MemPlace} (h : DataW.trod enc Try.prog W 0 sp held fuel 47 cs = some y) : ∃ m : Ms, cs = m.cs.toList ∧ m.In W 0 := by
  obtain ⟨xs, m, _, _, hlen, hxs, hg⟩ := DataW.trod_struct Try.underlying47 h
  rw [c_ms] at hlen
  obtain ⟨y0, y1, y2, y3, y4, y5, y6, y7, y8, y9, y10, y11, y12, y13, rfl⟩ : ∃ y0 y1 y2 y3 y4 y5 y6 y7 y8 y9 y10 y11 y12 y13, xs = [y0, y1, y2, y3, y4, y5, y6, y7, y8, y9, y10, y11, y12, y13] := by
    match xs, hxs with
    | [y0, y1, y2, y3, y4, y5, y6, y7, y8, y9, y10, y11, y12, y13], _ => exact ⟨y0, y1, y2, y3, y4, y5, y6, y7, y8, y9, y10, y11, y12, y13, rfl⟩
  have t0 : DataW.trod enc Try.prog W 0 sp held m 3 (List.take (Try.prog.cellsOf 3) (List.drop 0 cs)) = some y0 := hg 0 _ rfl
  rw [c_int] at t0
  have t1 : DataW.trod enc Try.prog W 0 sp held m 3 (List.take (Try.prog.cellsOf 3) (List.drop 1 cs)) = some y1 := hg 1 _ rfl
  rw [c_int] at t1
  have t2 : DataW.trod enc Try.prog W 0 sp held m 3 (List.take (Try.prog.cellsOf 3) (List.drop 2 cs)) = some y2 := hg 2 _ rfl
  rw [c_int] at t2
  have t3 : DataW.trod enc Try.prog W 0 sp held m 22 (List.take (Try.prog.cellsOf 22) (List.drop 3 cs)) = some y3 := hg 3 _ rfl
  rw [c_u64] at t3
  have t4 : DataW.trod enc Try.prog W 0 sp held m 24 (List.take (Try.prog.cellsOf 24) (List.drop 4 cs)) = some y4 := hg 4 _ rfl
  rw [c_at] at t4
  have t5 : DataW.trod enc Try.prog W 0 sp held m 34 (List.take (Try.prog.cellsOf 34) (List.drop 6 cs)) = some y5 := hg 5 _ rfl
  rw [c_slen] at t5
  have t6 : DataW.trod enc Try.prog W 0 sp held m 22 (List.take (Try.prog.cellsOf 22) (List.drop 7 cs)) = some y6 := hg 6 _ rfl
  rw [c_u64] at t6
  have t7 : DataW.trod enc Try.prog W 0 sp held m 4 (List.take (Try.prog.cellsOf 4) (List.drop 8 cs)) = some y7 := hg 7 _ rfl
  rw [c_bool] at t7
  have t8 : DataW.trod enc Try.prog W 0 sp held m 22 (List.take (Try.prog.cellsOf 22) (List.drop 9 cs)) = some y8 := hg 8 _ rfl
  rw [c_u64] at t8
  have t9 : DataW.trod enc Try.prog W 0 sp held m 22 (List.take (Try.prog.cellsOf 22) (List.drop 10 cs)) = some y9 := hg 9 _ rfl
  rw [c_u64] at t9
  have t10 : DataW.trod enc Try.prog W 0 sp held m 33 (List.take (Try.prog.cellsOf 33) (List.drop 11 cs)) = some y10 := hg 10 _ rfl
  rw [c_bs] at t10
  have t11 : DataW.trod enc Try.prog W 0 sp held m 28 (List.take (Try.prog.cellsOf 28) (List.drop 20 cs)) = some y11 := hg 11 _ rfl
  rw [c_u32] at t11
  have t12 : DataW.trod enc Try.prog W 0 sp held m 45 (List.take (Try.prog.cellsOf 45) (List.drop 21 cs)) = some y12 := hg 12 _ rfl
  rw [c_hd] at t12
  have t13 : DataW.trod enc Try.prog W 0 sp held m 41 (List.take (Try.prog.cellsOf 41) (List.drop 22 cs)) = some y13 := hg 13 _ rfl
  rw [c_er] at t13
  obtain ⟨u0, e0, _, _⟩ := DataW.trod_int Try.underlying3 t0
  obtain ⟨u1, e1, _, _⟩ := DataW.trod_int Try.underlying3 t1
  obtain ⟨u2, e2, _, _⟩ := DataW.trod_int Try.underlying3 t2
  obtain ⟨u3, e3, _, _⟩ := DataW.trod_int Try.underlying22 t3
  obtain ⟨u6, e6, _, _⟩ := DataW.trod_int Try.underlying22 t6
  obtain ⟨u9, e9, _, _⟩ := DataW.trod_int Try.underlying22 t9
  obtain ⟨u11, e11, _, _⟩ := DataW.trod_int Try.underlying28 t11
  obtain ⟨u13, e13, _, _⟩ := DataW.trod_int Try.underlying41 t13
  obtain ⟨u8, e8, _, f8⟩ := DataW.trod_int Try.underlying22 t8
  obtain ⟨pi, pe, e4, _⟩ := at_cells t4
  obtain ⟨a, n, c, L, e5, hL⟩ := enrows_of t5
  obtain ⟨u7, e7, _⟩ := DataW.trod_bool Try.underlying4 t7
  obtain ⟨ix, rfl, _⟩ := u64_of f8
  obtain ⟨b, e10, hb, _⟩ := bs_cells' t10
  obtain ⟨ua, un, uc, UU, e12, _⟩ := bat_cells t12
  have key : ∀ kk : Nat, kk < 23 → cs[kk]? = ((Ms.mk u0 u1 u2 u3 pi pe a n c L u6 u7 ix u9 b u11 ua un uc u13).cs : Array Value)[kk]? := fun kk hi => by
    match kk, hi with
    | 0, _ => exact (tk e0 (show 0 < 1 by decide)).trans rfl
    | 1, _ => exact (tk e1 (show 0 < 1 by decide)).trans rfl
    | 2, _ => exact (tk e2 (show 0 < 1 by decide)).trans rfl
    | 3, _ => exact (tk e3 (show 0 < 1 by decide)).trans rfl
    | 4, _ => exact (tk e4 (show 0 < 2 by decide)).trans rfl
    | 5, _ => exact (tk e4 (show 1 < 2 by decide)).trans rfl
    | 6, _ => exact (tk e5 (show 0 < 1 by decide)).trans rfl
    | 7, _ => exact (tk e6 (show 0 < 1 by decide)).trans rfl
    | 8, _ => exact (tk e7 (show 0 < 1 by decide)).trans rfl
    | 9, _ => exact (tk e8 (show 0 < 1 by decide)).trans rfl
    | 10, _ => exact (tk e9 (show 0 < 1 by decide)).trans rfl
    | 11, _ => exact (tk e10 (show 0 < 9 by decide)).trans rfl
    | 12, _ => exact (tk e10 (show 1 < 9 by decide)).trans rfl
    | 13, _ => exact (tk e10 (show 2 < 9 by decide)).trans rfl
    | 14, _ => exact (tk e10 (show 3 < 9 by decide)).trans rfl
    | 15, _ => exact (tk e10 (show 4 < 9 by decide)).trans rfl
    | 16, _ => exact (tk e10 (show 5 < 9 by decide)).trans rfl
    | 17, _ => exact (tk e10 (show 6 < 9 by decide)).trans rfl
    | 18, _ => exact (tk e10 (show 7 < 9 by decide)).trans rfl
    | 19, _ => exact (tk e10 (show 8 < 9 by decide)).trans rfl
    | 20, _ => exact (tk e11 (show 0 < 1 by decide)).trans rfl
    | 21, _ => exact (tk e12 (show 0 < 1 by decide)).trans rfl
    | 22, _ => exact (tk e13 (show 0 < 1 by decide)).trans rfl
    | k + 23, h9 => exact absurd h9 (by omega)
  have hcs : cs = ((Ms.mk u0 u1 u2 u3 pi pe a n c L u6 u7 ix u9 b u11 ua un uc u13).cs : Array Value).toList := by
    apply List.ext_getElem?
    intro kk
    by_cases hi : kk < 23
    · rw [key kk hi, Array.getElem?_toList]
    · rw [List.getElem?_eq_none (by omega), List.getElem?_eq_none (by show 23 ≤ kk; omega)]
  exact ⟨_, hcs, hL, hb⟩
theorem vw_cells' {H : Type} {enc : TypeId × Value → H} {W : World} {sp : Nat → Bool} {held : Bool} {fuel : Nat} {cs : List Value} {y : DataW H × List MemPlace} (h : DataW.trod enc Try.prog W 0 sp held fuel 36 cs = some y) : ∃ v : Vw, cs = v.cs.toList ∧ v.In W 0 ∧ v.b.i < 18446744073709551616 := by
  obtain ⟨xs, m, _, _, hlen, hxs, hg⟩ := DataW.trod_struct Try.underlying36 h
  rw [c_vw] at hlen
  obtain ⟨y0, y1, y2, rfl⟩ : ∃ y0 y1 y2, xs = [y0, y1, y2] := by
    match xs, hxs with
    | [y0, y1, y2], _ => exact ⟨y0, y1, y2, rfl⟩
  have t0 : DataW.trod enc Try.prog W 0 sp held m 22 (List.take (Try.prog.cellsOf 22) (List.drop 0 cs)) = some y0 := hg 0 _ rfl
  rw [c_u64] at t0
  have t1 : DataW.trod enc Try.prog W 0 sp held m 33 (List.take (Try.prog.cellsOf 33) (List.drop 1 cs)) = some y1 := hg 1 _ rfl
  rw [c_bs] at t1
  have t2 : DataW.trod enc Try.prog W 0 sp held m 34 (List.take (Try.prog.cellsOf 34) (List.drop 10 cs)) = some y2 := hg 2 _ rfl
  rw [c_slen] at t2
  obtain ⟨u0, e0, _, _⟩ := DataW.trod_int Try.underlying22 t0
  obtain ⟨b, e1, hb, hi⟩ := bs_cells' t1
  obtain ⟨a, n, c, L, e2, hL⟩ := enrows_of t2
  have key : ∀ kk : Nat, kk < 11 → cs[kk]? = ((Vw.mk u0 b a n c L).cs : Array Value)[kk]? := fun kk hi => by
    match kk, hi with
    | 0, _ => exact (tk e0 (show 0 < 1 by decide)).trans rfl
    | 1, _ => exact (tk e1 (show 0 < 9 by decide)).trans rfl
    | 2, _ => exact (tk e1 (show 1 < 9 by decide)).trans rfl
    | 3, _ => exact (tk e1 (show 2 < 9 by decide)).trans rfl
    | 4, _ => exact (tk e1 (show 3 < 9 by decide)).trans rfl
    | 5, _ => exact (tk e1 (show 4 < 9 by decide)).trans rfl
    | 6, _ => exact (tk e1 (show 5 < 9 by decide)).trans rfl
    | 7, _ => exact (tk e1 (show 6 < 9 by decide)).trans rfl
    | 8, _ => exact (tk e1 (show 7 < 9 by decide)).trans rfl
    | 9, _ => exact (tk e1 (show 8 < 9 by decide)).trans rfl
    | 10, _ => exact (tk e2 (show 0 < 1 by decide)).trans rfl
    | k + 11, h9 => exact absurd h9 (by omega)
  have hcs : cs = ((Vw.mk u0 b a n c L).cs : Array Value).toList := by
    apply List.ext_getElem?
    intro kk
    by_cases hi : kk < 11
    · rw [key kk hi, Array.getElem?_toList]
    · rw [List.getElem?_eq_none (by omega), List.getElem?_eq_none (by show 11 ≤ kk; omega)]
  exact ⟨_, hcs, ⟨hb, hL⟩, hi⟩
/-- What is asked of a match. -/
structure Ask where
  x : Nat
  l : Nat
  m : Ms
def Ask.cs (q : Ask) : Array Value := #[.int .u64 q.x, .int .u64 q.l, .int .i64 q.m.kd, .int .i64 q.m.fr, .int .i64 q.m.to, .int .u64 q.m.ep, .int .u64 q.m.pi, .int .u64 q.m.pe, .slice q.m.a q.m.n q.m.c, .int .u64 q.m.dn, .bool q.m.ok, .int .u64 q.m.ix, .int .u64 q.m.st, .int .u64 q.m.b.i, .int .u64 q.m.b.e, .slice q.m.b.a q.m.b.n q.m.b.c, .int .u32 q.m.b.l.s0, .int .u64 q.m.b.l.i0, .int .u32 q.m.b.l.s1, .int .u64 q.m.b.l.i1, .int .u32 q.m.b.l.s2, .int .u64 q.m.b.l.i2, .int .u32 q.m.sq, .slice q.m.ua q.m.un q.m.uc, .int .i64 q.m.er]
theorem Ask.cm (q : Ask) (j : Nat) (h : j < 23) : q.cs[2 + j]? = q.m.cs[j]? := by
  match j, h with
  | 0, _ => rfl
  | 1, _ => rfl
  | 2, _ => rfl
  | 3, _ => rfl
  | 4, _ => rfl
  | 5, _ => rfl
  | 6, _ => rfl
  | 7, _ => rfl
  | 8, _ => rfl
  | 9, _ => rfl
  | 10, _ => rfl
  | 11, _ => rfl
  | 12, _ => rfl
  | 13, _ => rfl
  | 14, _ => rfl
  | 15, _ => rfl
  | 16, _ => rfl
  | 17, _ => rfl
  | 18, _ => rfl
  | 19, _ => rfl
  | 20, _ => rfl
  | 21, _ => rfl
  | 22, _ => rfl
  | k + 23, h9 => exact absurd h9 (by omega)
theorem Ask.q0 (q : Ask) : q.cs[0]? = some (.int .u64 (q.x : Int)) := rfl
set_option maxHeartbeats 1000000 in
theorem ask_cells {H : Type} {enc : TypeId × Value → H} {W : World} {sp : Nat → Bool} {held : Bool} {fuel : Nat} {cs : List Value} {y : DataW H × List MemPlace} (h : DataW.trod enc Try.prog W 0 sp held fuel 79 cs = some y) : ∃ q : Ask, cs = q.cs.toList ∧ q.m.In W 0 := by
  obtain ⟨xs, m, _, _, hlen, hxs, hg⟩ := DataW.trod_struct Try.underlying79 h
  rw [c_asked] at hlen
  obtain ⟨y0, y1, y2, rfl⟩ : ∃ y0 y1 y2, xs = [y0, y1, y2] := by
    match xs, hxs with
    | [y0, y1, y2], _ => exact ⟨y0, y1, y2, rfl⟩
  have t0 : DataW.trod enc Try.prog W 0 sp held m 22 (List.take (Try.prog.cellsOf 22) (List.drop 0 cs)) = some y0 := hg 0 _ rfl
  rw [c_u64] at t0
  have t1 : DataW.trod enc Try.prog W 0 sp held m 22 (List.take (Try.prog.cellsOf 22) (List.drop 1 cs)) = some y1 := hg 1 _ rfl
  rw [c_u64] at t1
  have t2 : DataW.trod enc Try.prog W 0 sp held m 47 (List.take (Try.prog.cellsOf 47) (List.drop 2 cs)) = some y2 := hg 2 _ rfl
  rw [c_ms] at t2
  obtain ⟨u0, e0, _, f0⟩ := DataW.trod_int Try.underlying22 t0
  obtain ⟨u1, e1, _, f1⟩ := DataW.trod_int Try.underlying22 t1
  obtain ⟨x, rfl, _⟩ := u64_of f0
  obtain ⟨l, rfl, _⟩ := u64_of f1
  obtain ⟨m, e2, hm⟩ := ms_cells' t2
  have key : ∀ kk : Nat, kk < 25 → cs[kk]? = ((Ask.mk x l m).cs : Array Value)[kk]? := fun kk hi => by
    match kk, hi with
    | 0, _ => exact (tk e0 (show 0 < 1 by decide)).trans rfl
    | 1, _ => exact (tk e1 (show 0 < 1 by decide)).trans rfl
    | 2, _ => exact (tk e2 (show 0 < 23 by decide)).trans rfl
    | 3, _ => exact (tk e2 (show 1 < 23 by decide)).trans rfl
    | 4, _ => exact (tk e2 (show 2 < 23 by decide)).trans rfl
    | 5, _ => exact (tk e2 (show 3 < 23 by decide)).trans rfl
    | 6, _ => exact (tk e2 (show 4 < 23 by decide)).trans rfl
    | 7, _ => exact (tk e2 (show 5 < 23 by decide)).trans rfl
    | 8, _ => exact (tk e2 (show 6 < 23 by decide)).trans rfl
    | 9, _ => exact (tk e2 (show 7 < 23 by decide)).trans rfl
    | 10, _ => exact (tk e2 (show 8 < 23 by decide)).trans rfl
    | 11, _ => exact (tk e2 (show 9 < 23 by decide)).trans rfl
    | 12, _ => exact (tk e2 (show 10 < 23 by decide)).trans rfl
    | 13, _ => exact (tk e2 (show 11 < 23 by decide)).trans rfl
    | 14, _ => exact (tk e2 (show 12 < 23 by decide)).trans rfl
    | 15, _ => exact (tk e2 (show 13 < 23 by decide)).trans rfl
    | 16, _ => exact (tk e2 (show 14 < 23 by decide)).trans rfl
    | 17, _ => exact (tk e2 (show 15 < 23 by decide)).trans rfl
    | 18, _ => exact (tk e2 (show 16 < 23 by decide)).trans rfl
    | 19, _ => exact (tk e2 (show 17 < 23 by decide)).trans rfl
    | 20, _ => exact (tk e2 (show 18 < 23 by decide)).trans rfl
    | 21, _ => exact (tk e2 (show 19 < 23 by decide)).trans rfl
    | 22, _ => exact (tk e2 (show 20 < 23 by decide)).trans rfl
    | 23, _ => exact (tk e2 (show 21 < 23 by decide)).trans rfl
    | 24, _ => exact (tk e2 (show 22 < 23 by decide)).trans rfl
    | k + 25, h9 => exact absurd h9 (by omega)
  have hcs : cs = ((Ask.mk x l m).cs : Array Value).toList := by
    apply List.ext_getElem?
    intro kk
    by_cases hi : kk < 25
    · rw [key kk hi, Array.getElem?_toList]
    · rw [List.getElem?_eq_none (by omega), List.getElem?_eq_none (by show 25 ≤ kk; omega)]
  exact ⟨_, hcs, hm⟩
def Ask.zero : Ask := ⟨0, 0, Ms.zero⟩
def askg (L : List Ask) (i : Nat) : Ask := L.getD i Ask.zero
structure Asks (w : World) (g o : Nat) (L : List Ask) : Prop where
  lt : g < w.heap.size
  row : ∀ i, i < L.length → ∀ j, j < 25 → w.cell? ⟨g, o + i * 25 + j, none⟩ = (askg L i).cs[j]?
def AskIn (w : World) (a : Option Addr) (n : Nat) (L : List Ask) : Prop := L.length = n ∧ (L = [] ∨ ∃ g o, a = some ⟨g, o, none⟩ ∧ Asks w g o L) ∧ ∀ i, i < L.length → (askg L i).m.In w 0
set_option maxHeartbeats 1000000 in
theorem asks_of {H : Type} {enc : TypeId × Value → H} {W : World} {sp : Nat → Bool} {base : Nat} {held : Bool} {v : Value} {d : DataW H} {p : List MemPlace} (hv : Value.okWide Try.prog W .any base 77 v) (h : DataW.Trod enc Try.prog W 0 sp held 77 v d p) : ∃ a n c L, v = .slice a n c ∧ AskIn W a n L := by
  obtain ⟨a0, n0, c0, rfl⟩ := okWide_slice Try.underlying77 hv
  obtain ⟨fuel, hf⟩ := h
  rcases Go.Deep.open_slice Try.underlying77 hf with ⟨hcs, _⟩ | ⟨x, len', cap', q, nn, Dt, Pl, hcs, _, hl, hm, hq, _, hi⟩
  · simp [Value.cells] at hcs
    obtain ⟨rfl, rfl, rfl⟩ := hcs
    exact ⟨_, _, _, [], rfl, rfl, .inl rfl, fun i hi => by simp at hi⟩
  · simp [Value.cells] at hcs
    obtain ⟨rfl, rfl, rfl⟩ := hcs
    have hex : ∀ i, i < n0 → ∃ y : Ask, y.m.In W 0 ∧ ∀ j, j < 25 → W.cell? (x.add (i * 25 + j)) = (y.cs)[j]? := by
      intro i hil
      obtain ⟨cs', hc', ht'⟩ := hi i (by rw [hq]; split <;> omega)
      rw [c_asked] at hc'
      obtain ⟨_, hlen, hat⟩ := World.cells?_some hc'
      obtain ⟨y, rfl, hy⟩ := ask_cells ht'
      refine ⟨y, hy, fun j hj => ?_⟩
      have h9 := hat j hj
      rw [Go.Deep.add_add] at h9
      rw [h9]
      simp
    obtain ⟨f, hf2⟩ : ∃ f : Nat → Ask, ∀ i, i < n0 → (f i).m.In W 0 ∧ ∀ j, j < 25 → W.cell? (x.add (i * 25 + j)) = ((f i).cs)[j]? :=
      ⟨fun i => if h : i < n0 then (hex i h).choose else Ask.zero, fun i hil => by simp only [dif_pos hil]; exact (hex i hil).choose_spec⟩
    refine ⟨some x, n0, c0, (List.range n0).map f, rfl, by simp, ?_, fun i hi => ?_⟩
    · by_cases h0 : n0 = 0
      · left; rw [h0]; rfl
      · right
        have h1 := (hf2 0 (by omega)).2 0 (by omega)
        rw [Ask.q0] at h1
        obtain ⟨b, o, s⟩ := x
        obtain rfl : s = none := by simpa [Addr.add] using World.cell?_spot h1
        refine ⟨b, o, rfl, ?_, fun i hi j hj => ?_⟩
        · have := cell_lt h1
          simpa [Addr.add_lit] using this
        · have hil : i < n0 := by simpa using hi
          have h3 := (hf2 i hil).2 j hj
          rw [Addr.add_lit] at h3
          rw [Nat.add_assoc, h3]
          congr 2
          simp [askg, hil]
    · have hil : i < n0 := by simpa using hi
      have h3 := (hf2 i hil).1
      rw [show askg ((List.range n0).map f) i = f i by simp [askg, hil]]
      exact h3
end Go.Proofs.Ytkoenconjldojaa
