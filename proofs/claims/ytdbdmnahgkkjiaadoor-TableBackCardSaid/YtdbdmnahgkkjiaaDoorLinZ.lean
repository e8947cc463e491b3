/-
  Only edges that bind where the order is drawn have to lead back. Where the texts of iterators of another kind are not to be imported (LinY without LinI): a region that draws its order, walked once in an order that the prover picks, where some operations change the world: each operation behind one of these waits for it, if only by way of others. Nothing here is a statement of the document.
-/
import Derived.Test.YtdbdmnahgkkjiaaDoorPfxR
import Derived.LaidMore
import Derived.Stop.Joined
import Derived.Deep.Slices
import Derived.WalkKit
import Derived.ProofKit
import Derived.OpenShut
import Derived.ShutString
import Derived.ChangeOld
import Derived.Below
import Derived.DataShut
import Derived.Test.YtdbdmnahgkkjiaaDoorTbI
import Derived.Test.YtdbdmnahgkkjiaaDoorPfxC
namespace Go.Proofs.YtdbdmnahgkkjiaaDoor
open Go.ChangeShapes Go.WideShapes Go.ChangeAt Go.RowKit Go.Shelf
set_option linter.unusedVariables false
set_option maxRecDepth 100000

theorem c_int : Tryd.prog.cellsOf 3 = 1 := by kernel_rfl
theorem c_u8 : Tryd.prog.cellsOf 5 = 1 := by kernel_rfl
theorem c_b16 : Tryd.prog.cellsOf 34 = 16 := by kernel_rfl
theorem c_ad : Tryd.prog.cellsOf 36 = 17 := by kernel_rfl
theorem c_px : Tryd.prog.cellsOf 38 = 18 := by kernel_rfl
def natOf : Option Value → Nat
  | some (.int _ n) => n.toNat
  | _ => 0
theorem b16_cells {H : Type} {enc : TypeId × Value → H} {W : World} {sp : Nat → Bool} {held : Bool} {fuel : Nat} {cs : List Value} {y : DataW H × List MemPlace} (h : DataW.trod enc Tryd.prog W 0 sp held fuel 34 cs = some y) : ∃ b : B16, cs = b.cs.toList := by
  obtain ⟨xs, m, _, _, hlen, hxs, hg⟩ := DataW.trod_array Tryd.underlying34 h
  rw [c_b16] at hlen
  have hone : ∀ i, i < 16 → ∃ n : Nat, n < 256 ∧ cs[i]? = some (byc n) := by
    intro i hi
    have h1 := hg i hi
    rw [c_u8, Nat.mul_one] at h1
    have hx : xs[i]? = some xs[i] := List.getElem?_eq_getElem (by omega)
    rw [hx] at h1
    obtain ⟨u, e, _, f⟩ := DataW.trod_int Tryd.underlying5 h1
    have hb := bounds_u8 f
    refine ⟨u.toNat, by omega, ?_⟩
    have hc : cs[i]? = some cs[i] := List.getElem?_eq_getElem (by omega)
    have e2 : (cs.drop i).take 1 = [cs[i]] := by
      rw [List.take_one, List.head?_drop, hc]
      rfl
    rw [e2] at e
    injection e with e3
    rw [hc, e3]
    unfold byc
    congr 2
    omega
  refine ⟨⟨(List.range 16).map fun i => natOf cs[i]?, by simp, fun n hn => ?_⟩, ?_⟩
  · obtain ⟨i, hi, rfl⟩ := List.mem_map.1 hn
    obtain ⟨k, hk, e⟩ := hone i (List.mem_range.1 hi)
    rw [e]
    simpa [natOf, byc] using hk
  · apply List.ext_getElem?
    intro i
    by_cases hi : i < 16
    · obtain ⟨k, hk, e⟩ := hone i hi
      rw [e]
      simp [B16.cs, hi, e, natOf, byc]
    · rw [List.getElem?_eq_none (by omega), List.getElem?_eq_none (by simp [B16.cs]; omega)]
theorem ad_cells {H : Type} {enc : TypeId × Value → H} {W : World} {sp : Nat → Bool} {held : Bool} {fuel : Nat} {cs : List Value} {y : DataW H × List MemPlace} (h : DataW.trod enc Tryd.prog W 0 sp held fuel 36 cs = some y) : ∃ a : Ad, cs = a.cs.toList ∧ (Lit.int .i64 a.v).wf = true := by
  obtain ⟨xs, m, _, _, hlen, hxs, hg⟩ := DataW.trod_struct Tryd.underlying36 h
  rw [c_ad] at hlen
  obtain ⟨y0, y1, rfl⟩ : ∃ y0 y1, xs = [y0, y1] := by
    match xs, hxs with
    | [a, b], _ => exact ⟨a, b, rfl⟩
  have t0 : DataW.trod enc Tryd.prog W 0 sp held m 3 (List.take (Tryd.prog.cellsOf 3) (List.drop 0 cs)) = some y0 := hg 0 _ rfl
  rw [c_int] at t0
  have t1 : DataW.trod enc Tryd.prog W 0 sp held m 34 (List.take (Tryd.prog.cellsOf 34) (List.drop 1 cs)) = some y1 := hg 1 _ rfl
  rw [c_b16] at t1
  obtain ⟨u0, e0, _, f0⟩ := DataW.trod_int Tryd.underlying3 t0
  obtain ⟨b, hb⟩ := b16_cells t1
  refine ⟨⟨u0, b⟩, ?_, f0⟩
  rw [show (Ad.mk u0 b).cs.toList = [Value.int .i64 u0] ++ b.cs.toList from by simp [Ad.cs], ← hb, ← e0, List.drop_zero, List.take_of_length_le (l := cs.drop 1) (by simp; omega)]
  exact (List.take_append_drop 1 cs).symm
theorem px_cells {H : Type} {enc : TypeId × Value → H} {W : World} {sp : Nat → Bool} {held : Bool} {fuel : Nat} {cs : List Value} {y : DataW H × List MemPlace} (h : DataW.trod enc Tryd.prog W 0 sp held fuel 38 cs = some y) : ∃ p : Px, cs = p.cs.toList ∧ (Lit.int .i64 p.n).wf = true ∧ (Lit.int .i64 p.a.v).wf = true := by
  obtain ⟨xs, m, _, _, hlen, hxs, hg⟩ := DataW.trod_struct Tryd.underlying38 h
  rw [c_px] at hlen
  obtain ⟨y0, y1, rfl⟩ : ∃ y0 y1, xs = [y0, y1] := by
    match xs, hxs with
    | [a, b], _ => exact ⟨a, b, rfl⟩
  have t0 : DataW.trod enc Tryd.prog W 0 sp held m 36 (List.take (Tryd.prog.cellsOf 36) (List.drop 0 cs)) = some y0 := hg 0 _ rfl
  rw [c_ad] at t0
  have t1 : DataW.trod enc Tryd.prog W 0 sp held m 3 (List.take (Tryd.prog.cellsOf 3) (List.drop 17 cs)) = some y1 := hg 1 _ rfl
  rw [c_int] at t1
  obtain ⟨u0, e0, _, f0⟩ := DataW.trod_int Tryd.underlying3 t1
  obtain ⟨a, ha, fa⟩ := ad_cells t0
  refine ⟨⟨a, u0⟩, ?_, f0, fa⟩
  rw [show (Px.mk a u0).cs.toList = a.cs.toList ++ [Value.int .i64 u0] from by simp [Px.cs], ← ha, ← e0, List.drop_zero, List.take_of_length_le (l := cs.drop 17) (by simp; omega)]
  exact (List.take_append_drop 17 cs).symm
theorem ad_of {H : Type} {enc : TypeId × Value → H} {W : World} {sp : Nat → Bool} {base : Nat} {held : Bool} {v : Value} {d : DataW H} {p : List MemPlace} (hv : Value.okWide Tryd.prog W .any base 36 v) (h : DataW.Trod enc Tryd.prog W 0 sp held 36 v d p) : ∃ a : Ad, v = .agg a.cs ∧ (Lit.int .i64 a.v).wf = true := by
  obtain ⟨cs, rfl, hsz⟩ := okWide_struct Tryd.underlying36 hv
  obtain ⟨fuel, hf⟩ := h
  obtain ⟨a, ha, fa⟩ := ad_cells (show DataW.trod enc Tryd.prog W 0 sp held fuel 36 cs.toList = some _ from hf)
  exact ⟨a, congrArg Value.agg (Array.toList_inj.1 ha), fa⟩
theorem px_of {H : Type} {enc : TypeId × Value → H} {W : World} {sp : Nat → Bool} {base : Nat} {held : Bool} {v : Value} {d : DataW H} {p : List MemPlace} (hv : Value.okWide Tryd.prog W .any base 38 v) (h : DataW.Trod enc Tryd.prog W 0 sp held 38 v d p) : ∃ a : Px, v = .agg a.cs ∧ (Lit.int .i64 a.n).wf = true ∧ (Lit.int .i64 a.a.v).wf = true := by
  obtain ⟨cs, rfl, hsz⟩ := okWide_struct Tryd.underlying38 hv
  obtain ⟨fuel, hf⟩ := h
  obtain ⟨a, ha, fn, fa⟩ := px_cells (show DataW.trod enc Tryd.prog W 0 sp held fuel 38 cs.toList = some _ from hf)
  exact ⟨a, congrArg Value.agg (Array.toList_inj.1 ha), fn, fa⟩

def laidAll : List (String × DataW Unit) := [("junctionbox/prefix.widths", Rows.laid_junctionbox_prefix_widths)]
theorem gAll : Tryd.prog.globalNamed "junctionbox/prefix.widths" = some 0 := by kernel_rfl
theorem tAll : (Tryd.prog.globals[0]?).map (·.type) = some 110 := by kernel_rfl
theorem door_met (os : Os) (args : Array Value) : laidMetH Tryd.prog laidAll ((World.doorLaid Tryd.prog 14 os).forCall (fun _ _ => 0) ⟨#[], args, []⟩).memory :=
  laidMetH_of_parts3 (fuel := 8) (laidMet_of_run' 8 (by kernel_rfl) (by kernel_rfl)) (by kernel_rfl) (by kernel_rfl)
theorem of_laid {W : World} (h : laidMetH Tryd.prog laidAll W) : Wid W := by
  rw [MakeChecks.laidMetH_plain _ _ _ (by kernel_rfl)] at h
  obtain ⟨ps, ⟨g0, t0, cs0, f0, p0, q0, hg0, ht0, hv0, hd0, _, _⟩, _, _⟩ := h
  obtain rfl := Option.some.inj (gAll.symm.trans hg0)
  obtain rfl := Option.some.inj (tAll.symm.trans ht0)
  obtain ⟨xs, m, _, hx, hlen, hxs, hg⟩ := DataW.trod_array Tryd.underlying110 hd0
  have hlen7 : cs0.toList.length = 7 := hlen.trans (by kernel_rfl)
  have hone : ∀ i (u : Int), i < 7 → (xs.map (·.1))[i]? = some (.lit (.int .i64 u)) → W.cell? ⟨0, i, none⟩ = some (.int .i64 u) := by
    intro i u hi hu
    have h1 := hg i hi
    rw [c_int, Nat.mul_one] at h1
    have hxi : xs[i]? = some xs[i] := List.getElem?_eq_getElem (by omega)
    rw [hxi] at h1
    obtain ⟨u', e, e', _⟩ := DataW.trod_int Tryd.underlying3 h1
    have hu2 : u' = u := by
      rw [List.getElem?_map, hxi, Option.map_some, e'] at hu
      simpa using hu
    subst hu2
    have hc : cs0.toList[i]? = some cs0.toList[i] := List.getElem?_eq_getElem (by omega)
    have e2 : (cs0.toList.drop i).take 1 = [cs0.toList[i]] := by
      rw [List.take_one, List.head?_drop, hc]
      rfl
    rw [e2] at e
    injection e with e3
    have hcell := World.var?_cell hg0 hv0 i
    rw [hcell, ← Array.getElem?_toList, hc, e3]
  have hm : xs.map (·.1) = [.lit (.int .i64 0), .lit (.int .i64 0), .lit (.int .i64 0), .lit (.int .i64 0), .lit (.int .i64 32), .lit (.int .i64 0), .lit (.int .i64 128)] := by
    have h9 := congrArg Prod.fst hx
    simp only [] at h9
    exact (DataW.agg.inj h9).symm
  intro j hj
  rw [hm] at hone
  have h7 : j = 0 ∨ j = 1 ∨ j = 2 ∨ j = 3 ∨ j = 4 ∨ j = 5 ∨ j = 6 := by omega
  rcases h7 with rfl | rfl | rfl | rfl | rfl | rfl | rfl <;> exact hone _ _ (by omega) rfl
end Go.Proofs.YtdbdmnahgkkjiaaDoor
namespace Go.Proofs.YtdbdmnahgkkjiaaDoor
open Go.RowKit Go.Shelf Go.ChangeShapes Go.WideShapes Go.ChangeAt
set_option linter.unusedVariables false
set_option maxRecDepth 100000

/-! ### Rows are compared -/
theorem eq_rt_rule (a b : Value) : Op.equalIn 10000 48 a b = eqSem 48 a b := rfl
theorem stood_rt : Tryd.prog.stoodInHeld 48 = false := by kernel_rfl
theorem part_p (r : Rt) (w : World) : (part 38 r.cs 0).run Tryd.prog w = .ok (.agg r.p.cs) w := by
  have hagg : (isAgg 38).run Tryd.prog w = .ok true w := by kernel_rfl
  have hn : (sizeOf 38).run Tryd.prog w = .ok 18 w := by kernel_rfl
  have e : r.cs.extract 0 (0 + 18) = r.p.cs := by
    apply Array.ext_getElem?
    intro j
    rw [Array.getElem?_extract, r.size]
    by_cases hj : j < 18
    · rw [if_pos (by omega), Nat.zero_add, r.cp j hj]
    · rw [if_neg (by omega), Array.getElem?_eq_none (by rw [Px.size]; omega)]
  unfold part
  simp only [Sem.run_bind, hagg, hn, Result.andThen_ok, if_true, r.size, e]
  first | rfl | (simp; rfl) | simp
theorem part_h (r : Rt) (w : World) : (part 3 r.cs 18).run Tryd.prog w = .ok (.int .i64 r.h) w := by
  have hagg : (isAgg 3).run Tryd.prog w = .ok false w := by kernel_rfl
  unfold part
  simp only [Sem.run_bind, hagg, Result.andThen_ok, r.ch]
  rfl
theorem equal_rt (d : Nat) (p q : Rt) (w : World) : (Op.equalIn (d + 5) 48 (.agg p.cs) (.agg q.cs)).run Tryd.prog w = .ok (decide (p = q)) w := by
  rw [show d + 5 = (d + 4) + 1 from rfl, Op.equalIn]
  have hu := run_underlying (P := Tryd.prog) Tryd.underlying48 w
  have h2 := fun x y => equal_int (d + 3) x y w
  have h3 := fun x y => equal_px d x y w
  simp only [Sem.run_bind, hu, Result.andThen_ok, run_prog, stood_rt]
  simp only [Bool.false_eq_true, if_false, List.forIn_toArray, List.forIn_cons, List.forIn_nil, Sem.run_bind, Sem.run_pure, Result.andThen_ok]
  simp only [show ("Prefix" ≠ "_") = True from by simp, show ("Hop" ≠ "_") = True from by simp, if_true, Sem.run_bind, Result.andThen_ok, part_p, part_h, h2, h3]
  by_cases hv : p.p = q.p
  · have hd : (!decide (p.p = q.p)) = false := by simp [hv]
    simp only [hd, Bool.false_eq_true, if_false, Sem.run_pure, Sem.run_bind, Result.andThen_ok, part_h, h2]
    by_cases hb : p.h = q.h
    · have hd2 : (!decide (p.h = q.h)) = false := by simp [hb]
      have he : decide (p = q) = true := decide_eq_true (Rt.same.2 ⟨hv, hb⟩)
      simp only [hd2, Bool.false_eq_true, if_false, Sem.run_pure, Result.andThen_ok, he]
    · have hd2 : (!decide (p.h = q.h)) = true := by simp [hb]
      have he : decide (p = q) = false := decide_eq_false (fun h => hb (Rt.same.1 h).2)
      simp only [hd2, if_true, Sem.run_pure, Result.andThen_ok, he]
  · have hd : (!decide (p.p = q.p)) = true := by simp [hv]
    have he : decide (p = q) = false := decide_eq_false (fun h => hv (Rt.same.1 h).1)
    simp only [hd, if_true, Sem.run_pure, Result.andThen_ok, he]
theorem eqR (a b : Rt) (w : World) : (eqSem 48 (.agg a.cs) (.agg b.cs)).run Tryd.prog w = .ok (decide (a = b)) w := by
  unfold eqSem
  obtain ⟨d, hd⟩ : ∃ d, d + 5 = 10000 := ⟨9995, rfl⟩
  rw [← hd]
  exact equal_rt d a b w

/-! ### A table that is data -/
theorem c_rt : Tryd.prog.cellsOf 48 = 19 := by kernel_rfl
theorem c_sl : Tryd.prog.cellsOf 22 = 1 := by kernel_rfl
theorem c_tab : Tryd.prog.cellsOf 24 = 1 := by kernel_rfl
theorem rt_cells {H : Type} {enc : TypeId × Value → H} {W : World} {sp : Nat → Bool} {held : Bool} {fuel : Nat} {cs : List Value} {y : DataW H × List MemPlace} (h : DataW.trod enc Tryd.prog W 0 sp held fuel 48 cs = some y) : ∃ r : Rt, cs = r.cs.toList := by
  obtain ⟨xs, m, _, _, hlen, hxs, hg⟩ := DataW.trod_struct Tryd.underlying48 h
  rw [c_rt] at hlen
  obtain ⟨y0, y1, rfl⟩ : ∃ y0 y1, xs = [y0, y1] := by
    match xs, hxs with
    | [a, b], _ => exact ⟨a, b, rfl⟩
  have t0 : DataW.trod enc Tryd.prog W 0 sp held m 38 (List.take (Tryd.prog.cellsOf 38) (List.drop 0 cs)) = some y0 := hg 0 _ rfl
  rw [c_px] at t0
  have t1 : DataW.trod enc Tryd.prog W 0 sp held m 3 (List.take (Tryd.prog.cellsOf 3) (List.drop 18 cs)) = some y1 := hg 1 _ rfl
  rw [c_int] at t1
  obtain ⟨u0, e0, _, f0⟩ := DataW.trod_int Tryd.underlying3 t1
  obtain ⟨p, hp, _, _⟩ := px_cells t0
  refine ⟨⟨p, u0⟩, ?_⟩
  rw [show (Rt.mk p u0).cs.toList = p.cs.toList ++ [Value.int .i64 u0] from by simp [Rt.cs], ← hp, ← e0, List.drop_zero, List.take_of_length_le (l := cs.drop 18) (by simp; omega)]
  exact (List.take_append_drop 18 cs).symm
theorem rows_of {H : Type} {enc : TypeId × Value → H} {W : World} {sp : Nat → Bool} {held : Bool} {fuel : Nat} {cs : List Value} {y : DataW H × List MemPlace} (h : DataW.trod enc Tryd.prog W 0 sp held fuel 22 cs = some y) : ∃ a n c L, cs = [.slice a n c] ∧ L.length = n ∧ Tbl W a c L := by
  rcases Go.Deep.open_slice Tryd.underlying22 h with ⟨hcs, _⟩ | ⟨x, len', cap', q, nn, Dt, Pl, hcs, _, hl, hm, hq, _, hi⟩
  · exact ⟨none, 0, 0, [], hcs, rfl, Tbl.none W⟩
  · have hex : ∀ i, i < len' → ∃ y : Rt, ∀ j, j < 19 → W.cell? (x.add (i * 19 + j)) = (y.cs)[j]? := by
      intro i hil
      obtain ⟨cs', hc', ht'⟩ := hi i (by rw [hq]; split <;> omega)
      rw [c_rt] at hc'
      obtain ⟨_, hlen, hat⟩ := World.cells?_some hc'
      obtain ⟨y, rfl⟩ := rt_cells ht'
      refine ⟨y, fun j hj => ?_⟩
      have h9 := hat j hj
      rw [Go.Deep.add_add] at h9
      rw [h9]
      simp
    obtain ⟨f, hf2⟩ : ∃ f : Nat → Rt, ∀ i, i < len' → ∀ j, j < 19 → W.cell? (x.add (i * 19 + j)) = ((f i).cs)[j]? :=
      ⟨fun i => if h : i < len' then (hex i h).choose else Rt.zero, fun i hil => by simp only [dif_pos hil]; exact (hex i hil).choose_spec⟩
    refine ⟨some x, len', cap', (List.range len').map f, hcs, by simp, ?_, by simpa using hl, hm, fun h => by cases h⟩
    by_cases h0 : len' = 0
    · left; rw [h0]; rfl
    · right
      have h1 := hf2 0 (by omega) 0 (by omega)
      have h2 : ((f 0).cs)[0]? = some (.int .i64 (f 0).p.a.v) := by rw [Rt.cp _ _ (by omega), Px.ca _ _ (by omega), Ad.c0]
      rw [h2] at h1
      obtain ⟨b, o, s⟩ := x
      obtain rfl : s = none := by simpa [Addr.add] using World.cell?_spot h1
      refine ⟨b, o, rfl, ?_, fun i hi j hj => ?_⟩
      · have := cell_lt h1
        simpa [Addr.add_lit] using this
      · have hil : i < len' := by simpa using hi
        have h3 := hf2 i hil j hj
        rw [Addr.add_lit] at h3
        rw [Nat.add_assoc, h3]
        congr 2
        simp [rt, hil]
theorem tab_of {H : Type} {enc : TypeId × Value → H} {W : World} {sp : Nat → Bool} {base : Nat} {held : Bool} {v : Value} {d : DataW H} {p : List MemPlace} (hv : Value.okWide Tryd.prog W .any base 24 v) (h : DataW.Trod enc Tryd.prog W 0 sp held 24 v d p) : ∃ a n c L, v = .agg #[.slice a n c] ∧ L.length = n ∧ Tbl W a c L := by
  obtain ⟨cs, rfl, hsz⟩ := okWide_struct Tryd.underlying24 hv
  obtain ⟨fuel, hf⟩ := h
  obtain ⟨xs, m, _, _, hlen, hxs, hg⟩ := DataW.trod_struct Tryd.underlying24 (show DataW.trod enc Tryd.prog W 0 sp held fuel 24 cs.toList = some _ from hf)
  rw [c_tab] at hlen
  obtain ⟨y0, rfl⟩ : ∃ y0, xs = [y0] := by
    match xs, hxs with
    | [a], _ => exact ⟨a, rfl⟩
  have t0 : DataW.trod enc Tryd.prog W 0 sp held m 22 (List.take (Tryd.prog.cellsOf 22) (List.drop 0 cs.toList)) = some y0 := hg 0 _ rfl
  rw [c_sl, List.drop_zero, List.take_of_length_le (by omega)] at t0
  obtain ⟨a, n, c, L, h1, h2, h3⟩ := rows_of t0
  exact ⟨a, n, c, L, congrArg Value.agg (Array.toList_inj.1 (by rw [h1])), h2, h3⟩
theorem rt_of {H : Type} {enc : TypeId × Value → H} {W : World} {sp : Nat → Bool} {base : Nat} {held : Bool} {v : Value} {d : DataW H} {p : List MemPlace} (hv : Value.okWide Tryd.prog W .any base 48 v) (h : DataW.Trod enc Tryd.prog W 0 sp held 48 v d p) : ∃ r : Rt, v = .agg r.cs := by
  obtain ⟨cs, rfl, hsz⟩ := okWide_struct Tryd.underlying48 hv
  obtain ⟨fuel, hf⟩ := h
  obtain ⟨r, hr⟩ := rt_cells (show DataW.trod enc Tryd.prog W 0 sp held fuel 48 cs.toList = some _ from hf)
  exact ⟨r, congrArg Value.agg (Array.toList_inj.1 hr)⟩

/-! ### What setting a prefix makes of matches -/
section
variable {L : List Rt} {p : Px} {h : Int} {a : Ad}
theorem setM_mem (e : setE L p h = 0) (x : Rt) : x ∈ setM L p h ↔ x = ⟨p, h⟩ ∨ (x ∈ L ∧ x.p ≠ p) := by
  unfold setM
  rw [if_pos e]
  exact setL_mem (setE_ok e).1.2.2 p h x
theorem set_miss (e : setE L p h = 0) (hn : ¬ hasM p a) : longB (setM L p h) a = longB L a ∧ longR (setM L p h) a = longR L a := by
  have hL := (setE_ok e).1.2.2
  have hU := (setM_okT L p h).2.2
  rcases long_ways hL a with ⟨h1, h2⟩ | ⟨h1, h2, h3⟩
  · have hl : Long (setM L p h) a (longR L a) := ⟨(setM_mem e _).2 (.inr ⟨h2.1, fun q => hn (by rw [← q]; exact h2.2.1)⟩), h2.2.1, fun y hy hh => by
      rcases (setM_mem e y).1 hy with q | ⟨q, _⟩
      · rw [q] at hh; exact absurd hh hn
      · exact h2.2.2 y q hh⟩
    obtain ⟨g1, g2⟩ := long_is hU hl
    exact ⟨g1.trans h1.symm, g2⟩
  · obtain ⟨g1, g2⟩ := long_none hU (a := a) (fun y hy hh => by
      rcases (setM_mem e y).1 hy with q | ⟨q, _⟩
      · rw [q] at hh; exact hn hh
      · exact h3 y q hh)
    exact ⟨g1.trans h1.symm, g2.trans h2.symm⟩
theorem set_shorter (e : setE L p h = 0) (ht : longB L a = true) (hn : p.n < (longR L a).p.n) : longB (setM L p h) a = true ∧ longR (setM L p h) a = longR L a := by
  have hL := (setE_ok e).1.2.2
  rcases long_ways hL a with ⟨h1, h2⟩ | ⟨h1, _⟩
  · refine long_is (setM_okT L p h).2.2 ⟨(setM_mem e _).2 (.inr ⟨h2.1, fun q => by rw [q] at hn; omega⟩), h2.2.1, fun y hy hh => ?_⟩
    rcases (setM_mem e y).1 hy with q | ⟨q, _⟩
    · rw [q]; exact Int.le_of_lt hn
    · exact h2.2.2 y q hh
  · rw [ht] at h1; cases h1
theorem set_longer (e : setE L p h = 0) (hp : hasM p a) (hn : longB L a = true → (longR L a).p.n ≤ p.n) : longB (setM L p h) a = true ∧ longR (setM L p h) a = ⟨p, h⟩ := by
  have hL := (setE_ok e).1.2.2
  refine long_is (setM_okT L p h).2.2 ⟨(setM_mem e _).2 (.inl rfl), hp, fun y hy hh => ?_⟩
  rcases (setM_mem e y).1 hy with q | ⟨q, _⟩
  · rw [q]; exact Int.le_refl _
  · rcases long_ways hL a with ⟨h1, h2⟩ | ⟨_, _, h3⟩
    · exact Int.le_trans (h2.2.2 y q hh) (hn h1)
    · exact absurd hh (h3 y q)
end
end Go.Proofs.YtdbdmnahgkkjiaaDoor
namespace Go.Proofs.YtdbdmnahgkkjiaaDoor
open Go.RowKit Go.Shelf
set_option linter.unusedVariables false

theorem f16 {n : Nat} (h : n ≤ 128) : fill8 n ≤ 16 := by unfold fill8; omega
theorem fill_ge (n : Nat) : n ≤ 8 * fill8 n := by unfold fill8; omega
theorem at_zero_bt {b : B16} {i : Nat} (h : b.at (i / 8) = 0) : bt b i = false := by unfold bt; rw [h]; simp
theorem pad_take {b : B16} {n : Nat} (hn : n ≤ 128) (h : clear b n) : padB (b.l.take (fill8 n)) = b := bt_ext fun i hi => by
  have hB : Bys (b.l.take (fill8 n)) := b.bys.take2 _
  have h16 : i / 8 < 16 := by omega
  by_cases h1 : i / 8 < fill8 n
  · unfold bt
    rw [padB_at _ hB _ h16]
    have : (b.l.take (fill8 n)).getD (i / 8) 0 = b.at (i / 8) := by simp [B16.at, List.getElem?_take, h1]
    rw [this]
  · rw [h i (by have := fill_ge n; omega) hi]
    refine at_zero_bt ?_
    rw [padB_at _ hB _ h16]
    simp [List.getElem?_take, h1]
theorem pad_body {M : List Nat} (hB : Bys M) (h : M.length ≤ 16) : (padB M).l.take M.length = M := by
  apply List.ext_getElem?
  intro i
  rw [List.getElem?_take]
  by_cases h1 : i < M.length
  · rw [if_pos h1]
    have h2 := padB_at M hB i (by omega)
    unfold B16.at at h2
    have h3 : i < (padB M).l.length := by rw [(padB M).len]; omega
    simp [h3, h1] at h2
    simp [h3, h1, h2]
  · rw [if_neg h1, List.getElem?_eq_none (by omega)]
theorem encP_len {p : Px} (h : okP p) : (encP p).length = 2 + fill8 p.n.toNat := by
  have hw := wid_le p.a.v
  have := f16 (show p.n.toNat ≤ 128 by have := h.2.2.1; omega)
  unfold encP
  simp [p.a.b.len]
  omega
theorem enc_v {p : Px} (h : okP p) : ((p.a.v.toNat : Nat) : Int) = p.a.v := by have := wid_cases h.1.1; omega
theorem enc_n {p : Px} (h : okP p) : ((p.n.toNat : Nat) : Int) = p.n := by have := h.2.1; omega
theorem dec_enc {p : Px} (h : okP p) (R : List Nat) : decPE (encP p ++ R) = 0 ∧ decPX (encP p ++ R) = p ∧ decPN (encP p ++ R) = (encP p).length := by
  have hw := wid_le p.a.v
  have hn : p.n.toNat ≤ 128 := by have := h.2.2.1; omega
  have hf := f16 hn
  have h0 : by0 (encP p ++ R) = p.a.v.toNat := rfl
  have h1 : by1 (encP p ++ R) = p.n.toNat := rfl
  have hl : (encP p ++ R).length = 2 + fill8 p.n.toNat + R.length := by rw [List.length_append, encP_len h]
  have hd : ((encP p ++ R).drop 2).take (fill8 p.n.toNat) = p.a.b.l.take (fill8 p.n.toNat) := by
    have e : (encP p ++ R).drop 2 = p.a.b.l.take (fill8 p.n.toNat) ++ R := rfl
    rw [e, List.take_append_of_le_length (by simp [p.a.b.len]; omega), List.take_take, Nat.min_self]
  have hp : padF (encP p ++ R) 2 p.n.toNat = p.a.b := by unfold padF; rw [hd]; exact pad_take hn h.2.2.2
  have hE : decPE (encP p ++ R) = 0 := by
    unfold decPE bodyE
    rw [h0, h1, enc_v h, hp, (kept_iff _ _).2 h.2.2.2, if_neg (by omega), if_neg h.1.1, if_neg (by omega), if_neg (by have := h.2.2.1; omega), if_neg (by omega), if_pos rfl]
  refine ⟨hE, ?_, ?_⟩
  · unfold decPX
    rw [if_pos hE, h0, h1, hp, enc_v h, enc_n h]
  · unfold decPN
    rw [if_pos hE, h1, encP_len h]
theorem dec_short {p : Px} (h : okP p) (j : Nat) (hj : j < (encP p).length) : decPE ((encP p).take j) = 7 := by
  rw [encP_len h] at hj
  have hl : ((encP p).take j).length = j := by rw [List.length_take, encP_len h]; omega
  unfold decPE
  rw [hl]
  by_cases h1 : j < 1
  · rw [if_pos h1]
  · rw [if_neg h1]
    have h0 : by0 ((encP p).take j) = p.a.v.toNat := by
      match j, h1 with
      | j + 1, _ => rfl
    rw [h0, enc_v h, if_neg h.1.1]
    by_cases h2 : j < 2
    · rw [if_pos h2]
    · rw [if_neg h2]
      have h3 : by1 ((encP p).take j) = p.n.toNat := by
        match j, h2 with
        | j + 2, _ => rfl
        | 1, h2 => exact absurd (by omega) h2
      rw [h3, if_neg (by have := h.2.2.1; omega)]
      unfold bodyE
      rw [hl, if_pos hj]
theorem enc_dec {L : List Nat} (hB : Bys L) (h : decPE L = 0) : okP (decPX L) ∧ encP (decPX L) = L.take (decPN L) ∧ decPN L ≤ L.length := by
  have hX : decPX L = ⟨⟨(by0 L : Int), padF L 2 (by1 L)⟩, (by1 L : Int)⟩ := if_pos h
  have hN : decPN L = 2 + fill8 (by1 L) := if_pos h
  unfold decPE at h
  by_cases h1 : L.length < 1
  · rw [if_pos h1] at h; omega
  rw [if_neg h1] at h
  by_cases h2 : wid (by0 L : Int) = 0
  · rw [if_pos h2] at h; omega
  rw [if_neg h2] at h
  by_cases h3 : L.length < 2
  · rw [if_pos h3] at h; omega
  rw [if_neg h3] at h
  by_cases h4 : wid (by0 L : Int) < by1 L
  · rw [if_pos h4] at h; omega
  rw [if_neg h4] at h
  unfold bodyE at h
  by_cases h5 : L.length < 2 + fill8 (by1 L)
  · rw [if_pos h5] at h; omega
  rw [if_neg h5] at h
  by_cases h6 : keptB (padF L 2 (by1 L)) (by1 L) = padF L 2 (by1 L)
  rotate_left
  · rw [if_neg h6] at h; omega
  have hc := (kept_iff _ _).1 h6
  have hw := wid_le (by0 L : Int)
  have hf := f16 (show by1 L ≤ 128 by omega)
  have hML : ((L.drop 2).take (fill8 (by1 L))).length = fill8 (by1 L) := by rw [List.length_take, List.length_drop]; omega
  have hMB : Bys ((L.drop 2).take (fill8 (by1 L))) := fun m hm => hB m (List.mem_of_mem_drop (List.mem_of_mem_take hm))
  have hpb := pad_body hMB (by omega)
  rw [hML] at hpb
  rw [hX, hN]
  refine ⟨⟨⟨h2, clear_mono hc (show by1 L ≤ wid (by0 L : Int) by omega)⟩, by simp, by simp; omega, by simpa using hc⟩, ?_, by omega⟩
  unfold encP padF
  simp only [Int.toNat_natCast]
  rw [hpb]
  rcases L with _ | ⟨x, _ | ⟨y, L⟩⟩
  · simp at h1
  · simp at h3
  · rw [Nat.add_comm 2]
    rfl
end Go.Proofs.YtdbdmnahgkkjiaaDoor
namespace Go.Proofs.YtdbdmnahgkkjiaaDoor
set_option linter.unusedVariables false

section
variable {P : Program} {ops : Array Oper} {Q : Exit → Act → World → Prop} {S : World → Prop}
def reach (ops : Array Oper) : Nat → Nat → Nat → Bool
  | 0, _, _ => false
  | f + 1, j, i => waits ops j i || (match ops[j]? with | none => false | some oj => oj.after.any fun e => Region.binds .any e && reach ops f e.on i)
def ClosedL (ops : Array Oper) (listed : Array Bool) : Prop := ∀ j oj, ops[j]? = some oj → listed.getD j false = true → ∀ e ∈ oj.after, Region.binds .any e = true → listed.getD e.on false = true
theorem reach_spec {listed : Array Bool} (hc : ClosedL ops listed) : ∀ (f j i : Nat) {oj : Oper}, ops[j]? = some oj → (∀ e ∈ oj.after, Region.binds .any e = true → listed.getD e.on false = true) → reach ops f j i = true → listed.getD i false = true
  | 0, _, _, _, _, _, h => by cases h
  | f + 1, j, i, oj, hj, ha, h => by
    simp only [reach, hj, Bool.or_eq_true] at h
    rcases h with h | h
    · obtain ⟨e, he, hb, rfl⟩ := waits_spec hj h
      exact ha e he hb
    · obtain ⟨e, he, hb⟩ := Array.any_eq_true'.1 h
      simp only [Bool.and_eq_true] at hb
      have h1 := ha e he hb.1
      cases ho : ops[e.on]? with
      | none =>
        exfalso
        have h2 := hb.2
        cases f with
        | zero => cases h2
        | succ f => simp [reach, waits, ho] at h2
      | some oe => exact reach_spec hc f e.on i ho (hc e.on oe ho h1) hb.2
theorem closedL_set {listed : Array Bool} {i : Nat} (hc : ClosedL ops listed) (hi : i ∈ Region.ready .any ops listed) : ClosedL ops (listed.setIfInBounds i true) := by
  obtain ⟨_, oi, hoi, hall⟩ := mem_ready.1 hi
  intro j oj hj hl e he hb
  by_cases hij : i = j
  · subst hij
    have : oj = oi := Option.some.inj (hj.symm.trans hoi)
    subst this
    exact getD_set_true (hall e he hb)
  · rw [getD_set_ne false hij] at hl
    exact getD_set_true (hc j oj hj hl e he hb)

def pairsOkY (ops : Array Oper) (eff : List Nat) : List Nat → Bool
  | [] => true
  | i :: r => decide (i < ops.size) && (!r.contains i && (r.all (fun j => (pairApart ops i j && !eff.contains i) || reach ops 14 j i) && pairsOkY ops eff r))
/-- The order that is picked has all operations, each once; where one does not wait for an earlier one, the two are apart and the earlier one leaves the world as it is. -/
def ordOkY (ops : Array Oper) (eff ord : List Nat) : Bool :=
  (Region.noSelect ops && decide (ord.length ≤ ops.size)) && ((List.range ops.size).all (fun j => ord.contains j && match ops[j]? with | none => true | some oj => oj.after.all (fun e => !Region.binds .any e || decide (e.on < j))) && pairsOkY ops eff ord)
theorem pairsOkY_split {eff : List Nat} : ∀ (L1 : List Nat) {j : Nat} {L2 : List Nat}, pairsOkY ops eff (L1 ++ j :: L2) = true → j ∉ L1 ∧ j ∉ L2 ∧ ∀ i ∈ L1, i < ops.size ∧ ((pairApart ops i j = true ∧ eff.contains i = false) ∨ reach ops 14 j i = true)
  | [], j, L2, h => by
    simp only [List.nil_append, pairsOkY, Bool.and_eq_true, Bool.not_eq_true'] at h
    refine ⟨by simp, ?_, by simp⟩
    intro hm
    have := h.2.1
    rw [List.contains_iff_mem.2 hm] at this
    cases this
  | k :: L1, j, L2, h => by
    simp only [List.cons_append, pairsOkY, Bool.and_eq_true, Bool.not_eq_true', decide_eq_true_eq] at h
    obtain ⟨h0, h1, h2, h3⟩ := h
    obtain ⟨i1, i2, i3⟩ := pairsOkY_split L1 h3
    have hkj : k ≠ j := by
      rintro rfl
      rw [List.contains_iff_mem.2 (by simp)] at h1
      cases h1
    refine ⟨by simp [i1]; exact fun e => hkj e.symm, i2, fun i hi => ?_⟩
    rcases List.mem_cons.1 hi with rfl | hi
    · refine ⟨h0, ?_⟩
      have h4 := List.all_eq_true.1 h2 j (by simp)
      simp only [Bool.or_eq_true, Bool.and_eq_true, Bool.not_eq_true'] at h4
      exact h4
    · exact i3 i hi

theorem linY_any {eff ord : List Nat} (hok : ordOkY ops eff ord = true) : ∀ (fuel : Nat) (listed : Array Bool) (a : Act) (w : World), listed.size = ops.size → ClosedL ops listed → (left listed ord).length ≤ fuel → S w → LinX P ops Q S eff (left listed ord) a w → wpAny P .any ops Q fuel listed a w := by
  simp only [ordOkY, Bool.and_eq_true] at hok
  obtain ⟨⟨hns, _⟩, hall0, hpairs⟩ := hok
  have hsel : ∀ (j : Nat) (o : Oper), ops[j]? = some o → ∀ cs b, o.op ≠ .select cs b := fun j o ho cs b => Region.noSelect_spec hns j o cs b ho
  have hback : ∀ j oj, ops[j]? = some oj → j ∈ ord ∧ ∀ e ∈ oj.after, Region.binds .any e = true → e.on < j := by
    intro j oj hoj
    have h1 := List.all_eq_true.1 hall0 j (List.mem_range.2 (Array.getElem?_eq_some_iff.1 hoj).1)
    simp only [hoj, Bool.and_eq_true, Array.all_eq_true_iff_forall_mem] at h1
    exact ⟨List.contains_iff_mem.1 h1.1, fun e he hb => by
      have h2 := h1.2 e he
      simpa [hb] using h2⟩
  have hnil : ∀ listed : Array Bool, listed.size = ops.size → Region.ready .any ops listed = [] → left listed ord = [] := by
    intro listed hsz hr
    have key : ∀ j, listed.getD j true = true := by
      intro j
      induction j using Nat.strongRecOn with
      | ind j ih =>
        cases hb : listed.getD j true with
        | true => rfl
        | false =>
          have hj : j < ops.size := by
            rcases Nat.lt_or_ge j listed.size with h' | h'
            · omega
            · simp [Array.getElem?_eq_none h'] at hb
          have hoj : ops[j]? = some ops[j] := Array.getElem?_eq_getElem hj
          have hm : j ∈ Region.ready .any ops listed := mem_ready.2 ⟨hb, _, hoj, fun e he hbd => by
            have hlt := (hback j _ hoj).2 e he hbd
            have h9 := ih e.on hlt
            have h8 : e.on < listed.size := by omega
            simp [h8] at h9 ⊢
            exact h9⟩
          rw [hr] at hm
          cases hm
    unfold left
    rw [List.filter_eq_nil_iff]
    intro i _
    rw [key i]
    simp
  have hpick : ∀ (listed : Array Bool) (j : Nat), listed.size = ops.size → ClosedL ops listed → j ∈ Region.ready .any ops listed → ∃ oj T1 T2, ops[j]? = some oj ∧ left listed ord = T1 ++ j :: T2 ∧ left (listed.setIfInBounds j true) ord = T1 ++ T2 ∧ ∀ i ∈ T1, ∃ x, ops[i]? = some x ∧ (∀ cs b, x.op ≠ .select cs b) ∧ x.apart ops oj = true ∧ eff.contains i = false := by
    intro listed j hsz hcl hj
    obtain ⟨hun, oj, hoj, hall⟩ := mem_ready.1 hj
    obtain ⟨L1, L2, hord⟩ := List.append_of_mem (hback j oj hoj).1
    rw [hord] at hpairs
    obtain ⟨hn1, hn2, hp⟩ := pairsOkY_split L1 hpairs
    have hlt : j < listed.size := by have := (Array.getElem?_eq_some_iff.1 hoj).1; omega
    refine ⟨oj, left listed L1, left listed L2, hoj, ?_, ?_, ?_⟩
    · rw [hord]
      unfold left
      rw [List.filter_append, List.filter_cons, hun]
      simp
    · have e : left (listed.setIfInBounds j true) (j :: L2) = left (listed.setIfInBounds j true) L2 := by
        unfold left
        rw [List.filter_cons]
        simp [hlt]
      have e2 : left (listed.setIfInBounds j true) (L1 ++ j :: L2) = left (listed.setIfInBounds j true) L1 ++ left (listed.setIfInBounds j true) (j :: L2) := by simp [left]
      rw [hord, e2, e, left_set _ _ _ hn1, left_set _ _ _ hn2]
    · intro i hi
      have hi1 := List.mem_filter.1 hi
      obtain ⟨hil, hc⟩ := hp i hi1.1
      have hui : listed.getD i true = false := by simpa using hi1.2
      have hoi : ops[i]? = some ops[i] := Array.getElem?_eq_getElem hil
      rcases hc with h9 | h9
      · refine ⟨_, hoi, hsel i _ hoi, ?_, h9.2⟩
        have h7 := h9.1
        unfold pairApart at h7
        simp only [hoi, hoj] at h7
        exact h7
      · have h8 := reach_spec hcl 14 j i hoj hall h9
        have h7 : i < listed.size := by omega
        simp [h7] at h8 hui
        rw [hui] at h8
        cases h8
  intro fuel
  induction fuel with
  | zero =>
    intro listed a w hsz hcl hlen hS hL
    have h0 : left listed ord = [] := List.length_eq_zero_iff.1 (by omega)
    rw [h0] at hL
    refine ⟨?_, hL⟩
    refine List.eq_nil_iff_forall_not_mem.2 (fun j hj => ?_)
    obtain ⟨oj, T1, T2, _, h1, _⟩ := hpick listed j hsz hcl hj
    rw [h0] at h1
    simp at h1
  | succ fuel ih =>
    intro listed a w hsz hcl hlen hS hL
    refine ⟨fun hr => ?_, fun j hj => ?_⟩
    · rw [hnil listed hsz hr] at hL
      exact hL
    · obtain ⟨oj, T1, T2, hoj, h1, h2, h3⟩ := hpick listed j hsz hcl hj
      rw [h1] at hL hlen
      obtain ⟨oj', hoj', q1, q2⟩ := LinX.front hoj (hsel j oj hoj) T1 a w h3 hL
      obtain rfl : oj' = oj := Option.some.inj (hoj'.symm.trans hoj)
      have hnext : ∀ a' w', S w' → LinX P ops Q S eff (T1 ++ T2) a' w' → wpAny P .any ops Q fuel (listed.setIfInBounds j true) a' w' := fun a' w' hS' h4 => by
        refine ih (listed.setIfInBounds j true) a' w' (by simp [hsz]) (closedL_set hcl hj) ?_ hS' (by rw [h2]; exact h4)
        rw [h2]
        simp at hlen ⊢
        omega
      unfold wpOp
      simp only [hoj]
      cases hv : eff.contains j with
      | false =>
        obtain ⟨v, g, h5⟩ := q1 hv
        rcases g with ⟨hw, hy⟩ | ⟨hw, rfl⟩
        · simp only [hw, if_true]
          refine .inl ?_
          unfold Oper.wp
          rcases hy w hS with h6 | ⟨f, args, h6, h7⟩
          · rw [h6]
            exact hnext _ _ hS h5
          · rw [h6]
            refine Calls.mono h7 ?_
            rintro e w' ⟨rfl, rfl⟩
            exact hnext _ _ hS h5
        · simp only [hw, Bool.false_eq_true, if_false]
          exact hnext _ _ hS h5
      | true =>
        obtain ⟨hw, hm⟩ := q2 hv
        simp only [hw, if_true]
        refine .inl ?_
        unfold Oper.wp
        rcases hm with ⟨v, w', h6 | ⟨h6, rfl⟩, h7, h8⟩ | ⟨f, args, w1, h6, h7⟩
        · rw [h6]
          exact hnext _ _ h7 h8
        · rw [h6]
          exact hnext _ _ h7 h8
        · rw [h6]
          refine Calls.mono h7 ?_
          rintro e w' ⟨v, rfl, h8, h9⟩
          exact hnext _ _ h8 h9

/-- THE BEGINNING: a region that draws its order, walked in the order that is picked; those of eff may change the world. -/
theorem wp_region_linY {id : Nat} {a : Act} {w : World} (S : World → Prop) (eff ord : List Nat) (hm : P.follows .mixedOrders = true) (hok : ordOkY ops eff ord = true) (hS : S w.drew) (h : LinX P ops Q S eff ord a w.drew) : (Code.region id ops true).wp P Q a w := by
  refine wp_region_any hm ?_
  have hok2 := hok
  simp only [ordOkY, Bool.and_eq_true] at hok
  have hlt : ∀ i ∈ ord, i < ops.size := by
    intro i hi
    obtain ⟨L1, L2, hord⟩ := List.append_of_mem hi
    have h3 := hok.2.2
    rw [hord] at h3
    have : ∀ (L1 : List Nat), pairsOkY ops eff (L1 ++ i :: L2) = true → i < ops.size := by
      intro L1
      induction L1 with
      | nil => intro h; simp only [List.nil_append, pairsOkY, Bool.and_eq_true, decide_eq_true_eq] at h; exact h.1
      | cons k L1 ih => intro h; simp only [List.cons_append, pairsOkY, Bool.and_eq_true] at h; exact ih h.2.2.2
    exact this L1 h3
  have hu : left (Array.replicate ops.size false) ord = ord := by
    unfold left
    rw [List.filter_eq_self]
    intro i hi
    have := hlt i hi
    simp [this]
  refine linY_any hok2 _ _ _ _ (by simp) (fun j oj _ h => by simp only [Array.getD_eq_getD_getElem?, Array.getElem?_replicate] at h; split at h <;> simp at h) ?_ hS ?_
  · rw [hu]
    simpa using hok.1.2
  · rw [hu]; exact h
end
end Go.Proofs.YtdbdmnahgkkjiaaDoor
