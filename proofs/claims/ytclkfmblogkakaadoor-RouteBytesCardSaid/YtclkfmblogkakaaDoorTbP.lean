/-
  The contracts of table.Drop and Get. Nothing here is a statement of the document.
-/
import Derived.Test.YtclkfmblogkakaaDoorTbH
import Derived.Test.YtclkfmblogkakaaDoorPfxR
import Derived.LaidMore
import Derived.Stop.Joined
import Derived.Deep.Slices
import Derived.WalkKit
import Derived.ProofKit
import Derived.OpenShut
import Derived.ShutString
import Derived.ChangeOld
import Derived.Below
import Derived.DataShut
namespace Go.Proofs.YtclkfmblogkakaaDoor
open Go.RowKit Go.Shelf
set_option linter.unusedVariables false
set_option maxRecDepth 100000

def q16B : B16 := ⟨[10, 1, 0, 0, 0, 0, 0, 0, 0, 0, 0, 0, 0, 0, 0, 0], rfl, by unfold Bys; decide⟩
def tw2B : B16 := ⟨[10, 2, 0, 0, 0, 0, 0, 0, 0, 0, 0, 0, 0, 0, 0, 0], rfl, by unfold Bys; decide⟩
def q16 : Px := ⟨⟨4, q16B⟩, 16⟩
def tw2 : Ad := ⟨4, tw2B⟩
theorem q16_kept : keptB q16B 16 = q16B := B16.same rfl
theorem q16_clear : clear q16B 16 := (kept_iff _ _).1 q16_kept
theorem q16_okP : okP q16 := ⟨⟨by decide, clear_mono q16_clear (by decide)⟩, by decide, by decide, q16_clear⟩
theorem tw2_kept : keptB tw2B 16 = tw2B := B16.same rfl
theorem tw2_okA : okA tw2 := ⟨by decide, clear_mono ((kept_iff _ _).1 tw2_kept) (by decide)⟩
theorem q16_has : hasM q16 tenA := ⟨q16_okP, ten_okA, rfl, (B16.same rfl : keptB tenB 16 = q16B).symm⟩
theorem ten_has2 : hasM tenP tw2 := ⟨ten_okP, tw2_okA, rfl, (B16.same rfl : keptB tw2B 8 = ten8).symm⟩
theorem q16_not : ¬ hasM q16 tw2 := fun h => by
  have h1 : q16B = keptB tw2B 16 := h.2.2.2
  rw [tw2_kept] at h1
  have := congrArg B16.l h1
  revert this
  decide
noncomputable def T1 : List Rt := setM [] tenP 1
noncomputable def T2 : List Rt := setM T1 q16 2
theorem T1_E : setE [] tenP 1 = 0 := by
  unfold setE
  rw [if_neg (by simp [okT]), if_neg (by simp only [Classical.not_not]; exact ⟨ten_okP, by decide, by decide⟩), if_neg (fun h => by have := h.2; simp at this)]
theorem T1_len : T1.length ≤ 1 := by
  unfold T1 setM
  rw [if_pos T1_E, setL_len]
  split <;> simp
theorem T2_E : setE T1 q16 2 = 0 := by
  unfold setE
  rw [if_neg (by simp only [Classical.not_not]; exact setM_okT _ _ _), if_neg (by simp only [Classical.not_not]; exact ⟨q16_okP, by decide, by decide⟩), if_neg (fun h => by have := h.2; have := T1_len; omega)]
theorem T1_mem (x : Rt) : x ∈ T1 ↔ x = ⟨tenP, 1⟩ := by
  unfold T1 setM
  rw [if_pos T1_E, setL_mem List.Pairwise.nil]
  simp
theorem T2_mem (x : Rt) : x ∈ T2 ↔ x = ⟨q16, 2⟩ ∨ (x = ⟨tenP, 1⟩ ∧ x.p ≠ q16) := by
  unfold T2
  unfold setM
  rw [if_pos T2_E, setL_mem (show T1.Pairwise ltR from (setM_okT [] tenP 1).2.2), T1_mem]
theorem T2_okT : okT T2 := setM_okT _ _ _
theorem ten_ne : tenP ≠ q16 := fun h => by
  have h1 := congrArg Px.n h
  revert h1
  decide
theorem T2_a : lgE T2 tenA = 0 ∧ lgR T2 tenA = ⟨q16, 2⟩ ∧ lgB T2 tenA = true := by
  have e : lgE T2 tenA = 0 := by unfold lgE; rw [if_neg (by simpa using T2_okT), if_neg (by simpa using ten_okA)]
  have h : Long T2 tenA ⟨q16, 2⟩ := ⟨(T2_mem _).2 (.inl rfl), q16_has, fun y hy _ => by
    rcases (T2_mem y).1 hy with h | ⟨h, _⟩
    · rw [h]; exact Int.le_refl _
    · rw [h]; decide⟩
  obtain ⟨h1, h2⟩ := long_is T2_okT.2.2 h
  exact ⟨e, by unfold lgR; rw [if_pos e, h2], by unfold lgB; rw [if_pos e, h1]⟩
theorem T2_b : lgE T2 tw2 = 0 ∧ lgR T2 tw2 = ⟨tenP, 1⟩ ∧ lgB T2 tw2 = true := by
  have e : lgE T2 tw2 = 0 := by unfold lgE; rw [if_neg (by simpa using T2_okT), if_neg (by simpa using tw2_okA)]
  have h : Long T2 tw2 ⟨tenP, 1⟩ := ⟨(T2_mem _).2 (.inr ⟨rfl, ten_ne⟩), ten_has2, fun y hy hh => by
    rcases (T2_mem y).1 hy with h | ⟨h, _⟩
    · rw [h] at hh; exact absurd hh q16_not
    · rw [h]; exact Int.le_refl _⟩
  obtain ⟨h1, h2⟩ := long_is T2_okT.2.2 h
  exact ⟨e, by unfold lgR; rw [if_pos e, h2], by unfold lgB; rw [if_pos e, h1]⟩
theorem build_b1 (w : World) : (buildSem 61 #[(0, .int .u8 10)]).run Tryd.prog w = .ok (.agg ten8.cs) w := by kernel_rfl
theorem build_b2 (w : World) : (buildSem 61 #[(0, .int .u8 10), (1, .int .u8 1)]).run Tryd.prog w = .ok (.agg q16B.cs) w := by kernel_rfl
theorem build_b3 (w : World) : (buildSem 61 #[(0, .int .u8 10), (1, .int .u8 2)]).run Tryd.prog w = .ok (.agg tw2B.cs) w := by kernel_rfl
attribute [local go_sem ↓] load_b16_rule store_b16_rule load_ad_rule store_ad_rule load_px_rule store_px_rule eq_b16_rule eq_ad_rule eq_px_rule load_rt_rule store_rt_rule build_ad_rule build_px_rule build_b16_rule build_rt_rule load_tab_rule build_tab_rule store_tab_rule tbuild_rule tapp_rule tcopy_rule

end Go.Proofs.YtclkfmblogkakaaDoor
namespace Go.Proofs.YtclkfmblogkakaaDoor
open Go.ChangeShapes Go.WideShapes Go.ChangeAt Go.RowKit Go.Shelf
set_option linter.unusedVariables false
set_option maxRecDepth 100000

theorem c_int : Tryd.prog.cellsOf 3 = 1 := by kernel_rfl
theorem c_u8 : Tryd.prog.cellsOf 5 = 1 := by kernel_rfl
theorem c_b16 : Tryd.prog.cellsOf 61 = 16 := by kernel_rfl
theorem c_ad : Tryd.prog.cellsOf 63 = 17 := by kernel_rfl
theorem c_px : Tryd.prog.cellsOf 65 = 18 := by kernel_rfl
def natOf : Option Value → Nat
  | some (.int _ n) => n.toNat
  | _ => 0
theorem b16_cells {H : Type} {enc : TypeId × Value → H} {W : World} {sp : Nat → Bool} {held : Bool} {fuel : Nat} {cs : List Value} {y : DataW H × List MemPlace} (h : DataW.trod enc Tryd.prog W 0 sp held fuel 61 cs = some y) : ∃ b : B16, cs = b.cs.toList := by
  obtain ⟨xs, m, _, _, hlen, hxs, hg⟩ := DataW.trod_array Tryd.underlying61 h
  rw [c_b16] at hlen
  have hone : ∀ i, i < 16 → ∃ n : Nat, n < 256 ∧ cs[i]? = some (byc n) := by
    intro i hi
    have h1 := hg i hi
    rw [c_u8, Nat.mul_one] at h1
    have hx : xs[i]? = some xs[i] := List.getElem?_eq_getElem (by omega)
    rw [hx] at h1
    obtain ⟨u, e, _, f⟩ := DataW.trod_int Tryd.underlying5 h1
    have hb := bounds_u8 f
    refine ⟨u.toNat, by omega, ?_⟩
    have hc : cs[i]? = some cs[i] := List.getElem?_eq_getElem (by omega)
    have e2 : (cs.drop i).take 1 = [cs[i]] := by
      rw [List.take_one, List.head?_drop, hc]
      rfl
    rw [e2] at e
    injection e with e3
    rw [hc, e3]
    unfold byc
    congr 2
    omega
  refine ⟨⟨(List.range 16).map fun i => natOf cs[i]?, by simp, fun n hn => ?_⟩, ?_⟩
  · obtain ⟨i, hi, rfl⟩ := List.mem_map.1 hn
    obtain ⟨k, hk, e⟩ := hone i (List.mem_range.1 hi)
    rw [e]
    simpa [natOf, byc] using hk
  · apply List.ext_getElem?
    intro i
    by_cases hi : i < 16
    · obtain ⟨k, hk, e⟩ := hone i hi
      rw [e]
      simp [B16.cs, hi, e, natOf, byc]
    · rw [List.getElem?_eq_none (by omega), List.getElem?_eq_none (by simp [B16.cs]; omega)]
theorem ad_cells {H : Type} {enc : TypeId × Value → H} {W : World} {sp : Nat → Bool} {held : Bool} {fuel : Nat} {cs : List Value} {y : DataW H × List MemPlace} (h : DataW.trod enc Tryd.prog W 0 sp held fuel 63 cs = some y) : ∃ a : Ad, cs = a.cs.toList ∧ (Lit.int .i64 a.v).wf = true := by
  obtain ⟨xs, m, _, _, hlen, hxs, hg⟩ := DataW.trod_struct Tryd.underlying63 h
  rw [c_ad] at hlen
  obtain ⟨y0, y1, rfl⟩ : ∃ y0 y1, xs = [y0, y1] := by
    match xs, hxs with
    | [a, b], _ => exact ⟨a, b, rfl⟩
  have t0 : DataW.trod enc Tryd.prog W 0 sp held m 3 (List.take (Tryd.prog.cellsOf 3) (List.drop 0 cs)) = some y0 := hg 0 _ rfl
  rw [c_int] at t0
  have t1 : DataW.trod enc Tryd.prog W 0 sp held m 61 (List.take (Tryd.prog.cellsOf 61) (List.drop 1 cs)) = some y1 := hg 1 _ rfl
  rw [c_b16] at t1
  obtain ⟨u0, e0, _, f0⟩ := DataW.trod_int Tryd.underlying3 t0
  obtain ⟨b, hb⟩ := b16_cells t1
  refine ⟨⟨u0, b⟩, ?_, f0⟩
  rw [show (Ad.mk u0 b).cs.toList = [Value.int .i64 u0] ++ b.cs.toList from by simp [Ad.cs], ← hb, ← e0, List.drop_zero, List.take_of_length_le (l := cs.drop 1) (by simp; omega)]
  exact (List.take_append_drop 1 cs).symm
theorem px_cells {H : Type} {enc : TypeId × Value → H} {W : World} {sp : Nat → Bool} {held : Bool} {fuel : Nat} {cs : List Value} {y : DataW H × List MemPlace} (h : DataW.trod enc Tryd.prog W 0 sp held fuel 65 cs = some y) : ∃ p : Px, cs = p.cs.toList ∧ (Lit.int .i64 p.n).wf = true ∧ (Lit.int .i64 p.a.v).wf = true := by
  obtain ⟨xs, m, _, _, hlen, hxs, hg⟩ := DataW.trod_struct Tryd.underlying65 h
  rw [c_px] at hlen
  obtain ⟨y0, y1, rfl⟩ : ∃ y0 y1, xs = [y0, y1] := by
    match xs, hxs with
    | [a, b], _ => exact ⟨a, b, rfl⟩
  have t0 : DataW.trod enc Tryd.prog W 0 sp held m 63 (List.take (Tryd.prog.cellsOf 63) (List.drop 0 cs)) = some y0 := hg 0 _ rfl
  rw [c_ad] at t0
  have t1 : DataW.trod enc Tryd.prog W 0 sp held m 3 (List.take (Tryd.prog.cellsOf 3) (List.drop 17 cs)) = some y1 := hg 1 _ rfl
  rw [c_int] at t1
  obtain ⟨u0, e0, _, f0⟩ := DataW.trod_int Tryd.underlying3 t1
  obtain ⟨a, ha, fa⟩ := ad_cells t0
  refine ⟨⟨a, u0⟩, ?_, f0, fa⟩
  rw [show (Px.mk a u0).cs.toList = a.cs.toList ++ [Value.int .i64 u0] from by simp [Px.cs], ← ha, ← e0, List.drop_zero, List.take_of_length_le (l := cs.drop 17) (by simp; omega)]
  exact (List.take_append_drop 17 cs).symm
theorem ad_of {H : Type} {enc : TypeId × Value → H} {W : World} {sp : Nat → Bool} {base : Nat} {held : Bool} {v : Value} {d : DataW H} {p : List MemPlace} (hv : Value.okWide Tryd.prog W .any base 63 v) (h : DataW.Trod enc Tryd.prog W 0 sp held 63 v d p) : ∃ a : Ad, v = .agg a.cs ∧ (Lit.int .i64 a.v).wf = true := by
  obtain ⟨cs, rfl, hsz⟩ := okWide_struct Tryd.underlying63 hv
  obtain ⟨fuel, hf⟩ := h
  obtain ⟨a, ha, fa⟩ := ad_cells (show DataW.trod enc Tryd.prog W 0 sp held fuel 63 cs.toList = some _ from hf)
  exact ⟨a, congrArg Value.agg (Array.toList_inj.1 ha), fa⟩
theorem px_of {H : Type} {enc : TypeId × Value → H} {W : World} {sp : Nat → Bool} {base : Nat} {held : Bool} {v : Value} {d : DataW H} {p : List MemPlace} (hv : Value.okWide Tryd.prog W .any base 65 v) (h : DataW.Trod enc Tryd.prog W 0 sp held 65 v d p) : ∃ a : Px, v = .agg a.cs ∧ (Lit.int .i64 a.n).wf = true ∧ (Lit.int .i64 a.a.v).wf = true := by
  obtain ⟨cs, rfl, hsz⟩ := okWide_struct Tryd.underlying65 hv
  obtain ⟨fuel, hf⟩ := h
  obtain ⟨a, ha, fn, fa⟩ := px_cells (show DataW.trod enc Tryd.prog W 0 sp held fuel 65 cs.toList = some _ from hf)
  exact ⟨a, congrArg Value.agg (Array.toList_inj.1 ha), fn, fa⟩

def laidAll : List (String × DataW Unit) := [("junctionbox/prefix.widths", Rows.laid_junctionbox_prefix_widths)]
theorem gAll : Tryd.prog.globalNamed "junctionbox/prefix.widths" = some 0 := by kernel_rfl
theorem tAll : (Tryd.prog.globals[0]?).map (·.type) = some 140 := by kernel_rfl
theorem door_met (os : Os) (args : Array Value) : laidMetH Tryd.prog laidAll ((World.doorLaid Tryd.prog 14 os).forCall (fun _ _ => 0) ⟨#[], args, []⟩).memory :=
  laidMetH_of_parts3 (fuel := 8) (laidMet_of_run' 8 (by kernel_rfl) (by kernel_rfl)) (by kernel_rfl) (by kernel_rfl)
theorem of_laid {W : World} (h : laidMetH Tryd.prog laidAll W) : Wid W := by
  rw [MakeChecks.laidMetH_plain _ _ _ (by kernel_rfl)] at h
  obtain ⟨ps, ⟨g0, t0, cs0, f0, p0, q0, hg0, ht0, hv0, hd0, _, _⟩, _, _⟩ := h
  obtain rfl := Option.some.inj (gAll.symm.trans hg0)
  obtain rfl := Option.some.inj (tAll.symm.trans ht0)
  obtain ⟨xs, m, _, hx, hlen, hxs, hg⟩ := DataW.trod_array Tryd.underlying140 hd0
  have hlen7 : cs0.toList.length = 7 := hlen.trans (by kernel_rfl)
  have hone : ∀ i (u : Int), i < 7 → (xs.map (·.1))[i]? = some (.lit (.int .i64 u)) → W.cell? ⟨0, i, none⟩ = some (.int .i64 u) := by
    intro i u hi hu
    have h1 := hg i hi
    rw [c_int, Nat.mul_one] at h1
    have hxi : xs[i]? = some xs[i] := List.getElem?_eq_getElem (by omega)
    rw [hxi] at h1
    obtain ⟨u', e, e', _⟩ := DataW.trod_int Tryd.underlying3 h1
    have hu2 : u' = u := by
      rw [List.getElem?_map, hxi, Option.map_some, e'] at hu
      simpa using hu
    subst hu2
    have hc : cs0.toList[i]? = some cs0.toList[i] := List.getElem?_eq_getElem (by omega)
    have e2 : (cs0.toList.drop i).take 1 = [cs0.toList[i]] := by
      rw [List.take_one, List.head?_drop, hc]
      rfl
    rw [e2] at e
    injection e with e3
    have hcell := World.var?_cell hg0 hv0 i
    rw [hcell, ← Array.getElem?_toList, hc, e3]
  have hm : xs.map (·.1) = [.lit (.int .i64 0), .lit (.int .i64 0), .lit (.int .i64 0), .lit (.int .i64 0), .lit (.int .i64 32), .lit (.int .i64 0), .lit (.int .i64 128)] := by
    have h9 := congrArg Prod.fst hx
    simp only [] at h9
    exact (DataW.agg.inj h9).symm
  intro j hj
  rw [hm] at hone
  have h7 : j = 0 ∨ j = 1 ∨ j = 2 ∨ j = 3 ∨ j = 4 ∨ j = 5 ∨ j = 6 := by omega
  rcases h7 with rfl | rfl | rfl | rfl | rfl | rfl | rfl <;> exact hone _ _ (by omega) rfl
end Go.Proofs.YtclkfmblogkakaaDoor
namespace Go.Proofs.YtclkfmblogkakaaDoor
open Go.RowKit Go.Shelf Go.ChangeShapes Go.WideShapes Go.ChangeAt
set_option linter.unusedVariables false
set_option maxRecDepth 100000

/-! ### Rows are compared -/
theorem eq_rt_rule (a b : Value) : Op.equalIn 10000 74 a b = eqSem 74 a b := rfl
theorem stood_rt : Tryd.prog.stoodInHeld 74 = false := by kernel_rfl
theorem part_p (r : Rt) (w : World) : (part 65 r.cs 0).run Tryd.prog w = .ok (.agg r.p.cs) w := by
  have hagg : (isAgg 65).run Tryd.prog w = .ok true w := by kernel_rfl
  have hn : (sizeOf 65).run Tryd.prog w = .ok 18 w := by kernel_rfl
  have e : r.cs.extract 0 (0 + 18) = r.p.cs := by
    apply Array.ext_getElem?
    intro j
    rw [Array.getElem?_extract, r.size]
    by_cases hj : j < 18
    · rw [if_pos (by omega), Nat.zero_add, r.cp j hj]
    · rw [if_neg (by omega), Array.getElem?_eq_none (by rw [Px.size]; omega)]
  unfold part
  simp only [Sem.run_bind, hagg, hn, Result.andThen_ok, if_true, r.size, e]
  first | rfl | (simp; rfl) | simp
theorem part_h (r : Rt) (w : World) : (part 3 r.cs 18).run Tryd.prog w = .ok (.int .i64 r.h) w := by
  have hagg : (isAgg 3).run Tryd.prog w = .ok false w := by kernel_rfl
  unfold part
  simp only [Sem.run_bind, hagg, Result.andThen_ok, r.ch]
  rfl
theorem equal_rt (d : Nat) (p q : Rt) (w : World) : (Op.equalIn (d + 5) 74 (.agg p.cs) (.agg q.cs)).run Tryd.prog w = .ok (decide (p = q)) w := by
  rw [show d + 5 = (d + 4) + 1 from rfl, Op.equalIn]
  have hu := run_underlying (P := Tryd.prog) Tryd.underlying74 w
  have h2 := fun x y => equal_int (d + 3) x y w
  have h3 := fun x y => equal_px d x y w
  simp only [Sem.run_bind, hu, Result.andThen_ok, run_prog, stood_rt]
  simp only [Bool.false_eq_true, if_false, List.forIn_toArray, List.forIn_cons, List.forIn_nil, Sem.run_bind, Sem.run_pure, Result.andThen_ok]
  simp only [show ("Prefix" ≠ "_") = True from by simp, show ("Hop" ≠ "_") = True from by simp, if_true, Sem.run_bind, Result.andThen_ok, part_p, part_h, h2, h3]
  by_cases hv : p.p = q.p
  · have hd : (!decide (p.p = q.p)) = false := by simp [hv]
    simp only [hd, Bool.false_eq_true, if_false, Sem.run_pure, Sem.run_bind, Result.andThen_ok, part_h, h2]
    by_cases hb : p.h = q.h
    · have hd2 : (!decide (p.h = q.h)) = false := by simp [hb]
      have he : decide (p = q) = true := decide_eq_true (Rt.same.2 ⟨hv, hb⟩)
      simp only [hd2, Bool.false_eq_true, if_false, Sem.run_pure, Result.andThen_ok, he]
    · have hd2 : (!decide (p.h = q.h)) = true := by simp [hb]
      have he : decide (p = q) = false := decide_eq_false (fun h => hb (Rt.same.1 h).2)
      simp only [hd2, if_true, Sem.run_pure, Result.andThen_ok, he]
  · have hd : (!decide (p.p = q.p)) = true := by simp [hv]
    have he : decide (p = q) = false := decide_eq_false (fun h => hv (Rt.same.1 h).1)
    simp only [hd, if_true, Sem.run_pure, Result.andThen_ok, he]
theorem eqR (a b : Rt) (w : World) : (eqSem 74 (.agg a.cs) (.agg b.cs)).run Tryd.prog w = .ok (decide (a = b)) w := by
  unfold eqSem
  obtain ⟨d, hd⟩ : ∃ d, d + 5 = 10000 := ⟨9995, rfl⟩
  rw [← hd]
  exact equal_rt d a b w

/-! ### A table that is data -/
theorem c_rt : Tryd.prog.cellsOf 74 = 19 := by kernel_rfl
theorem c_sl : Tryd.prog.cellsOf 39 = 1 := by kernel_rfl
theorem c_tab : Tryd.prog.cellsOf 41 = 1 := by kernel_rfl
theorem rt_cells {H : Type} {enc : TypeId × Value → H} {W : World} {sp : Nat → Bool} {held : Bool} {fuel : Nat} {cs : List Value} {y : DataW H × List MemPlace} (h : DataW.trod enc Tryd.prog W 0 sp held fuel 74 cs = some y) : ∃ r : Rt, cs = r.cs.toList := by
  obtain ⟨xs, m, _, _, hlen, hxs, hg⟩ := DataW.trod_struct Tryd.underlying74 h
  rw [c_rt] at hlen
  obtain ⟨y0, y1, rfl⟩ : ∃ y0 y1, xs = [y0, y1] := by
    match xs, hxs with
    | [a, b], _ => exact ⟨a, b, rfl⟩
  have t0 : DataW.trod enc Tryd.prog W 0 sp held m 65 (List.take (Tryd.prog.cellsOf 65) (List.drop 0 cs)) = some y0 := hg 0 _ rfl
  rw [c_px] at t0
  have t1 : DataW.trod enc Tryd.prog W 0 sp held m 3 (List.take (Tryd.prog.cellsOf 3) (List.drop 18 cs)) = some y1 := hg 1 _ rfl
  rw [c_int] at t1
  obtain ⟨u0, e0, _, f0⟩ := DataW.trod_int Tryd.underlying3 t1
  obtain ⟨p, hp, _, _⟩ := px_cells t0
  refine ⟨⟨p, u0⟩, ?_⟩
  rw [show (Rt.mk p u0).cs.toList = p.cs.toList ++ [Value.int .i64 u0] from by simp [Rt.cs], ← hp, ← e0, List.drop_zero, List.take_of_length_le (l := cs.drop 18) (by simp; omega)]
  exact (List.take_append_drop 18 cs).symm
theorem rows_of {H : Type} {enc : TypeId × Value → H} {W : World} {sp : Nat → Bool} {held : Bool} {fuel : Nat} {cs : List Value} {y : DataW H × List MemPlace} (h : DataW.trod enc Tryd.prog W 0 sp held fuel 39 cs = some y) : ∃ a n c L, cs = [.slice a n c] ∧ L.length = n ∧ Tbl W a c L := by
  rcases Go.Deep.open_slice Tryd.underlying39 h with ⟨hcs, _⟩ | ⟨x, len', cap', q, nn, Dt, Pl, hcs, _, hl, hm, hq, _, hi⟩
  · exact ⟨none, 0, 0, [], hcs, rfl, Tbl.none W⟩
  · have hex : ∀ i, i < len' → ∃ y : Rt, ∀ j, j < 19 → W.cell? (x.add (i * 19 + j)) = (y.cs)[j]? := by
      intro i hil
      obtain ⟨cs', hc', ht'⟩ := hi i (by rw [hq]; split <;> omega)
      rw [c_rt] at hc'
      obtain ⟨_, hlen, hat⟩ := World.cells?_some hc'
      obtain ⟨y, rfl⟩ := rt_cells ht'
      refine ⟨y, fun j hj => ?_⟩
      have h9 := hat j hj
      rw [Go.Deep.add_add] at h9
      rw [h9]
      simp
    obtain ⟨f, hf2⟩ : ∃ f : Nat → Rt, ∀ i, i < len' → ∀ j, j < 19 → W.cell? (x.add (i * 19 + j)) = ((f i).cs)[j]? :=
      ⟨fun i => if h : i < len' then (hex i h).choose else Rt.zero, fun i hil => by simp only [dif_pos hil]; exact (hex i hil).choose_spec⟩
    refine ⟨some x, len', cap', (List.range len').map f, hcs, by simp, ?_, by simpa using hl, hm, fun h => by cases h⟩
    by_cases h0 : len' = 0
    · left; rw [h0]; rfl
    · right
      have h1 := hf2 0 (by omega) 0 (by omega)
      have h2 : ((f 0).cs)[0]? = some (.int .i64 (f 0).p.a.v) := by rw [Rt.cp _ _ (by omega), Px.ca _ _ (by omega), Ad.c0]
      rw [h2] at h1
      obtain ⟨b, o, s⟩ := x
      obtain rfl : s = none := by simpa [Addr.add] using World.cell?_spot h1
      refine ⟨b, o, rfl, ?_, fun i hi j hj => ?_⟩
      · have := cell_lt h1
        simpa [Addr.add_lit] using this
      · have hil : i < len' := by simpa using hi
        have h3 := hf2 i hil j hj
        rw [Addr.add_lit] at h3
        rw [Nat.add_assoc, h3]
        congr 2
        simp [rt, hil]
theorem tab_of {H : Type} {enc : TypeId × Value → H} {W : World} {sp : Nat → Bool} {base : Nat} {held : Bool} {v : Value} {d : DataW H} {p : List MemPlace} (hv : Value.okWide Tryd.prog W .any base 41 v) (h : DataW.Trod enc Tryd.prog W 0 sp held 41 v d p) : ∃ a n c L, v = .agg #[.slice a n c] ∧ L.length = n ∧ Tbl W a c L := by
  obtain ⟨cs, rfl, hsz⟩ := okWide_struct Tryd.underlying41 hv
  obtain ⟨fuel, hf⟩ := h
  obtain ⟨xs, m, _, _, hlen, hxs, hg⟩ := DataW.trod_struct Tryd.underlying41 (show DataW.trod enc Tryd.prog W 0 sp held fuel 41 cs.toList = some _ from hf)
  rw [c_tab] at hlen
  obtain ⟨y0, rfl⟩ : ∃ y0, xs = [y0] := by
    match xs, hxs with
    | [a], _ => exact ⟨a, rfl⟩
  have t0 : DataW.trod enc Tryd.prog W 0 sp held m 39 (List.take (Tryd.prog.cellsOf 39) (List.drop 0 cs.toList)) = some y0 := hg 0 _ rfl
  rw [c_sl, List.drop_zero, List.take_of_length_le (by omega)] at t0
  obtain ⟨a, n, c, L, h1, h2, h3⟩ := rows_of t0
  exact ⟨a, n, c, L, congrArg Value.agg (Array.toList_inj.1 (by rw [h1])), h2, h3⟩
theorem rt_of {H : Type} {enc : TypeId × Value → H} {W : World} {sp : Nat → Bool} {base : Nat} {held : Bool} {v : Value} {d : DataW H} {p : List MemPlace} (hv : Value.okWide Tryd.prog W .any base 74 v) (h : DataW.Trod enc Tryd.prog W 0 sp held 74 v d p) : ∃ r : Rt, v = .agg r.cs := by
  obtain ⟨cs, rfl, hsz⟩ := okWide_struct Tryd.underlying74 hv
  obtain ⟨fuel, hf⟩ := h
  obtain ⟨r, hr⟩ := rt_cells (show DataW.trod enc Tryd.prog W 0 sp held fuel 74 cs.toList = some _ from hf)
  exact ⟨r, congrArg Value.agg (Array.toList_inj.1 hr)⟩

/-! ### What setting a prefix makes of matches -/
section
variable {L : List Rt} {p : Px} {h : Int} {a : Ad}
theorem setM_mem (e : setE L p h = 0) (x : Rt) : x ∈ setM L p h ↔ x = ⟨p, h⟩ ∨ (x ∈ L ∧ x.p ≠ p) := by
  unfold setM
  rw [if_pos e]
  exact setL_mem (setE_ok e).1.2.2 p h x
theorem set_miss (e : setE L p h = 0) (hn : ¬ hasM p a) : longB (setM L p h) a = longB L a ∧ longR (setM L p h) a = longR L a := by
  have hL := (setE_ok e).1.2.2
  have hU := (setM_okT L p h).2.2
  rcases long_ways hL a with ⟨h1, h2⟩ | ⟨h1, h2, h3⟩
  · have hl : Long (setM L p h) a (longR L a) := ⟨(setM_mem e _).2 (.inr ⟨h2.1, fun q => hn (by rw [← q]; exact h2.2.1)⟩), h2.2.1, fun y hy hh => by
      rcases (setM_mem e y).1 hy with q | ⟨q, _⟩
      · rw [q] at hh; exact absurd hh hn
      · exact h2.2.2 y q hh⟩
    obtain ⟨g1, g2⟩ := long_is hU hl
    exact ⟨g1.trans h1.symm, g2⟩
  · obtain ⟨g1, g2⟩ := long_none hU (a := a) (fun y hy hh => by
      rcases (setM_mem e y).1 hy with q | ⟨q, _⟩
      · rw [q] at hh; exact hn hh
      · exact h3 y q hh)
    exact ⟨g1.trans h1.symm, g2.trans h2.symm⟩
theorem set_shorter (e : setE L p h = 0) (ht : longB L a = true) (hn : p.n < (longR L a).p.n) : longB (setM L p h) a = true ∧ longR (setM L p h) a = longR L a := by
  have hL := (setE_ok e).1.2.2
  rcases long_ways hL a with ⟨h1, h2⟩ | ⟨h1, _⟩
  · refine long_is (setM_okT L p h).2.2 ⟨(setM_mem e _).2 (.inr ⟨h2.1, fun q => by rw [q] at hn; omega⟩), h2.2.1, fun y hy hh => ?_⟩
    rcases (setM_mem e y).1 hy with q | ⟨q, _⟩
    · rw [q]; exact Int.le_of_lt hn
    · exact h2.2.2 y q hh
  · rw [ht] at h1; cases h1
theorem set_longer (e : setE L p h = 0) (hp : hasM p a) (hn : longB L a = true → (longR L a).p.n ≤ p.n) : longB (setM L p h) a = true ∧ longR (setM L p h) a = ⟨p, h⟩ := by
  have hL := (setE_ok e).1.2.2
  refine long_is (setM_okT L p h).2.2 ⟨(setM_mem e _).2 (.inl rfl), hp, fun y hy hh => ?_⟩
  rcases (setM_mem e y).1 hy with q | ⟨q, _⟩
  · rw [q]; exact Int.le_refl _
  · rcases long_ways hL a with ⟨h1, h2⟩ | ⟨_, _, h3⟩
    · exact Int.le_trans (h2.2.2 y q hh) (hn h1)
    · exact absurd hh (h3 y q)
end
end Go.Proofs.YtclkfmblogkakaaDoor
namespace Go.Proofs.YtclkfmblogkakaaDoor
open Go.RowKit Go.Shelf
set_option linter.unusedVariables false
set_option maxRecDepth 100000
attribute [local go_sem ↓] load_b16_rule store_b16_rule load_ad_rule store_ad_rule load_px_rule store_px_rule eq_b16_rule eq_ad_rule eq_px_rule load_rt_rule store_rt_rule build_ad_rule build_px_rule build_b16_rule build_rt_rule load_tab_rule build_tab_rule store_tab_rule tbuild_rule tapp_rule tcopy_rule eq_rt_rule

theorem tapp_none {w : World} (ty : TypeId) {B : Nat} {v : Value} {L : List Rt} (h : OwnT w B v L) : (tappSem ty #[v, .slice none 0 0]).run Tryd.prog w = .ok v w := by
  obtain ⟨i0, hi, hz0, hz1, hz2⟩ := info_parts info_rt
  exact run_append_owned_none (P := Tryd.prog) w B 39 ty 74 i0 19 Tryd.underlying39 hi v L.length (rtcs L) h
end Go.Proofs.YtclkfmblogkakaaDoor
namespace Go.Proofs.YtclkfmblogkakaaDoor
open Go.RowKit Go.Shelf
set_option linter.unusedVariables false
set_option maxRecDepth 100000

def tclearSem (ty : TypeId) (args : Array Value) : Sem Value := Builtin.clear_ #[39] ty args
theorem tclear_rule (ty : TypeId) (args : Array Value) : Builtin.clear_ #[39] ty args = tclearSem ty args := rfl
theorem zero_once : (Builtin.zeroCells (Value.agg Rt.zero.cs).cells 1).toList = Rt.zero.cs.toList := by kernel_rfl
theorem tclear_run {w : World} {g o k : Nat} {cur : Array Value} (ty : TypeId) (cc : Nat) (hk : k = 1) (hg : Blk w g 74 cur) (hcur : o + 19 ≤ cur.size) :
    (tclearSem ty #[.slice (some ⟨g, o, none⟩) k cc]).run Tryd.prog w = .ok (.tuple #[]) (w.setRow g (layC o Rt.zero.cs.toList cur.toList).toArray) := by
  subst hk
  have h19 : Rt.zero.cs.toList.length = 19 := by simp [Rt.size]
  have hst := run_storeCells_at Tryd.prog g o 74 Rt.zero.cs.toList 0 cur w hg (by omega) (fun u hu => Array.all_eq_true_iff_forall_mem.1 Rt.zero.one u (by simpa using hu))
  have hz := (zero_of_info z_rt).1 w
  rw [Nat.add_zero] at hst
  unfold tclearSem layC
  simp [Builtin.clear_, run_underlying Tryd.underlying39, hz, zero_once, hst]
attribute [local go_sem ↓] tbuild_rule tapp_rule tcopy_rule tclear_rule
end Go.Proofs.YtclkfmblogkakaaDoor
namespace Go.Proofs.YtclkfmblogkakaaDoor
open Go.RowKit Go.Shelf
set_option linter.unusedVariables false
set_option maxRecDepth 100000
attribute [local go_sem ↓] load_b16_rule store_b16_rule load_ad_rule store_ad_rule load_px_rule store_px_rule eq_b16_rule eq_ad_rule eq_px_rule load_rt_rule store_rt_rule build_ad_rule build_px_rule build_b16_rule build_rt_rule load_tab_rule build_tab_rule store_tab_rule tbuild_rule tapp_rule tcopy_rule eq_rt_rule tclear_rule

noncomputable def getB (L : List Rt) (p : Px) : Bool := decide (okT L) && decide (ixM L p ≠ -1)
noncomputable def getV (L : List Rt) (p : Px) : Int := if okT L then (if ixM L p = -1 then 0 else (rt L (ixM L p).toNat).h) else 0
set_option maxHeartbeats 4000000 in
theorem get_any (a : Option Addr) (n c : Nat) (L : List Rt) (p : Px) (w : World) (hW : Wid w) (hn : L.length = n) (hT : Tbl w a c L) :
    Calls Tryd.prog 32 #[.agg #[.slice a n c], .agg p.cs] w fun e w' => e = .returned (.tuple #[.int .i64 (getV L p), .bool (getB L p)]) ∧ Below w.heap.size w w' := by
  have hR := hT.at'
  have hm : n ≤ 9223372036854775807 := by have := hT.le; have := hT.cap; unfold maxLen at this; omega
  obtain ⟨W1, hW1⟩ : ∃ W1, (w.alloc (.cells #[.slice a n c] 41)).alloc (.cells p.cs 65) = W1 := ⟨_, rfl⟩
  have hb1 : Below w.heap.size w W1 := by rw [← hW1]; exact (((Below.refl w.heap.size w).alloc (Nat.le_refl _) _).alloc (by simp) _)
  have b1 : Blk W1 w.heap.size 41 #[.slice a n c] := by
    have h9 := (Blk.new w 41 #[.slice a n c]).alloc (.cells p.cs 65)
    rwa [hW1] at h9
  have b2 : Blk W1 (w.heap.size + 1) 65 p.cs := by
    have h9 := Blk.new (w.alloc (.cells #[.slice a n c] 41)) 65 p.cs
    rwa [World.size_alloc, hW1] at h9
  have LT := tab_t b1
  have CT := tab_c b1
  have LX := px_p b2
  have HR : ∀ w', Below W1.heap.size W1 w' → RowsAt w' a L := fun w' h => (hR.later hb1).later h
  have HW : ∀ w', Below W1.heap.size W1 w' → Wid w' := fun w' h => (hW.later hb1).later h
  have hTW : ∀ w', Below W1.heap.size W1 w' → Tbl w' a c L := fun w' h => (hT.later hb1).later h
  have h0 : Below W1.heap.size W1 W1 := Below.refl _ _
  have HB := Lib.hid hb1
  have HCK := fun w' h => tcheck_any a n c L w' (HW w' h) hn hm (HR w' h)
  by_cases h1 : okT L
  · rw [eT_ok h1] at HCK
    have HLI := fun w' h => last_is a n c L p w' hn hm (HR w' h)
    have e3 : lastM (isQ p) L n = ixM L p := by unfold ixM; rw [hn]
    rw [e3] at HLI
    rcases ix_spec L p with ⟨i, i1, i2, i3, i4⟩ | ⟨i1, i2⟩
    · rw [i2] at HLI
      have di : ((i : Int) == -1) = false := by simp
      have e0 : getV L p = (rt L i).h := by unfold getV; rw [if_pos h1, i2, if_neg (by omega), Int.toNat_natCast]
      have e1 : getB L p = true := by unfold getB; rw [i2, decide_eq_true h1]; simp
      have HE := Lib.hid (And.intro e0 e1)
      obtain ⟨g, o, rfl, _⟩ := (HR W1 h0).spot i1
      have LH : ∀ w', Below W1.heap.size W1 w' → w'.cell? ⟨g, o + i * 19 + 18, none⟩ = some (.int .i64 (rt L i).h) := fun w' h => by
        obtain ⟨g2, o2, e, hr⟩ := (HR w' h).spot i1
        cases e
        exact hr.hop i1
      have hil : i < n := by omega
      clear hR hW b1 b2 h1 hb1 hT i1 i2 i3 i4 e3 e0 e1 HW HR hTW
      go_enter Tryd.func32, Tryd.ntmps32
      go_wp2_with (first | (go_at_call 31; refine (HCK _ (by assumption)).mono ?_; rintro e w2 ⟨rfl, hb2⟩; have hk2 : Below W1.heap.size W1 w2 := (by first | exact bel_trans (by assumption) hb2 | (subst hb2; assumption)); clear hb2) | (go_at_call 62; refine (HLI _ (by assumption)).mono ?_; rintro e w2 ⟨rfl, hb2⟩; have hk2 : Below W1.heap.size W1 w2 := (by first | exact bel_trans (by assumption) hb2 | (subst hb2; assumption)); clear hb2) | (refine wp_region_lin (fun w' => Below W1.heap.size W1 w') (by kernel_rfl) (by kernel_rfl) (bel_drew (by assumption)) ?_; (repeat (first | (refine lin_off (by rfl) ?_; (try simp only [Act.put, List.setIfInBounds_toArray, List.set_cons_zero, List.set_cons_succ])) | (refine lin_op (v := ?_) (by rfl) (fun w9 hS9 => ?_) ?_; rotate_left; (focus (((try dsimp only at hS9); go_simp; (try go_bits)) <;> with_reducible rfl)); (try simp only [Act.put, List.setIfInBounds_toArray, List.set_cons_zero, List.set_cons_succ])) | (refine lin_fn (f := 31) (by rfl) rfl rfl (enters_of Tryd.func31 (by kernel_rfl) rfl) (fun w9 hS9 => (HCK w9 hS9).mono (fun e w' h => ⟨h.1, (by first | exact bel_trans hS9 h.2 | (rw [← h.2]; exact hS9))⟩)) ?_ ?_; (focus (simp [Act.eval]; done)); (try simp only [Act.put, List.setIfInBounds_toArray, List.set_cons_zero, List.set_cons_succ])) | (refine lin_fn (f := 62) (by rfl) rfl rfl (enters_of Tryd.func62 (by kernel_rfl) rfl) (fun w9 hS9 => (HLI w9 hS9).mono (fun e w' h => ⟨h.1, (by first | exact bel_trans hS9 h.2 | (rw [← h.2]; exact hS9))⟩)) ?_ ?_; (focus (simp [Act.eval]; done)); (try simp only [Act.put, List.setIfInBounds_toArray, List.set_cons_zero, List.set_cons_succ])))); refine lin_nil (fun w8 hS8 => ?_)))
      all_goals refine bodyPost_ret (results_tmp2 rfl _ _ _) rfl ?_
      all_goals exact ⟨by rw [HE.out.1, HE.out.2]; rfl, bel_trans HB.out (by assumption)⟩
    · rw [i1] at HLI
      have di : ((-1 : Int) == -1) = true := by simp
      have e0 : getV L p = 0 := by unfold getV; rw [if_pos h1, if_pos i1]
      have e1 : getB L p = false := by unfold getB; rw [i1]; simp
      have HE := Lib.hid (And.intro e0 e1)
      clear hR hW b1 b2 h1 hb1 hT i1 i2 e3 e0 e1 HW HR hTW
      go_enter Tryd.func32, Tryd.ntmps32
      go_wp2_with (first | (go_at_call 31; refine (HCK _ (by assumption)).mono ?_; rintro e w2 ⟨rfl, hb2⟩; have hk2 : Below W1.heap.size W1 w2 := (by first | exact bel_trans (by assumption) hb2 | (subst hb2; assumption)); clear hb2) | (go_at_call 62; refine (HLI _ (by assumption)).mono ?_; rintro e w2 ⟨rfl, hb2⟩; have hk2 : Below W1.heap.size W1 w2 := (by first | exact bel_trans (by assumption) hb2 | (subst hb2; assumption)); clear hb2) | (refine wp_region_lin (fun w' => Below W1.heap.size W1 w') (by kernel_rfl) (by kernel_rfl) (bel_drew (by assumption)) ?_; (repeat (first | (refine lin_off (by rfl) ?_; (try simp only [Act.put, List.setIfInBounds_toArray, List.set_cons_zero, List.set_cons_succ])) | (refine lin_op (v := ?_) (by rfl) (fun w9 hS9 => ?_) ?_; rotate_left; (focus (((try dsimp only at hS9); go_simp; (try go_bits)) <;> with_reducible rfl)); (try simp only [Act.put, List.setIfInBounds_toArray, List.set_cons_zero, List.set_cons_succ])) | (refine lin_fn (f := 31) (by rfl) rfl rfl (enters_of Tryd.func31 (by kernel_rfl) rfl) (fun w9 hS9 => (HCK w9 hS9).mono (fun e w' h => ⟨h.1, (by first | exact bel_trans hS9 h.2 | (rw [← h.2]; exact hS9))⟩)) ?_ ?_; (focus (simp [Act.eval]; done)); (try simp only [Act.put, List.setIfInBounds_toArray, List.set_cons_zero, List.set_cons_succ])) | (refine lin_fn (f := 62) (by rfl) rfl rfl (enters_of Tryd.func62 (by kernel_rfl) rfl) (fun w9 hS9 => (HLI w9 hS9).mono (fun e w' h => ⟨h.1, (by first | exact bel_trans hS9 h.2 | (rw [← h.2]; exact hS9))⟩)) ?_ ?_; (focus (simp [Act.eval]; done)); (try simp only [Act.put, List.setIfInBounds_toArray, List.set_cons_zero, List.set_cons_succ])))); refine lin_nil (fun w8 hS8 => ?_)))
      all_goals refine bodyPost_ret (results_tmp2 rfl _ _ _) rfl ?_
      all_goals exact ⟨by rw [HE.out.1, HE.out.2]; rfl, bel_trans HB.out (by assumption)⟩
  · rw [eT_no h1] at HCK
    have e0 : getV L p = 0 := if_neg h1
    have e1 : getB L p = false := by unfold getB; rw [decide_eq_false h1]; rfl
    have HE := Lib.hid (And.intro e0 e1)
    clear hR hW b1 b2 h1 hb1 hT e0 e1 HW HR hTW
    go_enter Tryd.func32, Tryd.ntmps32
    go_wp2_with (first | (go_at_call 31; refine (HCK _ (by assumption)).mono ?_; rintro e w2 ⟨rfl, hb2⟩; have hk2 : Below W1.heap.size W1 w2 := (by first | exact bel_trans (by assumption) hb2 | (subst hb2; assumption)); clear hb2) | (refine wp_region_lin (fun w' => Below W1.heap.size W1 w') (by kernel_rfl) (by kernel_rfl) (bel_drew (by assumption)) ?_; (repeat (first | (refine lin_off (by rfl) ?_; (try simp only [Act.put, List.setIfInBounds_toArray, List.set_cons_zero, List.set_cons_succ])) | (refine lin_op (v := ?_) (by rfl) (fun w9 hS9 => ?_) ?_; rotate_left; (focus (((try dsimp only at hS9); go_simp; (try go_bits)) <;> with_reducible rfl)); (try simp only [Act.put, List.setIfInBounds_toArray, List.set_cons_zero, List.set_cons_succ])) | (refine lin_fn (f := 31) (by rfl) rfl rfl (enters_of Tryd.func31 (by kernel_rfl) rfl) (fun w9 hS9 => (HCK w9 hS9).mono (fun e w' h => ⟨h.1, (by first | exact bel_trans hS9 h.2 | (rw [← h.2]; exact hS9))⟩)) ?_ ?_; (focus (simp [Act.eval]; done)); (try simp only [Act.put, List.setIfInBounds_toArray, List.set_cons_zero, List.set_cons_succ])))); refine lin_nil (fun w8 hS8 => ?_)))
    all_goals refine bodyPost_ret (results_tmp2 rfl _ _ _) rfl ?_
    all_goals exact ⟨by rw [HE.out.1, HE.out.2]; rfl, bel_trans HB.out (by assumption)⟩
end Go.Proofs.YtclkfmblogkakaaDoor
