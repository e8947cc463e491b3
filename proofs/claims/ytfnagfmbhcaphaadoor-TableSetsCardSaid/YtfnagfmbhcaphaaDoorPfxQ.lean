/-
  What an address, a prefix and a row of bytes are that come in; what the package's own row of widths holds when the call begins. Nothing here is a statement of the document.
-/
import Derived.Test.YtfnagfmbhcaphaaDoorPfxP
import Derived.LaidMore
import Derived.Stop.Joined
import Derived.Deep.Slices
import Derived.WalkKit
import Derived.ProofKit
import Derived.OpenShut
import Derived.ShutString
import Derived.ChangeOld
import Derived.Below
import Derived.DataShut
namespace Go.Proofs.YtfnagfmbhcaphaaDoor
open Go.ChangeShapes Go.WideShapes Go.ChangeAt Go.RowKit Go.Shelf
set_option linter.unusedVariables false
set_option maxRecDepth 100000

theorem c_int : Tryd.prog.cellsOf 3 = 1 := by kernel_rfl
theorem c_u8 : Tryd.prog.cellsOf 5 = 1 := by kernel_rfl
theorem c_b16 : Tryd.prog.cellsOf 25 = 16 := by kernel_rfl
theorem c_ad : Tryd.prog.cellsOf 27 = 17 := by kernel_rfl
theorem c_px : Tryd.prog.cellsOf 29 = 18 := by kernel_rfl
def natOf : Option Value → Nat
  | some (.int _ n) => n.toNat
  | _ => 0
theorem b16_cells {H : Type} {enc : TypeId × Value → H} {W : World} {sp : Nat → Bool} {held : Bool} {fuel : Nat} {cs : List Value} {y : DataW H × List MemPlace} (h : DataW.trod enc Tryd.prog W 0 sp held fuel 25 cs = some y) : ∃ b : B16, cs = b.cs.toList := by
  obtain ⟨xs, m, _, _, hlen, hxs, hg⟩ := DataW.trod_array Tryd.underlying25 h
  rw [c_b16] at hlen
  have hone : ∀ i, i < 16 → ∃ n : Nat, n < 256 ∧ cs[i]? = some (byc n) := by
    intro i hi
    have h1 := hg i hi
    rw [c_u8, Nat.mul_one] at h1
    have hx : xs[i]? = some xs[i] := List.getElem?_eq_getElem (by omega)
    rw [hx] at h1
    obtain ⟨u, e, _, f⟩ := DataW.trod_int Tryd.underlying5 h1
    have hb := bounds_u8 f
    refine ⟨u.toNat, by omega, ?_⟩
    have hc : cs[i]? = some cs[i] := List.getElem?_eq_getElem (by omega)
    have e2 : (cs.drop i).take 1 = [cs[i]] := by
      rw [List.take_one, List.head?_drop, hc]
      rfl
    rw [e2] at e
    injection e with e3
    rw [hc, e3]
    unfold byc
    congr 2
    omega
  refine ⟨⟨(List.range 16).map fun i => natOf cs[i]?, by simp, fun n hn => ?_⟩, ?_⟩
  · obtain ⟨i, hi, rfl⟩ := List.mem_map.1 hn
    obtain ⟨k, hk, e⟩ := hone i (List.mem_range.1 hi)
    rw [e]
    simpa [natOf, byc] using hk
  · apply List.ext_getElem?
    intro i
    by_cases hi : i < 16
    · obtain ⟨k, hk, e⟩ := hone i hi
      rw [e]
      simp [B16.cs, hi, e, natOf, byc]
    · rw [List.getElem?_eq_none (by omega), List.getElem?_eq_none (by simp [B16.cs]; omega)]
theorem ad_cells {H : Type} {enc : TypeId × Value → H} {W : World} {sp : Nat → Bool} {held : Bool} {fuel : Nat} {cs : List Value} {y : DataW H × List MemPlace} (h : DataW.trod enc Tryd.prog W 0 sp held fuel 27 cs = some y) : ∃ a : Ad, cs = a.cs.toList ∧ (Lit.int .i64 a.v).wf = true := by
  obtain ⟨xs, m, _, _, hlen, hxs, hg⟩ := DataW.trod_struct Tryd.underlying27 h
  rw [c_ad] at hlen
  obtain ⟨y0, y1, rfl⟩ : ∃ y0 y1, xs = [y0, y1] := by
    match xs, hxs with
    | [a, b], _ => exact ⟨a, b, rfl⟩
  have t0 : DataW.trod enc Tryd.prog W 0 sp held m 3 (List.take (Tryd.prog.cellsOf 3) (List.drop 0 cs)) = some y0 := hg 0 _ rfl
  rw [c_int] at t0
  have t1 : DataW.trod enc Tryd.prog W 0 sp held m 25 (List.take (Tryd.prog.cellsOf 25) (List.drop 1 cs)) = some y1 := hg 1 _ rfl
  rw [c_b16] at t1
  obtain ⟨u0, e0, _, f0⟩ := DataW.trod_int Tryd.underlying3 t0
  obtain ⟨b, hb⟩ := b16_cells t1
  refine ⟨⟨u0, b⟩, ?_, f0⟩
  rw [show (Ad.mk u0 b).cs.toList = [Value.int .i64 u0] ++ b.cs.toList from by simp [Ad.cs], ← hb, ← e0, List.drop_zero, List.take_of_length_le (l := cs.drop 1) (by simp; omega)]
  exact (List.take_append_drop 1 cs).symm
theorem px_cells {H : Type} {enc : TypeId × Value → H} {W : World} {sp : Nat → Bool} {held : Bool} {fuel : Nat} {cs : List Value} {y : DataW H × List MemPlace} (h : DataW.trod enc Tryd.prog W 0 sp held fuel 29 cs = some y) : ∃ p : Px, cs = p.cs.toList ∧ (Lit.int .i64 p.n).wf = true ∧ (Lit.int .i64 p.a.v).wf = true := by
  obtain ⟨xs, m, _, _, hlen, hxs, hg⟩ := DataW.trod_struct Tryd.underlying29 h
  rw [c_px] at hlen
  obtain ⟨y0, y1, rfl⟩ : ∃ y0 y1, xs = [y0, y1] := by
    match xs, hxs with
    | [a, b], _ => exact ⟨a, b, rfl⟩
  have t0 : DataW.trod enc Tryd.prog W 0 sp held m 27 (List.take (Tryd.prog.cellsOf 27) (List.drop 0 cs)) = some y0 := hg 0 _ rfl
  rw [c_ad] at t0
  have t1 : DataW.trod enc Tryd.prog W 0 sp held m 3 (List.take (Tryd.prog.cellsOf 3) (List.drop 17 cs)) = some y1 := hg 1 _ rfl
  rw [c_int] at t1
  obtain ⟨u0, e0, _, f0⟩ := DataW.trod_int Tryd.underlying3 t1
  obtain ⟨a, ha, fa⟩ := ad_cells t0
  refine ⟨⟨a, u0⟩, ?_, f0, fa⟩
  rw [show (Px.mk a u0).cs.toList = a.cs.toList ++ [Value.int .i64 u0] from by simp [Px.cs], ← ha, ← e0, List.drop_zero, List.take_of_length_le (l := cs.drop 17) (by simp; omega)]
  exact (List.take_append_drop 17 cs).symm
theorem ad_of {H : Type} {enc : TypeId × Value → H} {W : World} {sp : Nat → Bool} {base : Nat} {held : Bool} {v : Value} {d : DataW H} {p : List MemPlace} (hv : Value.okWide Tryd.prog W .any base 27 v) (h : DataW.Trod enc Tryd.prog W 0 sp held 27 v d p) : ∃ a : Ad, v = .agg a.cs ∧ (Lit.int .i64 a.v).wf = true := by
  obtain ⟨cs, rfl, hsz⟩ := okWide_struct Tryd.underlying27 hv
  obtain ⟨fuel, hf⟩ := h
  obtain ⟨a, ha, fa⟩ := ad_cells (show DataW.trod enc Tryd.prog W 0 sp held fuel 27 cs.toList = some _ from hf)
  exact ⟨a, congrArg Value.agg (Array.toList_inj.1 ha), fa⟩
theorem px_of {H : Type} {enc : TypeId × Value → H} {W : World} {sp : Nat → Bool} {base : Nat} {held : Bool} {v : Value} {d : DataW H} {p : List MemPlace} (hv : Value.okWide Tryd.prog W .any base 29 v) (h : DataW.Trod enc Tryd.prog W 0 sp held 29 v d p) : ∃ a : Px, v = .agg a.cs ∧ (Lit.int .i64 a.n).wf = true ∧ (Lit.int .i64 a.a.v).wf = true := by
  obtain ⟨cs, rfl, hsz⟩ := okWide_struct Tryd.underlying29 hv
  obtain ⟨fuel, hf⟩ := h
  obtain ⟨a, ha, fn, fa⟩ := px_cells (show DataW.trod enc Tryd.prog W 0 sp held fuel 29 cs.toList = some _ from hf)
  exact ⟨a, congrArg Value.agg (Array.toList_inj.1 ha), fn, fa⟩

def laidAll : List (String × DataW Unit) := [("junctionbox/prefix.widths", Rows.laid_junctionbox_prefix_widths)]
theorem gAll : Tryd.prog.globalNamed "junctionbox/prefix.widths" = some 0 := by kernel_rfl
theorem tAll : (Tryd.prog.globals[0]?).map (·.type) = some 110 := by kernel_rfl
theorem door_met (os : Os) (args : Array Value) : laidMetH Tryd.prog laidAll ((World.doorLaid Tryd.prog 14 os).forCall (fun _ _ => 0) ⟨#[], args, []⟩).memory :=
  laidMetH_of_parts3 (fuel := 8) (laidMet_of_run' 8 (by kernel_rfl) (by kernel_rfl)) (by kernel_rfl) (by kernel_rfl)
theorem of_laid {W : World} (h : laidMetH Tryd.prog laidAll W) : Wid W := by
  rw [MakeChecks.laidMetH_plain _ _ _ (by kernel_rfl)] at h
  obtain ⟨ps, ⟨g0, t0, cs0, f0, p0, q0, hg0, ht0, hv0, hd0, _, _⟩, _, _⟩ := h
  obtain rfl := Option.some.inj (gAll.symm.trans hg0)
  obtain rfl := Option.some.inj (tAll.symm.trans ht0)
  obtain ⟨xs, m, _, hx, hlen, hxs, hg⟩ := DataW.trod_array Tryd.underlying110 hd0
  have hlen7 : cs0.toList.length = 7 := hlen.trans (by kernel_rfl)
  have hone : ∀ i (u : Int), i < 7 → (xs.map (·.1))[i]? = some (.lit (.int .i64 u)) → W.cell? ⟨0, i, none⟩ = some (.int .i64 u) := by
    intro i u hi hu
    have h1 := hg i hi
    rw [c_int, Nat.mul_one] at h1
    have hxi : xs[i]? = some xs[i] := List.getElem?_eq_getElem (by omega)
    rw [hxi] at h1
    obtain ⟨u', e, e', _⟩ := DataW.trod_int Tryd.underlying3 h1
    have hu2 : u' = u := by
      rw [List.getElem?_map, hxi, Option.map_some, e'] at hu
      simpa using hu
    subst hu2
    have hc : cs0.toList[i]? = some cs0.toList[i] := List.getElem?_eq_getElem (by omega)
    have e2 : (cs0.toList.drop i).take 1 = [cs0.toList[i]] := by
      rw [List.take_one, List.head?_drop, hc]
      rfl
    rw [e2] at e
    injection e with e3
    have hcell := World.var?_cell hg0 hv0 i
    rw [hcell, ← Array.getElem?_toList, hc, e3]
  have hm : xs.map (·.1) = [.lit (.int .i64 0), .lit (.int .i64 0), .lit (.int .i64 0), .lit (.int .i64 0), .lit (.int .i64 32), .lit (.int .i64 0), .lit (.int .i64 128)] := by
    have h9 := congrArg Prod.fst hx
    simp only [] at h9
    exact (DataW.agg.inj h9).symm
  intro j hj
  rw [hm] at hone
  have h7 : j = 0 ∨ j = 1 ∨ j = 2 ∨ j = 3 ∨ j = 4 ∨ j = 5 ∨ j = 6 := by omega
  rcases h7 with rfl | rfl | rfl | rfl | rfl | rfl | rfl <;> exact hone _ _ (by omega) rfl
end Go.Proofs.YtfnagfmbhcaphaaDoor
