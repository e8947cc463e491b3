/-
  Rows are compared; a table that is data; what setting a prefix makes of matches. Nothing here is a statement of the document.
-/
import Derived.Test.YtdbdmnahgkkjiaaDoorTbH
import Derived.Test.YtdbdmnahgkkjiaaDoorPfxP
import Derived.LaidMore
import Derived.Stop.Joined
import Derived.Deep.Slices
import Derived.WalkKit
import Derived.ProofKit
import Derived.OpenShut
import Derived.ShutString
import Derived.ChangeOld
import Derived.Below
import Derived.DataShut
namespace Go.Proofs.YtdbdmnahgkkjiaaDoor
open Go.RowKit Go.Shelf
set_option linter.unusedVariables false
set_option maxRecDepth 100000

def q16B : B16 := ⟨[10, 1, 0, 0, 0, 0, 0, 0, 0, 0, 0, 0, 0, 0, 0, 0], rfl, by unfold Bys; decide⟩
def tw2B : B16 := ⟨[10, 2, 0, 0, 0, 0, 0, 0, 0, 0, 0, 0, 0, 0, 0, 0], rfl, by unfold Bys; decide⟩
def q16 : Px := ⟨⟨4, q16B⟩, 16⟩
def tw2 : Ad := ⟨4, tw2B⟩
theorem q16_kept : keptB q16B 16 = q16B := B16.same rfl
theorem q16_clear : clear q16B 16 := (kept_iff _ _).1 q16_kept
theorem q16_okP : okP q16 := ⟨⟨by decide, clear_mono q16_clear (by decide)⟩, by decide, by decide, q16_clear⟩
theorem tw2_kept : keptB tw2B 16 = tw2B := B16.same rfl
theorem tw2_okA : okA tw2 := ⟨by decide, clear_mono ((kept_iff _ _).1 tw2_kept) (by decide)⟩
theorem q16_has : hasM q16 tenA := ⟨q16_okP, ten_okA, rfl, (B16.same rfl : keptB tenB 16 = q16B).symm⟩
theorem ten_has2 : hasM tenP tw2 := ⟨ten_okP, tw2_okA, rfl, (B16.same rfl : keptB tw2B 8 = ten8).symm⟩
theorem q16_not : ¬ hasM q16 tw2 := fun h => by
  have h1 : q16B = keptB tw2B 16 := h.2.2.2
  rw [tw2_kept] at h1
  have := congrArg B16.l h1
  revert this
  decide
noncomputable def T1 : List Rt := setM [] tenP 1
noncomputable def T2 : List Rt := setM T1 q16 2
theorem T1_E : setE [] tenP 1 = 0 := by
  unfold setE
  rw [if_neg (by simp [okT]), if_neg (by simp only [Classical.not_not]; exact ⟨ten_okP, by decide, by decide⟩), if_neg (fun h => by have := h.2; simp at this)]
theorem T1_len : T1.length ≤ 1 := by
  unfold T1 setM
  rw [if_pos T1_E, setL_len]
  split <;> simp
theorem T2_E : setE T1 q16 2 = 0 := by
  unfold setE
  rw [if_neg (by simp only [Classical.not_not]; exact setM_okT _ _ _), if_neg (by simp only [Classical.not_not]; exact ⟨q16_okP, by decide, by decide⟩), if_neg (fun h => by have := h.2; have := T1_len; omega)]
theorem T1_mem (x : Rt) : x ∈ T1 ↔ x = ⟨tenP, 1⟩ := by
  unfold T1 setM
  rw [if_pos T1_E, setL_mem List.Pairwise.nil]
  simp
theorem T2_mem (x : Rt) : x ∈ T2 ↔ x = ⟨q16, 2⟩ ∨ (x = ⟨tenP, 1⟩ ∧ x.p ≠ q16) := by
  unfold T2
  unfold setM
  rw [if_pos T2_E, setL_mem (show T1.Pairwise ltR from (setM_okT [] tenP 1).2.2), T1_mem]
theorem T2_okT : okT T2 := setM_okT _ _ _
theorem ten_ne : tenP ≠ q16 := fun h => by
  have h1 := congrArg Px.n h
  revert h1
  decide
theorem T2_a : lgE T2 tenA = 0 ∧ lgR T2 tenA = ⟨q16, 2⟩ ∧ lgB T2 tenA = true := by
  have e : lgE T2 tenA = 0 := by unfold lgE; rw [if_neg (by simpa using T2_okT), if_neg (by simpa using ten_okA)]
  have h : Long T2 tenA ⟨q16, 2⟩ := ⟨(T2_mem _).2 (.inl rfl), q16_has, fun y hy _ => by
    rcases (T2_mem y).1 hy with h | ⟨h, _⟩
    · rw [h]; exact Int.le_refl _
    · rw [h]; decide⟩
  obtain ⟨h1, h2⟩ := long_is T2_okT.2.2 h
  exact ⟨e, by unfold lgR; rw [if_pos e, h2], by unfold lgB; rw [if_pos e, h1]⟩
theorem T2_b : lgE T2 tw2 = 0 ∧ lgR T2 tw2 = ⟨tenP, 1⟩ ∧ lgB T2 tw2 = true := by
  have e : lgE T2 tw2 = 0 := by unfold lgE; rw [if_neg (by simpa using T2_okT), if_neg (by simpa using tw2_okA)]
  have h : Long T2 tw2 ⟨tenP, 1⟩ := ⟨(T2_mem _).2 (.inr ⟨rfl, ten_ne⟩), ten_has2, fun y hy hh => by
    rcases (T2_mem y).1 hy with h | ⟨h, _⟩
    · rw [h] at hh; exact absurd hh q16_not
    · rw [h]; exact Int.le_refl _⟩
  obtain ⟨h1, h2⟩ := long_is T2_okT.2.2 h
  exact ⟨e, by unfold lgR; rw [if_pos e, h2], by unfold lgB; rw [if_pos e, h1]⟩
theorem build_b1 (w : World) : (buildSem 34 #[(0, .int .u8 10)]).run Tryd.prog w = .ok (.agg ten8.cs) w := by kernel_rfl
theorem build_b2 (w : World) : (buildSem 34 #[(0, .int .u8 10), (1, .int .u8 1)]).run Tryd.prog w = .ok (.agg q16B.cs) w := by kernel_rfl
theorem build_b3 (w : World) : (buildSem 34 #[(0, .int .u8 10), (1, .int .u8 2)]).run Tryd.prog w = .ok (.agg tw2B.cs) w := by kernel_rfl
attribute [local go_sem ↓] load_b16_rule store_b16_rule load_ad_rule store_ad_rule load_px_rule store_px_rule eq_b16_rule eq_ad_rule eq_px_rule load_rt_rule store_rt_rule build_ad_rule build_px_rule build_b16_rule build_rt_rule load_tab_rule build_tab_rule store_tab_rule tbuild_rule tapp_rule tcopy_rule

set_option maxHeartbeats 1600000 in
theorem eight_any (w : World) : Calls Tryd.prog 22 #[] w fun e w' => e = .returned (.agg tenP.cs) ∧ Below w.heap.size w w' := by
  have B1 := build_b1
  have B2 := build_ad 4 ten8
  have B3 := build_px ⟨4, ten8⟩ 8
  have S := st_px (q := tenP) (Blk.new w 38 Px.zero.cs)
  rw [World.setRow_alloc_new] at S
  have hb := Blk.new w 38 tenP.cs
  have HX := Lib.hid (And.intro hb (show Below w.heap.size w (w.alloc (.cells tenP.cs 38)) from (Below.refl _ _).alloc (Nat.le_refl _) _))
  have e : (Px.mk ⟨4, ten8⟩ 8).cs = tenP.cs := rfl
  rw [e] at B3
  clear hb e
  go_enter Tryd.func22, Tryd.ntmps22
  go_wp2_with (with_reducible refine wpList_alloc_z rfl 38 rfl Px.zero.cs 18 z_px ?_)
  refine bodyPost_ret (results_cell_row rfl _ _ w.heap.size 38 _ (0, 0) _ rfl HX.out.1 Tryd.underlying38 rfl (s_px _)) rfl ?_
  exact ⟨rfl, HX.out.2⟩

set_option maxHeartbeats 4000000 in
theorem wakes9_any (w : World) (hW : Wid w) : Calls Tryd.prog 6 #[] w fun e w' => e = .returned (.bool true) ∧ Below w.heap.size w w' := by
  have BZ := build_tab0
  go_enter Tryd.func6, Tryd.ntmps6
  go_wp2_with fail
  refine (eight_any w).mono ?_
  rintro e w1 ⟨rfl, hb1⟩
  have hs1 := set_any none 0 0 [] tenP 1 w1 (hW.later hb1) rfl (Tbl.none _)
  rw [T1_E, show setM [] tenP 1 = T1 from rfl] at hs1
  go_wp2_with fail
  refine hs1.mono ?_
  rintro e w2 ⟨a2, c2, rfl, t2, _, hb2⟩
  obtain ⟨n2, hn2⟩ : ∃ n2, T1.length = n2 := ⟨_, rfl⟩
  rw [hn2]
  have hb02 := bel_trans hb1 hb2
  have ST2 := st_tab (a2 := a2) (n2 := n2) (c2 := c2) (Blk.new w2 24 #[.slice none 0 0])
  rw [World.setRow_alloc_new] at ST2
  obtain ⟨w3, hw3⟩ : ∃ w3, w2.alloc (.cells #[.slice a2 n2 c2] 24) = w3 := ⟨_, rfl⟩
  rw [hw3] at ST2
  have b3 : Blk w3 w2.heap.size 24 #[.slice a2 n2 c2] := by rw [← hw3]; exact Blk.new _ _ _
  have k23 : Below w2.heap.size w2 w3 := by rw [← hw3]; exact (Below.refl _ _).alloc (Nat.le_refl _) _
  have hb03 := bel_trans hb02 k23
  have L3 := tab_t b3 w3 (Below.refl _ _)
  have B2 := build_b2
  have B4 := build_ad 4 q16B
  have B5 := build_px ⟨4, q16B⟩ 16
  have hs2 := set_any a2 n2 c2 T1 q16 2 w3 (hW.later hb03) hn2 (t2.later k23)
  rw [T2_E, show setM T1 q16 2 = T2 from rfl] at hs2
  have e4 : (Px.mk ⟨4, q16B⟩ 16).cs = q16.cs := rfl
  rw [e4] at B5
  have H3 := Lib.hid (And.intro b3 (And.intro hb03 (And.intro hb02.size b3.lt)))
  clear hs1 hb1 hb2 b3 k23 hb03 e4 t2 hw3 hb02
  go_wp2_with (with_reducible refine wpList_alloc_z rfl 24 rfl #[.slice none 0 0] 1 z_tab ?_)
  refine hs2.mono ?_
  rintro e w4 ⟨a4, c4, rfl, t4, hf4, hb4⟩
  obtain ⟨n4, hn4⟩ : ∃ n4, T2.length = n4 := ⟨_, rfl⟩
  rw [hn4]
  have b4 := H3.out.1.later hb4
  have ST4 := st_tab (a2 := a4) (n2 := n4) (c2 := c4) b4
  obtain ⟨w5, hw5⟩ : ∃ w5, w4.setRow w2.heap.size #[.slice a4 n4 c4] = w5 := ⟨_, rfl⟩
  rw [hw5] at ST4
  have b5 : Blk w5 w2.heap.size 24 #[.slice a4 n4 c4] := by rw [← hw5]; exact b4.row _
  have t5 : Tbl w5 a4 c4 T2 := by rw [← hw5]; exact t4.kept ((Kept.refl [w2.heap.size] w4).setRow (.inl (by simp)) _) (fun x hx => by have := hf4 x hx; have := H3.out.2.2.2; simp; omega)
  have hb05 : Below w.heap.size w w5 := by rw [← hw5]; exact below_setRow (bel_trans H3.out.2.1 hb4) H3.out.2.2.1 _
  have L5 := tab_t b5 w5 (Below.refl _ _)
  have B6 := build_ten
  have B7 := build_ad 4 tenB
  have HL := longest_any a4 n4 c4 T2 tenA w5 (hW.later hb05) hn4 (by have := t5.le; have := t5.cap; unfold maxLen at this; omega) t5.at'
  rw [T2_a.1, T2_a.2.1, T2_a.2.2] at HL
  have e5 : (Ad.mk 4 tenB).cs = tenA.cs := rfl
  rw [e5] at B7
  have H5 := Lib.hid (And.intro b5 (And.intro t5 hb05))
  clear hs2 b4 hb4 hw5 b5 t5 hb05 e5 t4 hf4 B2 B4 B5 L3
  go_wp2_with fail
  refine HL.mono ?_
  rintro e w6 ⟨rfl, hb6⟩
  have S6 := st_rt (q := ⟨q16, 2⟩) (Blk.new w6 48 Rt.zero.cs)
  rw [World.setRow_alloc_new] at S6
  obtain ⟨w7, hw7⟩ : ∃ w7, w6.alloc (.cells (Rt.mk q16 2).cs 48) = w7 := ⟨_, rfl⟩
  rw [hw7] at S6
  have b7 : Blk w7 w6.heap.size 48 (Rt.mk q16 2).cs := by rw [← hw7]; exact Blk.new _ _ _
  have k67 : Below w6.heap.size w6 w7 := by rw [← hw7]; exact (Below.refl _ _).alloc (Nat.le_refl _) _
  have k57 := bel_trans hb6 k67
  have hb07 := bel_trans H5.out.2.2 k57
  have L7 := tab_t H5.out.1 w7 k57
  have B8 := build_b3
  have B9 := build_ad 4 tw2B
  have e9 : (Ad.mk 4 tw2B).cs = tw2.cs := rfl
  rw [e9] at B9
  have t7 := H5.out.2.1.later k57
  have HL7 := longest_any a4 n4 c4 T2 tw2 w7 (hW.later hb07) hn4 (by have := t7.le; have := t7.cap; unfold maxLen at this; omega) t7.at'
  rw [T2_b.1, T2_b.2.1, T2_b.2.2] at HL7
  have H7 := Lib.hid (And.intro b7 hb07)
  clear hb6 hw7 b7 k67 k57 hb07 e9 t7 HL B6 B7 L5
  go_wp2_with (with_reducible refine wpList_alloc_z rfl 48 rfl Rt.zero.cs 19 z_rt ?_)
  refine HL7.mono ?_
  rintro e w8 ⟨rfl, hb8⟩
  have S8 := st_rt (q := ⟨tenP, 1⟩) (Blk.new w8 48 Rt.zero.cs)
  rw [World.setRow_alloc_new] at S8
  obtain ⟨w9, hw9⟩ : ∃ w9, w8.alloc (.cells (Rt.mk tenP 1).cs 48) = w9 := ⟨_, rfl⟩
  rw [hw9] at S8
  have b9 : Blk w9 w8.heap.size 48 (Rt.mk tenP 1).cs := by rw [← hw9]; exact Blk.new _ _ _
  have k89 : Below w8.heap.size w8 w9 := by rw [← hw9]; exact (Below.refl _ _).alloc (Nat.le_refl _) _
  have k79 := bel_trans hb8 k89
  have H9 := Lib.hid (bel_trans H7.out.2 k79)
  have C1 := rt_h H7.out.1 w9 k79
  have C2 := rt_h b9 w9 (Below.refl _ _)
  clear hb8 hw9 b9 k89 k79 HL7 B8 B9 L7
  go_wp2_with (with_reducible refine wpList_alloc_z rfl 48 rfl Rt.zero.cs 19 z_rt ?_)
  go_ret
  exact ⟨rfl, H9.out⟩
end Go.Proofs.YtdbdmnahgkkjiaaDoor
namespace Go.Proofs.YtdbdmnahgkkjiaaDoor
open Go.ChangeShapes Go.WideShapes Go.ChangeAt Go.RowKit Go.Shelf
set_option linter.unusedVariables false
set_option maxRecDepth 100000

theorem c_int : Tryd.prog.cellsOf 3 = 1 := by kernel_rfl
theorem c_u8 : Tryd.prog.cellsOf 5 = 1 := by kernel_rfl
theorem c_b16 : Tryd.prog.cellsOf 34 = 16 := by kernel_rfl
theorem c_ad : Tryd.prog.cellsOf 36 = 17 := by kernel_rfl
theorem c_px : Tryd.prog.cellsOf 38 = 18 := by kernel_rfl
def natOf : Option Value → Nat
  | some (.int _ n) => n.toNat
  | _ => 0
theorem b16_cells {H : Type} {enc : TypeId × Value → H} {W : World} {sp : Nat → Bool} {held : Bool} {fuel : Nat} {cs : List Value} {y : DataW H × List MemPlace} (h : DataW.trod enc Tryd.prog W 0 sp held fuel 34 cs = some y) : ∃ b : B16, cs = b.cs.toList := by
  obtain ⟨xs, m, _, _, hlen, hxs, hg⟩ := DataW.trod_array Tryd.underlying34 h
  rw [c_b16] at hlen
  have hone : ∀ i, i < 16 → ∃ n : Nat, n < 256 ∧ cs[i]? = some (byc n) := by
    intro i hi
    have h1 := hg i hi
    rw [c_u8, Nat.mul_one] at h1
    have hx : xs[i]? = some xs[i] := List.getElem?_eq_getElem (by omega)
    rw [hx] at h1
    obtain ⟨u, e, _, f⟩ := DataW.trod_int Tryd.underlying5 h1
    have hb := bounds_u8 f
    refine ⟨u.toNat, by omega, ?_⟩
    have hc : cs[i]? = some cs[i] := List.getElem?_eq_getElem (by omega)
    have e2 : (cs.drop i).take 1 = [cs[i]] := by
      rw [List.take_one, List.head?_drop, hc]
      rfl
    rw [e2] at e
    injection e with e3
    rw [hc, e3]
    unfold byc
    congr 2
    omega
  refine ⟨⟨(List.range 16).map fun i => natOf cs[i]?, by simp, fun n hn => ?_⟩, ?_⟩
  · obtain ⟨i, hi, rfl⟩ := List.mem_map.1 hn
    obtain ⟨k, hk, e⟩ := hone i (List.mem_range.1 hi)
    rw [e]
    simpa [natOf, byc] using hk
  · apply List.ext_getElem?
    intro i
    by_cases hi : i < 16
    · obtain ⟨k, hk, e⟩ := hone i hi
      rw [e]
      simp [B16.cs, hi, e, natOf, byc]
    · rw [List.getElem?_eq_none (by omega), List.getElem?_eq_none (by simp [B16.cs]; omega)]
theorem ad_cells {H : Type} {enc : TypeId × Value → H} {W : World} {sp : Nat → Bool} {held : Bool} {fuel : Nat} {cs : List Value} {y : DataW H × List MemPlace} (h : DataW.trod enc Tryd.prog W 0 sp held fuel 36 cs = some y) : ∃ a : Ad, cs = a.cs.toList ∧ (Lit.int .i64 a.v).wf = true := by
  obtain ⟨xs, m, _, _, hlen, hxs, hg⟩ := DataW.trod_struct Tryd.underlying36 h
  rw [c_ad] at hlen
  obtain ⟨y0, y1, rfl⟩ : ∃ y0 y1, xs = [y0, y1] := by
    match xs, hxs with
    | [a, b], _ => exact ⟨a, b, rfl⟩
  have t0 : DataW.trod enc Tryd.prog W 0 sp held m 3 (List.take (Tryd.prog.cellsOf 3) (List.drop 0 cs)) = some y0 := hg 0 _ rfl
  rw [c_int] at t0
  have t1 : DataW.trod enc Tryd.prog W 0 sp held m 34 (List.take (Tryd.prog.cellsOf 34) (List.drop 1 cs)) = some y1 := hg 1 _ rfl
  rw [c_b16] at t1
  obtain ⟨u0, e0, _, f0⟩ := DataW.trod_int Tryd.underlying3 t0
  obtain ⟨b, hb⟩ := b16_cells t1
  refine ⟨⟨u0, b⟩, ?_, f0⟩
  rw [show (Ad.mk u0 b).cs.toList = [Value.int .i64 u0] ++ b.cs.toList from by simp [Ad.cs], ← hb, ← e0, List.drop_zero, List.take_of_length_le (l := cs.drop 1) (by simp; omega)]
  exact (List.take_append_drop 1 cs).symm
theorem px_cells {H : Type} {enc : TypeId × Value → H} {W : World} {sp : Nat → Bool} {held : Bool} {fuel : Nat} {cs : List Value} {y : DataW H × List MemPlace} (h : DataW.trod enc Tryd.prog W 0 sp held fuel 38 cs = some y) : ∃ p : Px, cs = p.cs.toList ∧ (Lit.int .i64 p.n).wf = true ∧ (Lit.int .i64 p.a.v).wf = true := by
  obtain ⟨xs, m, _, _, hlen, hxs, hg⟩ := DataW.trod_struct Tryd.underlying38 h
  rw [c_px] at hlen
  obtain ⟨y0, y1, rfl⟩ : ∃ y0 y1, xs = [y0, y1] := by
    match xs, hxs with
    | [a, b], _ => exact ⟨a, b, rfl⟩
  have t0 : DataW.trod enc Tryd.prog W 0 sp held m 36 (List.take (Tryd.prog.cellsOf 36) (List.drop 0 cs)) = some y0 := hg 0 _ rfl
  rw [c_ad] at t0
  have t1 : DataW.trod enc Tryd.prog W 0 sp held m 3 (List.take (Tryd.prog.cellsOf 3) (List.drop 17 cs)) = some y1 := hg 1 _ rfl
  rw [c_int] at t1
  obtain ⟨u0, e0, _, f0⟩ := DataW.trod_int Tryd.underlying3 t1
  obtain ⟨a, ha, fa⟩ := ad_cells t0
  refine ⟨⟨a, u0⟩, ?_, f0, fa⟩
  rw [show (Px.mk a u0).cs.toList = a.cs.toList ++ [Value.int .i64 u0] from by simp [Px.cs], ← ha, ← e0, List.drop_zero, List.take_of_length_le (l := cs.drop 17) (by simp; omega)]
  exact (List.take_append_drop 17 cs).symm
theorem ad_of {H : Type} {enc : TypeId × Value → H} {W : World} {sp : Nat → Bool} {base : Nat} {held : Bool} {v : Value} {d : DataW H} {p : List MemPlace} (hv : Value.okWide Tryd.prog W .any base 36 v) (h : DataW.Trod enc Tryd.prog W 0 sp held 36 v d p) : ∃ a : Ad, v = .agg a.cs ∧ (Lit.int .i64 a.v).wf = true := by
  obtain ⟨cs, rfl, hsz⟩ := okWide_struct Tryd.underlying36 hv
  obtain ⟨fuel, hf⟩ := h
  obtain ⟨a, ha, fa⟩ := ad_cells (show DataW.trod enc Tryd.prog W 0 sp held fuel 36 cs.toList = some _ from hf)
  exact ⟨a, congrArg Value.agg (Array.toList_inj.1 ha), fa⟩
theorem px_of {H : Type} {enc : TypeId × Value → H} {W : World} {sp : Nat → Bool} {base : Nat} {held : Bool} {v : Value} {d : DataW H} {p : List MemPlace} (hv : Value.okWide Tryd.prog W .any base 38 v) (h : DataW.Trod enc Tryd.prog W 0 sp held 38 v d p) : ∃ a : Px, v = .agg a.cs ∧ (Lit.int .i64 a.n).wf = true ∧ (Lit.int .i64 a.a.v).wf = true := by
  obtain ⟨cs, rfl, hsz⟩ := okWide_struct Tryd.underlying38 hv
  obtain ⟨fuel, hf⟩ := h
  obtain ⟨a, ha, fn, fa⟩ := px_cells (show DataW.trod enc Tryd.prog W 0 sp held fuel 38 cs.toList = some _ from hf)
  exact ⟨a, congrArg Value.agg (Array.toList_inj.1 ha), fn, fa⟩

def laidAll : List (String × DataW Unit) := [("junctionbox/prefix.widths", Rows.laid_junctionbox_prefix_widths)]
theorem gAll : Tryd.prog.globalNamed "junctionbox/prefix.widths" = some 0 := by kernel_rfl
theorem tAll : (Tryd.prog.globals[0]?).map (·.type) = some 110 := by kernel_rfl
theorem door_met (os : Os) (args : Array Value) : laidMetH Tryd.prog laidAll ((World.doorLaid Tryd.prog 14 os).forCall (fun _ _ => 0) ⟨#[], args, []⟩).memory :=
  laidMetH_of_parts3 (fuel := 8) (laidMet_of_run' 8 (by kernel_rfl) (by kernel_rfl)) (by kernel_rfl) (by kernel_rfl)
theorem of_laid {W : World} (h : laidMetH Tryd.prog laidAll W) : Wid W := by
  rw [MakeChecks.laidMetH_plain _ _ _ (by kernel_rfl)] at h
  obtain ⟨ps, ⟨g0, t0, cs0, f0, p0, q0, hg0, ht0, hv0, hd0, _, _⟩, _, _⟩ := h
  obtain rfl := Option.some.inj (gAll.symm.trans hg0)
  obtain rfl := Option.some.inj (tAll.symm.trans ht0)
  obtain ⟨xs, m, _, hx, hlen, hxs, hg⟩ := DataW.trod_array Tryd.underlying110 hd0
  have hlen7 : cs0.toList.length = 7 := hlen.trans (by kernel_rfl)
  have hone : ∀ i (u : Int), i < 7 → (xs.map (·.1))[i]? = some (.lit (.int .i64 u)) → W.cell? ⟨0, i, none⟩ = some (.int .i64 u) := by
    intro i u hi hu
    have h1 := hg i hi
    rw [c_int, Nat.mul_one] at h1
    have hxi : xs[i]? = some xs[i] := List.getElem?_eq_getElem (by omega)
    rw [hxi] at h1
    obtain ⟨u', e, e', _⟩ := DataW.trod_int Tryd.underlying3 h1
    have hu2 : u' = u := by
      rw [List.getElem?_map, hxi, Option.map_some, e'] at hu
      simpa using hu
    subst hu2
    have hc : cs0.toList[i]? = some cs0.toList[i] := List.getElem?_eq_getElem (by omega)
    have e2 : (cs0.toList.drop i).take 1 = [cs0.toList[i]] := by
      rw [List.take_one, List.head?_drop, hc]
      rfl
    rw [e2] at e
    injection e with e3
    have hcell := World.var?_cell hg0 hv0 i
    rw [hcell, ← Array.getElem?_toList, hc, e3]
  have hm : xs.map (·.1) = [.lit (.int .i64 0), .lit (.int .i64 0), .lit (.int .i64 0), .lit (.int .i64 0), .lit (.int .i64 32), .lit (.int .i64 0), .lit (.int .i64 128)] := by
    have h9 := congrArg Prod.fst hx
    simp only [] at h9
    exact (DataW.agg.inj h9).symm
  intro j hj
  rw [hm] at hone
  have h7 : j = 0 ∨ j = 1 ∨ j = 2 ∨ j = 3 ∨ j = 4 ∨ j = 5 ∨ j = 6 := by omega
  rcases h7 with rfl | rfl | rfl | rfl | rfl | rfl | rfl <;> exact hone _ _ (by omega) rfl
end Go.Proofs.YtdbdmnahgkkjiaaDoor
namespace Go.Proofs.YtdbdmnahgkkjiaaDoor
open Go.RowKit Go.Shelf Go.ChangeShapes Go.WideShapes Go.ChangeAt
set_option linter.unusedVariables false
set_option maxRecDepth 100000

/-! ### Rows are compared -/
theorem eq_rt_rule (a b : Value) : Op.equalIn 10000 48 a b = eqSem 48 a b := rfl
theorem stood_rt : Tryd.prog.stoodInHeld 48 = false := by kernel_rfl
theorem part_p (r : Rt) (w : World) : (part 38 r.cs 0).run Tryd.prog w = .ok (.agg r.p.cs) w := by
  have hagg : (isAgg 38).run Tryd.prog w = .ok true w := by kernel_rfl
  have hn : (sizeOf 38).run Tryd.prog w = .ok 18 w := by kernel_rfl
  have e : r.cs.extract 0 (0 + 18) = r.p.cs := by
    apply Array.ext_getElem?
    intro j
    rw [Array.getElem?_extract, r.size]
    by_cases hj : j < 18
    · rw [if_pos (by omega), Nat.zero_add, r.cp j hj]
    · rw [if_neg (by omega), Array.getElem?_eq_none (by rw [Px.size]; omega)]
  unfold part
  simp only [Sem.run_bind, hagg, hn, Result.andThen_ok, if_true, r.size, e]
  first | rfl | (simp; rfl) | simp
theorem part_h (r : Rt) (w : World) : (part 3 r.cs 18).run Tryd.prog w = .ok (.int .i64 r.h) w := by
  have hagg : (isAgg 3).run Tryd.prog w = .ok false w := by kernel_rfl
  unfold part
  simp only [Sem.run_bind, hagg, Result.andThen_ok, r.ch]
  rfl
theorem equal_rt (d : Nat) (p q : Rt) (w : World) : (Op.equalIn (d + 5) 48 (.agg p.cs) (.agg q.cs)).run Tryd.prog w = .ok (decide (p = q)) w := by
  rw [show d + 5 = (d + 4) + 1 from rfl, Op.equalIn]
  have hu := run_underlying (P := Tryd.prog) Tryd.underlying48 w
  have h2 := fun x y => equal_int (d + 3) x y w
  have h3 := fun x y => equal_px d x y w
  simp only [Sem.run_bind, hu, Result.andThen_ok, run_prog, stood_rt]
  simp only [Bool.false_eq_true, if_false, List.forIn_toArray, List.forIn_cons, List.forIn_nil, Sem.run_bind, Sem.run_pure, Result.andThen_ok]
  simp only [show ("Prefix" ≠ "_") = True from by simp, show ("Hop" ≠ "_") = True from by simp, if_true, Sem.run_bind, Result.andThen_ok, part_p, part_h, h2, h3]
  by_cases hv : p.p = q.p
  · have hd : (!decide (p.p = q.p)) = false := by simp [hv]
    simp only [hd, Bool.false_eq_true, if_false, Sem.run_pure, Sem.run_bind, Result.andThen_ok, part_h, h2]
    by_cases hb : p.h = q.h
    · have hd2 : (!decide (p.h = q.h)) = false := by simp [hb]
      have he : decide (p = q) = true := decide_eq_true (Rt.same.2 ⟨hv, hb⟩)
      simp only [hd2, Bool.false_eq_true, if_false, Sem.run_pure, Result.andThen_ok, he]
    · have hd2 : (!decide (p.h = q.h)) = true := by simp [hb]
      have he : decide (p = q) = false := decide_eq_false (fun h => hb (Rt.same.1 h).2)
      simp only [hd2, if_true, Sem.run_pure, Result.andThen_ok, he]
  · have hd : (!decide (p.p = q.p)) = true := by simp [hv]
    have he : decide (p = q) = false := decide_eq_false (fun h => hv (Rt.same.1 h).1)
    simp only [hd, if_true, Sem.run_pure, Result.andThen_ok, he]
theorem eqR (a b : Rt) (w : World) : (eqSem 48 (.agg a.cs) (.agg b.cs)).run Tryd.prog w = .ok (decide (a = b)) w := by
  unfold eqSem
  obtain ⟨d, hd⟩ : ∃ d, d + 5 = 10000 := ⟨9995, rfl⟩
  rw [← hd]
  exact equal_rt d a b w

/-! ### A table that is data -/
theorem c_rt : Tryd.prog.cellsOf 48 = 19 := by kernel_rfl
theorem c_sl : Tryd.prog.cellsOf 22 = 1 := by kernel_rfl
theorem c_tab : Tryd.prog.cellsOf 24 = 1 := by kernel_rfl
theorem rt_cells {H : Type} {enc : TypeId × Value → H} {W : World} {sp : Nat → Bool} {held : Bool} {fuel : Nat} {cs : List Value} {y : DataW H × List MemPlace} (h : DataW.trod enc Tryd.prog W 0 sp held fuel 48 cs = some y) : ∃ r : Rt, cs = r.cs.toList := by
  obtain ⟨xs, m, _, _, hlen, hxs, hg⟩ := DataW.trod_struct Tryd.underlying48 h
  rw [c_rt] at hlen
  obtain ⟨y0, y1, rfl⟩ : ∃ y0 y1, xs = [y0, y1] := by
    match xs, hxs with
    | [a, b], _ => exact ⟨a, b, rfl⟩
  have t0 : DataW.trod enc Tryd.prog W 0 sp held m 38 (List.take (Tryd.prog.cellsOf 38) (List.drop 0 cs)) = some y0 := hg 0 _ rfl
  rw [c_px] at t0
  have t1 : DataW.trod enc Tryd.prog W 0 sp held m 3 (List.take (Tryd.prog.cellsOf 3) (List.drop 18 cs)) = some y1 := hg 1 _ rfl
  rw [c_int] at t1
  obtain ⟨u0, e0, _, f0⟩ := DataW.trod_int Tryd.underlying3 t1
  obtain ⟨p, hp, _, _⟩ := px_cells t0
  refine ⟨⟨p, u0⟩, ?_⟩
  rw [show (Rt.mk p u0).cs.toList = p.cs.toList ++ [Value.int .i64 u0] from by simp [Rt.cs], ← hp, ← e0, List.drop_zero, List.take_of_length_le (l := cs.drop 18) (by simp; omega)]
  exact (List.take_append_drop 18 cs).symm
theorem rows_of {H : Type} {enc : TypeId × Value → H} {W : World} {sp : Nat → Bool} {held : Bool} {fuel : Nat} {cs : List Value} {y : DataW H × List MemPlace} (h : DataW.trod enc Tryd.prog W 0 sp held fuel 22 cs = some y) : ∃ a n c L, cs = [.slice a n c] ∧ L.length = n ∧ Tbl W a c L := by
  rcases Go.Deep.open_slice Tryd.underlying22 h with ⟨hcs, _⟩ | ⟨x, len', cap', q, nn, Dt, Pl, hcs, _, hl, hm, hq, _, hi⟩
  · exact ⟨none, 0, 0, [], hcs, rfl, Tbl.none W⟩
  · have hex : ∀ i, i < len' → ∃ y : Rt, ∀ j, j < 19 → W.cell? (x.add (i * 19 + j)) = (y.cs)[j]? := by
      intro i hil
      obtain ⟨cs', hc', ht'⟩ := hi i (by rw [hq]; split <;> omega)
      rw [c_rt] at hc'
      obtain ⟨_, hlen, hat⟩ := World.cells?_some hc'
      obtain ⟨y, rfl⟩ := rt_cells ht'
      refine ⟨y, fun j hj => ?_⟩
      have h9 := hat j hj
      rw [Go.Deep.add_add] at h9
      rw [h9]
      simp
    obtain ⟨f, hf2⟩ : ∃ f : Nat → Rt, ∀ i, i < len' → ∀ j, j < 19 → W.cell? (x.add (i * 19 + j)) = ((f i).cs)[j]? :=
      ⟨fun i => if h : i < len' then (hex i h).choose else Rt.zero, fun i hil => by simp only [dif_pos hil]; exact (hex i hil).choose_spec⟩
    refine ⟨some x, len', cap', (List.range len').map f, hcs, by simp, ?_, by simpa using hl, hm, fun h => by cases h⟩
    by_cases h0 : len' = 0
    · left; rw [h0]; rfl
    · right
      have h1 := hf2 0 (by omega) 0 (by omega)
      have h2 : ((f 0).cs)[0]? = some (.int .i64 (f 0).p.a.v) := by rw [Rt.cp _ _ (by omega), Px.ca _ _ (by omega), Ad.c0]
      rw [h2] at h1
      obtain ⟨b, o, s⟩ := x
      obtain rfl : s = none := by simpa [Addr.add] using World.cell?_spot h1
      refine ⟨b, o, rfl, ?_, fun i hi j hj => ?_⟩
      · have := cell_lt h1
        simpa [Addr.add_lit] using this
      · have hil : i < len' := by simpa using hi
        have h3 := hf2 i hil j hj
        rw [Addr.add_lit] at h3
        rw [Nat.add_assoc, h3]
        congr 2
        simp [rt, hil]
theorem tab_of {H : Type} {enc : TypeId × Value → H} {W : World} {sp : Nat → Bool} {base : Nat} {held : Bool} {v : Value} {d : DataW H} {p : List MemPlace} (hv : Value.okWide Tryd.prog W .any base 24 v) (h : DataW.Trod enc Tryd.prog W 0 sp held 24 v d p) : ∃ a n c L, v = .agg #[.slice a n c] ∧ L.length = n ∧ Tbl W a c L := by
  obtain ⟨cs, rfl, hsz⟩ := okWide_struct Tryd.underlying24 hv
  obtain ⟨fuel, hf⟩ := h
  obtain ⟨xs, m, _, _, hlen, hxs, hg⟩ := DataW.trod_struct Tryd.underlying24 (show DataW.trod enc Tryd.prog W 0 sp held fuel 24 cs.toList = some _ from hf)
  rw [c_tab] at hlen
  obtain ⟨y0, rfl⟩ : ∃ y0, xs = [y0] := by
    match xs, hxs with
    | [a], _ => exact ⟨a, rfl⟩
  have t0 : DataW.trod enc Tryd.prog W 0 sp held m 22 (List.take (Tryd.prog.cellsOf 22) (List.drop 0 cs.toList)) = some y0 := hg 0 _ rfl
  rw [c_sl, List.drop_zero, List.take_of_length_le (by omega)] at t0
  obtain ⟨a, n, c, L, h1, h2, h3⟩ := rows_of t0
  exact ⟨a, n, c, L, congrArg Value.agg (Array.toList_inj.1 (by rw [h1])), h2, h3⟩
theorem rt_of {H : Type} {enc : TypeId × Value → H} {W : World} {sp : Nat → Bool} {base : Nat} {held : Bool} {v : Value} {d : DataW H} {p : List MemPlace} (hv : Value.okWide Tryd.prog W .any base 48 v) (h : DataW.Trod enc Tryd.prog W 0 sp held 48 v d p) : ∃ r : Rt, v = .agg r.cs := by
  obtain ⟨cs, rfl, hsz⟩ := okWide_struct Tryd.underlying48 hv
  obtain ⟨fuel, hf⟩ := h
  obtain ⟨r, hr⟩ := rt_cells (show DataW.trod enc Tryd.prog W 0 sp held fuel 48 cs.toList = some _ from hf)
  exact ⟨r, congrArg Value.agg (Array.toList_inj.1 hr)⟩

/-! ### What setting a prefix makes of matches -/
section
variable {L : List Rt} {p : Px} {h : Int} {a : Ad}
theorem setM_mem (e : setE L p h = 0) (x : Rt) : x ∈ setM L p h ↔ x = ⟨p, h⟩ ∨ (x ∈ L ∧ x.p ≠ p) := by
  unfold setM
  rw [if_pos e]
  exact setL_mem (setE_ok e).1.2.2 p h x
theorem set_miss (e : setE L p h = 0) (hn : ¬ hasM p a) : longB (setM L p h) a = longB L a ∧ longR (setM L p h) a = longR L a := by
  have hL := (setE_ok e).1.2.2
  have hU := (setM_okT L p h).2.2
  rcases long_ways hL a with ⟨h1, h2⟩ | ⟨h1, h2, h3⟩
  · have hl : Long (setM L p h) a (longR L a) := ⟨(setM_mem e _).2 (.inr ⟨h2.1, fun q => hn (by rw [← q]; exact h2.2.1)⟩), h2.2.1, fun y hy hh => by
      rcases (setM_mem e y).1 hy with q | ⟨q, _⟩
      · rw [q] at hh; exact absurd hh hn
      · exact h2.2.2 y q hh⟩
    obtain ⟨g1, g2⟩ := long_is hU hl
    exact ⟨g1.trans h1.symm, g2⟩
  · obtain ⟨g1, g2⟩ := long_none hU (a := a) (fun y hy hh => by
      rcases (setM_mem e y).1 hy with q | ⟨q, _⟩
      · rw [q] at hh; exact hn hh
      · exact h3 y q hh)
    exact ⟨g1.trans h1.symm, g2.trans h2.symm⟩
theorem set_shorter (e : setE L p h = 0) (ht : longB L a = true) (hn : p.n < (longR L a).p.n) : longB (setM L p h) a = true ∧ longR (setM L p h) a = longR L a := by
  have hL := (setE_ok e).1.2.2
  rcases long_ways hL a with ⟨h1, h2⟩ | ⟨h1, _⟩
  · refine long_is (setM_okT L p h).2.2 ⟨(setM_mem e _).2 (.inr ⟨h2.1, fun q => by rw [q] at hn; omega⟩), h2.2.1, fun y hy hh => ?_⟩
    rcases (setM_mem e y).1 hy with q | ⟨q, _⟩
    · rw [q]; exact Int.le_of_lt hn
    · exact h2.2.2 y q hh
  · rw [ht] at h1; cases h1
theorem set_longer (e : setE L p h = 0) (hp : hasM p a) (hn : longB L a = true → (longR L a).p.n ≤ p.n) : longB (setM L p h) a = true ∧ longR (setM L p h) a = ⟨p, h⟩ := by
  have hL := (setE_ok e).1.2.2
  refine long_is (setM_okT L p h).2.2 ⟨(setM_mem e _).2 (.inl rfl), hp, fun y hy hh => ?_⟩
  rcases (setM_mem e y).1 hy with q | ⟨q, _⟩
  · rw [q]; exact Int.le_refl _
  · rcases long_ways hL a with ⟨h1, h2⟩ | ⟨_, _, h3⟩
    · exact Int.le_trans (h2.2.2 y q hh) (hn h1)
    · exact absurd hh (h3 y q)
end
end Go.Proofs.YtdbdmnahgkkjiaaDoor
