/-
  For every number and every deed: which disks are made, and what nothing answers, is as the law of DiskSizes says; and the input reads as it did. Conditions: none beyond the row's own.
-/
import Derived.Test.YtnbdiihpnnffjaaRows
import Derived.Test.YtnbdiihpnnffjaaDskU
import Derived.Deep.Slices
import Derived.WalkKit
import Derived.ProofKit
import Derived.OpenShut
import Derived.ShutString
import Derived.ChangeOld
import Derived.Below
import Derived.DataShut
namespace Go.Proofs.Ytnbdiihpnnffjaa
namespace diskSizes
open Go.ChangeShapes Go.WideShapes Go.ChangeAt Go.RowKit
set_option linter.unusedVariables false

theorem own : ownKnob Try.prog.godebug = none := by kernel_rfl
theorem laidOut : laidOutB Try.prog = true := by kernel_rfl

theorem walk (n : Int) (x : Deed) (ks : List Bool) (w : World) (h : Truths w x.ad ks) (hl : ks.length = x.len) (hc : x.len ≤ x.cap) (hm : x.cap ≤ maxLen) :
    Calls Try.prog 5 #[.int .i64 n, .agg x.cs] w fun e w' => e = .returned (.bool true) ∧ Below w.heap.size w w' := by
  by_cases hb : n < 1 ∨ 2048 < n
  · exact sizes_bad n hb x ks w h hl hc hm
  · obtain ⟨k, rfl⟩ : ∃ k : Nat, n = (k : Int) := ⟨n.toNat, by omega⟩
    exact sizes_good k (by omega) (by omega) x ks w h hl hc hm

theorem c_int : Try.prog.cellsOf 3 = 1 := by kernel_rfl
theorem c_u8 : Try.prog.cellsOf 5 = 1 := by kernel_rfl
theorem c_bool : Try.prog.cellsOf 4 = 1 := by kernel_rfl
theorem c_bools : Try.prog.cellsOf 34 = 1 := by kernel_rfl
def boolOf : Option Value → Bool
  | some (.bool b) => b
  | _ => false

/-- What a deed's cells hold, of a deed that is data. -/
theorem deed_of {H : Type} {enc : TypeId × Value → H} {W : World} {sp : Nat → Bool} {base : Nat} {held : Bool} {v : Value} {d : DataW H} {p : List MemPlace} (hv : Value.okWide Try.prog W .any base 36 v) (h : DataW.Trod enc Try.prog W 0 sp held 36 v d p) :
    ∃ (x : Deed) (ks : List Bool), v = .agg x.cs ∧ Truths W x.ad ks ∧ ks.length = x.len ∧ x.len ≤ x.cap ∧ x.cap ≤ maxLen := by
  obtain ⟨cs, rfl, hsz⟩ := okWide_struct Try.underlying36 hv
  have hC : cs.size = 5 := hsz.trans (by kernel_rfl)
  obtain ⟨l⟩ := cs
  obtain ⟨x0, x1, x2, x3, x4, rfl⟩ : ∃ x0 x1 x2 x3 x4, l = [x0, x1, x2, x3, x4] := by
    match l, hC with
    | [a, b, c, d, e], _ => exact ⟨a, b, c, d, e, rfl⟩
  obtain ⟨fuel, hf⟩ := h
  obtain ⟨xs, m, _, hx, _, hlen, hg⟩ := DataW.trod_struct Try.underlying36 hf
  obtain ⟨y0, y1, y2, y3, y4, rfl⟩ : ∃ y0 y1 y2 y3 y4, xs = [y0, y1, y2, y3, y4] := by
    match xs, hlen with
    | [a, b, c, d, e], _ => exact ⟨a, b, c, d, e, rfl⟩
  have t0 : DataW.trod enc Try.prog W 0 sp held m 3 (List.take (Try.prog.cellsOf 3) (List.drop 0 [x0, x1, x2, x3, x4])) = some y0 := hg 0 _ rfl
  rw [c_int] at t0
  have t1 : DataW.trod enc Try.prog W 0 sp held m 3 (List.take (Try.prog.cellsOf 3) (List.drop 1 [x0, x1, x2, x3, x4])) = some y1 := hg 1 _ rfl
  rw [c_int] at t1
  have t2 : DataW.trod enc Try.prog W 0 sp held m 3 (List.take (Try.prog.cellsOf 3) (List.drop 2 [x0, x1, x2, x3, x4])) = some y2 := hg 2 _ rfl
  rw [c_int] at t2
  have t3 : DataW.trod enc Try.prog W 0 sp held m 5 (List.take (Try.prog.cellsOf 5) (List.drop 3 [x0, x1, x2, x3, x4])) = some y3 := hg 3 _ rfl
  rw [c_u8] at t3
  have t4 : DataW.trod enc Try.prog W 0 sp held m 34 (List.take (Try.prog.cellsOf 34) (List.drop 4 [x0, x1, x2, x3, x4])) = some y4 := hg 4 _ rfl
  rw [c_bools] at t4
  obtain ⟨u0, e0, _, f0⟩ := DataW.trod_int Try.underlying3 t0
  obtain rfl : x0 = .int .i64 u0 := by injection (show [x0] = [_] from e0)
  obtain ⟨u1, e1, _, f1⟩ := DataW.trod_int Try.underlying3 t1
  obtain rfl : x1 = .int .i64 u1 := by injection (show [x1] = [_] from e1)
  obtain ⟨u2, e2, _, f2⟩ := DataW.trod_int Try.underlying3 t2
  obtain rfl : x2 = .int .i64 u2 := by injection (show [x2] = [_] from e2)
  obtain ⟨u3, e3, _, f3⟩ := DataW.trod_int Try.underlying5 t3
  obtain rfl : x3 = .int .u8 u3 := by injection (show [x3] = [_] from e3)
  have hlo : 0 ≤ u3 := ((Lit.wf_int_iff .u8 u3).1 f3).1
  obtain ⟨u, rfl⟩ : ∃ u : Nat, u3 = (u : Int) := ⟨u3.toNat, by omega⟩
  rcases Go.Deep.open_slice Try.underlying34 t4 with ⟨hcs, _⟩ | ⟨a, len, cap, q, nn, Dt, Pl, hcs, _, hl, hm, hq, _, hi⟩
  · obtain rfl : x4 = .slice none 0 0 := by injection (show [x4] = [_] from hcs)
    exact ⟨⟨u0, u1, u2, u, none, 0, 0⟩, [], rfl, .inl ⟨rfl, rfl⟩, rfl, Nat.le_refl _, by simp [maxLen]⟩
  · obtain rfl : x4 = .slice (some a) len cap := by injection (show [x4] = [_] from hcs)
    have hb : ∀ i, i < len → ∃ b, W.cell? (a.add i) = some (.bool b) := by
      intro i hil
      obtain ⟨cs', hc', ht'⟩ := hi i (by rw [hq]; split <;> omega)
      rw [c_bool, Nat.mul_one] at hc'
      obtain ⟨b, rfl, _⟩ := DataW.trod_bool Try.underlying4 ht'
      obtain ⟨_, _, hat⟩ := World.cells?_some hc'
      exact ⟨b, by have h9 := hat 0 (by omega); rw [Go.Deep.add_add] at h9; exact h9⟩
    refine ⟨⟨u0, u1, u2, u, some a, len, cap⟩, (List.range len).map (fun i => boolOf (W.cell? (a.add i))), rfl, .inr ⟨a, rfl, fun i hil => ?_⟩, by simp, hl, hm⟩
    simp only [List.length_map, List.length_range] at hil
    obtain ⟨b, hb'⟩ := hb i hil
    simp only [List.getD_eq_getElem?_getD, List.getElem?_map, List.getElem?_range hil, Option.map_some, Option.getD_some]
    rw [hb']
    rfl

/-! ### THE ROW's STEP -/
set_option maxRecDepth 100000 in
theorem lifted (os : Os) (started : os.Started) (H : Type) (enc : TypeId × Value → H) :
    ReturnsInHanded {} Try.checked os 5 .any (Rows.diskSizesSpec.pre6 enc Try.prog Try.f5 Rows.diskSizesRow.domain false) (Rows.diskSizesSpec.post enc Try.prog Try.f5 false true false false) := by
  refine returnsInHanded_of_change (C := Try.checked) own started (by kernel_rfl) Try.func5
    (ChangeSpec.witness6 (enc := enc) (C := Try.checked) false ⟨#[], #[.int .i64 0, .agg #[.int .i64 0, .int .i64 0, .int .i64 0, .int .u8 0, .slice none 0 0]], []⟩ 8 (by kernel_rfl) (by kernel_rfl) (by kernel_rfl) (by kernel_rfl)) ?_
  intro W base args ds gs before hval0 hW hcnd _
  have hval : ∀ (j : Nat) t v, Try.f5.params[j]? = some t → args[j]? = some v → Value.okWide Try.prog W .any base t v := hval0
  have hW' := hW
  obtain ⟨p, q, hA0, hV, rfl, hfz, hnd⟩ := hW
  have hA : DataW.TrodAll enc Try.prog W 0 (fun _ => true) true Try.f5.params.toList args.toList ds p := hA0
  rw [Try.params5] at hA hval
  obtain ⟨v0, vs0, d0, ds0, p0, q0, hargs, rfl, rfl, h0, r0⟩ := trodAll_cons hA
  obtain ⟨v1, vs1, d1, ds1, p1, q1, rfl, rfl, rfl, h1, r1⟩ := trodAll_cons r0
  obtain ⟨rfl, rfl, rfl⟩ := trodAll_nil r1
  obtain rfl : args = #[v0, v1] := by cases args; simp_all
  obtain ⟨rfl, rfl⟩ := trodVars_none hV
  have k0 := h0
  have lt0 : ∀ x ∈ p0, x.block < W.heap.size := by obtain ⟨m, hm⟩ := k0; exact DataW.trod_lt m _ _ _ hm
  have k1 := h1
  have lt1 : ∀ x ∈ p1, x.block < W.heap.size := by obtain ⟨m, hm⟩ := k1; exact DataW.trod_lt m _ _ _ hm
  obtain ⟨n, rfl, _⟩ := open_int Try.underlying3 (hval 0 3 v0 rfl rfl) h0
  obtain ⟨x, ks, rfl, hT, hl, hc, hm⟩ := deed_of (hval 1 36 v1 rfl rfl) h1
  clear hA0 hval0
  refine (walk n x ks W hT hl hc hm).mono fun e W' ⟨he, bel⟩ => ?_
  subst he
  exact ⟨_, rfl, _, _, _, [], _, [], hW', trodAll_mk1 (shut_bool Try.underlying4 _), (trodAll_cons_mk (Below.trod laidOut (by kernel_rfl) (of_decide_eq_true (by kernel_rfl)) k0 bel lt0) (trodAll_cons_mk (Below.trod laidOut (by kernel_rfl) (of_decide_eq_true (by kernel_rfl)) k1 bel lt1) trodAll_mk0)), rfl, bel.frame _, fun h => by cases h⟩

theorem over : Rows.diskSizesRow.holds Try.pinned (OpenSpec.ofChange Rows.diskSizesSpec) :=
  OpenClaim.holds_of_wide 5 Try.f5 rfl rfl rfl rfl rfl rfl rfl ⟨rfl, rfl, rfl, rfl, rfl⟩ rfl rfl rfl rfl rfl (by kernel_rfl) Try.func5 (by kernel_rfl)
    (of_decide_eq_true (by kernel_rfl)) (by unfold Func.isWrapper; first | (rw [if_pos (by decide +kernel)]; kernel_rfl) | (rw [if_neg (by decide +kernel)]; exact ⟨rfl, rfl⟩))
    (fun os started H enc _ => lifted os started H enc)

end diskSizes
/-- The statement. -/
theorem diskSizes_holds : Rows.DiskSizesSaid := diskSizes.over
end Go.Proofs.Ytnbdiihpnnffjaa
