/-
  A row of ops that is data; and what holds of a new arena. Nothing here is a statement of the document.
-/
import Derived.Test.YtoidklkloagioaaArnT
import Derived.Test.YtoidklkloagioaaArnN
import Derived.Deep.Slices
import Derived.WalkKit
import Derived.ProofKit
import Derived.OpenShut
import Derived.ShutString
import Derived.ChangeOld
import Derived.Below
import Derived.DataShut
namespace Go.Proofs.Ytoidklkloagioaa
open Go.ChangeShapes Go.WideShapes Go.ChangeAt Go.RowKit
set_option linter.unusedVariables false

theorem opc_int : Try.prog.cellsOf 3 = 1 := by kernel_rfl
theorem opc_u64 : Try.prog.cellsOf 32 = 1 := by kernel_rfl
theorem opc_bool : Try.prog.cellsOf 4 = 1 := by kernel_rfl
theorem opc_op : Try.prog.cellsOf 38 = 7 := by kernel_rfl

theorem op_cells {H : Type} {enc : TypeId × Value → H} {W : World} {sp : Nat → Bool} {held : Bool} {fuel : Nat} {cs : List Value} {y : DataW H × List MemPlace} (hC : cs.length = 7) (h : DataW.trod enc Try.prog W 0 sp held fuel 38 cs = some y) :
    ∃ x : OpM, cs = x.cs.toList ∧ x.Ok := by
  obtain ⟨x0, x1, x2, x3, x4, x5, x6, rfl⟩ : ∃ x0 x1 x2 x3 x4 x5 x6, cs = [x0, x1, x2, x3, x4, x5, x6] := by
    match cs, hC with
    | [a, b, c, d, e, f, g], _ => exact ⟨a, b, c, d, e, f, g, rfl⟩
  obtain ⟨xs, m, _, hx, _, hlen, hg⟩ := DataW.trod_struct Try.underlying38 h
  obtain ⟨y0, y1, y2, y3, y4, y5, y6, rfl⟩ : ∃ y0 y1 y2 y3 y4 y5 y6, xs = [y0, y1, y2, y3, y4, y5, y6] := by
    match xs, hlen with
    | [a, b, c, d, e, f, g], _ => exact ⟨a, b, c, d, e, f, g, rfl⟩
  have t0 : DataW.trod enc Try.prog W 0 sp held m 3 (List.take (Try.prog.cellsOf 3) (List.drop 0 [x0, x1, x2, x3, x4, x5, x6])) = some y0 := hg 0 _ rfl
  rw [opc_int] at t0
  have t1 : DataW.trod enc Try.prog W 0 sp held m 3 (List.take (Try.prog.cellsOf 3) (List.drop 1 [x0, x1, x2, x3, x4, x5, x6])) = some y1 := hg 1 _ rfl
  rw [opc_int] at t1
  have t2 : DataW.trod enc Try.prog W 0 sp held m 3 (List.take (Try.prog.cellsOf 3) (List.drop 2 [x0, x1, x2, x3, x4, x5, x6])) = some y2 := hg 2 _ rfl
  rw [opc_int] at t2
  have t3 : DataW.trod enc Try.prog W 0 sp held m 3 (List.take (Try.prog.cellsOf 3) (List.drop 3 [x0, x1, x2, x3, x4, x5, x6])) = some y3 := hg 3 _ rfl
  rw [opc_int] at t3
  have t4 : DataW.trod enc Try.prog W 0 sp held m 3 (List.take (Try.prog.cellsOf 3) (List.drop 4 [x0, x1, x2, x3, x4, x5, x6])) = some y4 := hg 4 _ rfl
  rw [opc_int] at t4
  have t5 : DataW.trod enc Try.prog W 0 sp held m 32 (List.take (Try.prog.cellsOf 32) (List.drop 5 [x0, x1, x2, x3, x4, x5, x6])) = some y5 := hg 5 _ rfl
  rw [opc_u64] at t5
  have t6 : DataW.trod enc Try.prog W 0 sp held m 4 (List.take (Try.prog.cellsOf 4) (List.drop 6 [x0, x1, x2, x3, x4, x5, x6])) = some y6 := hg 6 _ rfl
  rw [opc_bool] at t6
  obtain ⟨u0, e0, _, f0⟩ := DataW.trod_int Try.underlying3 t0
  obtain rfl : x0 = .int .i64 u0 := by injection (show [x0] = [_] from e0)
  obtain ⟨u1, e1, _, f1⟩ := DataW.trod_int Try.underlying3 t1
  obtain rfl : x1 = .int .i64 u1 := by injection (show [x1] = [_] from e1)
  obtain ⟨u2, e2, _, f2⟩ := DataW.trod_int Try.underlying3 t2
  obtain rfl : x2 = .int .i64 u2 := by injection (show [x2] = [_] from e2)
  obtain ⟨u3, e3, _, f3⟩ := DataW.trod_int Try.underlying3 t3
  obtain rfl : x3 = .int .i64 u3 := by injection (show [x3] = [_] from e3)
  obtain ⟨u4, e4, _, f4⟩ := DataW.trod_int Try.underlying3 t4
  obtain rfl : x4 = .int .i64 u4 := by injection (show [x4] = [_] from e4)
  obtain ⟨u5, e5, _, f5⟩ := DataW.trod_int Try.underlying32 t5
  obtain rfl : x5 = .int .u64 u5 := by injection (show [x5] = [_] from e5)
  obtain ⟨u6, e6, _⟩ := DataW.trod_bool Try.underlying4 t6
  obtain rfl : x6 = .bool u6 := by injection (show [x6] = [_] from e6)
  have b : ∀ {u : Int}, (Lit.int .i64 u).wf = true → -9223372036854775808 ≤ u ∧ u ≤ 9223372036854775807 := fun {u} hu => (Lit.wf_int_iff .i64 u).1 hu
  exact ⟨⟨u0, u1, u2, u3, u4, u5, u6⟩, rfl, ⟨b f0, b f1, b f2, b f3, b f4, (Lit.wf_int_iff .u64 u5).1 f5⟩⟩

/-- A row of ops. -/
def Ops (w : World) (a : Option Addr) (l : List OpM) : Prop :=
  l = [] ∨ ∃ x, a = some x ∧ ∀ (i : Nat) (y : OpM), l[i]? = some y → (∀ j, j < 7 → w.cell? (x.add (i * 7 + j)) = (y.cs)[j]?) ∧ y.Ok
theorem ops_of {H : Type} {enc : TypeId × Value → H} {W : World} {sp : Nat → Bool} {held : Bool} {a : Option Addr} {len cap : Nat} {d : DataW H} {p : List MemPlace} (h : DataW.Trod enc Try.prog W 0 sp held 22 (.slice a len cap) d p) :
    ∃ l : List OpM, l.length = len ∧ len ≤ 9223372036854775807 ∧ Ops W a l := by
  obtain ⟨fuel, hf⟩ := h
  rcases Go.Deep.open_slice Try.underlying22 hf with ⟨hcs, _⟩ | ⟨x, len', cap', q, nn, Dt, Pl, hcs, _, hl, hm, hq, _, hi⟩
  · simp [Value.cells] at hcs
    obtain ⟨rfl, rfl, rfl⟩ := hcs
    exact ⟨[], rfl, by omega, .inl rfl⟩
  · simp [Value.cells] at hcs
    obtain ⟨rfl, rfl, rfl⟩ := hcs
    have hex : ∀ i, i < len → ∃ y : OpM, (∀ j, j < 7 → W.cell? (x.add (i * 7 + j)) = (y.cs)[j]?) ∧ y.Ok := by
      intro i hil
      obtain ⟨cs', hc', ht'⟩ := hi i (by rw [hq]; split <;> omega)
      rw [opc_op] at hc'
      obtain ⟨_, hlen, hat⟩ := World.cells?_some hc'
      obtain ⟨y, rfl, r⟩ := op_cells hlen ht'
      refine ⟨y, fun j hj => ?_, r⟩
      have h9 := hat j hj
      rw [Go.Deep.add_add] at h9
      rw [h9]
      simp
    obtain ⟨f, hf2⟩ : ∃ f : Nat → OpM, ∀ i, i < len → (∀ j, j < 7 → W.cell? (x.add (i * 7 + j)) = ((f i).cs)[j]?) ∧ (f i).Ok :=
      ⟨fun i => if h : i < len then (hex i h).choose else ⟨0, 0, 0, 0, 0, 0, false⟩, fun i hil => by simp only [dif_pos hil]; exact (hex i hil).choose_spec⟩
    refine ⟨(List.range len).map f, by simp, by unfold maxLen at hm; omega, .inr ⟨x, rfl, fun i y hy => ?_⟩⟩
    have hil : i < len := by simpa using (List.getElem?_eq_some_iff.1 hy).1
    rw [List.getElem?_map, List.getElem?_range hil, Option.map_some] at hy
    injection hy with hy
    subst hy
    exact hf2 i hil
theorem Ops.at {w : World} {a : Option Addr} {l : List OpM} (h : Ops w a l) {i : Nat} {y : OpM} (hy : l[i]? = some y) :
    ∃ b0 o0, a = some ⟨b0, o0, none⟩ ∧ (∀ j, j < 7 → w.cell? ⟨b0, o0 + i * 7 + j, none⟩ = (y.cs)[j]?) ∧ y.Ok := by
  rcases h with rfl | ⟨x, rfl, hx⟩
  · simp at hy
  · obtain ⟨h1, h2⟩ := hx i y hy
    have hl : 0 < l.length := by have := (List.getElem?_eq_some_iff.1 hy).1; omega
    have h0 := (hx 0 _ (List.getElem?_eq_getElem hl)).1 0 (by omega)
    obtain ⟨b, o, q⟩ := x
    have hq : q = none := by
      have h9 : ((l[0]).cs)[0]? = some (.int .i64 (l[0]).kind) := rfl
      rw [h9] at h0
      simpa [Addr.add] using World.cell?_spot h0
    subst hq
    exact ⟨b, o, rfl, fun j hj => by have h9 := h1 j hj; rw [Addr.add_lit, ← Nat.add_assoc] at h9; exact h9, h2⟩

theorem inv_new {n : Nat} (h : 64 ≤ n) : Inv (newWs n) (List.replicate n false) [] (fun _ => []) :=
  ⟨(newWs_15 h).symm, by rw [newWs_15 h, newWs_len]; omega, fun i => by simp only [List.getD_eq_getElem?_getD, List.getElem?_replicate]; split <;> simp, fun c hc => newWs_get h (by omega) (by omega), fun c hc x => by simp, fun c hc => List.nodup_nil⟩
theorem nice_new {n : Nat} (h : 64 ≤ n) : Nice (newWs n) [] :=
  ⟨by unfold newWs; rw [getD_set _ _ _ _ _ (by simp; omega), if_neg (by omega), getD_set _ _ _ _ _ (by simp; omega), if_pos rfl]; simp, fun i h1 h2 => by rw [newWs_15 h] at h1; rw [newWs_len] at h2; exact newWs_get h (by omega) (by omega), by simp, .inl (newWs_get h (by omega) (by omega)), .inl (newWs_get h (by omega) (by omega))⟩
end Go.Proofs.Ytoidklkloagioaa
