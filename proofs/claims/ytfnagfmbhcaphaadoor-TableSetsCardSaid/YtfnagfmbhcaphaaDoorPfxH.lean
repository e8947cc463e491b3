/-
  What building an address and a prefix gives; the contracts of prefix.Of and of the reference's. Nothing here is a statement of the document.
-/
import Derived.Test.YtfnagfmbhcaphaaDoorPfxF
import Derived.Laws.ResultCell
namespace Go.Proofs.YtfnagfmbhcaphaaDoor
open Go.RowKit Go.Shelf
set_option linter.unusedVariables false

theorem results_blk {fn : Func} {p u : Tmp} {ty : TypeId} (h : fn.results = #[.cell p ty, .tmp u]) (tmps : Array Value) (w : World) (g : Nat) (vs : Array Value) (d : TypeDesc)
    (hp : tmps.getD p undef = .pointer (some ⟨g, 0, none⟩)) (hb : Blk w g ty vs) (hu : Tryd.prog.underlying ty = some d) (hd : d.isRow = true) (hi : (Tryd.prog.info? ty).map (·.size) = some vs.size) :
    (results fn tmps).run Tryd.prog w = .ok (.tuple #[.agg vs, tmps.getD u undef]) w := by
  have hl := run_loadVar_row (P := Tryd.prog) w g ty ty vs (0, 0) d hb hu (by cases d <;> simp_all) hi
  rw [results_cell_tmp h, hp]
  simp [asAddr, hl, Result.andThen]
def buildSem (ty : TypeId) (ps : Array (Nat × Value)) : Sem Value := Instr.build ty ps
theorem build_ad_rule (ps : Array (Nat × Value)) : Instr.build 27 ps = buildSem 27 ps := rfl
theorem build_px_rule (ps : Array (Nat × Value)) : Instr.build 29 ps = buildSem 29 ps := rfl
theorem list16 {l : List Nat} (h : l.length = 16) : ∃ a0 a1 a2 a3 a4 a5 a6 a7 a8 a9 a10 a11 a12 a13 a14 a15, l = [a0, a1, a2, a3, a4, a5, a6, a7, a8, a9, a10, a11, a12, a13, a14, a15] := by
  rcases l with _ | ⟨a0, _ | ⟨a1, _ | ⟨a2, _ | ⟨a3, _ | ⟨a4, _ | ⟨a5, _ | ⟨a6, _ | ⟨a7, _ | ⟨a8, _ | ⟨a9, _ | ⟨a10, _ | ⟨a11, _ | ⟨a12, _ | ⟨a13, _ | ⟨a14, _ | ⟨a15, _ | ⟨a16, l⟩⟩⟩⟩⟩⟩⟩⟩⟩⟩⟩⟩⟩⟩⟩⟩⟩ <;> first | exact ⟨_, _, _, _, _, _, _, _, _, _, _, _, _, _, _, _, rfl⟩ | (exfalso; simp at h; done) | (exfalso; simp at h; omega)
theorem B16.out (b : B16) : ∃ a0 a1 a2 a3 a4 a5 a6 a7 a8 a9 a10 a11 a12 a13 a14 a15, b.cs = #[byc a0, byc a1, byc a2, byc a3, byc a4, byc a5, byc a6, byc a7, byc a8, byc a9, byc a10, byc a11, byc a12, byc a13, byc a14, byc a15] := by
  obtain ⟨a0, a1, a2, a3, a4, a5, a6, a7, a8, a9, a10, a11, a12, a13, a14, a15, h⟩ := list16 b.len
  refine ⟨a0, a1, a2, a3, a4, a5, a6, a7, a8, a9, a10, a11, a12, a13, a14, a15, ?_⟩
  unfold B16.cs
  rw [h]
  rfl
theorem build_ad0 (w : World) : (buildSem 27 #[]).run Tryd.prog w = .ok (.agg Ad.zero.cs) w := by kernel_rfl
theorem build_px0 (w : World) : (buildSem 29 #[]).run Tryd.prog w = .ok (.agg Px.zero.cs) w := by kernel_rfl
theorem build_adv (v : Int) (w : World) : (buildSem 27 #[(0, .int .i64 v)]).run Tryd.prog w = .ok (.agg (Ad.mk v B16.zero).cs) w := by kernel_rfl
theorem build_ad (v : Int) (b : B16) (w : World) : (buildSem 27 #[(0, .int .i64 v), (1, .agg b.cs)]).run Tryd.prog w = .ok (.agg (Ad.mk v b).cs) w := by
  unfold Ad.cs
  show (buildSem 27 #[(0, .int .i64 v), (1, .agg b.cs)]).run Tryd.prog w = .ok (.agg (#[.int .i64 v] ++ b.cs)) w
  obtain ⟨a0, a1, a2, a3, a4, a5, a6, a7, a8, a9, a10, a11, a12, a13, a14, a15, h⟩ := b.out
  rw [h]
  kernel_rfl
theorem build_px (a : Ad) (n : Int) (w : World) : (buildSem 29 #[(0, .agg a.cs), (1, .int .i64 n)]).run Tryd.prog w = .ok (.agg (Px.mk a n).cs) w := by
  unfold Px.cs
  show (buildSem 29 #[(0, .agg a.cs), (1, .int .i64 n)]).run Tryd.prog w = .ok (.agg (a.cs ++ #[.int .i64 n])) w
  unfold Ad.cs
  obtain ⟨a0, a1, a2, a3, a4, a5, a6, a7, a8, a9, a10, a11, a12, a13, a14, a15, h⟩ := a.b.out
  rw [h]
  kernel_rfl
theorem over_b (a : Ad) (b : B16) : over a.cs 1 b.cs = (Ad.mk a.v b).cs := by
  apply Array.ext_getElem?
  intro i
  have hs : 1 + b.cs.size ≤ a.cs.size := by rw [B16.size, Ad.size]; omega
  rw [over_get hs, B16.size]
  rcases i with _ | i
  · rw [if_pos (by omega), a.c0, Ad.c0]
  · rw [if_neg (by omega), show i + 1 = 1 + i from by omega]
    by_cases h : i < 16
    · rw [if_pos (by omega), show 1 + i - 1 = i from by omega]
      exact (Ad.c1 ⟨a.v, b⟩ i).symm
    · rw [if_neg (by omega), Array.getElem?_eq_none (by rw [Ad.size]; omega), Array.getElem?_eq_none (by rw [Ad.size]; omega)]
theorem st_px {w : World} {g : Nat} {p q : Px} (h : Blk w g 29 p.cs) : (storeSem 29 (.pointer (some ⟨g, 0, none⟩)) (.agg q.cs)).run Tryd.prog w = .ok () (w.setRow g q.cs) := by
  have := storeRes_of (P := Tryd.prog) (ty := 29) (o := 0) (vs := q.cs) h (by rw [Px.size, Px.size]; omega) (s_px q) q.one
  rwa [over_all (by rw [Px.size, Px.size])] at this
theorem st_ad {w : World} {g : Nat} {p q : Ad} (h : Blk w g 27 p.cs) : (storeSem 27 (.pointer (some ⟨g, 0, none⟩)) (.agg q.cs)).run Tryd.prog w = .ok () (w.setRow g q.cs) := by
  have := storeRes_of (P := Tryd.prog) (ty := 27) (o := 0) (vs := q.cs) h (by rw [Ad.size, Ad.size]; omega) (s_ad q) q.one
  rwa [over_all (by rw [Ad.size, Ad.size])] at this
theorem st_b {w : World} {g : Nat} {p : Ad} {b : B16} (h : Blk w g 27 p.cs) : (storeSem 25 (.pointer (some ⟨g, 1, none⟩)) (.agg b.cs)).run Tryd.prog w = .ok () (w.setRow g (Ad.mk p.v b).cs) := by
  have := storeRes_of (P := Tryd.prog) (ty := 25) (o := 1) (vs := b.cs) h (by rw [B16.size, Ad.size]; omega) (s_b16 b) b.one
  rwa [over_b] at this
theorem below_setRow {B : Nat} {w w' : World} {g : Nat} (h : Below B w w') (hg : B ≤ g) (cs : Array Value) : Below B w (w'.setRow g cs) :=
  ⟨h.os, h.tape, h.output, by have := h.size; simpa using this, fun k hk => (setRow_other w' g k cs (by omega)).trans (h.block k hk)⟩

/-- What Of answers. -/
noncomputable def ofE (a : Ad) (n : Int) : Int := if okA a then (if 0 ≤ n ∧ n ≤ (wid a.v : Int) then 0 else 2) else 150
noncomputable def ofP (a : Ad) (n : Int) : Px := if okA a ∧ 0 ≤ n ∧ n ≤ (wid a.v : Int) then ⟨⟨a.v, keptB a.b n.toNat⟩, n⟩ else Px.zero
attribute [local go_sem ↓] load_b16_rule store_b16_rule load_ad_rule store_ad_rule load_px_rule store_px_rule eq_b16_rule eq_ad_rule eq_px_rule build_ad_rule build_px_rule

theorem keep_next : ∀ x, x < 256 → ∀ s, s < 8 → keepN x (s + 1) = keepN x s + (x / 2 ^ (7 - s) % 2) * 2 ^ (7 - s) := by decide +kernel
theorem keep_room : ∀ x, x < 256 → ∀ s, s < 8 → keepN x s + 2 ^ (7 - s) < 256 := by
  intro x hx s hs
  have h : ∀ x, x < 256 → ∀ s, s < 8 → keepN x s + 2 ^ (7 - s) < 256 := by decide +kernel
  exact h x hx s hs
theorem kept_next (b : B16) (m : Nat) (hm : m < 128) (i : Nat) (hi : i < 16) : (keptB b (m + 1)).at i = if i = m / 8 then (keptB b m).at i + (bt b m).toNat * 2 ^ (7 - m % 8) else (keptB b m).at i := by
  rw [keptB_at _ _ _ hi, keptB_at _ _ _ hi]
  by_cases h : i = m / 8
  · rw [if_pos h]
    have h1 : stayN m i = m % 8 := by unfold stayN; omega
    have h2 : stayN (m + 1) i = m % 8 + 1 := by unfold stayN; omega
    rw [h1, h2, keep_next _ (b.lt _) _ (by omega)]
    unfold bt
    rw [← bit_num, h]
  · rw [if_neg h]
    have h1 : stayN (m + 1) i = stayN m i := by unfold stayN; omega
    rw [h1]
theorem kept_same (b : B16) (m : Nat) (hm : m < 128) (h : bt b m = false) : keptB b (m + 1) = keptB b m := B16.ext_at fun i hi => by
  rw [kept_next b m hm i hi, h]
  simp
theorem px_set {p : Px} {b : B16} {k x : Nat} (hk : k < 16) (h : ∀ i, i < 16 → b.at i = if i = k then x else p.a.b.at i) : p.cs.setIfInBounds (1 + k) (.int .u8 (x : Int)) = (Px.mk ⟨p.a.v, b⟩ p.n).cs := by
  apply Array.ext_getElem?
  intro i
  rw [Array.getElem?_setIfInBounds]
  by_cases h1 : i < 17
  · rw [Px.ca _ i h1, Px.ca _ i h1]
    rcases i with _ | i
    · rw [if_neg (by omega), Ad.c0, Ad.c0]
    · rw [show i + 1 = 1 + i from by omega, Ad.c1]
      have hi : i < 16 := by omega
      by_cases h2 : k = i
      · subst h2
        rw [if_pos rfl, if_pos (by rw [Px.size]; omega)]
        have e := b.get k hk
        rw [h k hk, if_pos rfl] at e
        exact ((Ad.c1 ⟨p.a.v, b⟩ k).trans e).symm
      · rw [if_neg (by omega), p.a.b.get i hi]
        have e := b.get i hi
        rw [h i hi, if_neg (fun e => h2 e.symm)] at e
        exact ((Ad.c1 ⟨p.a.v, b⟩ i).trans e).symm
  · rw [if_neg (by omega)]
    by_cases h2 : i = 17
    · subst h2; rw [Px.cn, Px.cn]
    · rw [Array.getElem?_eq_none (by rw [Px.size]; omega), Array.getElem?_eq_none (by rw [Px.size]; omega)]

end Go.Proofs.YtfnagfmbhcaphaaDoor
