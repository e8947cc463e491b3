/-
  The contract of the reference's Put. Nothing here is a statement of the document.
-/
import Derived.Test.YtikdgbmdepplgaaGreatDoorPfxQ
import Derived.Deep.Slices
namespace Go.Proofs.YtikdgbmdepplgaaGreatDoor
open Go.RowKit Go.Shelf Go.ChangeShapes Go.WideShapes Go.ChangeAt
set_option linter.unusedVariables false
set_option maxRecDepth 100000

/-! ### Rows are compared -/
theorem eq_rt_rule (a b : Value) : Op.equalIn 10000 60 a b = eqSem 60 a b := rfl
theorem stood_rt : Tryz.prog.stoodInHeld 60 = false := by kernel_rfl
theorem part_p (r : Rt) (w : World) : (part 46 r.cs 0).run Tryz.prog w = .ok (.agg r.p.cs) w := by
  have hagg : (isAgg 46).run Tryz.prog w = .ok true w := by kernel_rfl
  have hn : (sizeOf 46).run Tryz.prog w = .ok 18 w := by kernel_rfl
  have e : r.cs.extract 0 (0 + 18) = r.p.cs := by
    apply Array.ext_getElem?
    intro j
    rw [Array.getElem?_extract, r.size]
    by_cases hj : j < 18
    · rw [if_pos (by omega), Nat.zero_add, r.cp j hj]
    · rw [if_neg (by omega), Array.getElem?_eq_none (by rw [Px.size]; omega)]
  unfold part
  simp only [Sem.run_bind, hagg, hn, Result.andThen_ok, if_true, r.size, e]
  first | rfl | (simp; rfl) | simp
theorem part_h (r : Rt) (w : World) : (part 3 r.cs 18).run Tryz.prog w = .ok (.int .i64 r.h) w := by
  have hagg : (isAgg 3).run Tryz.prog w = .ok false w := by kernel_rfl
  unfold part
  simp only [Sem.run_bind, hagg, Result.andThen_ok, r.ch]
  rfl
theorem equal_rt (d : Nat) (p q : Rt) (w : World) : (Op.equalIn (d + 5) 60 (.agg p.cs) (.agg q.cs)).run Tryz.prog w = .ok (decide (p = q)) w := by
  rw [show d + 5 = (d + 4) + 1 from rfl, Op.equalIn]
  have hu := run_underlying (P := Tryz.prog) Tryz.underlying60 w
  have h2 := fun x y => equal_int (d + 3) x y w
  have h3 := fun x y => equal_px d x y w
  simp only [Sem.run_bind, hu, Result.andThen_ok, run_prog, stood_rt]
  simp only [Bool.false_eq_true, if_false, List.forIn_toArray, List.forIn_cons, List.forIn_nil, Sem.run_bind, Sem.run_pure, Result.andThen_ok]
  simp only [show ("Prefix" ≠ "_") = True from by simp, show ("Hop" ≠ "_") = True from by simp, if_true, Sem.run_bind, Result.andThen_ok, part_p, part_h, h2, h3]
  by_cases hv : p.p = q.p
  · have hd : (!decide (p.p = q.p)) = false := by simp [hv]
    simp only [hd, Bool.false_eq_true, if_false, Sem.run_pure, Sem.run_bind, Result.andThen_ok, part_h, h2]
    by_cases hb : p.h = q.h
    · have hd2 : (!decide (p.h = q.h)) = false := by simp [hb]
      have he : decide (p = q) = true := decide_eq_true (Rt.same.2 ⟨hv, hb⟩)
      simp only [hd2, Bool.false_eq_true, if_false, Sem.run_pure, Result.andThen_ok, he]
    · have hd2 : (!decide (p.h = q.h)) = true := by simp [hb]
      have he : decide (p = q) = false := decide_eq_false (fun h => hb (Rt.same.1 h).2)
      simp only [hd2, if_true, Sem.run_pure, Result.andThen_ok, he]
  · have hd : (!decide (p.p = q.p)) = true := by simp [hv]
    have he : decide (p = q) = false := decide_eq_false (fun h => hv (Rt.same.1 h).1)
    simp only [hd, if_true, Sem.run_pure, Result.andThen_ok, he]
theorem eqR (a b : Rt) (w : World) : (eqSem 60 (.agg a.cs) (.agg b.cs)).run Tryz.prog w = .ok (decide (a = b)) w := by
  unfold eqSem
  obtain ⟨d, hd⟩ : ∃ d, d + 5 = 10000 := ⟨9995, rfl⟩
  rw [← hd]
  exact equal_rt d a b w

/-! ### A table that is data -/
theorem c_rt : Tryz.prog.cellsOf 60 = 19 := by kernel_rfl
theorem c_sl : Tryz.prog.cellsOf 54 = 1 := by kernel_rfl
theorem c_tab : Tryz.prog.cellsOf 56 = 1 := by kernel_rfl
theorem rt_cells {H : Type} {enc : TypeId × Value → H} {W : World} {sp : Nat → Bool} {held : Bool} {fuel : Nat} {cs : List Value} {y : DataW H × List MemPlace} (h : DataW.trod enc Tryz.prog W 0 sp held fuel 60 cs = some y) : ∃ r : Rt, cs = r.cs.toList := by
  obtain ⟨xs, m, _, _, hlen, hxs, hg⟩ := DataW.trod_struct Tryz.underlying60 h
  rw [c_rt] at hlen
  obtain ⟨y0, y1, rfl⟩ : ∃ y0 y1, xs = [y0, y1] := by
    match xs, hxs with
    | [a, b], _ => exact ⟨a, b, rfl⟩
  have t0 : DataW.trod enc Tryz.prog W 0 sp held m 46 (List.take (Tryz.prog.cellsOf 46) (List.drop 0 cs)) = some y0 := hg 0 _ rfl
  rw [c_px] at t0
  have t1 : DataW.trod enc Tryz.prog W 0 sp held m 3 (List.take (Tryz.prog.cellsOf 3) (List.drop 18 cs)) = some y1 := hg 1 _ rfl
  rw [c_int] at t1
  obtain ⟨u0, e0, _, f0⟩ := DataW.trod_int Tryz.underlying3 t1
  obtain ⟨p, hp, _, _⟩ := px_cells t0
  refine ⟨⟨p, u0⟩, ?_⟩
  rw [show (Rt.mk p u0).cs.toList = p.cs.toList ++ [Value.int .i64 u0] from by simp [Rt.cs], ← hp, ← e0, List.drop_zero, List.take_of_length_le (l := cs.drop 18) (by simp; omega)]
  exact (List.take_append_drop 18 cs).symm
theorem rows_of {H : Type} {enc : TypeId × Value → H} {W : World} {sp : Nat → Bool} {held : Bool} {fuel : Nat} {cs : List Value} {y : DataW H × List MemPlace} (h : DataW.trod enc Tryz.prog W 0 sp held fuel 54 cs = some y) : ∃ a n c L, cs = [.slice a n c] ∧ L.length = n ∧ Tbl W a c L := by
  rcases Go.Deep.open_slice Tryz.underlying54 h with ⟨hcs, _⟩ | ⟨x, len', cap', q, nn, Dt, Pl, hcs, _, hl, hm, hq, _, hi⟩
  · exact ⟨none, 0, 0, [], hcs, rfl, Tbl.none W⟩
  · have hex : ∀ i, i < len' → ∃ y : Rt, ∀ j, j < 19 → W.cell? (x.add (i * 19 + j)) = (y.cs)[j]? := by
      intro i hil
      obtain ⟨cs', hc', ht'⟩ := hi i (by rw [hq]; split <;> omega)
      rw [c_rt] at hc'
      obtain ⟨_, hlen, hat⟩ := World.cells?_some hc'
      obtain ⟨y, rfl⟩ := rt_cells ht'
      refine ⟨y, fun j hj => ?_⟩
      have h9 := hat j hj
      rw [Go.Deep.add_add] at h9
      rw [h9]
      simp
    obtain ⟨f, hf2⟩ : ∃ f : Nat → Rt, ∀ i, i < len' → ∀ j, j < 19 → W.cell? (x.add (i * 19 + j)) = ((f i).cs)[j]? :=
      ⟨fun i => if h : i < len' then (hex i h).choose else Rt.zero, fun i hil => by simp only [dif_pos hil]; exact (hex i hil).choose_spec⟩
    refine ⟨some x, len', cap', (List.range len').map f, hcs, by simp, ?_, by simpa using hl, hm, fun h => by cases h⟩
    by_cases h0 : len' = 0
    · left; rw [h0]; rfl
    · right
      have h1 := hf2 0 (by omega) 0 (by omega)
      have h2 : ((f 0).cs)[0]? = some (.int .i64 (f 0).p.a.v) := by rw [Rt.cp _ _ (by omega), Px.ca _ _ (by omega), Ad.c0]
      rw [h2] at h1
      obtain ⟨b, o, s⟩ := x
      obtain rfl : s = none := by simpa [Addr.add] using World.cell?_spot h1
      refine ⟨b, o, rfl, ?_, fun i hi j hj => ?_⟩
      · have := cell_lt h1
        simpa [Addr.add_lit] using this
      · have hil : i < len' := by simpa using hi
        have h3 := hf2 i hil j hj
        rw [Addr.add_lit] at h3
        rw [Nat.add_assoc, h3]
        congr 2
        simp [rt, hil]
theorem tab_of {H : Type} {enc : TypeId × Value → H} {W : World} {sp : Nat → Bool} {base : Nat} {held : Bool} {v : Value} {d : DataW H} {p : List MemPlace} (hv : Value.okWide Tryz.prog W .any base 56 v) (h : DataW.Trod enc Tryz.prog W 0 sp held 56 v d p) : ∃ a n c L, v = .agg #[.slice a n c] ∧ L.length = n ∧ Tbl W a c L := by
  obtain ⟨cs, rfl, hsz⟩ := okWide_struct Tryz.underlying56 hv
  obtain ⟨fuel, hf⟩ := h
  obtain ⟨xs, m, _, _, hlen, hxs, hg⟩ := DataW.trod_struct Tryz.underlying56 (show DataW.trod enc Tryz.prog W 0 sp held fuel 56 cs.toList = some _ from hf)
  rw [c_tab] at hlen
  obtain ⟨y0, rfl⟩ : ∃ y0, xs = [y0] := by
    match xs, hxs with
    | [a], _ => exact ⟨a, rfl⟩
  have t0 : DataW.trod enc Tryz.prog W 0 sp held m 54 (List.take (Tryz.prog.cellsOf 54) (List.drop 0 cs.toList)) = some y0 := hg 0 _ rfl
  rw [c_sl, List.drop_zero, List.take_of_length_le (by omega)] at t0
  obtain ⟨a, n, c, L, h1, h2, h3⟩ := rows_of t0
  exact ⟨a, n, c, L, congrArg Value.agg (Array.toList_inj.1 (by rw [h1])), h2, h3⟩
theorem rt_of {H : Type} {enc : TypeId × Value → H} {W : World} {sp : Nat → Bool} {base : Nat} {held : Bool} {v : Value} {d : DataW H} {p : List MemPlace} (hv : Value.okWide Tryz.prog W .any base 60 v) (h : DataW.Trod enc Tryz.prog W 0 sp held 60 v d p) : ∃ r : Rt, v = .agg r.cs := by
  obtain ⟨cs, rfl, hsz⟩ := okWide_struct Tryz.underlying60 hv
  obtain ⟨fuel, hf⟩ := h
  obtain ⟨r, hr⟩ := rt_cells (show DataW.trod enc Tryz.prog W 0 sp held fuel 60 cs.toList = some _ from hf)
  exact ⟨r, congrArg Value.agg (Array.toList_inj.1 hr)⟩

/-! ### What setting a prefix makes of matches -/
section
variable {L : List Rt} {p : Px} {h : Int} {a : Ad}
theorem setM_mem (e : setE L p h = 0) (x : Rt) : x ∈ setM L p h ↔ x = ⟨p, h⟩ ∨ (x ∈ L ∧ x.p ≠ p) := by
  unfold setM
  rw [if_pos e]
  exact setL_mem (setE_ok e).1.2.2 p h x
theorem set_miss (e : setE L p h = 0) (hn : ¬ hasM p a) : longB (setM L p h) a = longB L a ∧ longR (setM L p h) a = longR L a := by
  have hL := (setE_ok e).1.2.2
  have hU := (setM_okT L p h).2.2
  rcases long_ways hL a with ⟨h1, h2⟩ | ⟨h1, h2, h3⟩
  · have hl : Long (setM L p h) a (longR L a) := ⟨(setM_mem e _).2 (.inr ⟨h2.1, fun q => hn (by rw [← q]; exact h2.2.1)⟩), h2.2.1, fun y hy hh => by
      rcases (setM_mem e y).1 hy with q | ⟨q, _⟩
      · rw [q] at hh; exact absurd hh hn
      · exact h2.2.2 y q hh⟩
    obtain ⟨g1, g2⟩ := long_is hU hl
    exact ⟨g1.trans h1.symm, g2⟩
  · obtain ⟨g1, g2⟩ := long_none hU (a := a) (fun y hy hh => by
      rcases (setM_mem e y).1 hy with q | ⟨q, _⟩
      · rw [q] at hh; exact hn hh
      · exact h3 y q hh)
    exact ⟨g1.trans h1.symm, g2.trans h2.symm⟩
theorem set_shorter (e : setE L p h = 0) (ht : longB L a = true) (hn : p.n < (longR L a).p.n) : longB (setM L p h) a = true ∧ longR (setM L p h) a = longR L a := by
  have hL := (setE_ok e).1.2.2
  rcases long_ways hL a with ⟨h1, h2⟩ | ⟨h1, _⟩
  · refine long_is (setM_okT L p h).2.2 ⟨(setM_mem e _).2 (.inr ⟨h2.1, fun q => by rw [q] at hn; omega⟩), h2.2.1, fun y hy hh => ?_⟩
    rcases (setM_mem e y).1 hy with q | ⟨q, _⟩
    · rw [q]; exact Int.le_of_lt hn
    · exact h2.2.2 y q hh
  · rw [ht] at h1; cases h1
theorem set_longer (e : setE L p h = 0) (hp : hasM p a) (hn : longB L a = true → (longR L a).p.n ≤ p.n) : longB (setM L p h) a = true ∧ longR (setM L p h) a = ⟨p, h⟩ := by
  have hL := (setE_ok e).1.2.2
  refine long_is (setM_okT L p h).2.2 ⟨(setM_mem e _).2 (.inl rfl), hp, fun y hy hh => ?_⟩
  rcases (setM_mem e y).1 hy with q | ⟨q, _⟩
  · rw [q]; exact Int.le_refl _
  · rcases long_ways hL a with ⟨h1, h2⟩ | ⟨_, _, h3⟩
    · exact Int.le_trans (h2.2.2 y q hh) (hn h1)
    · exact absurd hh (h3 y q)
end
end Go.Proofs.YtikdgbmdepplgaaGreatDoor
namespace Go.Proofs.YtikdgbmdepplgaaGreatDoor
open Go.RowKit Go.Shelf
set_option linter.unusedVariables false
set_option maxRecDepth 100000
attribute [local go_sem ↓] load_b16_rule store_b16_rule load_ad_rule store_ad_rule load_px_rule store_px_rule eq_b16_rule eq_ad_rule eq_px_rule load_rt_rule store_rt_rule build_ad_rule build_px_rule build_b16_rule build_rt_rule load_tab_rule build_tab_rule store_tab_rule tbuild_rule tapp_rule tcopy_rule eq_rt_rule

theorem tapp_none {w : World} (ty : TypeId) {B : Nat} {v : Value} {L : List Rt} (h : OwnT w B v L) : (tappSem ty #[v, .slice none 0 0]).run Tryz.prog w = .ok v w := by
  obtain ⟨i0, hi, hz0, hz1, hz2⟩ := info_parts info_rt
  exact run_append_owned_none (P := Tryz.prog) w B 54 ty 60 i0 19 Tryz.underlying54 hi v L.length (rtcs L) h
end Go.Proofs.YtikdgbmdepplgaaGreatDoor
namespace Go.Proofs.YtikdgbmdepplgaaGreatDoor
open Go.RowKit Go.Shelf
set_option linter.unusedVariables false
set_option maxRecDepth 100000

def tclearSem (ty : TypeId) (args : Array Value) : Sem Value := Builtin.clear_ #[54] ty args
theorem tclear_rule (ty : TypeId) (args : Array Value) : Builtin.clear_ #[54] ty args = tclearSem ty args := rfl
theorem zero_once : (Builtin.zeroCells (Value.agg Rt.zero.cs).cells 1).toList = Rt.zero.cs.toList := by kernel_rfl
theorem tclear_run {w : World} {g o k : Nat} {cur : Array Value} (ty : TypeId) (cc : Nat) (hk : k = 1) (hg : Blk w g 60 cur) (hcur : o + 19 ≤ cur.size) :
    (tclearSem ty #[.slice (some ⟨g, o, none⟩) k cc]).run Tryz.prog w = .ok (.tuple #[]) (w.setRow g (layC o Rt.zero.cs.toList cur.toList).toArray) := by
  subst hk
  have h19 : Rt.zero.cs.toList.length = 19 := by simp [Rt.size]
  have hst := run_storeCells_at Tryz.prog g o 60 Rt.zero.cs.toList 0 cur w hg (by omega) (fun u hu => Array.all_eq_true_iff_forall_mem.1 Rt.zero.one u (by simpa using hu))
  have hz := (zero_of_info z_rt).1 w
  rw [Nat.add_zero] at hst
  unfold tclearSem layC
  simp [Builtin.clear_, run_underlying Tryz.underlying54, hz, zero_once, hst]
attribute [local go_sem ↓] tbuild_rule tapp_rule tcopy_rule tclear_rule
end Go.Proofs.YtikdgbmdepplgaaGreatDoor
namespace Go.Proofs.YtikdgbmdepplgaaGreatDoor
open Go.RowKit Go.Shelf
set_option linter.unusedVariables false
set_option maxRecDepth 100000
attribute [local go_sem ↓] load_b16_rule store_b16_rule load_ad_rule store_ad_rule load_px_rule store_px_rule eq_b16_rule eq_ad_rule eq_px_rule load_rt_rule store_rt_rule build_ad_rule build_px_rule build_b16_rule build_rt_rule load_tab_rule build_tab_rule store_tab_rule tbuild_rule tapp_rule tcopy_rule eq_rt_rule tclear_rule

noncomputable def getB (L : List Rt) (p : Px) : Bool := decide (okT L) && decide (ixM L p ≠ -1)
noncomputable def getV (L : List Rt) (p : Px) : Int := if okT L then (if ixM L p = -1 then 0 else (rt L (ixM L p).toNat).h) else 0
end Go.Proofs.YtikdgbmdepplgaaGreatDoor
namespace Go.Proofs.YtikdgbmdepplgaaGreatDoor
open Go.RowKit Go.Shelf
set_option linter.unusedVariables false
set_option maxRecDepth 100000
attribute [local go_sem ↓] load_b16_rule store_b16_rule load_ad_rule store_ad_rule load_px_rule store_px_rule eq_b16_rule eq_ad_rule eq_px_rule load_rt_rule store_rt_rule build_ad_rule build_px_rule build_b16_rule build_rt_rule load_tab_rule build_tab_rule store_tab_rule tbuild_rule tapp_rule tcopy_rule eq_rt_rule

theorem same_all9 {L M : List Rt} (h : L.length = M.length) (ha : ∀ j, j < L.length → rt L j = rt M j) : L = M := by
  apply List.ext_getElem h
  intro i h1 h2
  have := ha i h1
  rwa [rt_get h1, rt_get h2] at this
noncomputable def rgetV (L : List Rt) (p : Px) : Int := if ixM L p = -1 then 0 else (rt L (ixM L p).toNat).h
theorem ix_hit {L : List Rt} {p : Px} {k : Nat} (hL : L.Pairwise ltR) (hk : k < L.length) (h : (rt L k).p = p) : ixM L p = (k : Int) := by
  rcases ix_spec L p with ⟨i, i1, i2, i3, _⟩ | ⟨_, i2⟩
  · rw [i2, same_at hL i1 hk (i3.trans h.symm)]
  · exact absurd h (i2 _ (rt_mem hk))
theorem ix_miss {L : List Rt} {p : Px} (h : ∀ j, j < L.length → (rt L j).p ≠ p) : ixM L p = -1 := by
  rcases ix_spec L p with ⟨i, i1, i2, i3, _⟩ | ⟨i1, _⟩
  · exact absurd i3 (h i i1)
  · exact i1
end Go.Proofs.YtikdgbmdepplgaaGreatDoor
namespace Go.Proofs.YtikdgbmdepplgaaGreatDoor
open Go.RowKit Go.Shelf
set_option linter.unusedVariables false
set_option maxRecDepth 100000

/-- What Put has put together behind the first k rows, and whether the prefix stands in it. -/
noncomputable def putK (L : List Rt) (p : Px) (h : Int) : Nat → List Rt × Bool
  | 0 => ([], decide (h = 0))
  | k + 1 => if (rt L k).p = p then putK L p h k else if (putK L p h k).2 = false ∧ cmpP p (rt L k).p < 0 then ((putK L p h k).1 ++ [⟨p, h⟩] ++ [rt L k], true) else ((putK L p h k).1 ++ [rt L k], (putK L p h k).2)
noncomputable def putL (L : List Rt) (p : Px) (h : Int) : List Rt := if (putK L p h L.length).2 = false then (putK L p h L.length).1 ++ [⟨p, h⟩] else (putK L p h L.length).1
theorem putK_len (L : List Rt) (p : Px) (h : Int) : ∀ k, (putK L p h k).1.length ≤ 2 * k
  | 0 => by simp [putK]
  | k + 1 => by
    have := putK_len L p h k
    unfold putK
    split
    · omega
    · split
      · simp; omega
      · simp; omega
structure PutOk (L : List Rt) (p : Px) (h : Int) (k : Nat) : Prop where
  rise : (putK L p h k).1.Pairwise ltR
  mem : ∀ x, x ∈ (putK L p h k).1 ↔ ((∃ j, j < k ∧ rt L j = x) ∧ x.p ≠ p) ∨ ((putK L p h k).2 = true ∧ h ≠ 0 ∧ x = ⟨p, h⟩)
  low : (putK L p h k).2 = false → ∀ x ∈ (putK L p h k).1, cmpP x.p p < 0
  next : ∀ x ∈ (putK L p h k).1, ∀ j, k ≤ j → j < L.length → ltR x (rt L j)
  some : (putK L p h k).2 = false → h ≠ 0
theorem put_ok {L : List Rt} (hL : L.Pairwise ltR) (p : Px) (h : Int) : ∀ k, k ≤ L.length → PutOk L p h k
  | 0, _ => by
    refine ⟨List.Pairwise.nil, fun x => ?_, fun _ x hx => by simp [putK] at hx, fun x hx => by simp [putK] at hx, fun e => by simpa [putK] using e⟩
    simp [putK]
    intro e1 e2
    exact absurd e1 e2
  | k + 1, hk => by
    have ih := put_ok hL p h k (by omega)
    have hkl : k < L.length := by omega
    by_cases h1 : (rt L k).p = p
    · have e : putK L p h (k + 1) = putK L p h k := by rw [putK, if_pos h1]
      refine ⟨by rw [e]; exact ih.rise, fun x => ?_, by rw [e]; exact ih.low, fun x hx j hj hjl => ih.next x (by rw [e] at hx; exact hx) j (by omega) hjl, by rw [e]; exact ih.some⟩
      rw [e, ih.mem]
      constructor
      · rintro (⟨⟨j, hj, hx⟩, hp⟩ | h2)
        · exact .inl ⟨⟨j, by omega, hx⟩, hp⟩
        · exact .inr h2
      · rintro (⟨⟨j, hj, hx⟩, hp⟩ | h2)
        · refine .inl ⟨⟨j, ?_, hx⟩, hp⟩
          by_cases ej : j = k
          · rw [ej] at hx; rw [← hx] at hp; exact absurd h1 hp
          · omega
        · exact .inr h2
    · have hlater : ∀ j, k + 1 ≤ j → j < L.length → ltR (rt L k) (rt L j) := fun j hj hjl => rise_at hL (by omega) hjl
      by_cases h2 : (putK L p h k).2 = false ∧ cmpP p (rt L k).p < 0
      · have e : putK L p h (k + 1) = ((putK L p h k).1 ++ [⟨p, h⟩] ++ [rt L k], true) := by rw [putK, if_neg h1, if_pos h2]
        have hP : ltR ⟨p, h⟩ (rt L k) := h2.2
        refine ⟨?_, fun x => ?_, fun h9 => (by rw [e] at h9; cases h9), fun x hx j hj hjl => ?_, fun h9 => (by rw [e] at h9; cases h9)⟩
        · rw [e]
          simp only [List.append_assoc, List.pairwise_append, List.pairwise_cons, List.cons_append, List.nil_append]
          refine ⟨ih.rise, ⟨by simpa using hP, by simp, List.Pairwise.nil⟩, fun x hx y hy => ?_⟩
          rcases List.mem_cons.1 hy with e9 | hy
          · rw [e9]; exact ih.low h2.1 x hx
          · have e9 : y = rt L k := by simpa using hy
            rw [e9]; exact ih.next x hx k (Nat.le_refl _) hkl
        · rw [e]
          simp only [List.append_assoc, List.mem_append, List.mem_cons, List.cons_append, List.nil_append, List.not_mem_nil, or_false, true_and]
          rw [ih.mem]
          constructor
          · rintro ((⟨⟨j, hj, hx⟩, hp⟩ | ⟨_, q2, q3⟩) | hx | hx)
            · exact .inl ⟨⟨j, by omega, hx⟩, hp⟩
            · exact .inr ⟨q2, q3⟩
            · exact .inr ⟨ih.some h2.1, hx⟩
            · exact .inl ⟨⟨k, by omega, hx.symm⟩, by rw [hx]; exact h1⟩
          · rintro (⟨⟨j, hj, hx⟩, hp⟩ | ⟨q2, q3⟩)
            · by_cases ej : j = k
              · exact .inr (.inr (by rw [← hx, ej]))
              · exact .inl (.inl ⟨⟨j, by omega, hx⟩, hp⟩)
            · exact .inr (.inl q3)
        · rw [e] at hx
          simp only [List.append_assoc, List.mem_append, List.mem_cons, List.cons_append, List.nil_append, List.not_mem_nil, or_false] at hx
          rcases hx with hx | hx | hx
          · exact ih.next x hx j (by omega) hjl
          · rw [hx]; exact ltR_trans hP (hlater j hj hjl)
          · rw [hx]; exact hlater j hj hjl
      · have e : putK L p h (k + 1) = ((putK L p h k).1 ++ [rt L k], (putK L p h k).2) := by rw [putK, if_neg h1, if_neg h2]
        refine ⟨?_, fun x => ?_, fun h9 x hx => ?_, fun x hx j hj hjl => ?_, fun h9 => ih.some (by rw [e] at h9; exact h9)⟩
        · rw [e]
          simp only [List.pairwise_append, List.pairwise_cons]
          exact ⟨ih.rise, ⟨by simp, List.Pairwise.nil⟩, fun x hx y hy => by
            have e9 : y = rt L k := by simpa using hy
            rw [e9]; exact ih.next x hx k (Nat.le_refl _) hkl⟩
        · rw [e]
          simp only [List.mem_append, List.mem_singleton]
          rw [ih.mem]
          constructor
          · rintro ((⟨⟨j, hj, hx⟩, hp⟩ | q) | hx)
            · exact .inl ⟨⟨j, by omega, hx⟩, hp⟩
            · exact .inr q
            · exact .inl ⟨⟨k, by omega, hx.symm⟩, by rw [hx]; exact h1⟩
          · rintro (⟨⟨j, hj, hx⟩, hp⟩ | q)
            · by_cases ej : j = k
              · exact .inr (by rw [← hx, ej])
              · exact .inl (.inl ⟨⟨j, by omega, hx⟩, hp⟩)
            · exact .inl (.inr q)
        · rw [e] at hx h9
          simp only [List.mem_append, List.mem_singleton] at hx
          rcases hx with hx | hx
          · exact ih.low h9 x hx
          · rw [hx]
            rcases cmp_ways (rt L k).p p with c | c | c
            · exact c
            · exact absurd c h1
            · exact absurd ⟨h9, c⟩ h2
        · rw [e] at hx
          simp only [List.mem_append, List.mem_singleton] at hx
          rcases hx with hx | hx
          · exact ih.next x hx j (by omega) hjl
          · rw [hx]; exact hlater j hj hjl
theorem putL_spec {L : List Rt} (hL : L.Pairwise ltR) (p : Px) (h : Int) : (putL L p h).Pairwise ltR ∧ ∀ x, x ∈ putL L p h ↔ (x ∈ L ∧ x.p ≠ p) ∨ (h ≠ 0 ∧ x = ⟨p, h⟩) := by
  have ih := put_ok hL p h L.length (Nat.le_refl _)
  have hm : ∀ x, (∃ j, j < L.length ∧ rt L j = x) ↔ x ∈ L := fun x => ⟨fun ⟨j, hj, hx⟩ => by rw [← hx]; exact rt_mem hj, mem_rt⟩
  unfold putL
  by_cases h1 : (putK L p h L.length).2 = false
  · rw [if_pos h1]
    refine ⟨?_, fun x => ?_⟩
    · simp only [List.pairwise_append, List.pairwise_cons]
      exact ⟨ih.rise, ⟨by simp, List.Pairwise.nil⟩, fun x hx y hy => by
        have e9 : y = ⟨p, h⟩ := by simpa using hy
        rw [e9]; exact ih.low h1 x hx⟩
    · simp only [List.mem_append, List.mem_singleton]
      rw [ih.mem, hm, h1]
      constructor
      · rintro ((q | ⟨q, _⟩) | q)
        · exact .inl q
        · cases q
        · exact .inr ⟨ih.some h1, q⟩
      · rintro (q | ⟨_, q⟩)
        · exact .inl (.inl q)
        · exact .inr q
  · have h2 : (putK L p h L.length).2 = true := by simpa using h1
    rw [if_neg h1]
    refine ⟨ih.rise, fun x => ?_⟩
    rw [ih.mem, hm, h2]
    simp
theorem put_set {L : List Rt} (hL : L.Pairwise ltR) (p : Px) {h : Int} (h0 : h ≠ 0) : putL L p h = setL L p h := by
  obtain ⟨q1, q2⟩ := putL_spec hL p h
  refine rise_eq q1 (setL_rise hL p h) fun x => ?_
  rw [q2, setL_mem hL]
  constructor
  · rintro (q | ⟨_, q⟩)
    · exact .inr q
    · exact .inl q
  · rintro (q | q)
    · exact .inr ⟨h0, q⟩
    · exact .inl q
theorem put_drop {L : List Rt} (hL : L.Pairwise ltR) {p : Px} {i : Nat} (hi : i < L.length) (hp : (rt L i).p = p) : putL L p 0 = L.eraseIdx i := by
  obtain ⟨q1, q2⟩ := putL_spec hL p 0
  refine rise_eq q1 (hL.sublist (List.eraseIdx_sublist L i)) fun x => ?_
  rw [q2, List.mem_eraseIdx_iff_getElem]
  constructor
  · rintro (⟨hx, hne⟩ | ⟨q, _⟩)
    · obtain ⟨j, hj, rfl⟩ := mem_rt hx
      exact ⟨j, hj, fun e => hne (by rw [e]; exact hp), (rt_get hj).symm⟩
    · exact absurd rfl q
  · rintro ⟨j, hj, hne, e⟩
    rw [← rt_get hj] at e
    refine .inl ⟨by rw [← e]; exact rt_mem hj, fun h9 => hne ?_⟩
    rw [← e] at h9
    exact same_at hL hj hi (h9.trans hp.symm)
end Go.Proofs.YtikdgbmdepplgaaGreatDoor
namespace Go.Proofs.YtikdgbmdepplgaaGreatDoor
open Go.RowKit Go.Shelf
set_option linter.unusedVariables false
set_option maxRecDepth 100000

/-- One row is appended to the rows that a box holds. -/
theorem app_store {w : World} {B ob m c : Nat} {a : Option Addr} {O : List Rt} (hb : Blk w ob 56 #[.slice a m c]) (ho : OwnT w B (.slice a m c) O) (hs : O.length ≤ 1000) (hB : B ≤ w.heap.size) (hob : ob < B) (r : Rt) :
    ∃ a' c' w2, (∀ ty : TypeId, (tappSem ty #[.slice a m c, .slice (some ⟨w.heap.size, 0, none⟩) 1 1]).run Tryz.prog (w.alloc (.cells r.cs 60)) = .ok (.slice a' (m + 1) c') w2) ∧ (∃ u, w2.cell? ⟨ob, 0, none⟩ = some u) ∧ w2.frozen? ⟨ob, 0, none⟩ = false ∧
      Blk (w2.setCell ⟨ob, 0, none⟩ (.slice a' (m + 1) c')) ob 56 #[.slice a' (m + 1) c'] ∧ OwnT (w2.setCell ⟨ob, 0, none⟩ (.slice a' (m + 1) c')) B (.slice a' (m + 1) c') (O ++ [r]) ∧ Below ob w (w2.setCell ⟨ob, 0, none⟩ (.slice a' (m + 1) c')) ∧ Below B w w2 ∧ (∀ g ty cs, g < w.heap.size → g ≠ ob → (Value.slice a m c).ownBlock ≠ some g → Blk w g ty cs → Blk (w2.setCell ⟨ob, 0, none⟩ (.slice a' (m + 1) c')) g ty cs) := by
  obtain ⟨_, hml, _⟩ := ho.tbl2
  have k1 : Below w.heap.size w (w.alloc (.cells r.cs 60)) := (Below.refl _ _).alloc (Nat.le_refl _) _
  have hq : RowsAt (w.alloc (.cells r.cs 60)) (some ⟨w.heap.size, 0, none⟩) [r] := by
    have hb9 := Blk.new w 60 r.cs
    exact .inr ⟨w.heap.size, 0, rfl, row_cells _ _ [r] 0 hb9.lt (fun k u hk => by rw [Nat.zero_add, hb9.cell]; simpa [rtcs] using hk)⟩
  obtain ⟨v', w2, q1, q2, q3, _⟩ := tapp_run (c := 1) 54 (ho.later k1) (m := 1) rfl hq (by omega) (by simp; omega)
  obtain ⟨a', c', rfl, _⟩ := q2.tbl
  have hl : (O ++ [r]).length = m + 1 := by simp [hml]
  rw [hl] at q1 q2
  have hB2 : Below B w w2 := (k1.mono hB).grown q3 (by simp; omega) (fun k hk => ((ho.later k1).lt k hk).1)
  have b2 : Blk w2 ob 56 #[.slice a m c] := (hB2.block ob hob).trans hb
  have hset := b2.set 0 (.slice a' (m + 1) c')
  refine ⟨a', c', w2, fun ty => q1, ⟨_, b2.cell 0⟩, b2.free 0, by simpa using hset, ?_, ?_, hB2, ?_⟩
  · have K9 : Kept [ob] w2 (w2.setCell ⟨ob, 0, none⟩ (.slice a' (m + 1) c')) := (Kept.refl [ob] w2).setCell (p := ⟨ob, 0, none⟩) (.inl (by simp)) _
    refine ⟨q2.1, ?_⟩
    rcases q2.2 with h9 | ⟨g, cap, cur, e1, e2, e3, e4⟩
    · exact .inl h9
    · exact .inr ⟨g, cap, cur, e1, e2, (K9.block g (Array.getElem?_eq_some_iff.1 e3).1 (by simp; omega)).trans e3, e4⟩
  · exact (hB2.mono (Nat.le_of_lt hob)).trans (((Kept.refl [ob] w2).setCell (p := ⟨ob, 0, none⟩) (.inl (by simp)) _).below (by simp) (by have := b2.lt; omega))
  · intro g ty cs hg hne hrow hbg
    exact (Below.heap_setCell _ _ _ _ hne).trans ((q3.block g (by simp; omega) (fun e => hrow e.symm)).trans ((k1.block g hg).trans hbg))
attribute [local go_sem ↓] load_b16_rule store_b16_rule load_ad_rule store_ad_rule load_px_rule store_px_rule eq_b16_rule eq_ad_rule eq_px_rule load_rt_rule store_rt_rule build_ad_rule build_px_rule build_b16_rule build_rt_rule load_tab_rule build_tab_rule store_tab_rule tbuild_rule tapp_rule tcopy_rule eq_rt_rule

end Go.Proofs.YtikdgbmdepplgaaGreatDoor
