/-
  What is offered lies in memory of its own; what is offered of views that say the same says the same; a row of numbers that is data. Nothing here is a statement of the document.
-/
import Derived.Test.YtkoenconjldojaaShW
import Derived.Test.YtkoenconjldojaaShX
namespace Go.Proofs.Ytkoenconjldojaa
open Go.RowKit Go.Shelf Go.ChangeShapes Go.WideShapes Go.ChangeAt
set_option linter.unusedVariables false
set_option linter.unusedSimpArgs false
set_option maxRecDepth 100000
theorem vw_of {H : Type} {enc : TypeId × Value → H} {W : World} {sp : Nat → Bool} {base : Nat} {held : Bool} {v : Value} {d : DataW H} {p : List MemPlace} (hv : Value.okWide Try.prog W .any base 36 v) (h : DataW.Trod enc Try.prog W 0 sp held 36 v d p) : ∃ x : Vw, v = .agg x.cs ∧ x.In W 0 := by
  obtain ⟨cs, rfl, hsz⟩ := okWide_struct Try.underlying36 hv
  obtain ⟨fuel, hf⟩ := h
  obtain ⟨x, hx, hi, _⟩ := vw_cells' (show DataW.trod enc Try.prog W 0 sp held fuel 36 cs.toList = some _ from hf)
  exact ⟨x, congrArg Value.agg (Array.toList_inj.1 hx), hi⟩
def msg' (L : List Ms) (i : Nat) : Ms := L.getD i Ms.zero
structure Mss (w : World) (g o : Nat) (L : List Ms) : Prop where
  lt : g < w.heap.size
  row : ∀ i, i < L.length → ∀ j, j < 23 → w.cell? ⟨g, o + i * 23 + j, none⟩ = (msg' L i).cs[j]?
def MssIn (w : World) (a : Option Addr) (n : Nat) (L : List Ms) : Prop := L.length = n ∧ (L = [] ∨ ∃ g o, a = some ⟨g, o, none⟩ ∧ Mss w g o L) ∧ ∀ i, i < L.length → (msg' L i).In w 0
theorem Ms.q0 (m : Ms) : m.cs[0]? = some (.int .i64 m.kd) := rfl
theorem Ms.size (m : Ms) : m.cs.size = 23 := rfl
theorem Mss.later {w w' : World} {g o : Nat} {L : List Ms} (h : Mss w g o L) (k : Below w.heap.size w w') : Mss w' g o L :=
  ⟨Nat.lt_of_lt_of_le h.lt k.size, fun i hi j hj => (k.cell (p := ⟨g, o + i * 23 + j, none⟩) h.lt).trans (h.row i hi j hj)⟩
theorem MssIn.later {w w' : World} {a : Option Addr} {n : Nat} {L : List Ms} (h : MssIn w a n L) (k : Below w.heap.size w w') : MssIn w' a n L := by
  obtain ⟨h1, h2, h3⟩ := h
  refine ⟨h1, ?_, fun i hi => (h3 i hi).later k⟩
  rcases h2 with h | ⟨g, o, e, hr⟩
  · exact .inl h
  · exact .inr ⟨g, o, e, hr.later k⟩
theorem MssIn.spot {w : World} {a : Option Addr} {n : Nat} {L : List Ms} (h : MssIn w a n L) {i : Nat} (hi : i < L.length) : ∃ g o, a = some ⟨g, o, none⟩ ∧ Mss w g o L := by
  rcases h.2.1 with rfl | h
  · simp at hi
  · exact h
theorem Mss.load {w : World} {g o : Nat} {L : List Ms} (h : Mss w g o L) {i : Nat} (hi : i < L.length) : (loadSem 47 (.pointer (some ⟨g, o + i * 23, none⟩))).run Try.prog w = .ok (.agg (msg' L i).cs) w :=
  run_loadAt_mid (P := Try.prog) w g (o + i * 23) 47 (msg' L i).cs.toList _ (fun j v hj => by
    have hl : j < 23 := by rw [← (msg' L i).size]; simpa using (List.getElem?_eq_some_iff.1 hj).1
    rw [h.row i hi j hl]; simpa using hj) Try.underlying47 rfl (by simpa using s_ms (msg' L i))
set_option maxHeartbeats 1000000 in
theorem mss_of {H : Type} {enc : TypeId × Value → H} {W : World} {sp : Nat → Bool} {base : Nat} {held : Bool} {v : Value} {d : DataW H} {p : List MemPlace} (hv : Value.okWide Try.prog W .any base 64 v) (h : DataW.Trod enc Try.prog W 0 sp held 64 v d p) : ∃ a n c L, v = .slice a n c ∧ MssIn W a n L := by
  obtain ⟨a0, n0, c0, rfl⟩ := okWide_slice Try.underlying64 hv
  obtain ⟨fuel, hf⟩ := h
  rcases Go.Deep.open_slice Try.underlying64 hf with ⟨hcs, _⟩ | ⟨x, len', cap', q, nn, Dt, Pl, hcs, _, hl, hm, hq, _, hi⟩
  · simp [Value.cells] at hcs
    obtain ⟨rfl, rfl, rfl⟩ := hcs
    exact ⟨_, _, _, [], rfl, rfl, .inl rfl, fun i hi => by simp at hi⟩
  · simp [Value.cells] at hcs
    obtain ⟨rfl, rfl, rfl⟩ := hcs
    have hex : ∀ i, i < n0 → ∃ y : Ms, y.In W 0 ∧ ∀ j, j < 23 → W.cell? (x.add (i * 23 + j)) = (y.cs)[j]? := by
      intro i hil
      obtain ⟨cs', hc', ht'⟩ := hi i (by rw [hq]; split <;> omega)
      rw [c_ms] at hc'
      obtain ⟨_, hlen, hat⟩ := World.cells?_some hc'
      obtain ⟨y, rfl, hy⟩ := ms_cells' ht'
      refine ⟨y, hy, fun j hj => ?_⟩
      have h9 := hat j hj
      rw [Go.Deep.add_add] at h9
      rw [h9]
      simp
    obtain ⟨f, hf2⟩ : ∃ f : Nat → Ms, ∀ i, i < n0 → (f i).In W 0 ∧ ∀ j, j < 23 → W.cell? (x.add (i * 23 + j)) = ((f i).cs)[j]? :=
      ⟨fun i => if h : i < n0 then (hex i h).choose else Ms.zero, fun i hil => by simp only [dif_pos hil]; exact (hex i hil).choose_spec⟩
    refine ⟨some x, n0, c0, (List.range n0).map f, rfl, by simp, ?_, fun i hi => ?_⟩
    · by_cases h0 : n0 = 0
      · left; rw [h0]; rfl
      · right
        have h1 := (hf2 0 (by omega)).2 0 (by omega)
        rw [Ms.q0] at h1
        obtain ⟨b, o, s⟩ := x
        obtain rfl : s = none := by simpa [Addr.add] using World.cell?_spot h1
        refine ⟨b, o, rfl, ?_, fun i hi j hj => ?_⟩
        · have := cell_lt h1
          simpa [Addr.add_lit] using this
        · have hil : i < n0 := by simpa using hi
          have h3 := (hf2 i hil).2 j hj
          rw [Addr.add_lit] at h3
          rw [Nat.add_assoc, h3]
          congr 2
          simp [msg', hil]
    · have hil : i < n0 := by simpa using hi
      have h3 := (hf2 i hil).1
      rw [show msg' ((List.range n0).map f) i = f i by simp [msg', hil]]
      exact h3
end Go.Proofs.Ytkoenconjldojaa
namespace Go.Proofs.Ytkoenconjldojaa
open Go.RowKit Go.Shelf
set_option linter.unusedVariables false
set_option linter.unusedSimpArgs false
set_option maxRecDepth 100000
attribute [local go_sem 10000] gtU_rule leU_rule ltU_rule geU_rule adU_rule sbU_rule mxU_rule mnU_rule mnI_rule
attribute [local go_sem ↓] load_at_rule store_at_rule load_la_rule store_la_rule load_bs_rule store_bs_rule load_vw_rule store_vw_rule load_jo_rule store_jo_rule load_ms_rule store_ms_rule load_ch_rule store_ch_rule load_hd_rule store_hd_rule load_rb_rule store_rb_rule load_en_rule store_en_rule
attribute [local go_sem ↓] build_hd_rule build_rb_rule build_en_rule build_at_rule build_jo_rule upbuild_rule upapp_rule robuild_rule roapp_rule enbuild_rule enapp_rule build_vw_rule eq_at_rule eq_la_rule build_ch_rule build_ms_rule
theorem OwnRo.less14 {w : World} {B B' : Nat} {v : Value} {L : List Ro} (h : OwnRo w B v L) (k : B' ≤ B) : OwnRo w B' v L := by
  refine ⟨h.1, ?_⟩
  rcases h.2 with h | ⟨g, cap, cur, h1, h2, h3, h4⟩
  · exact .inl h
  · exact .inr ⟨g, cap, cur, h1, Nat.le_trans k h2, h3, h4⟩
theorem OwnRo.kept14 {w w' : World} {B : Nat} {S : List Nat} {v : Value} {L : List Ro} (h : OwnRo w B v L) (k : Kept S w w') (hS : ∀ g ∈ S, g < B) : OwnRo w' B v L := by
  refine ⟨h.1, ?_⟩
  rcases h.2 with h | ⟨g, cap, cur, h1, h2, h3, h4⟩
  · exact .inl h
  · exact .inr ⟨g, cap, cur, h1, h2, k.blk h3 (fun hm => by have := hS g hm; omega), h4⟩
set_option maxRecDepth 100000 in
set_option maxHeartbeats 1600000 in
theorem copyof_own (b : Bs) (w : World) (h : RoIn w 0 b.a b.n b.c b.R) (hs : b.n ≤ 1000) : Calls Try.prog 36 #[.agg b.cs] w fun e w' => ∃ b' : Bs, e = .returned (.agg b'.cs) ∧ b'.i = b.i ∧ b'.e = b.e ∧ b'.l = b.l ∧ b'.R = b.R ∧ b'.n = b.n ∧ OwnRo w' w.heap.size (.slice b'.a b'.n b'.c) b'.R ∧ Below w.heap.size w w' := by
  obtain ⟨W1, hW1⟩ : ∃ W1, w.alloc (.cells b.cs 33) = W1 := ⟨_, rfl⟩
  have hb1 : Below w.heap.size w W1 := by rw [← hW1]; exact below_alloc w _
  have b1 : Blk W1 w.heap.size 33 b.cs := by rw [← hW1]; exact Blk.new w _ _
  obtain ⟨W2, hW2⟩ : ∃ W2, W1.alloc (.cells Bs.zero.cs 33) = W2 := ⟨_, rfl⟩
  have hb12 : Below W1.heap.size W1 W2 := by rw [← hW2]; exact below_alloc W1 _
  have b2 : Blk W2 W1.heap.size 33 Bs.zero.cs := by rw [← hW2]; exact Blk.new W1 _ _
  have hle : w.heap.size ≤ W1.heap.size := hb1.size
  have hlt : w.heap.size < W1.heap.size := by rw [← hW1]; simp
  have hlt2 : W1.heap.size < W2.heap.size := by rw [← hW2]; simp
  have hb02 := bel_trans hb1 hb12
  have v2 := b1.later hb12
  have c0 : W2.cell? ⟨w.heap.size, 2, none⟩ = some (.slice b.a b.n b.c) := v2.cell 2
  have HCL := roclone_any b.a b.n b.c b.R W2 h.1 hs (h.2.1.later hb02) h.2.2.2.2.1
  have hRl := h.1
  have HX := Lib.hid (And.intro hb02 (And.intro b2 (And.intro v2 (And.intro hle (And.intro hlt hlt2)))))
  clear h hb1 b1 hb12 b2 v2 hle hlt hlt2 hb02
  go_enter Try.func36, Try.ntmps36
  go_wp2_with (with_reducible refine wpList_alloc_z rfl 33 rfl Bs.zero.cs 9 z_bs ?_)
  refine HCL.mono ?_
  rintro e W3 ⟨v3, rfl, hO, hb23⟩
  obtain ⟨a4, c4, e4, _⟩ := hO.lies
  subst e4
  rw [hRl] at hO ⊢
  have v3 := HX.out.2.2.1.later hb23
  have r3 := HX.out.2.1.later hb23
  have q1 : W3.cell? ⟨w.heap.size, 2, none⟩ = some (.slice b.a b.n b.c) := v3.cell 2
  have q2 := v3.free 2
  have v4 : Blk (W3.setCell ⟨w.heap.size, 2, none⟩ (.slice a4 b.n c4)) w.heap.size 33 (({ b with a := a4, n := b.n, c := c4, R := b.R } : Bs).cs) := v3.set 2 _
  obtain ⟨W4, hW4⟩ : ∃ W4, W3.setCell ⟨w.heap.size, 2, none⟩ (.slice a4 b.n c4) = W4 := ⟨_, rfl⟩
  rw [hW4] at v4
  have kk : Kept [w.heap.size] W3 W4 := by rw [← hW4]; exact Kept.setCell (p := ⟨w.heap.size, 2, none⟩) (Kept.refl _ _) (.inl (by simp)) _
  have hlt := HX.out.2.2.2.2.1
  have hlt2 := HX.out.2.2.2.2.2
  have hb02 := HX.out.1
  obtain ⟨b4, hb4⟩ : ∃ b4 : Bs, b4 = { b with a := a4, n := b.n, c := c4, R := b.R } := ⟨_, rfl⟩
  rw [← hb4] at v4
  skip
  have LB := ld_bs v4
  have r4 := r3.kept kk (by simp; omega)
  have ST2 := st_bs (b2 := b4) r4
  have k5 : Kept [W1.heap.size] W4 (W4.setRow W1.heap.size b4.cs) := (Kept.refl _ _).setRow (.inl (by simp)) _
  have hb04 : Below w.heap.size w W4 := (bel_trans hb02 hb23).trans (kk.below (fun i hi => by simp at hi; omega) (bel_trans hb02 hb23).size)
  have hO5 : OwnRo (W4.setRow W1.heap.size b4.cs) w.heap.size (.slice a4 b.n c4) b.R := by
    refine ⟨hO.1, ?_⟩
    rcases hO.2 with h9 | ⟨g, cap, cur, e1, e2, e3, e4⟩
    · exact .inl h9
    · exact .inr ⟨g, cap, cur, e1, by omega, k5.blk (kk.blk e3 (by simp; omega)) (by simp; omega), e4⟩
  have HF := Lib.hid (And.intro (r4.row b4.cs) (And.intro (below_setRow hb04 (show w.heap.size ≤ W1.heap.size by omega) b4.cs) (And.intro hb4 hO5)))
  clear v3 r3 v4 kk hlt hlt2 hb02 r4 k5 hb04 hO5 hO hb23 hb4
  go_wp2_with fail
  refine bodyPost_ret (results_cell_row rfl _ _ W1.heap.size 33 _ (0, 0) _ rfl HF.out.1 Try.underlying33 rfl (s_bs _)) rfl ?_
  obtain ⟨_, q2, q3, q4⟩ := HF.out
  subst q3
  exact ⟨_, rfl, rfl, rfl, rfl, rfl, rfl, q4, q2⟩
set_option maxHeartbeats 4000000 in
theorem offer_low_own (v : Vw) (x : Nat) (w : World) (h : v.In w 0) (hU : ∀ x ∈ v.L, x.n ≤ 1000) (hR : v.b.n ≤ 1000) (hN : v.n ≤ 40) (hv : v.ok = true) (hlo : min x v.z < v.b.i) :
    Calls Try.prog 12 #[.agg v.cs, .int .u64 (x : Int)] w fun e w' => ∃ (o : Ms) (er : Int), e = .returned (.tuple #[.agg o.cs, .int .i64 er]) ∧ OfferR v x o er ∧ o.Own w' w.heap.size ∧ OwnRo w' w.heap.size (.slice o.b.a o.b.n o.b.c) o.b.R ∧ Below w.heap.size w w' := by
  obtain ⟨W1, hW1⟩ : ∃ W1, w.alloc (.cells v.cs 36) = W1 := ⟨_, rfl⟩
  have hb1 : Below w.heap.size w W1 := by rw [← hW1]; exact below_alloc w _
  have b1 : Blk W1 w.heap.size 36 v.cs := by rw [← hW1]; exact Blk.new w _ _
  obtain ⟨W2, hW2⟩ : ∃ W2, W1.alloc (.cells Ms.zero.cs 47) = W2 := ⟨_, rfl⟩
  have hb12 : Below W1.heap.size W1 W2 := by rw [← hW2]; exact below_alloc W1 _
  have b2 : Blk W2 W1.heap.size 47 Ms.zero.cs := by rw [← hW2]; exact Blk.new W1 _ _
  have hle : w.heap.size ≤ W1.heap.size := hb1.size
  have hlt2 : W1.heap.size < W2.heap.size := by rw [← hW2]; simp
  have hb02 : Below w.heap.size w W2 := bel_trans hb1 hb12
  have v2 := b1.later hb12
  have LV := ld_vw v2
  have HX := Lib.hid (And.intro hb02 (And.intro v2 (And.intro b2 (And.intro hle (And.intro hlt2 h)))))
  have hzz := Vw.ok_of hv
  have HO := Lib.hid hlo
  have dm := mnU_nat x v.z
  have dl := ltU_nat (min x v.z) v.b.i
  rw [decide_eq_true hlo] at dl
  obtain ⟨y, hy⟩ : ∃ y, min x v.z = y := ⟨_, rfl⟩
  rw [hy] at dm dl HO 
  have HYY := Lib.hid hy
  have HC := check_any14 v W2
  have he : v.e = 0 := by unfold Vw.e; rw [hv]; rfl
  rw [he] at HC
  have HZ := Lib.hid (show v.b.i + v.n < 18446744073709551616 by omega)
  clear hzz hlo hy he
  clear hb1 b1 hb12 b2 hle hlt2 hb02 v2 h
  go_enter Try.func12, Try.ntmps12
  go_wp2_with (with_reducible refine wpList_alloc_z rfl 47 rfl Ms.zero.cs 23 z_ms ?_)
  refine HC.mono ?_
  rintro e W4 ⟨rfl, hb4⟩
  have v4 := HX.out.2.1.later hb4
  have LV4 := ld_vw v4
  have HE := end_any v W4 HZ.out
  have H4 := Lib.hid (And.intro hb4 v4)
  clear hb4 v4
  go_wp2_with fail
  refine HE.mono ?_
  rintro e W5 ⟨rfl, hb5⟩
  have hb25 := bel_trans H4.out.1 hb5
  have v5 := HX.out.2.1.later hb25
  obtain ⟨_, c1, _, _, _⟩ := vw_cells v5
  have LB := vw_bs v5
  have HCB := copyof_own v.b W5 (HX.out.2.2.2.2.2.1.later (bel_trans HX.out.1 hb25)) hR
  have H5 := Lib.hid hb25
  clear hb5 hb25 v5
  go_wp2_with fail
  refine HCB.mono ?_
  rintro e W6 ⟨b, rfl, p1, p2, p3, p4, p5, p6, hb6⟩
  have BO := build_offs b
  have hb26 := bel_trans H5.out hb6
  have hb06 := bel_trans HX.out.1 hb26
  have r9 := (HX.out.2.2.1.later hb26)
  have ST := st_ms (b2 := offS b) r9
  have k9 : Kept [W1.heap.size] W6 (W6.setRow W1.heap.size (offS b).cs) := (Kept.refl _ _).setRow (.inl (by simp)) _
  have HF := Lib.hid (And.intro (r9.row (offS b).cs) (And.intro (below_setRow hb06 HX.out.2.2.2.1 (offS b).cs) (OwnRo.kept14 (OwnRo.less14 p6 (show W2.heap.size ≤ W5.heap.size from H5.out.size)) k9 (fun g hg => by have := HX.out.2.2.2.2.1; simp at hg; omega))))
  have hz := HX.out.1.size
  have HOV := Lib.hid (show OfferV v y (offS b) from .inl ⟨HO.out, b, rfl, p1, p2, p3, p4, p5⟩)
  clear r9 k9 hb6 hb26 hb06 p1 p2 p3 p4 p5 p6
  go_wp2_with fail
  refine bodyPost_ret (results_row_tmp rfl _ _ W1.heap.size _ _ rfl HF.out.1 Try.underlying47 rfl (s_ms _)) rfl ?_
  exact ⟨_, _, rfl, .inr ⟨hv, rfl, by rw [HYY.out]; exact HOV.out⟩, ⟨EnOwn.nil _ _, OwnRo.into (OwnRo.less14 HF.out.2.2 hz)⟩, OwnRo.less14 HF.out.2.2 hz, HF.out.2.1⟩
theorem offer_own (v : Vw) (x : Nat) (w : World) (h : v.In w 0) (hU : ∀ x ∈ v.L, x.n ≤ 1000) (hR : v.b.n ≤ 1000) (hN : v.n ≤ 40 ∨ v.ok = false) :
    Calls Try.prog 12 #[.agg v.cs, .int .u64 (x : Int)] w fun e w' => ∃ (o : Ms) (er : Int), e = .returned (.tuple #[.agg o.cs, .int .i64 er]) ∧ OfferR v x o er ∧ o.Own w' w.heap.size ∧ OwnRo w' w.heap.size (.slice o.b.a o.b.n o.b.c) o.b.R ∧ Below w.heap.size w w' := by
  by_cases hv : v.ok = true
  · have hN : v.n ≤ 40 := hN.resolve_right (by rw [hv]; simp)
    by_cases hlo : min x v.z < v.b.i
    · exact offer_low_own v x w h hU hR hN hv hlo
    · refine (offer_mid v x w h hU hR hN hv hlo).mono ?_
      rintro e w' ⟨o, er, rfl, hO, hw, hb⟩
      refine ⟨o, er, rfl, hO, hw, ?_, hb⟩
      rcases hO with ⟨h9, _⟩ | ⟨_, _, h9⟩
      · rw [hv] at h9; cases h9
      · rcases h9 with ⟨h8, _⟩ | ⟨_, a, c, L, rfl, _⟩
        · exact absurd h8 hlo
        · exact World.ownsRow_nil _ _ _ _
  · refine (offer_bad v x w h (by simpa using hv)).mono ?_
    rintro e w' ⟨o, er, rfl, hO, hw, hb⟩
    refine ⟨o, er, rfl, hO, hw, ?_, hb⟩
    rcases hO with ⟨_, rfl, _⟩ | ⟨h9, _⟩
    · exact World.ownsRow_nil _ _ _ _
    · exact absurd h9 hv
theorem Bs.As.refl (b : Bs) : b.As b := ⟨rfl, rfl, rfl, rfl⟩
theorem Ms.As.refl (m : Ms) : m.As m := ⟨⟨rfl, rfl, rfl, rfl, rfl, rfl, rfl, rfl, rfl, rfl, rfl, rfl, rfl⟩, rfl, Bs.As.refl _⟩
theorem offerv_as {v u : Vw} {y : Nat} {o : Ms} (h : v.As u) (hn : v.n = u.n) (hb : v.b.n = u.b.n) (k : OfferV v y o) : OfferV u y o := by
  rcases k with ⟨h1, b, rfl, p1, p2, p3, p4, p5⟩ | ⟨h1, a, c, L, rfl, hs⟩
  · exact .inl ⟨by rw [← h.2.1.1]; exact h1, b, rfl, p1.trans h.2.1.1, p2.trans h.2.1.2.1, p3.trans h.2.1.2.2.1, p4.trans h.2.1.2.2.2, p5.trans hb⟩
  · refine .inr ⟨by rw [← h.2.1.1]; exact h1, a, c, L, by rw [h.place hn, hn, h.2.1.1], ?_⟩
    have h9 : (v.L.drop (y - v.b.i)).map con = (u.L.drop (y - v.b.i)).map con := h.2.2.drop _
    show L.map con = ((u.L.drop (y - u.b.i)).take 8).map con
    rw [← h.2.1.1, List.map_take, ← h9, ← List.map_take]
    exact hs
theorem offerv_one {v : Vw} {y : Nat} {o p : Ms} (h : OfferV v y o) (k : OfferV v y p) : o.As p := by
  rcases h with ⟨h1, b, rfl, p1, p2, p3, p4, p5⟩ | ⟨h1, a, c, L, rfl, hs⟩
  · rcases k with ⟨k1, d, rfl, q1, q2, q3, q4, q5⟩ | ⟨k1, a2, c2, L2, rfl, ks⟩
    · exact ⟨⟨rfl, rfl, rfl, rfl, rfl, rfl, rfl, rfl, rfl, rfl, rfl, rfl, rfl⟩, rfl, ⟨p1.trans q1.symm, p2.trans q2.symm, p3.trans q3.symm, p4.trans q4.symm⟩⟩
    · omega
  · rcases k with ⟨k1, d, rfl, q1, q2, q3, q4, q5⟩ | ⟨k1, a2, c2, L2, rfl, ks⟩
    · omega
    · exact ⟨⟨rfl, rfl, rfl, rfl, rfl, rfl, rfl, rfl, rfl, rfl, rfl, rfl, rfl⟩, Eq.trans hs (Eq.symm ks), Bs.As.refl _⟩
/-- A row of numbers lies somewhere. -/
def NumIn (w : World) (a : Option Addr) (n : Nat) (f : Nat → Nat) : Prop := ∀ i, i < n → f i < 18446744073709551616 ∧ ∃ g o, a = some ⟨g, o, none⟩ ∧ w.cell? ⟨g, o + i, none⟩ = some (.int .u64 (f i : Int))
theorem NumIn.later {w w' : World} {a : Option Addr} {n : Nat} {f : Nat → Nat} (h : NumIn w a n f) (k : Below w.heap.size w w') : NumIn w' a n f := fun i hi => by
  obtain ⟨h1, g, o, h2, h3⟩ := h i hi
  exact ⟨h1, g, o, h2, (k.cell (p := ⟨g, o + i, none⟩) (cell_lt h3)).trans h3⟩
open Go.ChangeShapes Go.WideShapes Go.ChangeAt in
theorem u64s_of {H : Type} {enc : TypeId × Value → H} {W : World} {sp : Nat → Bool} {base : Nat} {held : Bool} {v : Value} {d : DataW H} {p : List MemPlace} (hv : Value.okWide Try.prog W .any base 37 v) (h : DataW.Trod enc Try.prog W 0 sp held 37 v d p) : ∃ a n c f, v = .slice a n c ∧ NumIn W a n f := by
  obtain ⟨a0, n0, c0, rfl⟩ := okWide_slice Try.underlying37 hv
  obtain ⟨fuel, hf⟩ := h
  rcases Go.Deep.open_slice Try.underlying37 hf with ⟨hcs, _⟩ | ⟨x, len', cap', q, nn, Dt, Pl, hcs, _, hl, hm, hq, _, hi⟩
  · simp [Value.cells] at hcs
    obtain ⟨rfl, rfl, rfl⟩ := hcs
    exact ⟨_, _, _, fun _ => 0, rfl, fun i hi => absurd hi (Nat.not_lt_zero _)⟩
  · simp [Value.cells] at hcs
    obtain ⟨rfl, rfl, rfl⟩ := hcs
    have hex : ∀ i, i < n0 → ∃ y : Nat, y < 18446744073709551616 ∧ W.cell? (x.add i) = some (.int .u64 (y : Int)) := by
      intro i hil
      obtain ⟨cs', hc', ht'⟩ := hi i (by rw [hq]; split <;> omega)
      rw [c_u64, Nat.mul_one] at hc'
      obtain ⟨_, hlen, hat⟩ := World.cells?_some hc'
      obtain ⟨u0, e0, _, f0⟩ := DataW.trod_int Try.underlying22 ht'
      obtain ⟨y, rfl, hy⟩ := u64_of f0
      refine ⟨y, hy, ?_⟩
      have h9 := hat 0 (by decide)
      rw [Go.Deep.add_add] at h9
      rw [e0] at h9
      simpa using h9
    obtain ⟨f, hf2⟩ : ∃ f : Nat → Nat, ∀ i, i < n0 → f i < 18446744073709551616 ∧ W.cell? (x.add i) = some (.int .u64 (f i : Int)) :=
      ⟨fun i => if h : i < n0 then (hex i h).choose else 0, fun i hil => by simp only [dif_pos hil]; exact (hex i hil).choose_spec⟩
    refine ⟨some x, n0, c0, f, rfl, fun i hi => ⟨(hf2 i hi).1, ?_⟩⟩
    have h1 := (hf2 i hi).2
    have h0 := (hf2 0 (by omega)).2
    obtain ⟨b, o, s⟩ := x
    obtain rfl : s = none := by simpa [Addr.add] using World.cell?_spot h0
    exact ⟨b, o, rfl, by rw [Addr.add_lit] at h1; exact h1⟩
end Go.Proofs.Ytkoenconjldojaa
