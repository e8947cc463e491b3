/-
  The contracts of the law's entries and base, of ship.copyOf and of the reference's CopyBase. Nothing here is a statement of the document.
-/
import Derived.Test.YtkoenconjldojaaShH
namespace Go.Proofs.Ytkoenconjldojaa
open Go.RowKit Go.Shelf
set_option linter.unusedVariables false
set_option linter.unusedSimpArgs false
set_option maxRecDepth 100000
attribute [local go_sem 10000] gtU_rule leU_rule ltU_rule geU_rule adU_rule sbU_rule mxU_rule mnU_rule mnI_rule
attribute [local go_sem ↓] load_at_rule store_at_rule load_la_rule store_la_rule load_bs_rule store_bs_rule load_vw_rule store_vw_rule load_jo_rule store_jo_rule load_ms_rule store_ms_rule load_ch_rule store_ch_rule load_hd_rule store_hd_rule load_rb_rule store_rb_rule load_en_rule store_en_rule
attribute [local go_sem ↓] build_hd_rule build_rb_rule build_en_rule build_at_rule build_jo_rule upbuild_rule upapp_rule robuild_rule roapp_rule enbuild_rule enapp_rule
/-- What the law keeps of an entry: nine updates at most. -/
def cut9 (x : En) : Eq' := ⟨x.ep, x.cl, x.sq, x.U.take 9⟩
theorem UpIn.take {w : World} {B : Nat} {a : Option Addr} {n c : Nat} {U : List Up} (h : UpIn w B a n c U) (m : Nat) (hm : m ≤ n) : UpIn w B a m c (U.take m) := by
  obtain ⟨h1, h2, h3, h4, h5, h6⟩ := h
  refine ⟨by rw [List.length_take]; omega, ?_, by omega, h4, h5, fun hne => h6 (fun e => hne (by rw [e]; simp))⟩
  rcases h2 with rfl | ⟨g, o, e, hr⟩
  · exact .inl (by simp)
  · refine .inr ⟨g, o, e, hr.lt, fun i hi j hj => ?_⟩
    have hi2 : i < U.length := by rw [List.length_take] at hi; omega
    have := hr.row i hi2 j hj
    rw [upg_get hi2] at this
    rw [upg_get hi, List.getElem_take]
    exact this
theorem RoIn.take {w : World} {B : Nat} {a : Option Addr} {n c : Nat} {U : List Ro} (h : RoIn w B a n c U) (m : Nat) (hm : m ≤ n) : RoIn w B a m c (U.take m) := by
  obtain ⟨h1, h2, h3, h4, h5, h6⟩ := h
  refine ⟨by rw [List.length_take]; omega, ?_, by omega, h4, h5, fun hne => h6 (fun e => hne (by rw [e]; simp))⟩
  rcases h2 with rfl | ⟨g, o, e, hr⟩
  · exact .inl (by simp)
  · refine .inr ⟨g, o, e, hr.lt, fun i hi j hj => ?_⟩
    have hi2 : i < U.length := by rw [List.length_take] at hi; omega
    have := hr.row i hi2 j hj
    rw [rog_get hi2] at this
    rw [rog_get hi, List.getElem_take]
    exact this
theorem cut_snoc {M L : List En} {k lim : Nat} {y : En} (h : M.map con = ((L.take k).take lim).map cut9) (hk : k < L.length) (hl : k < lim) (hy : con y = cut9 (eng L k)) : (M ++ [y]).map con = ((L.take (k + 1)).take lim).map cut9 := by
  rw [List.take_take, Nat.min_eq_right (by omega)] at h ⊢
  rw [List.take_succ_eq_append_getElem hk, List.map_append, List.map_append, h, ← eng_get hk]
  simp [hy]
theorem cut_skip {M L : List En} {k lim : Nat} (h : M.map con = ((L.take k).take lim).map cut9) (hl : lim ≤ k) : M.map con = ((L.take (k + 1)).take lim).map cut9 := by
  rw [List.take_take, Nat.min_eq_left hl] at h
  rw [List.take_take, Nat.min_eq_left (by omega)]
  exact h
set_option maxRecDepth 100000 in
set_option maxHeartbeats 1600000 in
theorem lentries_any (a : Option Addr) (n c lim : Nat) (L : List En) (w : World) (h : EnIn w 0 a n c L) (hlim : lim ≤ 1000) : Calls Try.prog 34 #[.slice a n c, .int .i64 (lim : Int)] w fun e w' => ∃ a' c', e = .returned (.slice a' (min n lim) c') ∧ ∃ M, EnOwn w' w.heap.size (.slice a' (min n lim) c') M ∧ M.map con = (L.map cut9).take lim ∧ Below w.heap.size w w' := by
  obtain ⟨q, hq⟩ : ∃ q, min n lim = q := ⟨_, rfl⟩
  rw [hq]
  have HQ := Lib.hid hq
  clear hq
  have HI := Lib.hid h
  have hnl := h.1
  have hs2 : n ≤ 9223372036854775807 := by have := h.2.2.1; have := h.2.2.2.1; unfold maxLen at this; omega
  clear h
  have HN := Lib.hid hnl
  have HS := Lib.hid hs2
  go_enter Try.func34, Try.ntmps34
  go_wp2_with fail
  go_loopw [5, 10] (fun o i wr => ∃ (k : Nat) (M : List En), k ≤ n ∧ i = .int .i64 (k : Int) ∧ EnOwn wr w.heap.size o M ∧ M.map con = ((L.take k).take lim).map cut9 ∧ Below w.heap.size w wr) (fun _ i _ => n - (intOf i).toNat)
  case atStart => exact ⟨0, [], Nat.zero_le _, rfl, EnOwn.nil _ _, by simp, Below.refl _ _⟩
  case round =>
    obtain ⟨k, M, hk, rfl, hO, hSm, hkb⟩ := hrel
    by_cases hlt : k < n
    · have hkl : k < L.length := by omega
      obtain ⟨g, o, ha, hrow⟩ := (HI.out.later hkb).2.1.spot hkl
      subst ha
      have LE : (loadSem 92 (.pointer (some ⟨g, o + k * 4, none⟩))).run Try.prog wr = .ok (.agg (eng L k).cs) wr := hrow.load hkl
      have LE2 : (loadSem 92 (.pointer (some ⟨g, o + k * 4, none⟩))).run Try.prog (wr.alloc (.cells En.zero.cs 92)) = .ok (.agg (eng L k).cs) (wr.alloc (.cells En.zero.cs 92)) := (hrow.later (below_alloc wr _)).load hkl
      have hUp : UpIn wr 0 (eng L k).a (eng L k).n (eng L k).c (eng L k).U := (HI.out.later hkb).2.2.2.2.2.2 _ (eng_mem hkl)
      have hMl : M.length ≤ lim := by have := congrArg List.length hSm; simp only [List.length_map, List.length_take] at this; omega
      generalize hx : eng L k = x at *
      have SE := st_en (q := x) (Blk.new wr 92 En.zero.cs)
      rw [World.setRow_alloc_new] at SE
      obtain ⟨Wx, hWx⟩ : ∃ Wx, wr.alloc (.cells x.cs 92) = Wx := ⟨_, rfl⟩
      rw [hWx] at SE
      have hbx : Below wr.heap.size wr Wx := by rw [← hWx]; exact below_alloc wr _
      have bx : Blk Wx wr.heap.size 92 x.cs := by rw [← hWx]; exact Blk.new wr _ _
      obtain ⟨ov, oc, e0⟩ := hO.slice
      subst e0
      by_cases hkm : k < lim
      · have i2 : (k : Int) < (lim : Int) := by omega
        have hcnd := hUp.2.2.1
        have hcm : x.c ≤ 9223372036854775807 := by have := hUp.2.2.2.1; unfold maxLen at this; omega
        have hmn : mnI (x.n : Int) 9 = ((min x.n 9 : Nat) : Int) := mnI_nat x.n 9
        have hm9 : min x.n 9 ≤ 9 := Nat.min_le_right _ _
        have hmx : min x.n 9 ≤ x.n := Nat.min_le_left _ _
        have c3 : (Wx.alloc (.cells #[] 106)).cell? ⟨wr.heap.size, 3, none⟩ = some (.slice x.a x.n x.c) := (bx.alloc _).cell 3
        have hbu := upbuild0_run Wx
        obtain ⟨a4, c4, W4, hap, hO4, hb4⟩ := upcopy9 ((hUp.later hbx).take (min x.n 9) hmx) (by omega)
        have hap2 := hap 43
        have BH := build_hd a4 (min x.n 9) c4
        have bx4 := bx.later hb4
        have ST := st_enba (a2 := a4) (n2 := min x.n 9) (c2 := c4) (x.U.take 9) bx4
        obtain ⟨y, hy⟩ : ∃ y : En, y = { x with a := a4, n := min x.n 9, c := c4, U := x.U.take 9 } := ⟨_, rfl⟩
        rw [← hy] at ST
        obtain ⟨W5, hW5⟩ : ∃ W5, W4.setRow wr.heap.size y.cs = W5 := ⟨_, rfl⟩
        rw [hW5] at ST
        have by5 : Blk W5 wr.heap.size 92 y.cs := by rw [← hW5]; exact bx4.row _
        have LY := en_r by5 W5 (Below.refl _ _)
        have k45 : Kept [wr.heap.size] W4 W5 := by rw [← hW5]; exact (Kept.refl _ _).setRow (.inl (by simp)) _
        have hb04 : Below wr.heap.size wr W4 := bel_trans hbx hb4
        have hb05 : Below wr.heap.size wr W5 := by rw [← hW5]; exact below_setRow hb04 (Nat.le_refl _) _
        have hO5 : EnOwn W5 w.heap.size (.slice ov M.length oc) M := hO.upon hb05
        have e9 : x.U.take (min x.n 9) = x.U.take 9 := by
          rw [← hUp.1]
          rcases Nat.le_total x.U.length 9 with h | h
          · rw [Nat.min_eq_left h, List.take_of_length_le h, List.take_length]
          · rw [Nat.min_eq_right h]
        have hxlt : wr.heap.size < Wx.heap.size := by rw [← hWx]; simp
        have hOy : OwnUp W5 w.heap.size (.slice y.a y.n y.c) y.U := by
          have h9 : OwnUp W5 Wx.heap.size (.slice a4 (min x.n 9) c4) (x.U.take (min x.n 9)) := hO4.kept k45 (fun g hg => by
            have := (hO4.lt g hg).1
            simp; omega)
          rw [e9] at h9
          rw [hy]
          refine ⟨h9.1, ?_⟩
          rcases h9.2 with h9 | ⟨q, cap, cur, e1, e2, e3⟩
          · exact .inl h9
          · exact .inr ⟨q, cap, cur, e1, Nat.le_trans (Nat.le_trans hkb.size hbx.size) e2, e3⟩
        obtain ⟨v6, W6, hap6, hO6, hk6, hb6⟩ := enapp_one hO5 hOy (by omega) (Nat.le_trans hkb.size hb05.size)
        have hbs := enbuild1_run y W5
        have hap7 := hap6 34
        have hcy : con y = cut9 (eng L k) := by rw [hx, hy]; rfl
        have HX := Lib.hid (And.intro hO6 (And.intro (cut_snoc hSm hkl hkm hcy) (And.intro hkb (And.intro hb05 hb6))))
        obtain ⟨o6, c6, e6⟩ := hO6.slice
        subst e6
        clear hO hSm hkb hbx bx hUp hrow hx hMl hkl hap hap6 bx4 by5 k45 hb04 hb05 hO5 hOy hO6 hk6 hb6 e9 hO4 hb4 hcy hkm hxlt hy
        generalize min x.n 9 = m9 at *
        go_wp2_with (with_reducible refine wpList_alloc_z rfl 92 rfl En.zero.cs 4 z_en ?_)
        go_roundw
        case rel => exact ⟨k + 1, _, by omega, by go_num, (by have h1 := HX.out.1; rw [List.length_append] at h1; exact h1), HX.out.2.1, ((show Below w.heap.size w wr from HX.out.2.2.1).trans (HX.out.2.2.2.1.mono HX.out.2.2.1.size)).trans HX.out.2.2.2.2⟩
        case measure => (simp [intOf]; try omega)
      · have i2 : ¬ (k : Int) < (lim : Int) := by omega
        have HX := Lib.hid (And.intro (hO.upon hbx) (And.intro (cut_skip hSm (by omega)) (bel_trans hkb hbx)))
        clear hO hSm hkb hbx bx hUp hrow hx hMl hkl hkm
        go_wp2_with (with_reducible refine wpList_alloc_z rfl 92 rfl En.zero.cs 4 z_en ?_)
        go_roundw
        case rel => exact ⟨k + 1, _, by omega, by go_num, HX.out⟩
        case measure => (simp [intOf]; try omega)
    · have hkn : k = n := by omega
      subst hkn
      obtain ⟨oa, oc, e1⟩ := hO.slice
      subst e1
      have hMl : M.length = min k lim := by have := congrArg List.length hSm; simp only [List.length_map, List.length_take] at this; omega
      have i1 : ¬ ((k : Int) < (k : Int)) := by omega
      rw [List.take_of_length_le (show L.length ≤ k by omega)] at hSm
      rw [List.map_take] at hSm
      have hMq : M.length = q := hMl.trans HQ.out
      have HX := Lib.hid (And.intro hO (And.intro hSm hkb))
      rw [hMq] at HX ⊢
      clear hO hSm hkb hMl hMq
      go_wp2_with fail
      go_ret
      exact ⟨oa, oc, rfl, M, HX.out⟩

set_option maxRecDepth 100000 in
set_option maxHeartbeats 1600000 in
theorem copyof_any (b : Bs) (w : World) (h : RoIn w 0 b.a b.n b.c b.R) (hs : b.n ≤ 1000) : Calls Try.prog 36 #[.agg b.cs] w fun e w' => ∃ b' : Bs, e = .returned (.agg b'.cs) ∧ b'.i = b.i ∧ b'.e = b.e ∧ b'.l = b.l ∧ b'.R = b.R ∧ b'.n = b.n ∧ RoIn w' w.heap.size b'.a b'.n b'.c b'.R ∧ Below w.heap.size w w' := by
  obtain ⟨W1, hW1⟩ : ∃ W1, w.alloc (.cells b.cs 33) = W1 := ⟨_, rfl⟩
  have hb1 : Below w.heap.size w W1 := by rw [← hW1]; exact below_alloc w _
  have b1 : Blk W1 w.heap.size 33 b.cs := by rw [← hW1]; exact Blk.new w _ _
  obtain ⟨W2, hW2⟩ : ∃ W2, W1.alloc (.cells Bs.zero.cs 33) = W2 := ⟨_, rfl⟩
  have hb12 : Below W1.heap.size W1 W2 := by rw [← hW2]; exact below_alloc W1 _
  have b2 : Blk W2 W1.heap.size 33 Bs.zero.cs := by rw [← hW2]; exact Blk.new W1 _ _
  have hle : w.heap.size ≤ W1.heap.size := hb1.size
  have hlt : w.heap.size < W1.heap.size := by rw [← hW1]; simp
  have hlt2 : W1.heap.size < W2.heap.size := by rw [← hW2]; simp
  have hb02 := bel_trans hb1 hb12
  have v2 := b1.later hb12
  have c0 : W2.cell? ⟨w.heap.size, 2, none⟩ = some (.slice b.a b.n b.c) := v2.cell 2
  have HCL := roclone_any b.a b.n b.c b.R W2 h.1 hs (h.2.1.later hb02) h.2.2.2.2.1
  have hRl := h.1
  have HX := Lib.hid (And.intro hb02 (And.intro b2 (And.intro v2 (And.intro hle (And.intro hlt hlt2)))))
  clear h hb1 b1 hb12 b2 v2 hle hlt hlt2 hb02
  go_enter Try.func36, Try.ntmps36
  go_wp2_with (with_reducible refine wpList_alloc_z rfl 33 rfl Bs.zero.cs 9 z_bs ?_)
  refine HCL.mono ?_
  rintro e W3 ⟨v3, rfl, hO, hb23⟩
  obtain ⟨a4, c4, e4, _⟩ := hO.lies
  subst e4
  rw [hRl] at hO ⊢
  have v3 := HX.out.2.2.1.later hb23
  have r3 := HX.out.2.1.later hb23
  have q1 : W3.cell? ⟨w.heap.size, 2, none⟩ = some (.slice b.a b.n b.c) := v3.cell 2
  have q2 := v3.free 2
  have v4 : Blk (W3.setCell ⟨w.heap.size, 2, none⟩ (.slice a4 b.n c4)) w.heap.size 33 (({ b with a := a4, n := b.n, c := c4, R := b.R } : Bs).cs) := v3.set 2 _
  obtain ⟨W4, hW4⟩ : ∃ W4, W3.setCell ⟨w.heap.size, 2, none⟩ (.slice a4 b.n c4) = W4 := ⟨_, rfl⟩
  rw [hW4] at v4
  have kk : Kept [w.heap.size] W3 W4 := by rw [← hW4]; exact Kept.setCell (p := ⟨w.heap.size, 2, none⟩) (Kept.refl _ _) (.inl (by simp)) _
  have hlt := HX.out.2.2.2.2.1
  have hlt2 := HX.out.2.2.2.2.2
  have hb02 := HX.out.1
  obtain ⟨b4, hb4⟩ : ∃ b4 : Bs, b4 = { b with a := a4, n := b.n, c := c4, R := b.R } := ⟨_, rfl⟩
  rw [← hb4] at v4
  skip
  have LB := ld_bs v4
  have r4 := r3.kept kk (by simp; omega)
  have ST2 := st_bs (b2 := b4) r4
  have k5 : Kept [W1.heap.size] W4 (W4.setRow W1.heap.size b4.cs) := (Kept.refl _ _).setRow (.inl (by simp)) _
  have hb04 : Below w.heap.size w W4 := (bel_trans hb02 hb23).trans (kk.below (fun i hi => by simp at hi; omega) (bel_trans hb02 hb23).size)
  have hO5 : OwnRo (W4.setRow W1.heap.size b4.cs) w.heap.size (.slice a4 b.n c4) b.R := by
    refine ⟨hO.1, ?_⟩
    rcases hO.2 with h9 | ⟨g, cap, cur, e1, e2, e3, e4⟩
    · exact .inl h9
    · exact .inr ⟨g, cap, cur, e1, by omega, k5.blk (kk.blk e3 (by simp; omega)) (by simp; omega), e4⟩
  have HF := Lib.hid (And.intro (r4.row b4.cs) (And.intro (below_setRow hb04 (show w.heap.size ≤ W1.heap.size by omega) b4.cs) (And.intro hb4 (OwnRo.into hO5))))
  clear v3 r3 v4 kk hlt hlt2 hb02 r4 k5 hb04 hO5 hO hb23 hb4
  go_wp2_with fail
  refine bodyPost_ret (results_cell_row rfl _ _ W1.heap.size 33 _ (0, 0) _ rfl HF.out.1 Try.underlying33 rfl (s_bs _)) rfl ?_
  obtain ⟨_, q2, q3, q4⟩ := HF.out
  subst q3
  exact ⟨_, rfl, rfl, rfl, rfl, rfl, rfl, q4, q2⟩

set_option maxRecDepth 100000 in
set_option maxHeartbeats 1600000 in
theorem copybase_any (b : Bs) (w : World) (h : RoIn w 0 b.a b.n b.c b.R) (hs : b.n ≤ 1000) : Calls Try.prog 44 #[.agg b.cs] w fun e w' => ∃ b' : Bs, e = .returned (.agg b'.cs) ∧ b'.i = b.i ∧ b'.e = b.e ∧ b'.l = b.l ∧ b'.R = b.R ∧ b'.n = b.n ∧ RoIn w' w.heap.size b'.a b'.n b'.c b'.R ∧ Below w.heap.size w w' := by
  obtain ⟨W1, hW1⟩ : ∃ W1, w.alloc (.cells b.cs 33) = W1 := ⟨_, rfl⟩
  have hb1 : Below w.heap.size w W1 := by rw [← hW1]; exact below_alloc w _
  have b1 : Blk W1 w.heap.size 33 b.cs := by rw [← hW1]; exact Blk.new w _ _
  obtain ⟨W2, hW2⟩ : ∃ W2, W1.alloc (.cells Bs.zero.cs 33) = W2 := ⟨_, rfl⟩
  have hb12 : Below W1.heap.size W1 W2 := by rw [← hW2]; exact below_alloc W1 _
  have b2 : Blk W2 W1.heap.size 33 Bs.zero.cs := by rw [← hW2]; exact Blk.new W1 _ _
  have hle : w.heap.size ≤ W1.heap.size := hb1.size
  have hlt : w.heap.size < W1.heap.size := by rw [← hW1]; simp
  have hlt2 : W1.heap.size < W2.heap.size := by rw [← hW2]; simp
  have hb02 := bel_trans hb1 hb12
  have v2 := b1.later hb12
  have c0 : (W2.alloc (.cells #[] 61)).cell? ⟨w.heap.size, 2, none⟩ = some (.slice b.a b.n b.c) := (v2.alloc _).cell 2
  have hbu := robuild0_run W2
  obtain ⟨a4, c4, W3, hap, hO, hb23⟩ := rocopy9 (h.later hb02) hs
  have hap2 := hap 25
  have HBR := build_rb a4 b.n c4
  have v3 := v2.later hb23
  have r3 := b2.later hb23
  have ST := st_bsrb (a2 := a4) (n2 := b.n) (c2 := c4) b.R v3
  obtain ⟨W4, hW4⟩ : ∃ W4, W3.setRow w.heap.size ({ b with a := a4, n := b.n, c := c4, R := b.R } : Bs).cs = W4 := ⟨_, rfl⟩
  have v4 : Blk W4 w.heap.size 33 (({ b with a := a4, n := b.n, c := c4, R := b.R } : Bs).cs) := by rw [← hW4]; exact v3.row _
  rw [hW4] at ST
  have kk : Kept [w.heap.size] W3 W4 := by rw [← hW4]; exact (Kept.refl _ _).setRow (.inl (by simp)) _
  obtain ⟨b4, hb4⟩ : ∃ b4 : Bs, b4 = { b with a := a4, n := b.n, c := c4, R := b.R } := ⟨_, rfl⟩
  rw [← hb4] at v4
  skip
  have LB := ld_bs v4
  have r4 := r3.kept kk (by simp; omega)
  have ST2 := st_bs (b2 := b4) r4
  have k5 : Kept [W1.heap.size] W4 (W4.setRow W1.heap.size b4.cs) := (Kept.refl _ _).setRow (.inl (by simp)) _
  have hb04 : Below w.heap.size w W4 := (bel_trans hb02 hb23).trans (kk.below (fun i hi => by simp at hi; omega) (bel_trans hb02 hb23).size)
  have hO5 : OwnRo (W4.setRow W1.heap.size b4.cs) w.heap.size (.slice a4 b.n c4) b.R := by
    refine ⟨hO.1, ?_⟩
    rcases hO.2 with h9 | ⟨g, cap, cur, e1, e2, e3, e4⟩
    · exact .inl h9
    · exact .inr ⟨g, cap, cur, e1, by omega, k5.blk (kk.blk e3 (by simp; omega)) (by simp; omega), e4⟩
  have HF := Lib.hid (And.intro (r4.row b4.cs) (And.intro (below_setRow hb04 (show w.heap.size ≤ W1.heap.size by omega) b4.cs) (And.intro hb4 (OwnRo.into hO5))))
  clear h hb1 b1 hb12 b2 hle hlt hlt2 hb02 v2 hap hO hb23 v3 r3 v4 kk r4 k5 hb04 hO5 hb4
  skip
  go_enter Try.func44, Try.ntmps44
  go_wp2_with (with_reducible refine wpList_alloc_z rfl 33 rfl Bs.zero.cs 9 z_bs ?_)
  refine bodyPost_ret (results_cell_row rfl _ _ W1.heap.size 33 _ (0, 0) _ rfl HF.out.1 Try.underlying33 rfl (s_bs _)) rfl ?_
  obtain ⟨_, q2, q3, q4⟩ := HF.out
  subst q3
  exact ⟨_, rfl, rfl, rfl, rfl, rfl, rfl, q4, q2⟩

set_option maxRecDepth 100000 in
set_option maxHeartbeats 1600000 in
theorem lbase_any (b : Bs) (w : World) (h : RoIn w 0 b.a b.n b.c b.R) : Calls Try.prog 33 #[.agg b.cs] w fun e w' => ∃ b' : Bs, e = .returned (.agg b'.cs) ∧ b'.i = b.i ∧ b'.e = b.e ∧ b'.l = b.l ∧ b'.R = (b.R.take 20) ∧ b'.n = (min b.n 20) ∧ RoIn w' w.heap.size b'.a b'.n b'.c b'.R ∧ Below w.heap.size w w' := by
  obtain ⟨W1, hW1⟩ : ∃ W1, w.alloc (.cells b.cs 33) = W1 := ⟨_, rfl⟩
  have hb1 : Below w.heap.size w W1 := by rw [← hW1]; exact below_alloc w _
  have b1 : Blk W1 w.heap.size 33 b.cs := by rw [← hW1]; exact Blk.new w _ _
  obtain ⟨W2, hW2⟩ : ∃ W2, W1.alloc (.cells Bs.zero.cs 33) = W2 := ⟨_, rfl⟩
  have hb12 : Below W1.heap.size W1 W2 := by rw [← hW2]; exact below_alloc W1 _
  have b2 : Blk W2 W1.heap.size 33 Bs.zero.cs := by rw [← hW2]; exact Blk.new W1 _ _
  have hle : w.heap.size ≤ W1.heap.size := hb1.size
  have hlt : w.heap.size < W1.heap.size := by rw [← hW1]; simp
  have hlt2 : W1.heap.size < W2.heap.size := by rw [← hW2]; simp
  have hb02 := bel_trans hb1 hb12
  have v2 := b1.later hb12
  have c0 : (W2.alloc (.cells #[] 61)).cell? ⟨w.heap.size, 2, none⟩ = some (.slice b.a b.n b.c) := (v2.alloc _).cell 2
  have hbu := robuild0_run W2
  have hmn : mnI (b.n : Int) 20 = ((min b.n 20 : Nat) : Int) := mnI_nat b.n 20
  have hmx : min b.n 20 ≤ b.n := Nat.min_le_left _ _
  have hm20 : min b.n 20 ≤ 20 := Nat.min_le_right _ _
  have hcnd := h.2.2.1
  have hcm : b.c ≤ 9223372036854775807 := by have := h.2.2.2.1; unfold maxLen at this; omega
  have e9 : b.R.take (min b.n 20) = b.R.take 20 := by
    rw [← h.1]
    rcases Nat.le_total b.R.length 20 with h | h
    · rw [Nat.min_eq_left h, List.take_of_length_le h, List.take_length]
    · rw [Nat.min_eq_right h]
  obtain ⟨a4, c4, W3, hap, hO, hb23⟩ := rocopy9 ((h.later hb02).take (min b.n 20) hmx) (by omega)
  have hap2 := hap 25
  have HBR := build_rb a4 (min b.n 20) c4
  rw [e9] at hO
  have v3 := v2.later hb23
  have r3 := b2.later hb23
  have ST := st_bsrb (a2 := a4) (n2 := (min b.n 20)) (c2 := c4) (b.R.take 20) v3
  obtain ⟨W4, hW4⟩ : ∃ W4, W3.setRow w.heap.size ({ b with a := a4, n := (min b.n 20), c := c4, R := (b.R.take 20) } : Bs).cs = W4 := ⟨_, rfl⟩
  have v4 : Blk W4 w.heap.size 33 (({ b with a := a4, n := (min b.n 20), c := c4, R := (b.R.take 20) } : Bs).cs) := by rw [← hW4]; exact v3.row _
  rw [hW4] at ST
  have kk : Kept [w.heap.size] W3 W4 := by rw [← hW4]; exact (Kept.refl _ _).setRow (.inl (by simp)) _
  obtain ⟨b4, hb4⟩ : ∃ b4 : Bs, b4 = { b with a := a4, n := (min b.n 20), c := c4, R := (b.R.take 20) } := ⟨_, rfl⟩
  rw [← hb4] at v4
  skip
  have LB := ld_bs v4
  have r4 := r3.kept kk (by simp; omega)
  have ST2 := st_bs (b2 := b4) r4
  have k5 : Kept [W1.heap.size] W4 (W4.setRow W1.heap.size b4.cs) := (Kept.refl _ _).setRow (.inl (by simp)) _
  have hb04 : Below w.heap.size w W4 := (bel_trans hb02 hb23).trans (kk.below (fun i hi => by simp at hi; omega) (bel_trans hb02 hb23).size)
  have hO5 : OwnRo (W4.setRow W1.heap.size b4.cs) w.heap.size (.slice a4 (min b.n 20) c4) (b.R.take 20) := by
    refine ⟨hO.1, ?_⟩
    rcases hO.2 with h9 | ⟨g, cap, cur, e1, e2, e3, e4⟩
    · exact .inl h9
    · exact .inr ⟨g, cap, cur, e1, by omega, k5.blk (kk.blk e3 (by simp; omega)) (by simp; omega), e4⟩
  have HF := Lib.hid (And.intro (r4.row b4.cs) (And.intro (below_setRow hb04 (show w.heap.size ≤ W1.heap.size by omega) b4.cs) (And.intro hb4 (OwnRo.into hO5))))
  clear h hb1 b1 hb12 b2 hle hlt hlt2 hb02 v2 hap hO hb23 v3 r3 v4 kk r4 k5 hb04 hO5 hb4 e9
  generalize min b.n 20 = m20 at *
  go_enter Try.func33, Try.ntmps33
  go_wp2_with (with_reducible refine wpList_alloc_z rfl 33 rfl Bs.zero.cs 9 z_bs ?_)
  refine bodyPost_ret (results_cell_row rfl _ _ W1.heap.size 33 _ (0, 0) _ rfl HF.out.1 Try.underlying33 rfl (s_bs _)) rfl ?_
  obtain ⟨_, q2, q3, q4⟩ := HF.out
  subst q3
  exact ⟨_, rfl, rfl, rfl, rfl, rfl, rfl, q4, q2⟩

end Go.Proofs.Ytkoenconjldojaa
