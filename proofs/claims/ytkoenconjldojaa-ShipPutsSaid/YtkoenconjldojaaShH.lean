/-
  The contracts of ship.copies and of the law's entries: entries in memory of their own. Nothing here is a statement of the document.
-/
import Derived.Test.YtkoenconjldojaaShF
import Derived.Test.YtkoenconjldojaaLinZ
import Derived.Deep.Cut
import Derived.Deep.CutBlock
namespace Go.Proofs.Ytkoenconjldojaa
open Go.RowKit Go.Shelf
set_option linter.unusedVariables false
set_option linter.unusedSimpArgs false
set_option maxRecDepth 100000
attribute [local go_sem 10000] gtU_rule leU_rule ltU_rule geU_rule adU_rule sbU_rule mxU_rule mnU_rule mnI_rule
attribute [local go_sem ↓] load_at_rule store_at_rule load_la_rule store_la_rule load_bs_rule store_bs_rule load_vw_rule store_vw_rule load_jo_rule store_jo_rule load_ms_rule store_ms_rule load_ch_rule store_ch_rule load_hd_rule store_hd_rule load_rb_rule store_rb_rule load_en_rule store_en_rule
attribute [local go_sem ↓] build_hd_rule build_rb_rule build_en_rule upbuild_rule upapp_rule robuild_rule roapp_rule enbuild_rule enapp_rule
theorem Same'.snoc {M L : List En} {k : Nat} {y : En} (h : Same' M (L.take k)) (hk : k < L.length) (hy : con y = con (eng L k)) : Same' (M ++ [y]) (L.take (k + 1)) := by
  unfold Same' at *
  rw [List.take_succ_eq_append_getElem hk, List.map_append, List.map_append, h, ← eng_get hk]
  simp [hy]
theorem Same'.full {M L : List En} {n : Nat} (h : Same' M (L.take n)) (hn : L.length = n) : Same' M L := by
  rwa [List.take_of_length_le (by omega)] at h
theorem wrap_next9 {k n : Nat} (h : k < n) (hn : n ≤ 100000) : wrap64 ((k : Int) + 1) = ((k + 1 : Nat) : Int) := by unfold wrap64; omega
set_option maxRecDepth 100000 in
set_option maxHeartbeats 1600000 in
theorem entries12_any (a : Option Addr) (n c : Nat) (L : List En) (w : World) (h : EnIn w 0 a n c L) (hs : n ≤ 1000) (hU : ∀ x ∈ L, x.n ≤ 1000) : Calls Try.prog 45 #[.slice a n c] w fun e w' => ∃ a' c' M, e = .returned (.slice a' n c') ∧ EnOwn w' w.heap.size (.slice a' n c') M ∧ Same' M L ∧ Below w.heap.size w w' := by
  have HI := Lib.hid h
  have HU := Lib.hid hU
  have hnl := h.1
  have hs2 : n ≤ 9223372036854775807 := by omega
  clear h hU
  have HN := Lib.hid hnl
  go_enter Try.func45, Try.ntmps45
  go_wp2_with fail
  go_loopw [3, 8] (fun o i wr => ∃ (k : Nat) (M : List En), k ≤ n ∧ i = .int .i64 (k : Int) ∧ EnOwn wr w.heap.size o M ∧ Same' M (L.take k) ∧ Below w.heap.size w wr) (fun _ i _ => n - (intOf i).toNat)
  case atStart => exact ⟨0, [], Nat.zero_le _, rfl, EnOwn.nil _ _, rfl, Below.refl _ _⟩
  case round =>
    obtain ⟨k, M, hk, rfl, hO, hSm, hkb⟩ := hrel
    by_cases hlt : k < n
    · have hkl : k < L.length := by omega
      obtain ⟨g, o, ha, hrow⟩ := (HI.out.later hkb).2.1.spot hkl
      subst ha
      have LE : (loadSem 92 (.pointer (some ⟨g, o + k * 4, none⟩))).run Try.prog wr = .ok (.agg (eng L k).cs) wr := hrow.load hkl
      have LE2 : (loadSem 92 (.pointer (some ⟨g, o + k * 4, none⟩))).run Try.prog (wr.alloc (.cells En.zero.cs 92)) = .ok (.agg (eng L k).cs) (wr.alloc (.cells En.zero.cs 92)) := (hrow.later (below_alloc wr _)).load hkl
      have hUp : UpIn wr 0 (eng L k).a (eng L k).n (eng L k).c (eng L k).U := (HI.out.later hkb).2.2.2.2.2.2 _ (eng_mem hkl)
      have hUs := HU.out _ (eng_mem hkl)
      have hMl := hSm.len
      rw [List.length_take] at hMl
      generalize hx : eng L k = x at *
      have SE := st_en (q := x) (Blk.new wr 92 En.zero.cs)
      rw [World.setRow_alloc_new] at SE
      obtain ⟨Wx, hWx⟩ : ∃ Wx, wr.alloc (.cells x.cs 92) = Wx := ⟨_, rfl⟩
      rw [hWx] at SE
      have hbx : Below wr.heap.size wr Wx := by rw [← hWx]; exact below_alloc wr _
      have bx : Blk Wx wr.heap.size 92 x.cs := by rw [← hWx]; exact Blk.new wr _ _
      have hbxd : Below wr.heap.size wr Wx.drew := bel_drew hbx
      have HB := batch_any x.a x.n x.c x.U Wx.drew (hUp.later hbxd) hUs
      obtain ⟨ov, oc, rfl⟩ := hO.slice
      have HX := Lib.hid (And.intro hO (And.intro hSm (And.intro hkb (And.intro hbxd (And.intro hx (And.intro bx (And.intro hkl hMl)))))))
      clear hO hSm hkb hbx bx hUp hUs hrow hbxd hx hMl hkl
      go_upto_region 5 with (with_reducible refine wpList_alloc_z rfl 92 rfl En.zero.cs 4 z_en ?_)
      refine wp_region_linY (fun w' => Blk w' wr.heap.size 92 x.cs) [9, 11, 12] [0, 1, 2, 3, 4, 5, 6, 7, 8, 9, 10, 11, 12, 13] (by kernel_rfl) (by kernel_rfl) HX.out.2.2.2.2.2.1 ?_
      (repeat (first | (refine linX_off rfl rfl (by rfl) ?_; (try simp only [Act.put, List.getElem_toArray, List.getElem_cons_zero, List.getElem_cons_succ, List.setIfInBounds_toArray, List.set_cons_zero, List.set_cons_succ])) | (refine linX_op (v := ?_) rfl rfl (by rfl) (fun w9 hS9 => ?_) ?_; rotate_left; (focus (((try dsimp only at hS9); have k0 := hS9.cell 0; have k1 := hS9.cell 1; have k2 := hS9.cell 2; have k3 := en_ba hS9; simp only [En.q0, En.q1, En.q2] at k0 k1 k2; go_simp; (try go_bits)) <;> with_reducible rfl)); (try simp only [Act.put, List.getElem_toArray, List.getElem_cons_zero, List.getElem_cons_succ, List.setIfInBounds_toArray, List.set_cons_zero, List.set_cons_succ]))))
      refine linX_call (f := 57) (args := #[.agg #[.slice x.a x.n x.c]]) rfl rfl (by rfl) rfl rfl (enters_of Try.func57 (by kernel_rfl) rfl) (by simp [Act.eval]) ?_
      refine HB.mono ?_
      rintro e W4 ⟨a4, c4, rfl, hO4, hb4⟩
      have hb04 : Below wr.heap.size wr W4 := bel_trans HX.out.2.2.2.1 hb4
      have bx4 : Blk W4 wr.heap.size 92 x.cs := Blk.later HX.out.2.2.2.2.2.1 (bel_trans (bel_drew (Below.refl _ _)) hb4)
      refine ⟨_, rfl, bx4, ?_⟩
      (try simp only [Act.put, List.getElem_toArray, List.getElem_cons_zero, List.getElem_cons_succ, List.setIfInBounds_toArray, List.set_cons_zero, List.set_cons_succ])
      have BE := build_en ⟨x.ep, x.cl, x.sq, a4, x.n, c4, x.U⟩
      dsimp only at BE
      (repeat (first | (refine linX_off rfl rfl (by rfl) ?_; (try simp only [Act.put, List.getElem_toArray, List.getElem_cons_zero, List.getElem_cons_succ, List.setIfInBounds_toArray, List.set_cons_zero, List.set_cons_succ])) | (refine linX_op (v := ?_) rfl rfl (by rfl) (fun w9 hS9 => ?_) ?_; rotate_left; (focus (((try dsimp only at hS9); go_simp; (try go_bits)) <;> with_reducible rfl)); (try simp only [Act.put, List.getElem_toArray, List.getElem_cons_zero, List.getElem_cons_succ, List.setIfInBounds_toArray, List.set_cons_zero, List.set_cons_succ]))))
      have hO44 : OwnUp W4 w.heap.size (.slice a4 x.n c4) x.U := by
        refine ⟨hO4.1, ?_⟩
        rcases hO4.2 with h9 | ⟨q, cap, cur, e1, e2, e3⟩
        · exact .inl h9
        · exact .inr ⟨q, cap, cur, e1, Nat.le_trans (Nat.le_trans HX.out.2.2.1.size HX.out.2.2.2.1.size) e2, e3⟩
      obtain ⟨v5, W5, hap, hO5, hk5, hb5⟩ := enapp_one (x := ⟨x.ep, x.cl, x.sq, a4, x.n, c4, x.U⟩) (HX.out.1.upon hb04) hO44 (by have := HX.out.2.2.2.2.2.2.2; omega) (Nat.le_trans HX.out.2.2.1.size hb04.size)
      have bx5 : Blk W5 wr.heap.size 92 x.cs := Blk.kept bx4 hk5 (fun hm => by
        have := (HX.out.1.1.lt wr.heap.size (by simpa using hm)).2
        omega)
      have hbs := enbuild1_run ⟨x.ep, x.cl, x.sq, a4, x.n, c4, x.U⟩ W4
      refine linX_do (v := .slice (some ⟨W4.heap.size, 0, none⟩) 1 1) (w' := W4.alloc (.cells (En.cs ⟨x.ep, x.cl, x.sq, a4, x.n, c4, x.U⟩) 92)) rfl rfl (by rfl) ?_ (bx4.alloc _) ?_
      · (focus ((go_simp; (try go_bits)) <;> with_reducible rfl))
      (try simp only [Act.put, List.getElem_toArray, List.getElem_cons_zero, List.getElem_cons_succ, List.setIfInBounds_toArray, List.set_cons_zero, List.set_cons_succ])
      have hap2 : (Builtin.append_ #[34, 34] 34 #[.slice ov M.length oc, .slice (some ⟨W4.heap.size, 0, none⟩) 1 1]).run Try.prog (W4.alloc (.cells (En.cs ⟨x.ep, x.cl, x.sq, a4, x.n, c4, x.U⟩) 92)) = .ok v5 W5 := hap _
      refine linX_do (v := v5) (w' := W5) rfl rfl (by rfl) ?_ bx5 ?_
      · simp [execOp, resolve, invoke, builtin, Act.eval, hap2, Result.andThen, Sem.run_bind]
      (try simp only [Act.put, List.getElem_toArray, List.getElem_cons_zero, List.getElem_cons_succ, List.setIfInBounds_toArray, List.set_cons_zero, List.set_cons_succ])
      (repeat (first | (refine linX_off rfl rfl (by rfl) ?_; (try simp only [Act.put, List.getElem_toArray, List.getElem_cons_zero, List.getElem_cons_succ, List.setIfInBounds_toArray, List.set_cons_zero, List.set_cons_succ])) | (refine linX_op (v := ?_) rfl rfl (by rfl) (fun w9 hS9 => ?_) ?_; rotate_left; (focus (((try dsimp only at hS9); go_simp; (try go_bits)) <;> with_reducible rfl)); (try simp only [Act.put, List.getElem_toArray, List.getElem_cons_zero, List.getElem_cons_succ, List.setIfInBounds_toArray, List.set_cons_zero, List.set_cons_succ]))))
      refine linX_nil ?_
      have HY := Lib.hid (And.intro hO5 (And.intro hb04 hb5))
      obtain ⟨o5, c5, e5⟩ := hO5.slice
      subst e5
      clear hap hap2 hO5 hk5 bx5 hO44 hb5 BE bx4 hb04 hO4 hb4
      go_wp2_with fail
      go_roundw
      case rel => exact ⟨k + 1, _, by omega, by go_num, HY.out.1, HX.out.2.1.snoc HX.out.2.2.2.2.2.2.1 (by rw [HX.out.2.2.2.2.1]; rfl), (show Below w.heap.size w wr from HX.out.2.2.1).trans ((HY.out.2.1.mono HX.out.2.2.1.size).trans HY.out.2.2)⟩
      case measure => (simp [intOf]; try omega)
    · have hkn : k = n := by omega
      subst hkn
      obtain ⟨oa, oc, e1⟩ := hO.slice
      subst e1
      have hMl : M.length = k := by have := (hSm.full HN.out).len; have := HN.out; omega
      have i1 : ¬ ((k : Int) < (k : Int)) := by omega
      have HX := Lib.hid (And.intro hO (And.intro (hSm.full HN.out) hkb))
      rw [hMl] at HX ⊢
      clear hO hSm hkb hMl
      go_wp2_with fail
      go_ret
      exact ⟨oa, oc, rfl, M, HX.out⟩

end Go.Proofs.Ytkoenconjldojaa
namespace Go.Proofs.Ytkoenconjldojaa
open Go.RowKit Go.Shelf
set_option linter.unusedVariables false
set_option linter.unusedSimpArgs false
set_option maxRecDepth 100000
attribute [local go_sem 10000] gtU_rule leU_rule ltU_rule geU_rule adU_rule sbU_rule mxU_rule mnU_rule mnI_rule
attribute [local go_sem ↓] load_at_rule store_at_rule load_la_rule store_la_rule load_bs_rule store_bs_rule load_vw_rule store_vw_rule load_jo_rule store_jo_rule load_ms_rule store_ms_rule load_ch_rule store_ch_rule load_hd_rule store_hd_rule load_rb_rule store_rb_rule load_en_rule store_en_rule
attribute [local go_sem ↓] build_hd_rule build_rb_rule build_en_rule build_at_rule build_jo_rule upbuild_rule upapp_rule robuild_rule roapp_rule enbuild_rule enapp_rule
/-- An entry with its updates elsewhere. -/
def En.put (x : En) (a : Option Addr) (n c : Nat) (U : List Up) : En := ⟨x.ep, x.cl, x.sq, a, n, c, U⟩
theorem eng_set {M : List En} {k : Nat} (hk : k < M.length) (y : En) (i : Nat) : eng (M.set k y) i = if i = k then y else eng M i := by
  unfold eng
  rw [List.getD_eq_getElem?_getD, List.getElem?_set]
  by_cases h : i = k
  · subst h; simp [hk]
  · rw [if_neg (fun e => h e.symm), if_neg h]; simp
theorem encs_set {M : List En} {k : Nat} (hk : k < M.length) (a : Option Addr) (n c : Nat) (U : List Up) : (encs M).set (k * 4 + 3) (.slice a n c) = encs (M.set k ((eng M k).put a n c U)) := by
  apply List.ext_getElem?
  intro q
  rw [List.getElem?_set, encs_len]
  by_cases hq : q < M.length * 4
  · have e1 := encs_get M (i := q / 4) (j := q % 4) (by omega) (by omega)
    have e2 := encs_get (M.set k ((eng M k).put a n c U)) (i := q / 4) (j := q % 4) (by rw [List.length_set]; omega) (by omega)
    have eq : q / 4 * 4 + q % 4 = q := by omega
    rw [eq] at e1 e2
    rw [e1, e2, eng_set hk]
    by_cases hi : q / 4 = k
    · rw [if_pos hi, hi]
      by_cases h3 : q % 4 = 3
      · rw [if_pos (by omega), if_pos (by omega), h3]; rfl
      · rw [if_neg (by omega)]
        have h4 : q % 4 < 4 := by omega
        generalize q % 4 = j at *
        match j, h3, h4 with
        | 0, _, _ => rfl
        | 1, _, _ => rfl
        | 2, _, _ => rfl
        | j + 3, h3, h4 => omega
    · rw [if_neg hi, if_neg (by omega)]
  · rw [if_neg (by omega), List.getElem?_eq_none (by rw [encs_len]; omega), List.getElem?_eq_none (by rw [encs_len, List.length_set]; omega)]
/-- The updates' place of an owned entry is written. -/
theorem OwnEn.set {w : World} {B g c k : Nat} {M : List En} (h : OwnEn w B (.slice (some ⟨g, 0, none⟩) M.length c) M) (hk : k < M.length) (a : Option Addr) (n2 c2 : Nat) (U : List Up) :
    OwnEn (w.setCell ⟨g, k * 4 + 3, none⟩ (.slice a n2 c2)) B (.slice (some ⟨g, 0, none⟩) M.length c) (M.set k ((eng M k).put a n2 c2 U)) ∧ w.grownBy (w.setCell ⟨g, k * 4 + 3, none⟩ (.slice a n2 c2)) (some g) := by
  obtain ⟨h1, h2⟩ := World.ownsRow.stored h (k * 4 + 3) (.slice a n2 c2)
  rw [encs_set hk a n2 c2 U] at h1
  refine ⟨?_, h2⟩
  show World.ownsRow _ _ _ _ _ (M.set k _).length _
  rw [List.length_set]
  exact h1
set_option maxRecDepth 100000 in
set_option maxHeartbeats 1600000 in
theorem copies_any (a : Option Addr) (n c : Nat) (L : List En) (w : World) (h : EnIn w 0 a n c L) (hs : n ≤ 1000) (hU : ∀ x ∈ L, x.n ≤ 1000) : Calls Try.prog 38 #[.slice a n c] w fun e w' => ∃ a' c', e = .returned (.slice a' n c') ∧ ∃ M, EnOwn w' w.heap.size (.slice a' n c') M ∧ Same' M L ∧ Below w.heap.size w w' := by
  have HCL := enclone_any a n c L w h.1 hs h.2.1 h.2.2.2.2.1
  have HI := Lib.hid h
  have HU := Lib.hid hU
  have hnl := h.1
  have hs2 : n ≤ 9223372036854775807 := by omega
  clear h hU
  have HN := Lib.hid hnl
  go_enter Try.func38, Try.ntmps38
  go_wp2_with fail
  refine HCL.mono ?_
  rintro e W1 ⟨v1, rfl, hO1, hb1⟩
  obtain ⟨a1, c1, e1, _⟩ := hO1.lies
  subst e1
  rw [hnl] at hO1 ⊢
  have hnc : n ≤ c1 := by obtain ⟨a9, c9, e9, h9, _⟩ := OwnEn.lies (show OwnEn W1 w.heap.size (.slice a1 L.length c1) L from by rw [hnl]; exact hO1); injection e9 with _ _ e9; omega
  have H1 := Lib.hid (And.intro hO1 hb1)
  clear hO1 hb1 HCL
  go_wp2_with fail
  go_loopw [10] (fun i wr => ∃ (k : Nat) (M : List En), k ≤ n ∧ i = .int .i64 (k : Int) ∧ M.length = n ∧ OwnEn wr w.heap.size (.slice a1 n c1) M ∧ (∀ j, j < k → con (eng M j) = con (eng L j) ∧ OwnUp wr w.heap.size (.slice (eng M j).a (eng M j).n (eng M j).c) (eng M j).U) ∧ (∀ j, k ≤ j → eng M j = eng L j) ∧ Below w.heap.size w wr) (fun i _ => n - (intOf i).toNat)
  case atStart => exact ⟨0, L, Nat.zero_le _, rfl, HN.out, (by have := H1.out.1; rwa [← HN.out] at this ⊢), fun j hj => absurd hj (Nat.not_lt_zero _), fun _ _ => rfl, H1.out.2⟩
  case round =>
    obtain ⟨k, M, hk, rfl, hMn, hO, hlo, hhi, hkb⟩ := hrel
    by_cases hlt : k < n
    · have hkl : k < L.length := by omega
      have hkM : k < M.length := by omega
      have hO2 : OwnEn wr w.heap.size (.slice a1 M.length c1) M := by rw [hMn]; exact hO
      obtain ⟨g, ha⟩ : ∃ g, a1 = some ⟨g, 0, none⟩ := by
        rcases hO.2 with ⟨h9, h8⟩ | ⟨g, cap, cur, h9, _⟩
        · omega
        · injection h9 with h9; exact ⟨g, h9⟩
      subst ha
      have hrow : Ens wr g 0 M := by
        obtain ⟨a9, c9, e9, _, _, h9, _⟩ := hO2.lies
        injection e9 with e9
        subst e9
        obtain ⟨g9, o9, e8, h8⟩ := h9.spot hkM
        injection e8 with e8
        injection e8 with e7 e6
        subst e7 e6
        exact h8
      have LE : (loadSem 92 (.pointer (some ⟨g, k * 4, none⟩))).run Try.prog wr = .ok (.agg (eng M k).cs) wr := by have := hrow.load hkM; rwa [Nat.zero_add] at this
      have LE2 : (loadSem 92 (.pointer (some ⟨g, k * 4, none⟩))).run Try.prog (wr.alloc (.cells En.zero.cs 92)) = .ok (.agg (eng M k).cs) (wr.alloc (.cells En.zero.cs 92)) := by have := (hrow.later (below_alloc wr (.cells En.zero.cs 92))).load hkM; rwa [Nat.zero_add] at this
      have hML := hhi k (Nat.le_refl _)
      have hUp : UpIn wr 0 (eng M k).a (eng M k).n (eng M k).c (eng M k).U := by rw [hML]; exact (HI.out.later hkb).2.2.2.2.2.2 _ (eng_mem hkl)
      have hUs : (eng M k).n ≤ 1000 := by rw [hML]; exact HU.out _ (eng_mem hkl)
      generalize hx : eng M k = x at *
      have SE := st_en (q := x) (Blk.new wr 92 En.zero.cs)
      rw [World.setRow_alloc_new] at SE
      obtain ⟨Wx, hWx⟩ : ∃ Wx, wr.alloc (.cells x.cs 92) = Wx := ⟨_, rfl⟩
      rw [hWx] at SE
      have hbx : Below wr.heap.size wr Wx := by rw [← hWx]; exact below_alloc wr _
      have bx : Blk Wx wr.heap.size 92 x.cs := by rw [← hWx]; exact Blk.new wr _ _
      have c3 : Wx.cell? ⟨wr.heap.size, 3, none⟩ = some (.slice x.a x.n x.c) := bx.cell 3
      have HC2 := upclone_any x.a x.n x.c x.U Wx hUp.1 hUs (hUp.2.1.later hbx) hUp.2.2.2.2.1
      have HX := Lib.hid (And.intro hO2 (And.intro hlo (And.intro hhi (And.intro hkb (And.intro hbx (And.intro hx (And.intro hkM (And.intro hMn (And.intro hML hUp.1)))))))))
      clear hO hO2 hlo hhi hkb hbx bx hUp hUs hrow hx hMn hML
      go_wp2_with (with_reducible refine wpList_alloc_z rfl 92 rfl En.zero.cs 4 z_en ?_)
      refine HC2.mono ?_
      rintro e W4 ⟨v4, rfl, hO4, hb4⟩
      obtain ⟨a4, c4, e4, _⟩ := hO4.lies
      subst e4
      have hb04 : Below wr.heap.size wr W4 := bel_trans HX.out.2.2.2.2.1 hb4
      have hOE := HX.out.1.upon hb04
      have hkM := HX.out.2.2.2.2.2.2.1
      have q1 := World.ownsRow.cellAt hOE (k * 4 + 3) (by omega)
      rw [encs_get M hkM (by omega), HX.out.2.2.2.2.2.1, En.q3] at q1
      have q2 := World.ownsRow.frozenAt hOE (k * 4 + 3)
      obtain ⟨r1, r2⟩ := hOE.set hkM a4 x.U.length c4 x.U
      rw [HX.out.2.2.2.2.2.1] at r1
      have kB : w.heap.size ≤ Wx.heap.size := Nat.le_trans HX.out.2.2.2.1.size HX.out.2.2.2.2.1.size
      have hO44 : OwnUp W4 w.heap.size (.slice a4 x.U.length c4) x.U := by
        refine ⟨hO4.1, ?_⟩
        rcases hO4.2 with h9 | ⟨q, cap, cur, e1, e2, e3⟩
        · exact .inl h9
        · exact .inr ⟨q, cap, cur, e1, Nat.le_trans kB e2, e3⟩
      have kk : Kept [g] W4 (W4.setCell ⟨g, k * 4 + 3, none⟩ (.slice a4 x.U.length c4)) := (Kept.refl _ _).grown r2 (fun j hj => by cases hj; exact .inl (by simp))
      have hgB : w.heap.size ≤ g := (hOE.lt g rfl).1
      have HY := Lib.hid (And.intro r1 (And.intro (And.intro hO44 kk) (And.intro hb04 (And.intro hOE hgB))))
      clear r1 r2 hO44 kk hb04 hOE hO4 hb4 hgB kB
      go_wp2_with fail
      go_roundw
      case rel =>
        refine ⟨k + 1, M.set k (x.put a4 x.U.length c4 x.U), by omega, by go_num, by rw [List.length_set]; exact HX.out.2.2.2.2.2.2.2.1, ?_, fun j hj => ?_, fun j hj => ?_, ?_⟩
        · have := HY.out.1; rwa [HX.out.2.2.2.2.2.2.2.1] at this
        · have ap : ∀ (y : En), OwnUp W4 w.heap.size (.slice y.a y.n y.c) y.U → OwnUp (W4.setCell ⟨g, k * 4 + 3, none⟩ (.slice a4 x.U.length c4)) w.heap.size (.slice y.a y.n y.c) y.U := fun y hy => hy.kept HY.out.2.1.2 (fun i hi => by
            have := enup_apart HY.out.2.2.2.1 hy i hi
            simpa [Value.ownBlock] using this)
          rw [eng_set HX.out.2.2.2.2.2.2.1]
          by_cases hjk : j = k
          · rw [if_pos hjk, hjk]
            refine ⟨?_, ap (x.put a4 x.U.length c4 x.U) HY.out.2.1.1⟩
            rw [← HX.out.2.2.2.2.2.2.2.2.1]
            rfl
          · rw [if_neg hjk]
            obtain ⟨l1, l2⟩ := HX.out.2.1 j (by omega)
            exact ⟨l1, ap _ (l2.upon HY.out.2.2.1)⟩
        · rw [eng_set HX.out.2.2.2.2.2.2.1, if_neg (by omega)]
          exact HX.out.2.2.1 j (by omega)
        · exact ((show Below w.heap.size w wr from HX.out.2.2.2.1).trans (HY.out.2.2.1.mono HX.out.2.2.2.1.size)).trans (HY.out.2.1.2.below (fun i hi => by simp at hi; subst hi; exact HY.out.2.2.2.2) (Nat.le_trans HX.out.2.2.2.1.size HY.out.2.2.1.size))
      case measure => (simp [intOf]; try omega)
    · have hkn : k = n := by omega
      subst hkn
      have i1 : ¬ ((k : Int) < (k : Int)) := by omega
      have hSame : Same' M L := same_of (hMn.trans HN.out.symm) (fun j hj => (hlo j (by omega)).1)
      have HX := Lib.hid (And.intro (show EnOwn wr w.heap.size (.slice a1 k c1) M from ⟨hO, fun x hx => by
        obtain ⟨j, hj, rfl⟩ := List.getElem_of_mem hx
        rw [← eng_get hj]
        exact (hlo j (by omega)).2⟩) (And.intro hSame hkb))
      clear hO hlo hhi hSame hkb hMn
      go_wp2_with fail
      go_ret
      exact ⟨a1, c1, rfl, M, HX.out⟩

end Go.Proofs.Ytkoenconjldojaa
