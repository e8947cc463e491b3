/-
  The walk of TableBack. Nothing here is a statement of the document.
-/
import Derived.Test.YtdbdmnahgkkjiaaDoorTdG
import Derived.Test.YtdbdmnahgkkjiaaDoorTbI
import Derived.Test.YtdbdmnahgkkjiaaDoorTbR
import Derived.Test.YtdbdmnahgkkjiaaDoorDskA
namespace Go.Proofs.YtdbdmnahgkkjiaaDoor
open Go.RowKit Go.Shelf
set_option linter.unusedVariables false
set_option maxRecDepth 100000
def maxSem (ts : Array TypeId) (t : TypeId) (x y : Value) : Sem Value := Builtin.max_ ts t #[x, y]
theorem max_rule (ts : Array TypeId) (t : TypeId) (x y : Value) : Builtin.max_ ts t #[x, y] = maxSem ts t x y := rfl
/-- s[:k] of bytes. -/
def cutH (x hi : Value) : Sem Value := Instr.sliceAt 39 x none (some hi) none
theorem cutH_rule (x hi : Value) : Instr.sliceAt 39 x none (some hi) none = cutH x hi := rfl
theorem cutH_run (a : Option Addr) (len cap k : Nat) (hk : k ≤ cap) (w2 : World) : (cutH (.slice a len cap) (.int .i64 (k : Int))).run Tryd.prog w2 = .ok (.slice a k cap) w2 := by
  unfold cutH
  have hu : Tryd.prog.underlying 39 = some (.slice (Tryd.prog.elem 39)) := by rw [elem_u89]; exact Tryd.underlying39
  rw [run_sliceAt_slice w2 39 _ _ _ _ hu, run_slice_h w2 39 a len cap hu .i64 (k : Int) (by omega) (by omega)]
  rw [elem_u89]
  cases a <;> go_simp <;> simp [Addr.add]
theorem lies_take9 {w : World} {a : Option Addr} {l : List Nat} (h : Lies w a l) (k : Nat) : Lies w a (l.take k) := by
  rcases h with rfl | ⟨b, off, rfl, hb, hc⟩
  · exact .inl (by simp)
  · refine .inr ⟨b, off, rfl, hb, fun i hi => ?_⟩
    rw [List.length_take] at hi
    rw [hc i (by omega)]
    have : i < k := by omega
    simp [List.getElem?_take, this]
theorem tabB_bys {T : List Rt} (h : okT T) : Bys (tabB T) := by
  intro x hx
  rcases List.mem_cons.1 hx with rfl | hx
  · have := h.1; omega
  · exact rowsB_bys T h.2.1 x hx
theorem tabB_len9 {L : List Rt} (h : okT L) : 1 ≤ (tabB L).length ∧ (tabB L).length ≤ 1000 := by
  have h1 := rowsB_len L (fun r hr => (h.2.1 r hr).1)
  have := h.1
  simp [tabB]
  omega
theorem cut_at (cut : Int) {b : Nat} (hb : 1 ≤ b) : ∃ (mx : Int) (k : Nat), k < b ∧ (∀ ts t w, (maxSem ts t (.int .i64 cut) (.int .i64 0)).run Tryd.prog w = .ok (.int .i64 mx) w) ∧ mx.tmod (b : Int) = (k : Int) ∧ 0 ≤ mx := by
  refine ⟨if 0 > cut then 0 else cut, ((if 0 > cut then 0 else cut).tmod (b : Int)).toNat, ?_, fun ts t w => run_max_int2 _ _ _ _ _ _ _, ?_, ?_⟩
  · have h0 : 0 ≤ (if 0 > cut then (0 : Int) else cut) := by split <;> omega
    generalize (if 0 > cut then (0 : Int) else cut) = z at *
    have h1 := Int.tmod_nonneg (b : Int) h0
    have h2 := Int.tmod_lt_of_pos z (show (0 : Int) < (b : Int) by omega)
    omega
  · have h0 : 0 ≤ (if 0 > cut then (0 : Int) else cut) := by split <;> omega
    generalize (if 0 > cut then (0 : Int) else cut) = z at *
    have h1 := Int.tmod_nonneg (b : Int) h0
    omega
  · split <;> omega
attribute [local go_sem ↓] load_b16_rule store_b16_rule load_ad_rule store_ad_rule load_px_rule store_px_rule eq_b16_rule eq_ad_rule eq_px_rule load_rt_rule store_rt_rule build_ad_rule build_px_rule build_b16_rule build_rt_rule load_tab_rule build_tab_rule store_tab_rule tbuild_rule tapp_rule tcopy_rule eq_rt_rule max_rule cutH_rule store_tab_rule
set_option maxHeartbeats 8000000 in
theorem tback_walk (a : Option Addr) (n c : Nat) (T : List Rt) (cut : Int) (r : Rt) (w : World) (hW : Wid w) (hn : T.length = n) (hT : Tbl w a c T) :
    Calls Tryd.prog 5 #[.agg #[.slice a n c], .int .i64 cut, .agg r.cs] w fun e w' => e = .returned (.bool true) ∧ Below w.heap.size w w' := by
  have hm : n ≤ 9223372036854775807 := by have := hT.le; have := hT.cap; unfold maxLen at this; omega
  obtain ⟨W1, hW1⟩ : ∃ W1, (w.alloc (.cells #[.slice a n c] 24)).alloc (.cells r.cs 48) = W1 := ⟨_, rfl⟩
  have hb1 : Below w.heap.size w W1 := by rw [← hW1]; exact (((Below.refl w.heap.size w).alloc (Nat.le_refl _) _).alloc (by simp) _)
  have b1 : Blk W1 w.heap.size 24 #[.slice a n c] := by
    have h9 := (Blk.new w 24 #[.slice a n c]).alloc (.cells r.cs 48)
    rwa [hW1] at h9
  have b2 : Blk W1 (w.heap.size + 1) 48 r.cs := by
    have h9 := Blk.new (w.alloc (.cells #[.slice a n c] 24)) 48 r.cs
    rwa [World.size_alloc, hW1] at h9
  have LT := tab_t b1
  have CT := tab_c b1
  have LRp := rt_p b2
  have LRh := rt_h b2
  have HW : ∀ w', Below W1.heap.size W1 w' → Wid w' := fun w' h => (hW.later hb1).later h
  have hTW : ∀ w', Below W1.heap.size W1 w' → Tbl w' a c T := fun w' h => (hT.later hb1).later h
  have HWK := fun w' h => wakes9_any w' (HW w' h)
  have h0 : Below W1.heap.size W1 W1 := Below.refl _ _
  have HB := Lib.hid (And.intro hb1 (And.intro hn (And.intro hm (And.intro hTW HW))))
  clear hb1 b1 b2 hn hm hTW HW hW hT
  by_cases h200 : 200 < n
  · have d1 : decide ((200 : Int) < (n : Int)) = true := decide_eq_true (by omega)
    clear h200
    go_enter Tryd.func5, Tryd.ntmps5
    go_wp2_with (first | (go_at_call 6; refine (HWK _ (by assumption)).mono ?_; rintro e w2 ⟨rfl, hb2⟩; have hk2 : Below W1.heap.size W1 w2 := bel_trans (by assumption) hb2; clear hb2))
    all_goals go_ret
    all_goals exact ⟨rfl, bel_trans HB.out.1 (by assumption)⟩
  · have d1 : decide ((200 : Int) < (n : Int)) = false := decide_eq_false (by omega)
    clear h200
    go_enter Tryd.func5, Tryd.ntmps5
    go_wp2_with (first | (go_at_call 6; refine (HWK _ (by assumption)).mono ?_; rintro e w2 ⟨rfl, hb2⟩; have hk2 : Below W1.heap.size W1 w2 := bel_trans (by assumption) hb2; clear hb2))
    have HEN := tencode_any a n c T w2 (HB.out.2.2.2.2 _ hk2) HB.out.2.1 (HB.out.2.2.2.1 w2 hk2)
    refine HEN.mono ?_
    rintro e w3 ⟨v3, rfl, ho3, hn3, hb3⟩
    have h3 : Below W1.heap.size W1 w3 := bel_trans hk2 hb3
    clear HEN hb3 hk2 HWK h0
    by_cases hok : okT T
    · rw [eT_ok hok]
      have o3 := ho3 hok
      obtain ⟨av, cv, rfl, hcv, hcvm, lv, _⟩ := o3.lies
      obtain ⟨bn, hbn⟩ : ∃ bn, (tabB T).length = bn := ⟨_, rfl⟩
      rw [hbn] at hcv ⊢
      have hbl := tabB_len9 hok
      rw [hbn] at hbl
      have hBy := tabB_bys hok
      have hdt := dt_back hok
      have hcm9 : cv ≤ 9223372036854775807 := by unfold maxLen at hcvm; omega
      have HD1 := tdecode_any av bn cv (tabB T) w3 (HB.out.2.2.2.2 _ h3) hBy hbn (by omega) hcv hcm9 lv
      rw [hdt.1, hdt.2, HB.out.2.1] at HD1
      obtain ⟨mx, k, hkb, hmx, hmod, hmx0⟩ := cut_at cut hbl.1
      have hcu := dt_cut hok (m := k) (by omega)
      have hGl : ∀ w', Below w3.heap.size w3 w' → Lies w' av (tabB T) := fun w' h => lv.kept h
      have HG := Lib.hid (And.intro hbn (And.intro hbl (And.intro hBy (And.intro hcv (And.intro hcm9 (And.intro hkb (And.intro hcu (And.intro hok hGl))))))))
      have hz : ¬ ((bn : Int) = 0) := by omega
      have CH := cutH_run av bn cv k (by omega)
      clear ho3 hn3 o3 lv hcvm hbn hbl hBy hdt hcv hcm9 hkb hcu hok hGl
      go_wp2_with fail
      refine HD1.mono ?_
      rintro e w4 ⟨a4, c4, rfl, t4, hb4⟩
      obtain ⟨wb4, hwb4⟩ : ∃ x, w4.alloc (.cells #[.slice a4 n c4] 24) = x := ⟨_, rfl⟩
      have S4 := st_tab (a2 := a4) (n2 := n) (c2 := c4) (Blk.new w4 24 #[.slice none 0 0])
      rw [World.setRow_alloc_new, hwb4] at S4
      have bw4 : Blk wb4 w4.heap.size 24 #[.slice a4 n c4] := by rw [← hwb4]; exact Blk.new _ _ _
      have kb4 : Below w4.heap.size w4 wb4 := by rw [← hwb4]; exact (Below.refl _ _).alloc (Nat.le_refl _) _
      have k34 : Below w3.heap.size w3 wb4 := bel_trans hb4 kb4
      have h4 : Below W1.heap.size W1 wb4 := bel_trans h3 k34
      have HD2 := tdecode_any av k cv ((tabB T).take k) wb4 (HB.out.2.2.2.2 _ h4) (fun x hx => HG.out.2.2.1 x (List.mem_of_mem_take hx)) (by rw [List.length_take]; have := HG.out.1; have := HG.out.2.2.2.2.2.1; omega) (by have := HG.out.2.1.2; have := HG.out.2.2.2.2.2.1; omega) (by have := HG.out.2.2.2.1; have := HG.out.2.2.2.2.2.1; omega) HG.out.2.2.2.2.1 (lies_take9 (HG.out.2.2.2.2.2.2.2.2 _ k34) k)
      rw [HG.out.2.2.2.2.2.2.1] at HD2
      have H4 := Lib.hid (And.intro bw4 (And.intro (t4.later kb4) (And.intro h4 k34)))
      clear hb4 t4 kb4 k34 bw4 hwb4 HD1
      go_wp2_with (with_reducible refine wpList_alloc_z rfl 24 rfl #[.slice none 0 0] 1 z_tab ?_)
      refine HD2.mono ?_
      rintro e w5 ⟨a5, c5, rfl, t5, hb5⟩
      obtain ⟨R5, hR5⟩ : ∃ R5, dtR ((tabB T).take k) = R5 := ⟨_, rfl⟩
      rw [hR5] at t5 ⊢
      obtain ⟨n5, hn5⟩ : ∃ n5, R5.length = n5 := ⟨_, rfl⟩
      rw [hn5]
      obtain ⟨wb5, hwb5⟩ : ∃ x, w5.alloc (.cells #[.slice a5 n5 c5] 24) = x := ⟨_, rfl⟩
      have S5 := st_tab (a2 := a5) (n2 := n5) (c2 := c5) (Blk.new w5 24 #[.slice none 0 0])
      rw [World.setRow_alloc_new, hwb5] at S5
      have bw5 : Blk wb5 w5.heap.size 24 #[.slice a5 n5 c5] := by rw [← hwb5]; exact Blk.new _ _ _
      have kb5 : Below w5.heap.size w5 wb5 := by rw [← hwb5]; exact (Below.refl _ _).alloc (Nat.le_refl _) _
      have k45 : Below wb4.heap.size wb4 wb5 := bel_trans hb5 kb5
      have h5 : Below W1.heap.size W1 wb5 := bel_trans H4.out.2.2.1 k45
      have L4 := tab_t (H4.out.1.later k45) wb5 (Below.refl _ _)
      have LTw := LT wb5 h5
      have HSA := tsame_any a4 a n c4 n c T T wb5 HB.out.2.1 HB.out.2.2.1 (H4.out.2.1.later k45).at' HB.out.2.1 HB.out.2.2.1 (HB.out.2.2.2.1 wb5 h5).at'
      rw [decide_eq_true rfl] at HSA
      have H5 := Lib.hid (And.intro h5 (And.intro k45 H4.out.2.2.2))
      clear hb5 t5 kb5 k45 bw5 hwb5 HD2 hR5 hn5 h4
      go_wp2_with (with_reducible refine wpList_alloc_z rfl 24 rfl #[.slice none 0 0] 1 z_tab ?_)
      refine HSA.mono ?_
      rintro e w6 ⟨rfl, hb6⟩
      have k56 : Below wb5.heap.size wb5 w6 := hb6
      have h6 : Below W1.heap.size W1 w6 := bel_trans h5 k56
      have HST := set_any a n c T r.p r.h w6 (HB.out.2.2.2.2 _ h6) HB.out.2.1 (HB.out.2.2.2.1 w6 h6)
      have LTw6 := LT w6 h6
      have LRw6 := LRp w6 h6
      have LHw6 := LRh w6 h6
      have H6 := Lib.hid (And.intro h6 (bel_trans H5.out.2.2 (bel_trans H5.out.2.1 k56)))
      clear hb6 HSA LTw L4 k56 h5
      go_wp2_with fail
      refine HST.mono ?_
      rintro e w7 ⟨a7, c7, rfl, t7, _, hb7⟩
      obtain ⟨U, hU⟩ : ∃ U, setM T r.p r.h = U := ⟨_, rfl⟩
      obtain ⟨E, hE⟩ : ∃ E, setE T r.p r.h = E := ⟨_, rfl⟩
      rw [hU] at t7 ⊢
      rw [hE]
      obtain ⟨n7, hn7⟩ : ∃ n7, U.length = n7 := ⟨_, rfl⟩
      rw [hn7]
      obtain ⟨wb7, hwb7⟩ : ∃ x, w7.alloc (.cells #[.slice a7 n7 c7] 24) = x := ⟨_, rfl⟩
      have S7 := st_tab (a2 := a7) (n2 := n7) (c2 := c7) (Blk.new w7 24 #[.slice none 0 0])
      rw [World.setRow_alloc_new, hwb7] at S7
      have bw7 : Blk wb7 w7.heap.size 24 #[.slice a7 n7 c7] := by rw [← hwb7]; exact Blk.new _ _ _
      have kb7 : Below w7.heap.size w7 wb7 := by rw [← hwb7]; exact (Below.refl _ _).alloc (Nat.le_refl _) _
      have k67 : Below w6.heap.size w6 wb7 := bel_trans hb7 kb7
      have h7 : Below W1.heap.size W1 wb7 := bel_trans h6 k67
      by_cases hE0 : E = 0
      · have dE : (E != 0) = false := by simp [hE0]
        have hbk := back_at (hE.trans hE0)
        have L7 := tab_t bw7 wb7 (Below.refl _ _)
        have LRw7 := LRp wb7 h7
        have HGE := get_any a7 n7 c7 U r.p wb7 (HB.out.2.2.2.2 _ h7) hn7 (t7.later kb7)
        have hg1 := hbk.get
        rw [hU] at hg1
        rw [hg1.1, hg1.2] at HGE
        have H7 := Lib.hid (And.intro h7 (And.intro (t7.later kb7) (And.intro bw7 (And.intro hn7 (And.intro hU (And.intro (hE.trans hE0) (bel_trans H6.out.2 k67)))))))
        have HK := Lib.hid hbk
        subst hE0
        clear hb7 t7 kb7 k67 bw7 hwb7 hn7 hE hU hg1 hbk HST LTw6 LRw6 LHw6 h6
        go_wp2_with (with_reducible refine wpList_alloc_z rfl 24 rfl #[.slice none 0 0] 1 z_tab ?_)
        refine HGE.mono ?_
        rintro e w8 ⟨rfl, hb8⟩
        have k78 : Below wb7.heap.size wb7 w8 := hb8
        have h8 : Below W1.heap.size W1 w8 := bel_trans h7 k78
        have HDR := drop_any a7 n7 c7 U r.p w8 (HB.out.2.2.2.2 _ h8) H7.out.2.2.2.1 (H7.out.2.1.later k78)
        have L8 := tab_t H7.out.2.2.1 w8 k78
        have LRw8 := LRp w8 h8
        have hdE := HK.out.dropE
        rw [H7.out.2.2.2.2.1] at hdE
        rw [hdE] at HDR
        clear hb8 HGE L7 LRw7 hdE h7
        go_wp2_with fail
        refine HDR.mono ?_
        rintro e w9 ⟨a9, c9, rfl, t9, _, hb9⟩
        have HS39 := Lib.hid (show w3.heap.size ≤ w9.heap.size by have := hb9.size; have := k78.size; have := H7.out.2.2.2.2.2.2.size; omega)
        obtain ⟨V, hV⟩ : ∃ V, dropM U r.p = V := ⟨_, rfl⟩
        rw [hV] at t9 ⊢
        obtain ⟨n9, hn9⟩ : ∃ n9, V.length = n9 := ⟨_, rfl⟩
        rw [hn9]
        obtain ⟨wb9, hwb9⟩ : ∃ x, w9.alloc (.cells #[.slice a9 n9 c9] 24) = x := ⟨_, rfl⟩
        have S9 := st_tab (a2 := a9) (n2 := n9) (c2 := c9) (Blk.new w9 24 #[.slice none 0 0])
        rw [World.setRow_alloc_new, hwb9] at S9
        have bw9 : Blk wb9 w9.heap.size 24 #[.slice a9 n9 c9] := by rw [← hwb9]; exact Blk.new _ _ _
        have kb9 : Below w9.heap.size w9 wb9 := by rw [← hwb9]; exact (Below.refl _ _).alloc (Nat.le_refl _) _
        have k89 : Below w8.heap.size w8 wb9 := bel_trans hb9 kb9
        have h9 : Below W1.heap.size W1 wb9 := bel_trans h8 k89
        have L9 := tab_t bw9 wb9 (Below.refl _ _)
        have LRw9 := LRp wb9 h9
        have HGV := get_any a9 n9 c9 V r.p wb9 (HB.out.2.2.2.2 _ h9) hn9 (t9.later kb9)
        have hg2 := HK.out.gone
        rw [H7.out.2.2.2.2.1, hV] at hg2
        rw [hg2] at HGV
        obtain ⟨z9, hz9⟩ : ∃ z9, getV V r.p = z9 := ⟨_, rfl⟩
        rw [hz9] at HGV
        have H9 := Lib.hid (And.intro h9 (And.intro (t9.later kb9) (And.intro bw9 (And.intro hn9 (And.intro hV (bel_trans H7.out.2.2.2.2.2.2 (bel_trans k78 k89)))))))
        clear hb9 t9 kb9 k89 bw9 hwb9 hn9 hV HDR L8 LRw8 k78 h8 hg2 hz9
        go_wp2_with (with_reducible refine wpList_alloc_z rfl 24 rfl #[.slice none 0 0] 1 z_tab ?_)
        refine HGV.mono ?_
        rintro e w10 ⟨rfl, hb10⟩
        have k910 : Below wb9.heap.size wb9 w10 := hb10
        have h10 : Below W1.heap.size W1 w10 := bel_trans h9 k910
        have HGT := get_any a n c T r.p w10 (HB.out.2.2.2.2 _ h10) HB.out.2.1 (HB.out.2.2.2.1 w10 h10)
        have LTw10 := LT w10 h10
        have LRw10 := LRp w10 h10
        clear hb10 HGV L9 LRw9 h9
        go_wp2_with fail
        refine HGT.mono ?_
        rintro e w11 ⟨rfl, hb11⟩
        have k911 : Below wb9.heap.size wb9 w11 := bel_trans k910 hb11
        have h11 : Below W1.heap.size W1 w11 := bel_trans h10 hb11
        have LHw11 := LRh w11 h11
        have LRw11 := LRp w11 h11
        have L11 := tab_t H9.out.2.2.1 w11 k911
        have drh : (r.h != r.h) = false := by simp
        clear hb11 HGT LTw10 LRw10 h10 k910
        cases hgt : getB T r.p with
        | false =>
          have hVT : V = T := by rw [← H9.out.2.2.2.2.1, ← H7.out.2.2.2.2.1]; exact back_miss H7.out.2.2.2.2.2.1 hgt
          have hnn : n9 = n := by rw [← H9.out.2.2.2.1, hVT]; exact HB.out.2.1
          have tV := H9.out.2.1
          rw [hVT] at tV
          subst hnn
          have HE2 := tencode_any a9 n9 c9 T w11 (HB.out.2.2.2.2 _ h11) HB.out.2.1 (tV.later k911)
          rw [eT_ok HG.out.2.2.2.2.2.2.2.1] at HE2
          have HV := Lib.hid (And.intro tV k911)
          clear hVT tV
          go_wp2_with fail
          refine HE2.mono ?_
          rintro e w12 ⟨v12, rfl, ho12, _, hb12⟩
          have k1112 : Below w11.heap.size w11 w12 := hb12
          have h12 : Below W1.heap.size W1 w12 := bel_trans h11 k1112
          have o12 := ho12 HG.out.2.2.2.2.2.2.2.1
          obtain ⟨a12, c12, rfl, _, _, l12, _⟩ := o12.lies
          rw [HG.out.1]
          have L12 := tab_t H9.out.2.2.1 w12 (bel_trans HV.out.2 k1112)
          have LTw12 := LT w12 h12
          have HS3 := tsame_any a9 a n9 c9 n9 c T T w12 HB.out.2.1 HB.out.2.2.1 (HV.out.1.later (bel_trans HV.out.2 k1112)).at' HB.out.2.1 HB.out.2.2.1 (HB.out.2.2.2.1 w12 h12).at'
          rw [decide_eq_true rfl] at HS3
          have k312 : Below w3.heap.size w3 w12 := bel_trans H9.out.2.2.2.2.2 (bel_trans HV.out.2 k1112)
          clear hb12 HE2 L11 o12 k1112 ho12
          go_wp2_with fail
          refine HS3.mono ?_
          rintro e w15 ⟨rfl, hb15⟩
          have HEQ := equal_any av a12 bn cv bn c12 (tabB T) (tabB T) w15 HG.out.1 HG.out.1 HG.out.2.2.1 HG.out.2.2.1 (HG.out.2.2.2.2.2.2.2.2 _ (bel_trans k312 hb15)) (l12.kept hb15)
          have h15 : Below W1.heap.size W1 w15 := bel_trans h12 hb15
          clear hb15 HS3 l12 k312
          go_wp2_with fail
          refine HEQ.mono ?_
          rintro e w16 ⟨rfl, rfl⟩
          go_wp2_with fail
          go_ret
          exact ⟨by simp, bel_trans HB.out.1 h15⟩
        | true =>
          have hbh := back_hit H7.out.2.2.2.2.2.1 hgt
          rw [H7.out.2.2.2.2.1, H9.out.2.2.2.2.1] at hbh
          have HS2 := set_any a9 n9 c9 V r.p (getV T r.p) w11 (HB.out.2.2.2.2 _ h11) H9.out.2.2.2.1 (H9.out.2.1.later k911)
          rw [hbh.1, hbh.2, HB.out.2.1] at HS2
          clear hbh
          go_wp2_with fail
          refine HS2.mono ?_
          rintro e w13 ⟨a13, c13, rfl, t13, _, hb13⟩
          have k913 : Below wb9.heap.size wb9 w13 := bel_trans k911 hb13
          have h13 : Below W1.heap.size W1 w13 := bel_trans h11 hb13
          have b13 := H9.out.2.2.1.later k913
          have S13 := st_tab (a2 := a13) (n2 := n) (c2 := c13) b13
          obtain ⟨w14, hw14⟩ : ∃ w14, w13.setRow w9.heap.size #[.slice a13 n c13] = w14 := ⟨_, rfl⟩
          rw [hw14] at S13
          have b14 : Blk w14 w9.heap.size 24 #[.slice a13 n c13] := by rw [← hw14]; exact b13.row _
          have t14 : Tbl w14 a13 c13 T := by rw [← hw14]; exact Tbl.box b13 t13 _
          have hw39 : w3.heap.size ≤ w9.heap.size := HS39.out
          have k314 : Below w3.heap.size w3 w14 := by rw [← hw14]; exact below_setRow (bel_trans H9.out.2.2.2.2.2 k913) hw39 _
          have h14 : Below W1.heap.size W1 w14 := bel_trans h3 k314
          have L14 := tab_t b14 w14 (Below.refl _ _)
          have HE2 := tencode_any a13 n c13 T w14 (HB.out.2.2.2.2 _ h14) HB.out.2.1 t14
          rw [eT_ok HG.out.2.2.2.2.2.2.2.1] at HE2
          have HV := Lib.hid (And.intro t14 (And.intro k314 (And.intro h14 b14)))
          clear hb13 b13 t13 k913 h13 hw14 b14 t14 k314 h14 hw39
          go_wp2_with fail
          refine HE2.mono ?_
          rintro e w12 ⟨v12, rfl, ho12, _, hb12⟩
          have k1412 : Below w14.heap.size w14 w12 := hb12
          have h12 : Below W1.heap.size W1 w12 := bel_trans HV.out.2.2.1 k1412
          have o12 := ho12 HG.out.2.2.2.2.2.2.2.1
          obtain ⟨a12, c12, rfl, _, _, l12, _⟩ := o12.lies
          rw [HG.out.1]
          have L12 := tab_t HV.out.2.2.2 w12 k1412
          have LTw12 := LT w12 h12
          have HS3 := tsame_any a13 a n c13 n c T T w12 HB.out.2.1 HB.out.2.2.1 (HV.out.1.later k1412).at' HB.out.2.1 HB.out.2.2.1 (HB.out.2.2.2.1 w12 h12).at'
          rw [decide_eq_true rfl] at HS3
          have k312 : Below w3.heap.size w3 w12 := bel_trans HV.out.2.1 k1412
          clear hb12 HE2 L14 o12 k1412 ho12
          go_wp2_with fail
          refine HS3.mono ?_
          rintro e w15 ⟨rfl, hb15⟩
          have HEQ := equal_any av a12 bn cv bn c12 (tabB T) (tabB T) w15 HG.out.1 HG.out.1 HG.out.2.2.1 HG.out.2.2.1 (HG.out.2.2.2.2.2.2.2.2 _ (bel_trans k312 hb15)) (l12.kept hb15)
          have h15 : Below W1.heap.size W1 w15 := bel_trans h12 hb15
          clear hb15 HS3 l12 k312
          go_wp2_with fail
          refine HEQ.mono ?_
          rintro e w16 ⟨rfl, rfl⟩
          go_wp2_with fail
          go_ret
          exact ⟨by simp, bel_trans HB.out.1 h15⟩
      · have dE : (E != 0) = true := by simp [hE0]
        have hU0 : U = [] := by rw [← hU]; exact if_neg (by rw [hE]; exact hE0)
        obtain rfl : n7 = 0 := by rw [← hn7, hU0]; rfl
        have C7 := tab_c bw7 wb7 (Below.refl _ _)
        have H7 := Lib.hid h7
        clear hb7 t7 kb7 k67 bw7 hwb7 hn7 hE hU hU0 HST LTw6 LRw6 LHw6 h6
        go_wp2_with (with_reducible refine wpList_alloc_z rfl 24 rfl #[.slice none 0 0] 1 z_tab ?_)
        go_ret
        exact ⟨rfl, bel_trans HB.out.1 H7.out⟩
    · rw [eT_no hok]
      obtain rfl := hn3 hok
      clear ho3 hn3 hok
      go_wp2_with fail
      go_ret
      exact ⟨rfl, bel_trans HB.out.1 h3⟩
end Go.Proofs.YtdbdmnahgkkjiaaDoor
