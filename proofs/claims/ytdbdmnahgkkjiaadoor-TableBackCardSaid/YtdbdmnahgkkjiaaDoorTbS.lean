/-
  The contract of the reference's Put. Nothing here is a statement of the document.
-/
import Derived.Test.YtdbdmnahgkkjiaaDoorTbR
namespace Go.Proofs.YtdbdmnahgkkjiaaDoor
open Go.RowKit Go.Shelf
set_option linter.unusedVariables false
set_option maxRecDepth 100000

/-- One row is appended to the rows that a box holds. -/
theorem app_store {w : World} {B ob m c : Nat} {a : Option Addr} {O : List Rt} (hb : Blk w ob 24 #[.slice a m c]) (ho : OwnT w B (.slice a m c) O) (hs : O.length ≤ 1000) (hB : B ≤ w.heap.size) (hob : ob < B) (r : Rt) :
    ∃ a' c' w2, (∀ ty : TypeId, (tappSem ty #[.slice a m c, .slice (some ⟨w.heap.size, 0, none⟩) 1 1]).run Tryd.prog (w.alloc (.cells r.cs 48)) = .ok (.slice a' (m + 1) c') w2) ∧ (∃ u, w2.cell? ⟨ob, 0, none⟩ = some u) ∧ w2.frozen? ⟨ob, 0, none⟩ = false ∧
      Blk (w2.setCell ⟨ob, 0, none⟩ (.slice a' (m + 1) c')) ob 24 #[.slice a' (m + 1) c'] ∧ OwnT (w2.setCell ⟨ob, 0, none⟩ (.slice a' (m + 1) c')) B (.slice a' (m + 1) c') (O ++ [r]) ∧ Below ob w (w2.setCell ⟨ob, 0, none⟩ (.slice a' (m + 1) c')) ∧ Below B w w2 ∧ (∀ g ty cs, g < w.heap.size → g ≠ ob → (Value.slice a m c).ownBlock ≠ some g → Blk w g ty cs → Blk (w2.setCell ⟨ob, 0, none⟩ (.slice a' (m + 1) c')) g ty cs) := by
  obtain ⟨_, hml, _⟩ := ho.tbl2
  have k1 : Below w.heap.size w (w.alloc (.cells r.cs 48)) := (Below.refl _ _).alloc (Nat.le_refl _) _
  have hq : RowsAt (w.alloc (.cells r.cs 48)) (some ⟨w.heap.size, 0, none⟩) [r] := by
    have hb9 := Blk.new w 48 r.cs
    exact .inr ⟨w.heap.size, 0, rfl, row_cells _ _ [r] 0 hb9.lt (fun k u hk => by rw [Nat.zero_add, hb9.cell]; simpa [rtcs] using hk)⟩
  obtain ⟨v', w2, q1, q2, q3, _⟩ := tapp_run (c := 1) 22 (ho.later k1) (m := 1) rfl hq (by omega) (by simp; omega)
  obtain ⟨a', c', rfl, _⟩ := q2.tbl
  have hl : (O ++ [r]).length = m + 1 := by simp [hml]
  rw [hl] at q1 q2
  have hB2 : Below B w w2 := (k1.mono hB).grown q3 (by simp; omega) (fun k hk => ((ho.later k1).lt k hk).1)
  have b2 : Blk w2 ob 24 #[.slice a m c] := (hB2.block ob hob).trans hb
  have hset := b2.set 0 (.slice a' (m + 1) c')
  refine ⟨a', c', w2, fun ty => q1, ⟨_, b2.cell 0⟩, b2.free 0, by simpa using hset, ?_, ?_, hB2, ?_⟩
  · have K9 : Kept [ob] w2 (w2.setCell ⟨ob, 0, none⟩ (.slice a' (m + 1) c')) := (Kept.refl [ob] w2).setCell (p := ⟨ob, 0, none⟩) (.inl (by simp)) _
    refine ⟨q2.1, ?_⟩
    rcases q2.2 with h9 | ⟨g, cap, cur, e1, e2, e3, e4⟩
    · exact .inl h9
    · exact .inr ⟨g, cap, cur, e1, e2, (K9.block g (Array.getElem?_eq_some_iff.1 e3).1 (by simp; omega)).trans e3, e4⟩
  · exact (hB2.mono (Nat.le_of_lt hob)).trans (((Kept.refl [ob] w2).setCell (p := ⟨ob, 0, none⟩) (.inl (by simp)) _).below (by simp) (by have := b2.lt; omega))
  · intro g ty cs hg hne hrow hbg
    exact (Below.heap_setCell _ _ _ _ hne).trans ((q3.block g (by simp; omega) (fun e => hrow e.symm)).trans ((k1.block g hg).trans hbg))
attribute [local go_sem ↓] load_b16_rule store_b16_rule load_ad_rule store_ad_rule load_px_rule store_px_rule eq_b16_rule eq_ad_rule eq_px_rule load_rt_rule store_rt_rule build_ad_rule build_px_rule build_b16_rule build_rt_rule load_tab_rule build_tab_rule store_tab_rule tbuild_rule tapp_rule tcopy_rule eq_rt_rule

set_option maxHeartbeats 4000000 in
theorem rput_any (a : Option Addr) (n c : Nat) (L : List Rt) (p : Px) (hop : Int) (w : World) (hn : L.length = n) (hs : n ≤ 100) (hW : Wid w) (hT : Tbl w a c L) :
    Calls Tryd.prog 31 #[.agg #[.slice a n c], .agg p.cs, .int .i64 hop] w fun e w' => ∃ a' c', e = .returned (.agg #[.slice a' (putL L p hop).length c']) ∧ Tbl w' a' c' (putL L p hop) ∧ (∀ x, a' = some x → w.heap.size ≤ x.block) ∧ Below w.heap.size w w' := by
  have hR := hT.at'
  have hm : n ≤ 9223372036854775807 := by omega
  obtain ⟨W0, hW0⟩ : ∃ W0, (w.alloc (.cells #[.slice a n c] 24)).alloc (.cells p.cs 38) = W0 := ⟨_, rfl⟩
  obtain ⟨W1, hW1⟩ : ∃ W1, W0.alloc (.cells #[.slice none 0 0] 24) = W1 := ⟨_, rfl⟩
  have sz0 : W0.heap.size = w.heap.size + 2 := by rw [← hW0]; simp
  have hb0 : Below w.heap.size w W0 := by rw [← hW0]; exact (((Below.refl w.heap.size w).alloc (Nat.le_refl _) _).alloc (by simp) _)
  have hb01 : Below W0.heap.size W0 W1 := by rw [← hW1]; exact (Below.refl _ _).alloc (Nat.le_refl _) _
  have hb1 : Below w.heap.size w W1 := bel_trans hb0 hb01
  have b3 : Blk W1 W0.heap.size 24 #[.slice none 0 0] := by rw [← hW1]; exact Blk.new _ _ _
  have b1 : Blk W1 w.heap.size 24 #[.slice a n c] := by
    have h9 := (Blk.new w 24 #[.slice a n c]).alloc (.cells p.cs 38)
    rw [hW0] at h9
    exact h9.later hb01
  have b2 : Blk W1 (w.heap.size + 1) 38 p.cs := by
    have h9 := Blk.new (w.alloc (.cells #[.slice a n c] 24)) 38 p.cs
    rw [World.size_alloc, hW0] at h9
    exact h9.later hb01
  have LT := tab_t b1
  have CT := tab_c b1
  have LX := px_p b2
  have HR : ∀ w', Below W1.heap.size W1 w' → RowsAt w' a L := fun w' h => (hR.later hb1).later h
  have HW : ∀ w', Below W1.heap.size W1 w' → Wid w' := fun w' h => (hW.later hb1).later h
  have h0 : Below W1.heap.size W1 W1 := Below.refl _ _
  have HB := Lib.hid (And.intro hb1 (And.intro b3 sz0))
  obtain ⟨W2, hW2⟩ : ∃ W2, W1.alloc (.cells #[.slice none 0 0] 24) = W2 := ⟨_, rfl⟩
  have k12 : Below W1.heap.size W1 W2 := by rw [← hW2]; exact (Below.refl _ _).alloc (Nat.le_refl _) _
  have bo : Blk W2 W1.heap.size 24 #[.slice none 0 0] := by rw [← hW2]; exact Blk.new _ _ _
  have s2 : W2.heap.size = W1.heap.size + 1 := by rw [← hW2]; simp
  have CT2 := CT W2 k12
  have HX := Lib.hid (And.intro k12 (And.intro bo (And.intro s2 (And.intro hn (And.intro hs b3)))))
  have d0 : ((hop == 0) : Bool) = (putK L p hop 0).2 := by unfold putK; by_cases h : hop = 0 <;> simp [h]
  have LQ := px_p b2
  have HRR := Lib.hid (And.intro HR (And.intro CT LQ))
  clear hR hW b1 b2 b3 hb0 hb01 sz0 hb1 k12 bo s2 hs HW HR CT LT LX LQ hT
  go_enter Tryd.func31, Tryd.ntmps31
  go_wp2_with (with_reducible refine wpList_alloc_z rfl 24 rfl #[.slice none 0 0] 1 z_tab ?_)
  go_loopw [8, 9] (fun pt i wr => ∃ (k : Nat) (v : Value), k ≤ n ∧ i = .int .i64 (k : Nat) ∧ pt = .bool (putK L p hop k).2 ∧ Blk wr W1.heap.size 24 #[v] ∧ OwnT wr W2.heap.size v (putK L p hop k).1 ∧ Below W1.heap.size W1 wr) (fun pt i _ => n - (intOf i).toNat)
  case atStart => exact ⟨0, _, Nat.zero_le _, rfl, rfl, HX.out.2.1, ⟨rfl, .inl ⟨rfl, rfl⟩⟩, HX.out.1⟩
  case round =>
    obtain ⟨k, v, hk, rfl, rfl, hbo, hown, hkb⟩ := hrel
    have CTr := HRR.out.2.1 wr hkb
    by_cases hlt : k < n
    · have hkl : k < L.length := by have := HX.out.2.2.2.1; omega
      obtain ⟨g, o, rfl, hrow⟩ := (HRR.out.1 wr hkb).spot hkl
      obtain ⟨av, cv, rfl, _⟩ := hown.tbl
      obtain ⟨m, hm9⟩ : ∃ m, (putK L p hop k).1.length = m := ⟨_, rfl⟩
      have hsz : (putK L p hop k).1.length ≤ 200 := by have := putK_len L p hop k; have := HX.out.2.2.2.2.1; omega
      rw [hm9] at hbo hown
      have LRw := hrow.load hkl
      obtain ⟨W3, hW3⟩ : ∃ W3, wr.alloc (.cells (rt L k).cs 48) = W3 := ⟨_, rfl⟩
      have S3 := st_rt (q := rt L k) (Blk.new wr 48 Rt.zero.cs)
      rw [World.setRow_alloc_new, hW3] at S3
      have b3 : Blk W3 wr.heap.size 48 (rt L k).cs := by rw [← hW3]; exact Blk.new _ _ _
      have hb3 : Below wr.heap.size wr W3 := by rw [← hW3]; exact (Below.refl _ _).alloc (Nat.le_refl _) _
      have hb13 : Below W1.heap.size W1 W3 := bel_trans hkb hb3
      have LP3 := rt_p b3
      have LX3 : ∀ w', Below W3.heap.size W3 w' → (loadSem 38 (.pointer (some ⟨w.heap.size + 1, 0, none⟩))).run Tryd.prog w' = .ok (.agg p.cs) w' := fun w' h => HRR.out.2.2 w' (bel_trans hb13 h)
      have EQ := eqP (rt L k).p p
      have HCM := refcompare_any p (rt L k).p
      have h03 : Below W3.heap.size W3 W3 := Below.refl _ _
      have hgo : (Value.slice av m cv).ownBlock ≠ some wr.heap.size := fun e => by have := (hown.lt _ e).2; omega
      have HK := Lib.hid (And.intro hb13 (And.intro (hbo.later hb3) (And.intro (hown.later hb3) (And.intro hsz (And.intro b3 (And.intro hkl (And.intro hgo hbo.lt)))))))
      clear hbo hown hkb hb13 hb3 b3 hrow hsz hm9 hgo
      by_cases he : (rt L k).p = p
      · rw [decide_eq_true he] at EQ
        have e9 : putK L p hop (k + 1) = putK L p hop k := by rw [putK, if_pos he]
        have HE := Lib.hid e9
        clear he e9 HCM
        go_wp2_with (first | (with_reducible refine wpList_alloc_z rfl 48 rfl Rt.zero.cs 19 z_rt ?_)  | (refine wp_region_lin (fun w' => Below W3.heap.size W3 w') (by kernel_rfl) (by kernel_rfl) (bel_drew (by assumption)) ?_; (repeat (first | (refine lin_off (by rfl) ?_; (try simp only [Act.put, List.setIfInBounds_toArray, List.set_cons_zero, List.set_cons_succ])) | (refine lin_op (v := ?_) (by rfl) (fun w9 hS9 => ?_) ?_; rotate_left; (focus (((try dsimp only at hS9); go_simp; (try go_bits)) <;> with_reducible rfl)); (try simp only [Act.put, List.setIfInBounds_toArray, List.set_cons_zero, List.set_cons_succ])) )); refine lin_nil (fun w8 hS8 => ?_)))
        go_roundw
        case rel => exact ⟨k + 1, _, by omega, by go_num, by rw [HE.out], HK.out.2.1.later (by assumption), by rw [HE.out]; exact HK.out.2.2.1.later (by assumption), bel_trans HK.out.1 (by assumption)⟩
        case measure => simp [intOf]; omega
      · rw [decide_eq_false he] at EQ
        obtain ⟨pk, hpk⟩ : ∃ pk, (putK L p hop k).2 = pk := ⟨_, rfl⟩
        have LRr := rt_r HK.out.2.2.2.2.1
        rw [hpk]
        cases pk with
        | true =>
          have e9 : putK L p hop (k + 1) = ((putK L p hop k).1 ++ [rt L k], true) := by rw [putK, if_neg he, if_neg (by rw [hpk]; rintro ⟨h, _⟩; cases h), hpk]
          have HE := Lib.hid e9
          clear he hpk HCM e9
          go_upto_region 11 with (with_reducible refine wpList_alloc_z rfl 48 rfl Rt.zero.cs 19 z_rt ?_)
          have q1 : Below W3.heap.size W3 W3 := h03
          have bo := HK.out.2.1.later q1
          have ow := HK.out.2.2.1.later q1
          have sz9 : W2.heap.size = W1.heap.size + 1 := HX.out.2.2.1
          have sz8 : W2.heap.size ≤ W3.heap.size := by have := HK.out.2.1.lt; have := q1.size; omega
          obtain ⟨a4, c4, w4, r4, ⟨u4, cell4⟩, f4, b4, o4, k4, _, _⟩ := app_store bo ow (by have := HK.out.2.2.2.1; omega) sz8 (by omega) (rt L k)
          have BS4 := tbuild1_run (rt L k) W3
          have CO4 : W3.cell? ⟨W1.heap.size, 0, none⟩ = some (.slice av m cv) := bo.cell 0
          have LR4 := LRr W3 q1
          have HF := Lib.hid (And.intro b4 (And.intro o4 (bel_trans HK.out.1 q1 |>.trans k4)))
          clear bo ow sz8 sz9 b4 o4 k4 q1
          go_wp2
          go_roundw
          case rel => exact ⟨k + 1, _, by omega, by go_num, by rw [HE.out], HF.out.1, by rw [HE.out]; exact HF.out.2.1, HF.out.2.2⟩
          case measure => simp [intOf]; omega
        | false =>
          by_cases hc : cmpP p (rt L k).p < 0
          · have dc : decide (cmpP p (rt L k).p < 0) = true := decide_eq_true hc
            have e9 : putK L p hop (k + 1) = ((putK L p hop k).1 ++ [⟨p, hop⟩] ++ [rt L k], true) := by rw [putK, if_neg he, if_pos ⟨hpk, hc⟩]
            have HE := Lib.hid e9
            clear he hpk e9 hc
            go_upto_region 9 with (first | (go_at_call 29; refine (HCM _).mono ?_; rintro e w2 ⟨rfl, hb2⟩; have hk2 : Below W3.heap.size W3 w2 := bel_trans (by assumption) hb2; clear hb2) | (with_reducible refine wpList_alloc_z rfl 48 rfl Rt.zero.cs 19 z_rt ?_))
            have q1 : Below W3.heap.size W3 w2 := hk2
            have bo := HK.out.2.1.later q1
            have ow := HK.out.2.2.1.later q1
            have sz9 : W2.heap.size = W1.heap.size + 1 := HX.out.2.2.1
            have sz8 : W2.heap.size ≤ w2.heap.size := by have := HK.out.2.1.lt; have := q1.size; omega
            have hm9 : (putK L p hop k).1.length = m := ow.tbl2.2.1.symm
            obtain ⟨a4, c4, w4, r4, ⟨u4, cell4⟩, f4, b4, o4, k4, k5, k6⟩ := app_store bo ow (by have := HK.out.2.2.2.1; omega) sz8 (by omega) (Rt.mk p hop)
            have BR := build_rt p hop w2
            have BS4 := tbuild1_run ⟨p, hop⟩ w2
            have CO4 : w2.cell? ⟨W1.heap.size, 0, none⟩ = some (.slice av m cv) := bo.cell 0
            have LX4 := LX3 w2 q1
            obtain ⟨w5, hw5⟩ : ∃ w5, w4.setCell ⟨W1.heap.size, 0, none⟩ (.slice a4 (m + 1) c4) = w5 := ⟨_, rfl⟩
            rw [hw5] at b4 o4 k4 k6
            have sw5 : w2.heap.size ≤ w5.heap.size := by have := k4.size; omega
            have b6 := k6 wr.heap.size _ _ (by have := HK.out.2.2.2.2.1.lt; have := q1.size; omega) (by have := HK.out.2.2.2.2.2.2.2; omega) HK.out.2.2.2.2.2.2.1 (HK.out.2.2.2.2.1.later q1)
            have LR5 := rt_r b6 w5 (Below.refl _ _)
            obtain ⟨a7, c7, w7, r7, ⟨u7, cell7⟩, f7, b7, o7, k7, _, _⟩ := app_store b4 o4 (by have := HK.out.2.2.2.1; simp; omega) (by omega) (by omega) (rt L k)
            have BS7 := tbuild1_run (rt L k) w5
            have CO7 : w5.cell? ⟨W1.heap.size, 0, none⟩ = some (.slice a4 (m + 1) c4) := b4.cell 0
            have HF := Lib.hid (And.intro b7 (And.intro o7 (((bel_trans HK.out.1 q1).trans k4).trans k7)))
            clear bo ow sz8 sz9 b4 o4 k4 k5 k6 q1 b6 b7 o7 k7 hm9 sw5
            go_wp2
            go_roundw
            case rel => exact ⟨k + 1, _, by omega, by go_num, by rw [HE.out], HF.out.1, by rw [HE.out]; exact HF.out.2.1, HF.out.2.2⟩
            case measure => simp [intOf]; omega
          · have dc : decide (cmpP p (rt L k).p < 0) = false := decide_eq_false hc
            have e9 : putK L p hop (k + 1) = ((putK L p hop k).1 ++ [rt L k], false) := by rw [putK, if_neg he, if_neg (fun h => hc h.2), hpk]
            have HE := Lib.hid e9
            clear he hpk e9 hc
            go_upto_region 11 with (first | (go_at_call 29; refine (HCM _).mono ?_; rintro e w2 ⟨rfl, hb2⟩; have hk2 : Below W3.heap.size W3 w2 := bel_trans (by assumption) hb2; clear hb2) | (with_reducible refine wpList_alloc_z rfl 48 rfl Rt.zero.cs 19 z_rt ?_))
            have q1 : Below W3.heap.size W3 w2 := hk2
            have bo := HK.out.2.1.later q1
            have ow := HK.out.2.2.1.later q1
            have sz9 : W2.heap.size = W1.heap.size + 1 := HX.out.2.2.1
            have sz8 : W2.heap.size ≤ w2.heap.size := by have := HK.out.2.1.lt; have := q1.size; omega
            obtain ⟨a4, c4, w4, r4, ⟨u4, cell4⟩, f4, b4, o4, k4, _, _⟩ := app_store bo ow (by have := HK.out.2.2.2.1; omega) sz8 (by omega) (rt L k)
            have BS4 := tbuild1_run (rt L k) w2
            have CO4 : w2.cell? ⟨W1.heap.size, 0, none⟩ = some (.slice av m cv) := bo.cell 0
            have LR4 := LRr w2 q1
            have HF := Lib.hid (And.intro b4 (And.intro o4 (bel_trans HK.out.1 q1 |>.trans k4)))
            clear bo ow sz8 sz9 b4 o4 k4 q1
            go_wp2
            go_roundw
            case rel => exact ⟨k + 1, _, by omega, by go_num, by rw [HE.out], HF.out.1, by rw [HE.out]; exact HF.out.2.1, HF.out.2.2⟩
            case measure => simp [intOf]; omega
    · obtain rfl : k = n := by omega
      obtain ⟨av, cv, rfl, _⟩ := hown.tbl
      obtain ⟨m, hm9⟩ : ∃ m, (putK L p hop k).1.length = m := ⟨_, rfl⟩
      have hLk : L.length = k := HX.out.2.2.2.1
      rw [hm9] at hbo hown
      obtain ⟨pk, hpk⟩ : ∃ pk, (putK L p hop k).2 = pk := ⟨_, rfl⟩
      rw [hpk]
      cases pk with
      | true =>
        have e9 : putL L p hop = (putK L p hop k).1 := by unfold putL; rw [hLk, if_neg (by rw [hpk]; simp)]
        have LO := tab_t hbo wr (Below.refl _ _)
        have SO := st_tab (a2 := av) (n2 := m) (c2 := cv) (HX.out.2.2.2.2.2.later hkb)
        have HF := Lib.hid (And.intro e9 (And.intro hm9 (And.intro hown (And.intro (HX.out.2.2.2.2.2.later hkb) hkb))))
        clear hbo hown hkb e9 hm9 hLk hpk
        go_wp2
        refine bodyPost_ret (results_cell_row rfl _ _ W0.heap.size 24 _ (0, 0) _ rfl (HF.out.2.2.2.1.row _) Tryd.underlying24 rfl s_tab1) rfl ?_
        exact ⟨_, _, by rw [HF.out.1, HF.out.2.1], by rw [HF.out.1]; exact HF.out.2.2.1.tbl2.1.kept ((Kept.refl [W0.heap.size] _).setRow (.inl (by simp)) _) (fun x hx => by have := HF.out.2.2.1.tbl2.2.2 x hx; have := HX.out.2.2.1; have := HX.out.2.2.2.2.2.lt; simp; omega), (fun x hx => by have := HF.out.2.2.1.tbl2.2.2 x hx; have := HX.out.2.2.1; have := HX.out.2.2.2.2.2.lt; have := HB.out.2.2; omega), below_setRow (bel_trans HB.out.1 HF.out.2.2.2.2) (by have := HB.out.2.2; omega) _⟩
      | false =>
        have e9 : putL L p hop = (putK L p hop k).1 ++ [Rt.mk p hop] := by unfold putL; rw [hLk, if_pos hpk]
        have sz9 : W2.heap.size = W1.heap.size + 1 := HX.out.2.2.1
        have sz8 : W2.heap.size ≤ wr.heap.size := by have := hbo.lt; omega
        obtain ⟨a4, c4, w4, r4, ⟨u4, cell4⟩, f4, b4, o4, k4, _, _⟩ := app_store hbo hown (by have := putK_len L p hop k; have := HX.out.2.2.2.2.1; omega) sz8 (by omega) (Rt.mk p hop)
        have BR := build_rt p hop wr
        have BS4 := tbuild1_run (Rt.mk p hop) wr
        have CO4 : wr.cell? ⟨W1.heap.size, 0, none⟩ = some (.slice av m cv) := hbo.cell 0
        have LX4 := HRR.out.2.2 wr hkb
        have hm8 : ((putK L p hop k).1 ++ [Rt.mk p hop]).length = m + 1 := by simp [hm9]
        have LO := tab_t b4 _ (Below.refl _ _)
        have bR := HX.out.2.2.2.2.2.later (hkb.trans k4)
        have SO := st_tab (a2 := a4) (n2 := m + 1) (c2 := c4) bR
        have HF := Lib.hid (And.intro e9 (And.intro hm8 (And.intro o4 (And.intro bR (hkb.trans k4)))))
        clear hbo hown hkb e9 hm9 hLk hpk hm8 bR o4 b4 k4 sz8 sz9
        go_wp2
        refine bodyPost_ret (results_cell_row rfl _ _ W0.heap.size 24 _ (0, 0) _ rfl (HF.out.2.2.2.1.row _) Tryd.underlying24 rfl s_tab1) rfl ?_
        exact ⟨_, _, by rw [HF.out.1, HF.out.2.1], by rw [HF.out.1]; exact HF.out.2.2.1.tbl2.1.kept ((Kept.refl [W0.heap.size] _).setRow (.inl (by simp)) _) (fun x hx => by have := HF.out.2.2.1.tbl2.2.2 x hx; have := HX.out.2.2.1; have := HX.out.2.2.2.2.2.lt; simp; omega), (fun x hx => by have := HF.out.2.2.1.tbl2.2.2 x hx; have := HX.out.2.2.1; have := HX.out.2.2.2.2.2.lt; have := HB.out.2.2; omega), below_setRow (bel_trans HB.out.1 HF.out.2.2.2.2) (by have := HB.out.2.2; omega) _⟩
end Go.Proofs.YtdbdmnahgkkjiaaDoor
