/-
  The walk of the law of what is offered. Nothing here is a statement of the document.
-/
import Derived.Test.YtkoenconjldojaaShRb
import Derived.Test.YtkoenconjldojaaShY
namespace Go.Proofs.Ytkoenconjldojaa
open Go.RowKit Go.Shelf
set_option linter.unusedVariables false
set_option linter.unusedSimpArgs false
set_option maxRecDepth 100000
attribute [local go_sem 10000] gtU_rule leU_rule ltU_rule geU_rule adU_rule sbU_rule mxU_rule mnU_rule mnI_rule
attribute [local go_sem ↓] load_at_rule store_at_rule load_la_rule store_la_rule load_bs_rule store_bs_rule load_vw_rule store_vw_rule load_jo_rule store_jo_rule load_ms_rule store_ms_rule load_ch_rule store_ch_rule load_hd_rule store_hd_rule load_rb_rule store_rb_rule load_en_rule store_en_rule
attribute [local go_sem ↓] build_hd_rule build_rb_rule build_en_rule build_at_rule build_jo_rule upbuild_rule upapp_rule robuild_rule roapp_rule enbuild_rule enapp_rule build_vw_rule eq_at_rule eq_la_rule build_ch_rule build_ms_rule
theorem fresh_alloc {P : Program} {ty : TypeId} {zs : Array Value} {k : Nat} (hz : (P.info? ty).map (fun i => (i.zero, i.size)) = some (some (.agg zs), k)) {o : Oper} (ho : o.op = .alloc ty) (ev : Operand → Value) (w : World) : (execOp ev o).run P w = .ok (.value (.pointer (some ⟨w.heap.size, 0, none⟩))) (w.alloc (.cells zs ty)) := by
  have hrun := (zero_of_info hz).1 w
  simp [execOp, ho, hrun, newVar, newRow, newObj, Value.cells, Result.andThen, go_sem]
  rfl
theorem Vw.Of.lim {v x : Vw} {w : World} {B : Nat} (h : v.Of x w B) : (∀ e ∈ v.L, e.n ≤ 1000) ∧ v.b.n ≤ 1000 := by
  refine ⟨fun e he => ?_, by rw [h.b.n]; omega⟩
  have h1 : con e ∈ (x.L.map cut9).take 41 := by rw [← h.L]; exact List.mem_map_of_mem he
  obtain ⟨y, _, hy⟩ := List.mem_map.1 (List.mem_of_mem_take h1)
  have h2 : y.U.take 9 = e.U := congrArg Eq'.U hy
  have h3 := (h.lies.2.2.2.2.2.2.2 e he).1
  rw [← h3, ← h2, List.length_take]
  omega
/-- What stands while the routes are written over. -/
structure Mud (B gb : Nat) (o : Ms) (w0 w : World) : Prop where
  bel : Below B w0 w
  box : Blk w gb 47 o.cs
  row : o.b.n ≠ 0 → ∃ g cur, o.b.a = some ⟨g, 0, none⟩ ∧ B ≤ g ∧ Blk w g 61 cur ∧ o.b.n * 21 ≤ cur.size
theorem Mud.of {B gb : Nat} {o : Ms} {a : Option Addr} {L : List En} {w0 w1 w2 : World} (hs : Soil a L B w1 w2) (h0 : Below B w0 w1) (hb : Blk w1 gb 47 o.cs) (hr : OwnRo w1 B (.slice o.b.a o.b.n o.b.c) o.b.R) : Mud B gb o w0 w2 := by
  refine ⟨h0.trans hs.bel, hs.oth _ _ _ (by decide) (by decide) hb, fun hne => ?_⟩
  rcases hr.2 with ⟨h9, h8⟩ | ⟨g, cap, cur, h1, hb, hg, hc, hm, hsz, ht⟩
  · injection h9 with _ h9 _
    exact absurd h9 hne
  · injection h1 with h1 h2 h3
    exact ⟨g, cur, h1, hb, hs.oth _ _ _ (by decide) (by decide) hg, by rw [hsz, h2]; exact Nat.mul_le_mul_right 21 hc⟩
theorem Mud.put {B gb : Nat} {o : Ms} {w0 w : World} (h : Mud B gb o w0 w) {g : Nat} {cur : Array Value} (ha : o.b.a = some ⟨g, 0, none⟩) (hb : Blk w g 61 cur) (hB : B ≤ g) (hs : o.b.n * 21 ≤ cur.size) (i : Nat) (v : Value) (hS : B ≤ w.heap.size) : Mud B gb o w0 (w.setCell ⟨g, i, none⟩ v) := by
  have k : Kept [g] w (w.setCell ⟨g, i, none⟩ v) := Kept.setCell (p := ⟨g, i, none⟩) (Kept.refl _ _) (.inl (by simp)) _
  refine ⟨h.bel.trans (k.below (fun j hj => by simp at hj; omega) hS), h.box.kept k (fun hm => ?_), fun hne => ⟨g, _, ha, hB, hb.set i v, by simpa using hs⟩⟩
  obtain rfl : gb = g := by simpa using hm
  exact (Blk.ne h.box hb (by decide)) rfl
theorem ro_upon14 {w w' : World} {B : Nat} {v : Value} {L : List Ro} (h : OwnRo w B v L) (k : Below w.heap.size w w') : OwnRo w' B v L := by
  refine ⟨h.1, ?_⟩
  rcases h.2 with h | ⟨g, cap, cur, h1, h2, h3, h4⟩
  · exact .inl h
  · exact .inr ⟨g, cap, cur, h1, h2, (k.block g (Array.getElem?_eq_some_iff.1 h3).1).trans h3, h4⟩
theorem eqAt2 (i e i2 e2 : Int) (w : World) : (eqSem 24 (.agg (acs i e)) (.agg (acs i2 e2))).run Try.prog w = .ok (decide (i = i2 ∧ e = e2)) w := eqAt i e i2 e2 w
set_option maxHeartbeats 16000000 in
theorem shipoffers_walk (x : Vw) (a : Option Addr) (n c : Nat) (f : Nat → Nat) (w : World) (hx : x.In w 0) (hA : NumIn w a n f) : Calls Try.prog 3 #[.agg x.cs, .slice a n c] w fun e w' => e = .returned (.bool true) ∧ Below w.heap.size w w' := by
  have HA := Lib.hid hA
  clear hA
  obtain ⟨W1, hW1⟩ : ∃ W1, w.alloc (.cells x.cs 36) = W1 := ⟨_, rfl⟩
  have hb1 : Below w.heap.size w W1 := by rw [← hW1]; exact below_alloc w _
  have b1 : Blk W1 w.heap.size 36 x.cs := by rw [← hW1]; exact Blk.new w _ _
  have HI := Lib.hid (And.intro hb1 (And.intro b1 hx))
  clear hb1 b1 hx
  go_enter Try.func3, Try.ntmps3
  go_wp2_with fail
  refine (wakes_any W1).mono ?_
  rintro e W2 ⟨rfl, hb2⟩
  have HS2 := Lib.hid (And.intro (HI.out.2.1.later hb2) (HI.out.2.2.later (bel_trans HI.out.1 hb2)))
  have H2 := Lib.hid (bel_trans HI.out.1 hb2)
  clear hb2
  have LD : ∀ w', Below W2.heap.size W2 w' → (loadSem 36 (.pointer (some ⟨w.heap.size, 0, none⟩))).run Try.prog w' = .ok (.agg x.cs) w' := fun w' k => ld_vw (HS2.out.1.later k)
  have h00 : Below W2.heap.size W2 W2.drew := bel_drew (Below.refl _ _)
  have doV : ∀ i, i = 1 ∨ i = 3 → ∀ w', Below W2.heap.size W2 w' → Calls Try.prog 9 #[.agg x.cs] w' fun e w2 => ∃ v, e = .returned v ∧ Below W2.heap.size W2 w2 ∧ (∀ d u, d ≠ i → twVw x W2.heap.size d u w' → twVw x W2.heap.size d u w2) ∧ twVw x W2.heap.size i v w2 := fun i hi w' k => by
    refine (view_any x w' (HS2.out.2.later k)).mono ?_
    rintro e W4 ⟨v, rfl, hO, hb4⟩
    exact ⟨_, rfl, bel_trans k hb4, fun d u _ q => q.later hb4, fun _ => ⟨v, rfl, hO.less k.size⟩, fun e => by omega⟩
  have hne : ∀ i, [1, 3, 4, 5].contains i = true → ∃ v w, twVw x W2.heap.size i v w := by
    intro i hi
    have hi2 : i = 1 ∨ i = 3 ∨ i = 4 ∨ i = 5 := by simpa using hi
    by_cases h13 : i = 1 ∨ i = 3
    · obtain ⟨e, w', fr, ⟨v, _, _, _, h5⟩, _⟩ := doV i h13 W2.drew h00 []; exact ⟨v, w', h5⟩
    · exact ⟨.pointer (some ⟨W2.heap.size, 0, none⟩), W2.alloc (.cells Vw.zero.cs 36), ⟨fun e => by omega, fun _ => ⟨W2.heap.size, rfl, Nat.le_refl _, Blk.new W2 _ _⟩⟩⟩
  go_upto_region 3 with fail
  refine wp_region_linU (fun w' => Below W2.heap.size W2 w') (fun _ _ => True) (twVw x W2.heap.size) [1, 3, 4, 5] [6, 7] [] [0, 2, 1, 3, 4, 5] [6, 7] (by kernel_rfl) (by kernel_rfl) hne h00 (fun _ => trivial) ?_
  (repeat (first | (refine linU_off rfl rfl (by rfl) ?_; (try simp only [Act.put, List.getElem_toArray, List.getElem_cons_zero, List.getElem_cons_succ, List.setIfInBounds_toArray, List.set_cons_zero, List.set_cons_succ])) | (refine linU_op (v := ?_) rfl rfl rfl (by rfl) (fun w9 hS9 => ?_) ?_; rotate_left; (focus (((try dsimp only at hS9); have z1 := LD w9 hS9; go_simp; (try go_bits)) <;> with_reducible rfl)); (try simp only [Act.put, List.getElem_toArray, List.getElem_cons_zero, List.getElem_cons_succ, List.setIfInBounds_toArray, List.set_cons_zero, List.set_cons_succ]))))
  refine linU_call (f := 9) (args := #[.agg x.cs]) rfl rfl (by rfl) rfl rfl (enters_of Try.func9 (by kernel_rfl) rfl) (by simp [Act.eval]) (fun w9 hS9 _ _ => (doV 1 (.inl rfl) w9 hS9).mono (fun e w' ⟨v, q1, q2, q3, q4⟩ => ⟨v, q1, q2, fun _ _ _ => trivial, q3, q4⟩)) (fun u1 hu1 => ?_)
  (try simp only [Act.put, List.getElem_toArray, List.getElem_cons_zero, List.getElem_cons_succ, List.setIfInBounds_toArray, List.set_cons_zero, List.set_cons_succ])
  refine linU_call (f := 9) (args := #[.agg x.cs]) rfl rfl (by rfl) rfl rfl (enters_of Try.func9 (by kernel_rfl) rfl) (by simp [Act.eval]) (fun w9 hS9 _ _ => (doV 3 (.inr rfl) w9 hS9).mono (fun e w' ⟨v, q1, q2, q3, q4⟩ => ⟨v, q1, q2, fun _ _ _ => trivial, q3, q4⟩)) (fun u3 hu3 => ?_)
  (try simp only [Act.put, List.getElem_toArray, List.getElem_cons_zero, List.getElem_cons_succ, List.setIfInBounds_toArray, List.set_cons_zero, List.set_cons_succ])
  refine linU_do rfl rfl (by rfl) (fun w9 hS9 _ _ => ⟨.pointer (some ⟨w9.heap.size, 0, none⟩), w9.alloc (.cells Vw.zero.cs 36), fresh_alloc z_vw rfl _ _, bel_trans hS9 (below_alloc w9 _), fun _ _ _ => trivial, fun d u _ q => q.later (below_alloc w9 _), fun e => (by omega), fun _ => ⟨w9.heap.size, rfl, hS9.size, Blk.new w9 _ _⟩⟩) (fun u4 hu4 => ?_)
  (try simp only [Act.put, List.getElem_toArray, List.getElem_cons_zero, List.getElem_cons_succ, List.setIfInBounds_toArray, List.set_cons_zero, List.set_cons_succ])
  refine linU_do rfl rfl (by rfl) (fun w9 hS9 _ _ => ⟨.pointer (some ⟨w9.heap.size, 0, none⟩), w9.alloc (.cells Vw.zero.cs 36), fresh_alloc z_vw rfl _ _, bel_trans hS9 (below_alloc w9 _), fun _ _ _ => trivial, fun d u _ q => q.later (below_alloc w9 _), fun e => (by omega), fun _ => ⟨w9.heap.size, rfl, hS9.size, Blk.new w9 _ _⟩⟩) (fun u5 hu5 => ?_)
  (try simp only [Act.put, List.getElem_toArray, List.getElem_cons_zero, List.getElem_cons_succ, List.setIfInBounds_toArray, List.set_cons_zero, List.set_cons_succ])
  refine linU_nil (fun w9 hS9 hF9 => ?_)
  obtain ⟨v0, rfl, hOv⟩ := (hF9 (1, u1) (by simp)).1 (.inl rfl)
  obtain ⟨u, rfl, hOu⟩ := (hF9 (3, u3) (by simp)).1 (.inr rfl)
  obtain ⟨g4, rfl, hB4, c4⟩ := (hF9 (4, u4) (by simp)).2 (.inl rfl)
  obtain ⟨g5, rfl, hB5, c5⟩ := (hF9 (5, u5) (by simp)).2 (.inr rfl)
  obtain ⟨Wa, W3, s1, s2, v, d4, O4, d5, O5, kk⟩ := two_vw c4 c5 hOv hOu
  have hbb : Below W2.heap.size W2 W3 := hS9.trans (kk.below (fun i hi => by simp at hi; omega) hS9.size)
  clear hF9 hOv hOu c4 c5 kk hu1 hu3 hu4 hu5 hne doV h00
  refine linX_store (w' := Wa) rfl rfl (by rfl) (by go_simp; done) trivial ?_
  (try simp only [Act.put, List.getElem_toArray, List.getElem_cons_zero, List.getElem_cons_succ, List.setIfInBounds_toArray, List.set_cons_zero, List.set_cons_succ])
  refine linX_store (w' := W3) rfl rfl (by rfl) (by go_simp; done) trivial ?_
  (try simp only [Act.put, List.getElem_toArray, List.getElem_cons_zero, List.getElem_cons_succ, List.setIfInBounds_toArray, List.set_cons_zero, List.set_cons_succ])
  refine linX_nil ?_
  clear s1 s2 LD hS9
  have H3 := Lib.hid (And.intro (bel_trans H2.out hbb) (And.intro d4 (And.intro d5 (And.intro O4 O5))))
  have l2 := ld_vw d5
  clear d4 O4 d5 O5 hbb
  go_wp2_with fail
  refine (right_any14 u W3).mono ?_
  rintro e W5 ⟨rfl, hb5⟩
  have l1 := ld_vw (H3.out.2.1.later hb5)
  obtain ⟨bo, hbo⟩ : ∃ bo, u.ok = bo := ⟨_, rfl⟩
  rw [hbo]
  have HOKU := Lib.hid hbo
  have HVA := Lib.hid (H3.out.2.2.2.1.as H3.out.2.2.2.2)
  have HVB := Lib.hid (show v.b.n = u.b.n from H3.out.2.2.2.1.b.n.trans H3.out.2.2.2.2.b.n.symm)
  have HOKV := Lib.hid (show v.ok = bo from (HVA.out.1.ok HVA.out.2).trans hbo)
  have HCK := check_any14 v W5
  have H5 := Lib.hid hb5
  clear hb5 hbo l2
  go_wp2_with fail
  refine HCK.mono ?_
  rintro e W6 ⟨rfl, hb6⟩
  have hb36 := bel_trans H5.out hb6
  have HV := Lib.hid (show ∀ w', Below W6.heap.size W6 w' → Below w.heap.size w w' ∧ Blk w' g4 36 v.cs ∧ Blk w' g5 36 u.cs ∧ v.Of x w' W2.heap.size ∧ u.Of x w' W2.heap.size from fun w' k => ⟨bel_trans (bel_trans H3.out.1 hb36) k, H3.out.2.1.later (bel_trans hb36 k), H3.out.2.2.1.later (bel_trans hb36 k), H3.out.2.2.2.1.later (bel_trans hb36 k), H3.out.2.2.2.2.later (bel_trans hb36 k)⟩)
  have HF := Lib.hid (show ∀ w', Below W6.heap.size W6 w' → Blk w' g4 36 v.cs ∧ Blk w' g5 36 u.cs ∧ v.In w' 0 ∧ u.In w' 0 from fun w' k => ⟨(HV.out w' k).2.1, (HV.out w' k).2.2.1, (HV.out w' k).2.2.2.1.lies, (HV.out w' k).2.2.2.2.lies⟩)
  clear hb6 hb36
  have okn : ∀ z : Vw, z.ok = true → z.n ≤ 40 := fun z h => by unfold Vw.ok at h; simp only [Bool.and_eq_true, decide_eq_true_eq] at h; exact h.2
  have hve : v.e = if bo then 0 else 240 := by unfold Vw.e; rw [HOKV.out]
  rw [hve]
  clear hve
  cases bo with
  | false =>
    have HLM := Lib.hid (show (∀ e ∈ v.L, e.n ≤ 1000) ∧ v.b.n ≤ 1000 ∧ (v.n ≤ 40 ∨ v.ok = false) from ⟨H3.out.2.2.2.1.lim.1, H3.out.2.2.2.1.lim.2, .inr HOKV.out⟩)
    clear okn
    go_wp2_with fail
    go_loopw [42] (fun i wr => ∃ q : Nat, q ≤ n ∧ q ≤ 10 ∧ i = .int .i64 (q : Int) ∧ Below W6.heap.size W6 wr) (fun i _ => n - (intOf i).toNat)
    case atStart => exact ⟨0, Nat.zero_le _, Nat.zero_le _, rfl, Below.refl _ _⟩
    case round =>
      obtain ⟨q, hq, hq20, rfl, hbr⟩ := hrel
      by_cases hlt : q < n
      · obtain ⟨h8, g, o0, ha, hc8⟩ := (HA.out.later (HV.out wr hbr).1) q hlt
        rw [ha]
        obtain ⟨x8, hx8⟩ : ∃ x8, f q = x8 := ⟨_, rfl⟩
        rw [hx8] at h8 hc8
        have HX8 := Lib.hid h8
        clear h8 ha hx8
        by_cases h20 : q = 10
        · subst h20
          have HE := Lib.hid (HV.out wr hbr).1
          clear hbr
          go_wp2_with fail
          go_ret
          exact ⟨rfl, HE.out⟩
        · have hq19 : q ≤ 9 := by omega
          have d20 : (q : Int) ≠ 10 := by omega
          have d21 : decide ((q : Int) = 10) = false := by simp; omega
          obtain ⟨p1, p2, p5, p6⟩ := HF.out wr hbr
          have l1 := ld_vw p1
          have HO1 := offer_own v x8 wr p5 HLM.out.1 HLM.out.2.1 HLM.out.2.2
          have HBR0 := Lib.hid hbr
          clear p1 p2 p5 p6 hbr
          go_wp2_with fail
          refine HO1.mono ?_
          rintro e WA ⟨o, er, rfl, hO, hOwn, hRo, hbA⟩
          have SMM := st_ms (b2 := o) (Blk.new WA 47 Ms.zero.cs)
          rw [World.setRow_alloc_new] at SMM
          obtain ⟨WC, hWC⟩ : ∃ WC, WA.alloc (.cells o.cs 47) = WC := ⟨_, rfl⟩
          rw [hWC] at SMM
          have hbAC : Below WA.heap.size WA WC := by rw [← hWC]; exact below_alloc WA _
          have cC : Blk WC WA.heap.size 47 o.cs := by rw [← hWC]; exact Blk.new WA _ _
          have hbC := bel_trans hbA hbAC
          have HCF := Lib.hid (show ∀ w', Below WC.heap.size WC w' → Blk w' WA.heap.size 47 o.cs ∧ o.Own w' wr.heap.size ∧ OwnRo w' wr.heap.size (.slice o.b.a o.b.n o.b.c) o.b.R ∧ Below wr.heap.size wr w' from fun w' k => ⟨cC.later k, ⟨(hOwn.1.upon hbAC).upon k, (hOwn.2.later hbAC).later k⟩, ro_upon14 (ro_upon14 hRo hbAC) k, bel_trans hbC k⟩)
          obtain ⟨p1, p2, p5, p6⟩ := HF.out WC (bel_trans HBR0.out hbC)
          have l1 := ld_vw p1
          have HP1 := vplace_any v x8 WC p5.2 (HX8.out)
          have HOO := Lib.hid hO
          clear p1 p2 p5 p6 hOwn hRo hbA hbAC cC hbC hO
          go_wp2_with (with_reducible refine wpList_alloc_z rfl 47 rfl Ms.zero.cs 23 z_ms ?_)
          refine HP1.mono ?_
          rintro e WD ⟨rfl, hbD⟩
          obtain ⟨ai, ae, ab, hat⟩ : ∃ ai ae ab, placeV v x8 = (ai, ae, ab) := ⟨_, _, _, rfl⟩
          rw [hat]
          dsimp only
          have HAT := Lib.hid hat
          clear hat
          have SAA := st_at (i2 := ai) (e2 := ae) (Blk.new WD 24 (acs 0 0))
          rw [World.setRow_alloc_new] at SAA
          obtain ⟨WE, hWE⟩ : ∃ WE, WD.alloc (.cells (acs ai ae) 24) = WE := ⟨_, rfl⟩
          rw [hWE] at SAA
          have hbDE : Below WD.heap.size WD WE := by rw [← hWE]; exact below_alloc WD _
          have aE : Blk WE WD.heap.size 24 (acs ai ae) := by rw [← hWE]; exact Blk.new WD _ _
          have HE2 := Lib.hid (And.intro (bel_trans hbD hbDE) aE)
          clear hbD hbDE aE hWE
          obtain ⟨rfl, rfl⟩ : o = Ms.zero ∧ er = 240 := by
            rcases HOO.out with ⟨_, h1, h2⟩ | ⟨h, _⟩
            · exact ⟨h1, h2⟩
            · rw [HOKV.out] at h; cases h
          obtain ⟨rfl, rfl, rfl⟩ : ai = 0 ∧ ae = 0 ∧ ab = false := by
            have h9 := HAT.out
            unfold placeV at h9
            rw [if_neg (by rw [HOKV.out]; simp)] at h9
            injection h9 with h1 h2
            injection h2 with h2 h3
            exact ⟨h1.symm, h2.symm, h3.symm⟩
          have lo := ld_ms (HCF.out WE HE2.out.1).1
          have B0 := build_ms0
          have B1 := build_at0
          have HSM := samemsg_as Ms.zero Ms.zero WE (Ms.As.refl _) ⟨(EnOwn.nil WE 0).into, RoIn.nil _ _⟩ ⟨(EnOwn.nil WE 0).into, RoIn.nil _ _⟩
          go_wp2_with (with_reducible refine wpList_alloc_z rfl 24 rfl (acs 0 0) 2 z_at ?_)
          refine HSM.mono ?_
          rintro e Wf ⟨rfl, hbf⟩
          have la := ld_at (HE2.out.2.later hbf)
          have QA : ∀ w, (eqSem 24 (.agg (acs 0 0)) (.agg (acs 0 0))).run Try.prog w = .ok true w := fun w => by rw [show (acs 0 0) = acs ((0 : Nat) : Int) 0 from rfl, eqAt]; simp
          have HBR := Lib.hid (bel_trans HBR0.out (HCF.out Wf (bel_trans HE2.out.1 hbf)).2.2.2)
          clear hbf
          go_wp2_with fail
          go_roundw
          case rel => exact ⟨q + 1, by omega, by omega, by go_num, HBR.out⟩
          case measure => (simp [intOf]; try omega)
      · obtain rfl : q = n := by omega
        have HE := Lib.hid (HV.out wr hbr).1
        clear hbr
        go_wp2_with fail
        go_ret
        exact ⟨rfl, HE.out⟩
  | true =>
    have HLM := Lib.hid (show (∀ e ∈ v.L, e.n ≤ 1000) ∧ v.b.n ≤ 1000 ∧ (v.n ≤ 40 ∨ v.ok = false) from ⟨H3.out.2.2.2.1.lim.1, H3.out.2.2.2.1.lim.2, .inl (okn _ HOKV.out)⟩)
    have HLU := Lib.hid (show (∀ e ∈ u.L, e.n ≤ 1000) ∧ u.b.n ≤ 1000 ∧ u.n ≤ 40 from ⟨H3.out.2.2.2.2.lim.1, H3.out.2.2.2.2.lim.2, okn _ HOKU.out⟩)
    clear okn
    go_wp2_with fail
    go_loopw [42] (fun i wr => ∃ q : Nat, q ≤ n ∧ q ≤ 10 ∧ i = .int .i64 (q : Int) ∧ Below W6.heap.size W6 wr) (fun i _ => n - (intOf i).toNat)
    case atStart => exact ⟨0, Nat.zero_le _, Nat.zero_le _, rfl, Below.refl _ _⟩
    case round =>
      obtain ⟨q, hq, hq20, rfl, hbr⟩ := hrel
      by_cases hlt : q < n
      · obtain ⟨h8, g, o0, ha, hc8⟩ := (HA.out.later (HV.out wr hbr).1) q hlt
        rw [ha]
        obtain ⟨x8, hx8⟩ : ∃ x8, f q = x8 := ⟨_, rfl⟩
        rw [hx8] at h8 hc8
        have HX8 := Lib.hid h8
        clear h8 ha hx8
        by_cases h20 : q = 10
        · subst h20
          have HE := Lib.hid (HV.out wr hbr).1
          clear hbr
          go_wp2_with fail
          go_ret
          exact ⟨rfl, HE.out⟩
        · have hq19 : q ≤ 9 := by omega
          have d20 : (q : Int) ≠ 10 := by omega
          have d21 : decide ((q : Int) = 10) = false := by simp; omega
          obtain ⟨p1, p2, p5, p6⟩ := HF.out wr hbr
          have l1 := ld_vw p1
          have HO1 := offer_own v x8 wr p5 HLM.out.1 HLM.out.2.1 HLM.out.2.2
          have HBR0 := Lib.hid hbr
          clear p1 p2 p5 p6 hbr
          go_wp2_with fail
          refine HO1.mono ?_
          rintro e WA ⟨o, er, rfl, hO, hOwn, hRo, hbA⟩
          have SMM := st_ms (b2 := o) (Blk.new WA 47 Ms.zero.cs)
          rw [World.setRow_alloc_new] at SMM
          obtain ⟨WC, hWC⟩ : ∃ WC, WA.alloc (.cells o.cs 47) = WC := ⟨_, rfl⟩
          rw [hWC] at SMM
          have hbAC : Below WA.heap.size WA WC := by rw [← hWC]; exact below_alloc WA _
          have cC : Blk WC WA.heap.size 47 o.cs := by rw [← hWC]; exact Blk.new WA _ _
          have hbC := bel_trans hbA hbAC
          have HCF := Lib.hid (show ∀ w', Below WC.heap.size WC w' → Blk w' WA.heap.size 47 o.cs ∧ o.Own w' wr.heap.size ∧ OwnRo w' wr.heap.size (.slice o.b.a o.b.n o.b.c) o.b.R ∧ Below wr.heap.size wr w' from fun w' k => ⟨cC.later k, ⟨(hOwn.1.upon hbAC).upon k, (hOwn.2.later hbAC).later k⟩, ro_upon14 (ro_upon14 hRo hbAC) k, bel_trans hbC k⟩)
          obtain ⟨p1, p2, p5, p6⟩ := HF.out WC (bel_trans HBR0.out hbC)
          have l1 := ld_vw p1
          have HP1 := vplace_any v x8 WC p5.2 (HX8.out)
          have HOO := Lib.hid hO
          clear p1 p2 p5 p6 hOwn hRo hbA hbAC cC hbC hO
          go_wp2_with (with_reducible refine wpList_alloc_z rfl 47 rfl Ms.zero.cs 23 z_ms ?_)
          refine HP1.mono ?_
          rintro e WD ⟨rfl, hbD⟩
          obtain ⟨ai, ae, ab, hat⟩ : ∃ ai ae ab, placeV v x8 = (ai, ae, ab) := ⟨_, _, _, rfl⟩
          rw [hat]
          dsimp only
          have HAT := Lib.hid hat
          clear hat
          have SAA := st_at (i2 := ai) (e2 := ae) (Blk.new WD 24 (acs 0 0))
          rw [World.setRow_alloc_new] at SAA
          obtain ⟨WE, hWE⟩ : ∃ WE, WD.alloc (.cells (acs ai ae) 24) = WE := ⟨_, rfl⟩
          rw [hWE] at SAA
          have hbDE : Below WD.heap.size WD WE := by rw [← hWE]; exact below_alloc WD _
          have aE : Blk WE WD.heap.size 24 (acs ai ae) := by rw [← hWE]; exact Blk.new WD _ _
          have HE2 := Lib.hid (And.intro (bel_trans hbD hbDE) aE)
          clear hbD hbDE aE hWE
          obtain ⟨rfl, hov⟩ : er = 0 ∧ OfferV v (min x8 v.z) o := by
            rcases HOO.out with ⟨h, _⟩ | ⟨_, h1, h2⟩
            · rw [HOKV.out] at h; cases h
            · exact ⟨h1, h2⟩
          have hat2 : placeR u x8 = (ai, ae, ab) := by
            have h9 := HAT.out
            unfold placeV at h9
            rw [if_pos HOKV.out, HVA.out.1.place HVA.out.2] at h9
            exact h9
          have hzz := HOKU.out
          unfold Vw.ok at hzz
          simp only [Bool.and_eq_true, decide_eq_true_eq] at hzz
          obtain ⟨p1, p2, p5, p6⟩ := HF.out WE (bel_trans HBR0.out (HCF.out WE HE2.out.1).2.2.2)
          have l2 := ld_vw p2
          have HPR := place14_any u x8 WE p6.2 (by omega) HX8.out
          rw [hat2] at HPR
          dsimp only at HPR
          have HOV := Lib.hid hov
          clear p1 p2 p5 p6 hov hat2 hzz
          go_wp2_with (with_reducible refine wpList_alloc_z rfl 24 rfl (acs 0 0) 2 z_at ?_)
          refine HPR.mono ?_
          rintro e WG ⟨rfl, hbG⟩
          have SAB := st_at (i2 := ai) (e2 := ae) (Blk.new WG 24 (acs 0 0))
          rw [World.setRow_alloc_new] at SAB
          obtain ⟨WH, hWH⟩ : ∃ WH, WG.alloc (.cells (acs ai ae) 24) = WH := ⟨_, rfl⟩
          rw [hWH] at SAB
          have hbGH : Below WG.heap.size WG WH := by rw [← hWH]; exact below_alloc WG _
          have aH : Blk WH WG.heap.size 24 (acs ai ae) := by rw [← hWH]; exact Blk.new WG _ _
          have hEH := bel_trans hbG hbGH
          have HH := Lib.hid (And.intro (bel_trans HE2.out.1 hEH) (And.intro (HE2.out.2.later hEH) aH))
          clear hbG hbGH aH hEH
          have L1 : ∀ w', Below WH.heap.size WH w' → (loadSem 47 (.pointer (some ⟨WA.heap.size, 0, none⟩))).run Try.prog w' = .ok (.agg o.cs) w' := fun w' k => ld_ms (HCF.out w' (bel_trans HH.out.1 k)).1
          have L2 : ∀ w', Below WH.heap.size WH w' → (loadSem 36 (.pointer (some ⟨g5, 0, none⟩))).run Try.prog w' = .ok (.agg u.cs) w' := fun w' k => ld_vw (HF.out w' (bel_trans HBR0.out (HCF.out w' (bel_trans HH.out.1 k)).2.2.2)).2.1
          have L3 : ∀ w', Below WH.heap.size WH w' → (loadSem 24 (.pointer (some ⟨WD.heap.size, 0, none⟩))).run Try.prog w' = .ok (.agg (acs ai ae)) w' := fun w' k => ld_at (HH.out.2.1.later k)
          have L4 : ∀ w', Below WH.heap.size WH w' → (loadSem 24 (.pointer (some ⟨WG.heap.size, 0, none⟩))).run Try.prog w' = .ok (.agg (acs ai ae)) w' := fun w' k => ld_at (HH.out.2.2.later k)
          have h00 : Below WH.heap.size WH WH.drew := bel_drew (Below.refl _ _)
          obtain ⟨p1, p2, p5, p6⟩ := HF.out WH.drew (bel_trans HBR0.out (HCF.out WH.drew (bel_trans HH.out.1 h00)).2.2.2)
          have HRO := roffer_any u x8 WH.drew p6 HLU.out.1 HLU.out.2.1 HLU.out.2.2 HOKU.out
          have QA : ∀ w, (eqSem 24 (.agg (acs ai ae)) (.agg (acs ai ae))).run Try.prog w = .ok true w := fun w => by
            have e9 := eqAt2 ai ae ai ae w
            rw [e9]
            simp
          have dab : (ab != ab) = false := by simp
          clear p1 p2 p5 p6
          go_upto_region 18 with (with_reducible refine wpList_alloc_z rfl 24 rfl (acs 0 0) 2 z_at ?_)
          refine wp_region_linY (fun w' => Below WH.heap.size WH w') [6, 7] [0, 1, 2, 3, 4, 5, 6, 7, 8, 9, 10, 11, 12, 13, 14, 15, 16, 17, 18, 19] (by kernel_rfl) (by kernel_rfl) h00 ?_
          (repeat (first | (refine linX_off rfl rfl (by rfl) ?_; (try simp only [Act.put, List.getElem_toArray, List.getElem_cons_zero, List.getElem_cons_succ, List.setIfInBounds_toArray, List.set_cons_zero, List.set_cons_succ])) | (refine linX_op (v := ?_) rfl rfl (by rfl) (fun w9 hS9 => ?_) ?_; rotate_left; (focus (((try dsimp only at hS9); have z1 := L1 w9 hS9; have z2 := L2 w9 hS9; have z3 := L3 w9 hS9; have z4 := L4 w9 hS9; go_simp; (try go_bits)) <;> with_reducible rfl)); (try simp only [Act.put, List.getElem_toArray, List.getElem_cons_zero, List.getElem_cons_succ, List.setIfInBounds_toArray, List.set_cons_zero, List.set_cons_succ]))))
          refine linX_call (f := 16) (args := #[.agg u.cs, .int .u64 (x8 : Int)]) rfl rfl (by rfl) rfl rfl (enters_of Try.func16 (by kernel_rfl) rfl) (by simp [Act.eval]) ?_
          refine HRO.mono ?_
          rintro e W6 ⟨o2, rfl, hO2, hOw2, hb6⟩
          have k6 := bel_trans h00 hb6
          have has : o.As o2 := offerv_one (offerv_as HVA.out.1 HVA.out.2 HVB.out HOV.out) (by rw [HVA.out.1.z HVA.out.2]; exact hO2)
          refine ⟨_, rfl, k6, ?_⟩
          (try simp only [Act.put, List.getElem_toArray, List.getElem_cons_zero, List.getElem_cons_succ, List.setIfInBounds_toArray, List.set_cons_zero, List.set_cons_succ])
          refine linX_call (f := 14) (args := #[.agg o.cs, .agg o2.cs]) rfl rfl (by rfl) rfl rfl (enters_of Try.func14 (by kernel_rfl) rfl) (by simp [Act.eval]) ?_
          refine (samemsg_as o o2 W6 has ⟨(HCF.out W6 (bel_trans HH.out.1 k6)).2.1.1.into.less (Nat.zero_le _), (HCF.out W6 (bel_trans HH.out.1 k6)).2.1.2.less (Nat.zero_le _)⟩ ⟨hOw2.1.into.less (Nat.zero_le _), hOw2.2.less (Nat.zero_le _)⟩).mono ?_
          rintro e Wf ⟨rfl, hb7⟩
          have k7 := bel_trans k6 hb7
          refine ⟨_, rfl, k7, ?_⟩
          (try simp only [Act.put, List.getElem_toArray, List.getElem_cons_zero, List.getElem_cons_succ, List.setIfInBounds_toArray, List.set_cons_zero, List.set_cons_succ])
          (repeat (first | (refine linX_off rfl rfl (by rfl) ?_; (try simp only [Act.put, List.getElem_toArray, List.getElem_cons_zero, List.getElem_cons_succ, List.setIfInBounds_toArray, List.set_cons_zero, List.set_cons_succ])) | (refine linX_op (v := ?_) rfl rfl (by rfl) (fun w9 hS9 => ?_) ?_; rotate_left; (focus (((try dsimp only at hS9); have z1 := L1 w9 hS9; have z2 := L2 w9 hS9; have z3 := L3 w9 hS9; have z4 := L4 w9 hS9; go_simp; (try go_bits)) <;> with_reducible rfl)); (try simp only [Act.put, List.getElem_toArray, List.getElem_cons_zero, List.getElem_cons_succ, List.setIfInBounds_toArray, List.set_cons_zero, List.set_cons_succ]))))
          refine linX_nil ?_
          have hF := HCF.out Wf (bel_trans HH.out.1 k7)
          have e6 : Wf.cell? ⟨WA.heap.size, 6, none⟩ = some (.slice o.a o.n o.c) := hF.1.cell 6
          have HSP := spoil_any o.a o.n o.c o.L wr.heap.size Wf hF.2.1.1 hF.2.2.2.size
          have HFF := Lib.hid hF
          have hbn : o.b.n ≤ 9223372036854775807 := by have h3 := hF.2.1.2.2.2.1; have h4 := hF.2.1.2.2.2.2.1; unfold maxLen at h4; omega
          clear hF k6 k7 hb6 hb7 has hO2 hOw2 h00
          go_wp2_with fail
          refine HSP.mono ?_
          rintro e Ws ⟨rfl, hsoil⟩
          have hmud : Mud wr.heap.size WA.heap.size o wr Ws := Mud.of hsoil HFF.out.2.2.2 HFF.out.1 HFF.out.2.2.1
          have e13 : Ws.cell? ⟨WA.heap.size, 13, none⟩ = some (.slice o.b.a o.b.n o.b.c) := hmud.box.cell 13
          have HMD := Lib.hid hmud
          clear hsoil hmud
          go_wp2_with fail
          go_loopw [113] (fun i w9 => ∃ k : Nat, k ≤ o.b.n ∧ i = .int .i64 (k : Int) ∧ Mud wr.heap.size WA.heap.size o wr w9) (fun i _ => o.b.n - (intOf i).toNat)
          case atStart => exact ⟨0, Nat.zero_le _, rfl, HMD.out⟩
          case round =>
            obtain ⟨k, hk, rfl, hmu⟩ := hrel
            by_cases hlk : k < o.b.n
            · obtain ⟨gq, cur, hqa, hBq, hbq, hsq⟩ := hmu.row (by omega)
              have e13 := hmu.box.cell 13
              simp only [show o.cs[13]? = some (.slice o.b.a o.b.n o.b.c) from rfl, hqa] at e13
              obtain ⟨old, hold⟩ : ∃ old, _ = some old := ⟨_, (hbq.cell (k * 21 + 20)).trans (Array.getElem?_eq_getElem (by omega))⟩
              have hfr := hbq.free (k * 21 + 20)
              have HP := Lib.hid (hmu.put hqa hbq hBq hsq (k * 21 + 20) (.int .i64 99) hmu.bel.size)
              have hnk := hlk
              clear hmu hbq hsq hqa
              go_wp2_with fail
              go_roundw
              case rel => exact ⟨k + 1, by omega, by go_num, HP.out⟩
              case measure => (simp [intOf]; try omega)
            · obtain rfl : k = o.b.n := by omega
              have hbs := hmu.bel
              have HB9 := Lib.hid (And.intro (bel_trans HBR0.out hbs) hbs)
              clear hmu hbs
              obtain ⟨p1, p2, p5, p6⟩ := HF.out _ HB9.out.1
              have l1 := ld_vw p1
              have l2 := ld_vw p2
              have HSV := same_as v u _ HVA.out.1 p5 p6
              clear p1 p2 p5 p6
              go_wp2_with fail
              refine HSV.mono ?_
              rintro e Wz ⟨rfl, hbz⟩
              have HBR := Lib.hid (bel_trans HB9.out.1 hbz)
              clear hbz
              go_wp2_with fail
              go_roundw
              case rel => exact ⟨q + 1, by omega, by omega, by go_num, HBR.out⟩
              case measure => (simp [intOf]; try omega)
      · obtain rfl : q = n := by omega
        have HE := Lib.hid (HV.out wr hbr).1
        clear hbr
        go_wp2_with fail
        go_ret
        exact ⟨rfl, HE.out⟩
end Go.Proofs.Ytkoenconjldojaa
