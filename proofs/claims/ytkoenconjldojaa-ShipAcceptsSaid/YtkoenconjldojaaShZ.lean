/-
  The walk of the law of what is accepted. Nothing here is a statement of the document.
-/
import Derived.Test.YtkoenconjldojaaShS
import Derived.Test.YtkoenconjldojaaShV
import Derived.Test.YtkoenconjldojaaShY
import Derived.Test.YtkoenconjldojaaShWb
namespace Go.Proofs.Ytkoenconjldojaa
open Go.RowKit Go.Shelf
set_option linter.unusedVariables false
set_option linter.unusedSimpArgs false
set_option maxRecDepth 100000
attribute [local go_sem 10000] gtU_rule leU_rule ltU_rule geU_rule adU_rule sbU_rule mxU_rule mnU_rule mnI_rule
attribute [local go_sem ↓] load_at_rule store_at_rule load_la_rule store_la_rule load_bs_rule store_bs_rule load_vw_rule store_vw_rule load_jo_rule store_jo_rule load_ms_rule store_ms_rule load_ch_rule store_ch_rule load_hd_rule store_hd_rule load_rb_rule store_rb_rule load_en_rule store_en_rule
attribute [local go_sem ↓] build_hd_rule build_rb_rule build_en_rule build_at_rule build_jo_rule upbuild_rule upapp_rule robuild_rule roapp_rule enbuild_rule enapp_rule build_vw_rule eq_at_rule eq_la_rule build_ch_rule build_ms_rule
theorem took_as {v u : Vw} {m o : Ms} (h : v.As u) (hn : v.n = u.n) (k : m.As o) : tookV v m = tookV u o := by
  unfold tookV
  rw [h.place hn, h.2.1.1, k.2.2.1, k.2.2.2.1]
theorem fresh_alloc {P : Program} {ty : TypeId} {zs : Array Value} {k : Nat} (hz : (P.info? ty).map (fun i => (i.zero, i.size)) = some (some (.agg zs), k)) {o : Oper} (ho : o.op = .alloc ty) (ev : Operand → Value) (w : World) : (execOp ev o).run P w = .ok (.value (.pointer (some ⟨w.heap.size, 0, none⟩))) (w.alloc (.cells zs ty)) := by
  have hrun := (zero_of_info hz).1 w
  simp [execOp, ho, hrun, newVar, newRow, newObj, Value.cells, Result.andThen, go_sem]
  rfl
set_option maxHeartbeats 16000000 in
theorem shipaccepts_walk (x : Vw) (a : Option Addr) (n c : Nat) (L : List Ms) (w : World) (hx : x.In w 0) (hA : MssIn w a n L) : Calls Try.prog 4 #[.agg x.cs, .slice a n c] w fun e w' => e = .returned (.bool true) ∧ Below w.heap.size w w' := by
  have hn := hA.1
  have HA := Lib.hid hA
  clear hA
  obtain ⟨W1, hW1⟩ : ∃ W1, w.alloc (.cells x.cs 36) = W1 := ⟨_, rfl⟩
  have hb1 : Below w.heap.size w W1 := by rw [← hW1]; exact below_alloc w _
  have b1 : Blk W1 w.heap.size 36 x.cs := by rw [← hW1]; exact Blk.new w _ _
  have HI := Lib.hid (And.intro hb1 (And.intro b1 hx))
  clear hb1 b1 hx
  go_enter Try.func4, Try.ntmps4
  go_wp2_with fail
  refine (wakes_any W1).mono ?_
  rintro e W2 ⟨rfl, hb2⟩
  have HS2 := Lib.hid (And.intro (HI.out.2.1.later hb2) (HI.out.2.2.later (bel_trans HI.out.1 hb2)))
  have H2 := Lib.hid (bel_trans HI.out.1 hb2)
  clear hb2
  have LD : ∀ w', Below W2.heap.size W2 w' → (loadSem 36 (.pointer (some ⟨w.heap.size, 0, none⟩))).run Try.prog w' = .ok (.agg x.cs) w' := fun w' k => ld_vw (HS2.out.1.later k)
  have h00 : Below W2.heap.size W2 W2.drew := bel_drew (Below.refl _ _)
  have doV : ∀ i, i = 1 ∨ i = 3 → ∀ w', Below W2.heap.size W2 w' → Calls Try.prog 9 #[.agg x.cs] w' fun e w2 => ∃ v, e = .returned v ∧ Below W2.heap.size W2 w2 ∧ (∀ d u, d ≠ i → twVw x W2.heap.size d u w' → twVw x W2.heap.size d u w2) ∧ twVw x W2.heap.size i v w2 := fun i hi w' k => by
    refine (view_any x w' (HS2.out.2.later k)).mono ?_
    rintro e W4 ⟨v, rfl, hO, hb4⟩
    exact ⟨_, rfl, bel_trans k hb4, fun d u _ q => q.later hb4, fun _ => ⟨v, rfl, hO.less k.size⟩, fun e => by omega⟩
  have hne : ∀ i, [1, 3, 4, 5].contains i = true → ∃ v w, twVw x W2.heap.size i v w := by
    intro i hi
    have hi2 : i = 1 ∨ i = 3 ∨ i = 4 ∨ i = 5 := by simpa using hi
    by_cases h13 : i = 1 ∨ i = 3
    · obtain ⟨e, w', fr, ⟨v, _, _, _, h5⟩, _⟩ := doV i h13 W2.drew h00 []; exact ⟨v, w', h5⟩
    · exact ⟨.pointer (some ⟨W2.heap.size, 0, none⟩), W2.alloc (.cells Vw.zero.cs 36), ⟨fun e => by omega, fun _ => ⟨W2.heap.size, rfl, Nat.le_refl _, Blk.new W2 _ _⟩⟩⟩
  go_upto_region 3 with fail
  refine wp_region_linU (fun w' => Below W2.heap.size W2 w') (fun _ _ => True) (twVw x W2.heap.size) [1, 3, 4, 5] [6, 7] [] [0, 2, 1, 3, 4, 5] [6, 7] (by kernel_rfl) (by kernel_rfl) hne h00 (fun _ => trivial) ?_
  (repeat (first | (refine linU_off rfl rfl (by rfl) ?_; (try simp only [Act.put, List.getElem_toArray, List.getElem_cons_zero, List.getElem_cons_succ, List.setIfInBounds_toArray, List.set_cons_zero, List.set_cons_succ])) | (refine linU_op (v := ?_) rfl rfl rfl (by rfl) (fun w9 hS9 => ?_) ?_; rotate_left; (focus (((try dsimp only at hS9); have z1 := LD w9 hS9; go_simp; (try go_bits)) <;> with_reducible rfl)); (try simp only [Act.put, List.getElem_toArray, List.getElem_cons_zero, List.getElem_cons_succ, List.setIfInBounds_toArray, List.set_cons_zero, List.set_cons_succ]))))
  refine linU_call (f := 9) (args := #[.agg x.cs]) rfl rfl (by rfl) rfl rfl (enters_of Try.func9 (by kernel_rfl) rfl) (by simp [Act.eval]) (fun w9 hS9 _ _ => (doV 1 (.inl rfl) w9 hS9).mono (fun e w' ⟨v, q1, q2, q3, q4⟩ => ⟨v, q1, q2, fun _ _ _ => trivial, q3, q4⟩)) (fun u1 hu1 => ?_)
  (try simp only [Act.put, List.getElem_toArray, List.getElem_cons_zero, List.getElem_cons_succ, List.setIfInBounds_toArray, List.set_cons_zero, List.set_cons_succ])
  refine linU_call (f := 9) (args := #[.agg x.cs]) rfl rfl (by rfl) rfl rfl (enters_of Try.func9 (by kernel_rfl) rfl) (by simp [Act.eval]) (fun w9 hS9 _ _ => (doV 3 (.inr rfl) w9 hS9).mono (fun e w' ⟨v, q1, q2, q3, q4⟩ => ⟨v, q1, q2, fun _ _ _ => trivial, q3, q4⟩)) (fun u3 hu3 => ?_)
  (try simp only [Act.put, List.getElem_toArray, List.getElem_cons_zero, List.getElem_cons_succ, List.setIfInBounds_toArray, List.set_cons_zero, List.set_cons_succ])
  refine linU_do rfl rfl (by rfl) (fun w9 hS9 _ _ => ⟨.pointer (some ⟨w9.heap.size, 0, none⟩), w9.alloc (.cells Vw.zero.cs 36), fresh_alloc z_vw rfl _ _, bel_trans hS9 (below_alloc w9 _), fun _ _ _ => trivial, fun d u _ q => q.later (below_alloc w9 _), fun e => (by omega), fun _ => ⟨w9.heap.size, rfl, hS9.size, Blk.new w9 _ _⟩⟩) (fun u4 hu4 => ?_)
  (try simp only [Act.put, List.getElem_toArray, List.getElem_cons_zero, List.getElem_cons_succ, List.setIfInBounds_toArray, List.set_cons_zero, List.set_cons_succ])
  refine linU_do rfl rfl (by rfl) (fun w9 hS9 _ _ => ⟨.pointer (some ⟨w9.heap.size, 0, none⟩), w9.alloc (.cells Vw.zero.cs 36), fresh_alloc z_vw rfl _ _, bel_trans hS9 (below_alloc w9 _), fun _ _ _ => trivial, fun d u _ q => q.later (below_alloc w9 _), fun e => (by omega), fun _ => ⟨w9.heap.size, rfl, hS9.size, Blk.new w9 _ _⟩⟩) (fun u5 hu5 => ?_)
  (try simp only [Act.put, List.getElem_toArray, List.getElem_cons_zero, List.getElem_cons_succ, List.setIfInBounds_toArray, List.set_cons_zero, List.set_cons_succ])
  refine linU_nil (fun w9 hS9 hF9 => ?_)
  obtain ⟨v0, rfl, hOv⟩ := (hF9 (1, u1) (by simp)).1 (.inl rfl)
  obtain ⟨u, rfl, hOu⟩ := (hF9 (3, u3) (by simp)).1 (.inr rfl)
  obtain ⟨g4, rfl, hB4, c4⟩ := (hF9 (4, u4) (by simp)).2 (.inl rfl)
  obtain ⟨g5, rfl, hB5, c5⟩ := (hF9 (5, u5) (by simp)).2 (.inr rfl)
  obtain ⟨Wa, W3, s1, s2, v, d4, O4, d5, O5, kk⟩ := two_vw c4 c5 hOv hOu
  have hbb : Below W2.heap.size W2 W3 := hS9.trans (kk.below (fun i hi => by simp at hi; omega) hS9.size)
  clear hF9 hOv hOu c4 c5 kk hu1 hu3 hu4 hu5 hne doV h00
  refine linX_store (w' := Wa) rfl rfl (by rfl) (by go_simp; done) trivial ?_
  (try simp only [Act.put, List.getElem_toArray, List.getElem_cons_zero, List.getElem_cons_succ, List.setIfInBounds_toArray, List.set_cons_zero, List.set_cons_succ])
  refine linX_store (w' := W3) rfl rfl (by rfl) (by go_simp; done) trivial ?_
  (try simp only [Act.put, List.getElem_toArray, List.getElem_cons_zero, List.getElem_cons_succ, List.setIfInBounds_toArray, List.set_cons_zero, List.set_cons_succ])
  refine linX_nil ?_
  clear s1 s2 LD hS9
  have H3 := Lib.hid (And.intro (bel_trans H2.out hbb) (And.intro d4 (And.intro d5 (And.intro O4 O5))))
  have l2 := ld_vw d5
  clear d4 O4 d5 O5 hbb
  go_wp2_with fail
  refine (right_any14 u W3).mono ?_
  rintro e W5 ⟨rfl, hb5⟩
  have HV := Lib.hid (show ∀ w', Below W5.heap.size W5 w' → Below w.heap.size w w' ∧ Blk w' g4 36 v.cs ∧ Blk w' g5 36 u.cs ∧ v.Of x w' W2.heap.size ∧ u.Of x w' W2.heap.size from fun w' k => ⟨bel_trans (bel_trans H3.out.1 hb5) k, H3.out.2.1.later (bel_trans hb5 k), H3.out.2.2.1.later (bel_trans hb5 k), H3.out.2.2.2.1.later (bel_trans hb5 k), H3.out.2.2.2.2.later (bel_trans hb5 k)⟩)
  obtain ⟨bo, hbo⟩ : ∃ bo, u.ok = bo := ⟨_, rfl⟩
  rw [hbo]
  have HOKU := Lib.hid hbo
  have HOKV := Lib.hid (((H3.out.2.2.2.1.as H3.out.2.2.2.2).1.ok (H3.out.2.2.2.1.as H3.out.2.2.2.2).2).trans hbo)
  have HVA := Lib.hid (H3.out.2.2.2.1.as H3.out.2.2.2.2)
  clear hb5 hbo l2
  go_wp2_with fail
  go_loopw [26] (fun i wr => ∃ q : Nat, q ≤ n ∧ q ≤ 8 ∧ i = .int .i64 (q : Int) ∧ Below W5.heap.size W5 wr) (fun i _ => n - (intOf i).toNat)
  case atStart => exact ⟨0, Nat.zero_le _, Nat.zero_le _, rfl, Below.refl _ _⟩
  case round =>
    obtain ⟨q, hq, hq20, rfl, hbr⟩ := hrel
    by_cases hlt : q < n
    · have hql : q < L.length := by omega
      have hMi := HA.out.later (HV.out wr hbr).1
      obtain ⟨g, o0, ha, hrow⟩ := hMi.spot hql
      rw [ha]
      have LE : (loadSem 47 (.pointer (some ⟨g, o0 + q * 23, none⟩))).run Try.prog wr = .ok (.agg (msg' L q).cs) wr := hrow.load hql
      have LE2 : (loadSem 47 (.pointer (some ⟨g, o0 + q * 23, none⟩))).run Try.prog (wr.alloc (.cells Ms.zero.cs 47)) = .ok (.agg (msg' L q).cs) (wr.alloc (.cells Ms.zero.cs 47)) := (hrow.later (below_alloc wr (.cells Ms.zero.cs 47))).load hql
      have hIn : (msg' L q).In wr 0 := hMi.2.2 q hql
      obtain ⟨y, hy⟩ : ∃ y, msg' L q = y := ⟨_, rfl⟩
      rw [hy] at LE LE2 hIn
      have SE := st_ms (b2 := y) (Blk.new wr 47 Ms.zero.cs)
      rw [World.setRow_alloc_new] at SE
      obtain ⟨Wx, hWx⟩ : ∃ Wx, wr.alloc (.cells y.cs 47) = Wx := ⟨_, rfl⟩
      rw [hWx] at SE
      have hbx : Below wr.heap.size wr Wx := by rw [← hWx]; exact below_alloc wr _
      have bx : Blk Wx wr.heap.size 47 y.cs := by rw [← hWx]; exact Blk.new wr _ _
      have HX := Lib.hid (And.intro (bel_trans hbr hbx) (And.intro bx (hIn.later hbx)))
      clear hbr hrow hIn hy hbx bx ha hMi
      by_cases h20 : q = 8
      · subst h20
        go_wp2_with (with_reducible refine wpList_alloc_z rfl 47 rfl Ms.zero.cs 23 z_ms ?_)
        go_ret
        exact ⟨rfl, (HV.out Wx HX.out.1).1⟩
      · have hq19 : q ≤ 7 := by omega
        have d20 : (q : Int) ≠ 8 := by omega
        have d21 : decide ((q : Int) = 8) = false := by simp; omega
        have LD : ∀ w', Below Wx.heap.size Wx w' → (loadSem 47 (.pointer (some ⟨wr.heap.size, 0, none⟩))).run Try.prog w' = .ok (.agg y.cs) w' := fun w' k => ld_ms (HX.out.2.1.later k)
        have h00 : Below Wx.heap.size Wx Wx.drew := bel_drew (Below.refl _ _)
        have doV : ∀ i, i = 1 ∨ i = 3 → ∀ w', Below Wx.heap.size Wx w' → Calls Try.prog 19 #[.agg y.cs] w' fun e w2 => ∃ v, e = .returned v ∧ Below Wx.heap.size Wx w2 ∧ (∀ d u, d ≠ i → twMs y Wx.heap.size d u w' → twMs y Wx.heap.size d u w2) ∧ twMs y Wx.heap.size i v w2 := fun i hi w' k => by
          refine (msg_any y w' (HX.out.2.2.later k)).mono ?_
          rintro e W4 ⟨v, rfl, hO, hb4⟩
          exact ⟨_, rfl, bel_trans k hb4, fun d u _ q => q.later hb4, fun _ => ⟨v, rfl, hO.less k.size⟩, fun e => by omega⟩
        have hne : ∀ i, [1, 3, 4, 5].contains i = true → ∃ v w, twMs y Wx.heap.size i v w := by
          intro i hi
          have hi2 : i = 1 ∨ i = 3 ∨ i = 4 ∨ i = 5 := by simpa using hi
          by_cases h13 : i = 1 ∨ i = 3
          · obtain ⟨e, w', fr, ⟨v, _, _, _, h5⟩, _⟩ := doV i h13 Wx.drew h00 []; exact ⟨v, w', h5⟩
          · exact ⟨.pointer (some ⟨Wx.heap.size, 0, none⟩), Wx.alloc (.cells Ms.zero.cs 47), ⟨fun e => by omega, fun _ => ⟨Wx.heap.size, rfl, Nat.le_refl _, Blk.new Wx _ _⟩⟩⟩
        go_upto_region 9 with (with_reducible refine wpList_alloc_z rfl 47 rfl Ms.zero.cs 23 z_ms ?_)
        refine wp_region_linU (fun w' => Below Wx.heap.size Wx w') (fun _ _ => True) (twMs y Wx.heap.size) [1, 3, 4, 5] [6, 7] [] [0, 2, 1, 3, 4, 5] [6, 7] (by kernel_rfl) (by kernel_rfl) hne h00 (fun _ => trivial) ?_
        (repeat (first | (refine linU_off rfl rfl (by rfl) ?_; (try simp only [Act.put, List.getElem_toArray, List.getElem_cons_zero, List.getElem_cons_succ, List.setIfInBounds_toArray, List.set_cons_zero, List.set_cons_succ])) | (refine linU_op (v := ?_) rfl rfl rfl (by rfl) (fun w9 hS9 => ?_) ?_; rotate_left; (focus (((try dsimp only at hS9); have z1 := LD w9 hS9; go_simp; (try go_bits)) <;> with_reducible rfl)); (try simp only [Act.put, List.getElem_toArray, List.getElem_cons_zero, List.getElem_cons_succ, List.setIfInBounds_toArray, List.set_cons_zero, List.set_cons_succ]))))
        refine linU_call (f := 19) (args := #[.agg y.cs]) rfl rfl (by rfl) rfl rfl (enters_of Try.func19 (by kernel_rfl) rfl) (by simp [Act.eval]) (fun w9 hS9 _ _ => (doV 1 (.inl rfl) w9 hS9).mono (fun e w' ⟨v, q1, q2, q3, q4⟩ => ⟨v, q1, q2, fun _ _ _ => trivial, q3, q4⟩)) (fun u1 hu1 => ?_)
        (try simp only [Act.put, List.getElem_toArray, List.getElem_cons_zero, List.getElem_cons_succ, List.setIfInBounds_toArray, List.set_cons_zero, List.set_cons_succ])
        refine linU_call (f := 19) (args := #[.agg y.cs]) rfl rfl (by rfl) rfl rfl (enters_of Try.func19 (by kernel_rfl) rfl) (by simp [Act.eval]) (fun w9 hS9 _ _ => (doV 3 (.inr rfl) w9 hS9).mono (fun e w' ⟨v, q1, q2, q3, q4⟩ => ⟨v, q1, q2, fun _ _ _ => trivial, q3, q4⟩)) (fun u3 hu3 => ?_)
        (try simp only [Act.put, List.getElem_toArray, List.getElem_cons_zero, List.getElem_cons_succ, List.setIfInBounds_toArray, List.set_cons_zero, List.set_cons_succ])
        refine linU_do rfl rfl (by rfl) (fun w9 hS9 _ _ => ⟨.pointer (some ⟨w9.heap.size, 0, none⟩), w9.alloc (.cells Ms.zero.cs 47), fresh_alloc z_ms rfl _ _, bel_trans hS9 (below_alloc w9 _), fun _ _ _ => trivial, fun d u _ q => q.later (below_alloc w9 _), fun e => (by omega), fun _ => ⟨w9.heap.size, rfl, hS9.size, Blk.new w9 _ _⟩⟩) (fun u4 hu4 => ?_)
        (try simp only [Act.put, List.getElem_toArray, List.getElem_cons_zero, List.getElem_cons_succ, List.setIfInBounds_toArray, List.set_cons_zero, List.set_cons_succ])
        refine linU_do rfl rfl (by rfl) (fun w9 hS9 _ _ => ⟨.pointer (some ⟨w9.heap.size, 0, none⟩), w9.alloc (.cells Ms.zero.cs 47), fresh_alloc z_ms rfl _ _, bel_trans hS9 (below_alloc w9 _), fun _ _ _ => trivial, fun d u _ q => q.later (below_alloc w9 _), fun e => (by omega), fun _ => ⟨w9.heap.size, rfl, hS9.size, Blk.new w9 _ _⟩⟩) (fun u5 hu5 => ?_)
        (try simp only [Act.put, List.getElem_toArray, List.getElem_cons_zero, List.getElem_cons_succ, List.setIfInBounds_toArray, List.set_cons_zero, List.set_cons_succ])
        refine linU_nil (fun w9 hS9 hF9 => ?_)
        obtain ⟨m0, rfl, hOv⟩ := (hF9 (1, u1) (by simp)).1 (.inl rfl)
        obtain ⟨o, rfl, hOu⟩ := (hF9 (3, u3) (by simp)).1 (.inr rfl)
        obtain ⟨gm, rfl, hB4, c4⟩ := (hF9 (4, u4) (by simp)).2 (.inl rfl)
        obtain ⟨go, rfl, hB5, c5⟩ := (hF9 (5, u5) (by simp)).2 (.inr rfl)
        obtain ⟨Wa, Wb, s1, s2, m, d4, O4, d5, O5, kk⟩ := two_ms c4 c5 hOv hOu
        have hbb : Below Wx.heap.size Wx Wb := hS9.trans (kk.below (fun i hi => by simp at hi; omega) hS9.size)
        clear hF9 hOv hOu c4 c5 kk hu1 hu3 hu4 hu5 hne doV h00
        refine linX_store (w' := Wa) rfl rfl (by rfl) (by go_simp; done) trivial ?_
        (try simp only [Act.put, List.getElem_toArray, List.getElem_cons_zero, List.getElem_cons_succ, List.setIfInBounds_toArray, List.set_cons_zero, List.set_cons_succ])
        refine linX_store (w' := Wb) rfl rfl (by rfl) (by go_simp; done) trivial ?_
        (try simp only [Act.put, List.getElem_toArray, List.getElem_cons_zero, List.getElem_cons_succ, List.setIfInBounds_toArray, List.set_cons_zero, List.set_cons_succ])
        refine linX_nil ?_
        clear s1 s2 LD hS9
        have HB0 := Lib.hid (bel_trans HX.out.1 hbb)
        have HF := Lib.hid (show ∀ w', Below Wb.heap.size Wb w' → Blk w' g4 36 v.cs ∧ Blk w' g5 36 u.cs ∧ Blk w' gm 47 m.cs ∧ Blk w' go 47 o.cs ∧ v.In w' 0 ∧ u.In w' 0 ∧ m.In w' 0 ∧ o.In w' 0 from fun w' k => by
          obtain ⟨_, k1, k2, k3, k4⟩ := HV.out w' (bel_trans (bel_trans HX.out.1 hbb) k)
          exact ⟨k1, k2, d4.later k, d5.later k, k3.lies, k4.lies, (O4.later k).lies, (O5.later k).lies⟩)
        have HLM := Lib.hid (And.intro O4.lim O5.lim)
        have HAS := Lib.hid (show v.As u ∧ v.n = u.n ∧ m.As o ∧ m.n = o.n from ⟨HVA.out.1, HVA.out.2, (O4.as O5).1, (O4.as O5).2⟩)
        clear d4 d5 O4 O5 hbb
        obtain ⟨p1, p2, p3, p4, p5, p6, p7, p8⟩ := HF.out Wb (Below.refl _ _)
        have l1 := ld_vw p1
        have l2 := ld_ms p3
        have HA1 := accept_any v m Wb p5.2 p7.1 HLM.out.1
        clear p1 p2 p3 p4 p5 p6 p7 p8
        go_wp2_with fail
        refine HA1.mono ?_
        rintro e WA ⟨c, er, rfl, hA, hO, hbA⟩
        have SCH := st_ch (b2 := c) (Blk.new WA 67 Ch.zero.cs)
        rw [World.setRow_alloc_new] at SCH
        obtain ⟨WC, hWC⟩ : ∃ WC, WA.alloc (.cells c.cs 67) = WC := ⟨_, rfl⟩
        rw [hWC] at SCH
        have hbAC : Below WA.heap.size WA WC := by rw [← hWC]; exact below_alloc WA _
        have cC : Blk WC WA.heap.size 67 c.cs := by rw [← hWC]; exact Blk.new WA _ _
        have hbC := bel_trans hbA hbAC
        have HCF := Lib.hid (show ∀ w', Below WC.heap.size WC w' → Blk w' WA.heap.size 67 c.cs ∧ EnOwn w' Wb.heap.size (.slice c.a c.n c.c) c.L ∧ Below Wb.heap.size Wb w' from fun w' k => ⟨cC.later k, (hO.upon hbAC).upon k, bel_trans hbC k⟩)
        obtain ⟨p1, p2, p3, p4, p5, p6, p7, p8⟩ := HF.out WC hbC
        have l1 := ld_vw p1
        have l2 := ld_ms p3
        have HT1 := took_any v m WC p5.2
        clear p1 p2 p3 p4 p5 p6 p7 p8 hO hbA hbAC cC hbC
        have HAA := Lib.hid hA
        clear hA
        go_wp2_with (with_reducible refine wpList_alloc_z rfl 67 rfl Ch.zero.cs 4 z_ch ?_)
        refine HT1.mono ?_
        rintro e WD ⟨r, er2, rfl, hT, hbD⟩
        have HBD := Lib.hid hbD
        have HTT := Lib.hid hT
        have hcl := ld_ch (HCF.out WD hbD).1
        clear hbD hT
        have B0 := build_ch0
        cases bo with
        | false =>
          have hvf : v.ok = false := HOKV.out
          obtain ⟨hcz, rfl⟩ : c = Ch.zero ∧ er = 240 := by
            rcases HAA.out with ⟨_, h1, h2⟩ | ⟨h, _⟩ | ⟨h, _⟩
            · exact ⟨h1, h2⟩
            · rw [hvf] at h; cases h
            · rw [hvf] at h; cases h
          obtain ⟨rfl, rfl⟩ : r = false ∧ er2 = 240 := by
            rcases HTT.out with ⟨_, h1, h2⟩ | ⟨h, _⟩ | ⟨h, _⟩
            · exact ⟨h1, h2⟩
            · rw [hvf] at h; cases h
            · rw [hvf] at h; cases h
          have HSC := samechange_as c Ch.zero WD (by rw [hcz]; exact Ch.As.refl _) ((HCF.out WD HBD.out).2.1.into.less (Nat.zero_le _)) ((EnOwn.nil WD 0).into)
          clear hvf hcz
          go_wp2_with fail
          refine HSC.mono ?_
          rintro e We ⟨rfl, hbe⟩
          have HBR := Lib.hid (bel_trans HB0.out (HCF.out We (bel_trans HBD.out hbe)).2.2)
          clear hbe
          go_wp2_with fail
          go_roundw
          case rel => exact ⟨q + 1, by omega, by omega, by go_num, HBR.out⟩
          case measure => (simp [intOf]; try omega)
        | true =>
          have hvt : v.ok = true := HOKV.out
          have HTK := Lib.hid (show True ∧ (¬ (o.kd = 3 ∧ o.b.i ≤ 4611686018427387904) → r = false ∧ er2 = 2) ∧ ((o.kd = 3 ∧ o.b.i ≤ 4611686018427387904) → r = tookV u o ∧ er2 = 0) by
            have e1 := HAS.out.2.2.1.1.1
            have e2 := HAS.out.2.2.1.2.2.1
            rcases HTT.out with ⟨h, _⟩ | ⟨_, h1, h2, h3⟩ | ⟨_, h1, h2, h3⟩
            · rw [hvt] at h; cases h
            · rw [e1, e2] at h1; exact ⟨trivial, fun _ => ⟨h2, h3⟩, fun h => absurd h h1⟩
            · rw [e1, e2] at h1; exact ⟨trivial, fun h => absurd h1 h, fun _ => ⟨h2.trans (took_as HAS.out.1 HAS.out.2.1 HAS.out.2.2.1), h3⟩⟩)
          have HOK := Lib.hid (show u.b.i + u.n < 18446744073709551616 by
            have h9 := HOKU.out
            unfold Vw.ok at h9
            simp only [Bool.and_eq_true, decide_eq_true_eq] at h9
            omega)
          obtain ⟨p1, p2, p3, p4, p5, p6, p7, p8⟩ := HF.out WD (HCF.out WD HBD.out).2.2
          have l2 := ld_ms p4
          have HOF := offers_any o WD
          clear p1 p2 p3 p4 p5 p6 p7 p8
          go_wp2_with fail
          refine HOF.mono ?_
          rintro e We ⟨rfl, hbe⟩
          have HBE := Lib.hid (bel_trans HBD.out hbe)
          clear hbe
          have hcl := ld_ch (HCF.out We HBE.out).1
          obtain ⟨of, hof⟩ : ∃ of, o.off = of := ⟨_, rfl⟩
          rw [hof]
          have hmf : m.off = of := (HAS.out.2.2.1.off HAS.out.2.2.2).trans hof
          have HOFF := Lib.hid (And.intro hof hmf)
          clear hof hmf
          cases of with
          | false =>
            obtain ⟨hcz, rfl⟩ : c = Ch.zero ∧ er = 2 := by
              rcases HAA.out with ⟨h, _⟩ | ⟨_, _, h1, h2⟩ | ⟨_, h, _⟩
              · rw [hvt] at h; cases h
              · exact ⟨h1, h2⟩
              · rw [HOFF.out.2] at h; cases h
            have HSC := samechange_as c Ch.zero We (by rw [hcz]; exact Ch.As.refl _) ((HCF.out We HBE.out).2.1.into.less (Nat.zero_le _)) ((EnOwn.nil We 0).into)
            clear hvt hcz
            go_wp2_with fail
            refine HSC.mono ?_
            rintro e Wf ⟨rfl, hbf⟩
            have HBF := Lib.hid (bel_trans HBE.out hbf)
            clear hbf hcl
            obtain ⟨p1, p2, p3, p4, p5, p6, p7, p8⟩ := HF.out Wf (HCF.out Wf HBF.out).2.2
            have k0 : (Wf).cell? ⟨go, 0, none⟩ = some (.int .i64 o.kd) := p4.cell 0
            have k1 : (Wf).cell? ⟨go, 11, none⟩ = some (.int .u64 (o.b.i : Int)) := p4.cell 11
            have l1 := ld_ms p4
            have l2 := ld_vw p2
            have g0 : gtU (o.b.i : Int) 4611686018427387904 = !decide (o.b.i ≤ 4611686018427387904) := gtU_nat o.b.i 4611686018427387904
            have HPU := Lib.hid p6
            clear p1 p2 p3 p4 p5 p6 p7 p8
            by_cases hk3 : o.kd = 3
            · have dk : (o.kd != 3) = false := by simp [hk3]
              by_cases hki : o.b.i ≤ 4611686018427387904
              · rw [decide_eq_true hki] at g0
                obtain ⟨rfl, rfl⟩ : r = tookV u o ∧ er2 = 0 := HTK.out.2.2 ⟨hk3, hki⟩
                have HRT := rtook_any u o Wf HPU.out.2 HOK.out (by omega)
                generalize tookV u o = r at *
                clear hk3 hki HPU
                go_wp2_with fail
                refine HRT.mono ?_
                rintro e Wk ⟨rfl, hbk⟩
                have HKB := Lib.hid (bel_trans HBF.out hbk)
                clear hbk
                have dr : (r != r) = false := by simp
                have hF := HCF.out Wk HKB.out
                have e2 : (Wk).cell? ⟨WA.heap.size, 2, none⟩ = some (.slice c.a c.n c.c) := hF.1.cell 2
                have HSP := spoil_any c.a c.n c.c c.L Wb.heap.size Wk hF.2.1 hF.2.2.size
                have hbw := hF.2.2
                have HBW := Lib.hid hbw
                clear hF hbw
                go_wp2_with fail
                refine HSP.mono ?_
                rintro e Ws ⟨rfl, hsoil⟩
                have hbs : Below Wb.heap.size Wb Ws := HBW.out.trans hsoil.bel
                obtain ⟨p1, p2, p3, p4, p5, p6, p7, p8⟩ := HF.out Ws hbs
                have l1 := ld_ms p3
                have l2 := ld_ms p4
                have HSM := samemsg_as m o Ws HAS.out.2.2.1 p7 p8
                have HBS := Lib.hid hbs
                clear p1 p2 p3 p4 p5 p6 p7 p8 hsoil hbs
                go_wp2_with fail
                refine HSM.mono ?_
                rintro e Wq ⟨rfl, hbq⟩
                have hbq2 := bel_trans HBS.out hbq
                obtain ⟨p1, p2, p3, p4, p5, p6, p7, p8⟩ := HF.out Wq hbq2
                have l1 := ld_vw p1
                have l2 := ld_vw p2
                have HSV := same_as v u Wq HAS.out.1 p5 p6
                have HBQ := Lib.hid hbq2
                clear p1 p2 p3 p4 p5 p6 p7 p8 hbq hbq2
                go_wp2_with fail
                refine HSV.mono ?_
                rintro e Wr ⟨rfl, hbr2⟩
                have HBR := Lib.hid (bel_trans HB0.out (bel_trans HBQ.out hbr2))
                clear hbr2
                go_wp2_with fail
                go_roundw
                case rel => exact ⟨q + 1, by omega, by omega, by go_num, HBR.out⟩
                case measure => (simp [intOf]; try omega)
              · rw [decide_eq_false hki] at g0
                obtain ⟨rfl, rfl⟩ : r = false ∧ er2 = 2 := HTK.out.2.1 (fun h => hki h.2)
                clear hk3 hki HPU
                have hF := HCF.out Wf HBF.out
                have e2 : (Wf).cell? ⟨WA.heap.size, 2, none⟩ = some (.slice c.a c.n c.c) := hF.1.cell 2
                have HSP := spoil_any c.a c.n c.c c.L Wb.heap.size Wf hF.2.1 hF.2.2.size
                have hbw := hF.2.2
                have HBW := Lib.hid hbw
                clear hF hbw
                go_wp2_with fail
                refine HSP.mono ?_
                rintro e Ws ⟨rfl, hsoil⟩
                have hbs : Below Wb.heap.size Wb Ws := HBW.out.trans hsoil.bel
                obtain ⟨p1, p2, p3, p4, p5, p6, p7, p8⟩ := HF.out Ws hbs
                have l1 := ld_ms p3
                have l2 := ld_ms p4
                have HSM := samemsg_as m o Ws HAS.out.2.2.1 p7 p8
                have HBS := Lib.hid hbs
                clear p1 p2 p3 p4 p5 p6 p7 p8 hsoil hbs
                go_wp2_with fail
                refine HSM.mono ?_
                rintro e Wq ⟨rfl, hbq⟩
                have hbq2 := bel_trans HBS.out hbq
                obtain ⟨p1, p2, p3, p4, p5, p6, p7, p8⟩ := HF.out Wq hbq2
                have l1 := ld_vw p1
                have l2 := ld_vw p2
                have HSV := same_as v u Wq HAS.out.1 p5 p6
                have HBQ := Lib.hid hbq2
                clear p1 p2 p3 p4 p5 p6 p7 p8 hbq hbq2
                go_wp2_with fail
                refine HSV.mono ?_
                rintro e Wr ⟨rfl, hbr2⟩
                have HBR := Lib.hid (bel_trans HB0.out (bel_trans HBQ.out hbr2))
                clear hbr2
                go_wp2_with fail
                go_roundw
                case rel => exact ⟨q + 1, by omega, by omega, by go_num, HBR.out⟩
                case measure => (simp [intOf]; try omega)
            · have dk : (o.kd != 3) = true := by simp [hk3]
              obtain ⟨rfl, rfl⟩ : r = false ∧ er2 = 2 := HTK.out.2.1 (fun h => hk3 h.1)
              clear hk3 HPU
              have hF := HCF.out Wf HBF.out
              have e2 : (Wf).cell? ⟨WA.heap.size, 2, none⟩ = some (.slice c.a c.n c.c) := hF.1.cell 2
              have HSP := spoil_any c.a c.n c.c c.L Wb.heap.size Wf hF.2.1 hF.2.2.size
              have hbw := hF.2.2
              have HBW := Lib.hid hbw
              clear hF hbw
              go_wp2_with fail
              refine HSP.mono ?_
              rintro e Ws ⟨rfl, hsoil⟩
              have hbs : Below Wb.heap.size Wb Ws := HBW.out.trans hsoil.bel
              obtain ⟨p1, p2, p3, p4, p5, p6, p7, p8⟩ := HF.out Ws hbs
              have l1 := ld_ms p3
              have l2 := ld_ms p4
              have HSM := samemsg_as m o Ws HAS.out.2.2.1 p7 p8
              have HBS := Lib.hid hbs
              clear p1 p2 p3 p4 p5 p6 p7 p8 hsoil hbs
              go_wp2_with fail
              refine HSM.mono ?_
              rintro e Wq ⟨rfl, hbq⟩
              have hbq2 := bel_trans HBS.out hbq
              obtain ⟨p1, p2, p3, p4, p5, p6, p7, p8⟩ := HF.out Wq hbq2
              have l1 := ld_vw p1
              have l2 := ld_vw p2
              have HSV := same_as v u Wq HAS.out.1 p5 p6
              have HBQ := Lib.hid hbq2
              clear p1 p2 p3 p4 p5 p6 p7 p8 hbq hbq2
              go_wp2_with fail
              refine HSV.mono ?_
              rintro e Wr ⟨rfl, hbr2⟩
              have HBR := Lib.hid (bel_trans HB0.out (bel_trans HBQ.out hbr2))
              clear hbr2
              go_wp2_with fail
              go_roundw
              case rel => exact ⟨q + 1, by omega, by omega, by go_num, HBR.out⟩
              case measure => (simp [intOf]; try omega)
          | true =>
            obtain ⟨rfl, hmade⟩ : er = 0 ∧ MadeR v m c := by
              rcases HAA.out with ⟨h, _⟩ | ⟨_, h, _⟩ | ⟨_, _, h1, h2⟩
              · rw [hvt] at h; cases h
              · rw [HOFF.out.2] at h; cases h
              · exact ⟨h1, h2⟩
            have L1 : ∀ w', Below We.heap.size We w' → (loadSem 67 (.pointer (some ⟨WA.heap.size, 0, none⟩))).run Try.prog w' = .ok (.agg c.cs) w' := fun w' k => ld_ch (HCF.out w' (bel_trans HBE.out k)).1
            have L2 : ∀ w', Below We.heap.size We w' → (loadSem 36 (.pointer (some ⟨g5, 0, none⟩))).run Try.prog w' = .ok (.agg u.cs) w' := fun w' k => ld_vw (HF.out w' (HCF.out w' (bel_trans HBE.out k)).2.2).2.1
            have L3 : ∀ w', Below We.heap.size We w' → (loadSem 47 (.pointer (some ⟨go, 0, none⟩))).run Try.prog w' = .ok (.agg o.cs) w' := fun w' k => ld_ms (HF.out w' (HCF.out w' (bel_trans HBE.out k)).2.2).2.2.2.1
            have h00 : Below We.heap.size We We.drew := bel_drew (Below.refl _ _)
            have hoo := HOFF.out.1
            unfold Ms.off at hoo
            simp only [Bool.and_eq_true, decide_eq_true_eq] at hoo
            have hdr := (HF.out We.drew (HCF.out We.drew (bel_trans HBE.out h00)).2.2)
            have HRA := raccept_any u o We.drew HOKU.out hoo.2.2 hoo.2.1 hdr.2.2.2.2.2.1.2 hdr.2.2.2.2.2.2.2.1 HLM.out.2
            have HMD := Lib.hid hmade
            clear hvt hcl hoo hdr hmade
            go_upto_region 18 with fail
            refine wp_region_linY (fun w' => Below We.heap.size We w') [6, 7] [0, 1, 2, 3, 4, 5, 6, 7, 8, 9, 10] (by kernel_rfl) (by kernel_rfl) h00 ?_
            (repeat (first | (refine linX_off rfl rfl (by rfl) ?_; (try simp only [Act.put, List.getElem_toArray, List.getElem_cons_zero, List.getElem_cons_succ, List.setIfInBounds_toArray, List.set_cons_zero, List.set_cons_succ])) | (refine linX_op (v := ?_) rfl rfl (by rfl) (fun w9 hS9 => ?_) ?_; rotate_left; (focus (((try dsimp only at hS9); have z1 := L1 w9 hS9; have z2 := L2 w9 hS9; have z3 := L3 w9 hS9; go_simp; (try go_bits)) <;> with_reducible rfl)); (try simp only [Act.put, List.getElem_toArray, List.getElem_cons_zero, List.getElem_cons_succ, List.setIfInBounds_toArray, List.set_cons_zero, List.set_cons_succ]))))
            refine linX_call (f := 24) (args := #[.agg u.cs, .agg o.cs]) rfl rfl (by rfl) rfl rfl (enters_of Try.func24 (by kernel_rfl) rfl) (by simp [Act.eval]) ?_
            refine HRA.mono ?_
            rintro e W6 ⟨c2, rfl, hm2, hO2, hb6⟩
            have k6 := bel_trans h00 hb6
            have has : c.As c2 := made_one (made_as HAS.out.1 HAS.out.2.1 HAS.out.2.2.1 HAS.out.2.2.2 HMD.out) hm2
            refine ⟨_, rfl, k6, ?_⟩
            (try simp only [Act.put, List.getElem_toArray, List.getElem_cons_zero, List.getElem_cons_succ, List.setIfInBounds_toArray, List.set_cons_zero, List.set_cons_succ])
            refine linX_call (f := 22) (args := #[.agg c.cs, .agg c2.cs]) rfl rfl (by rfl) rfl rfl (enters_of Try.func22 (by kernel_rfl) rfl) (by simp [Act.eval]) ?_
            refine (samechange_as c c2 W6 has ((HCF.out W6 (bel_trans HBE.out k6)).2.1.into.less (Nat.zero_le _)) (hO2.into.less (Nat.zero_le _))).mono ?_
            rintro e Wf ⟨rfl, hb7⟩
            have k7 := bel_trans k6 hb7
            refine ⟨_, rfl, k7, ?_⟩
            (try simp only [Act.put, List.getElem_toArray, List.getElem_cons_zero, List.getElem_cons_succ, List.setIfInBounds_toArray, List.set_cons_zero, List.set_cons_succ])
            (repeat (first | (refine linX_off rfl rfl (by rfl) ?_; (try simp only [Act.put, List.getElem_toArray, List.getElem_cons_zero, List.getElem_cons_succ, List.setIfInBounds_toArray, List.set_cons_zero, List.set_cons_succ])) | (refine linX_op (v := ?_) rfl rfl (by rfl) (fun w9 hS9 => ?_) ?_; rotate_left; (focus (((try dsimp only at hS9); have z1 := L1 w9 hS9; have z2 := L2 w9 hS9; have z3 := L3 w9 hS9; go_simp; (try go_bits)) <;> with_reducible rfl)); (try simp only [Act.put, List.getElem_toArray, List.getElem_cons_zero, List.getElem_cons_succ, List.setIfInBounds_toArray, List.set_cons_zero, List.set_cons_succ]))))
            refine linX_nil ?_
            have HBF := Lib.hid (bel_trans HBE.out k7)
            clear k6 k7 hb6 hb7 has hm2 hO2 h00
            obtain ⟨p1, p2, p3, p4, p5, p6, p7, p8⟩ := HF.out Wf (HCF.out Wf HBF.out).2.2
            have k0 : (Wf).cell? ⟨go, 0, none⟩ = some (.int .i64 o.kd) := p4.cell 0
            have k1 : (Wf).cell? ⟨go, 11, none⟩ = some (.int .u64 (o.b.i : Int)) := p4.cell 11
            have l1 := ld_ms p4
            have l2 := ld_vw p2
            have g0 : gtU (o.b.i : Int) 4611686018427387904 = !decide (o.b.i ≤ 4611686018427387904) := gtU_nat o.b.i 4611686018427387904
            have HPU := Lib.hid p6
            clear p1 p2 p3 p4 p5 p6 p7 p8
            by_cases hk3 : o.kd = 3
            · have dk : (o.kd != 3) = false := by simp [hk3]
              by_cases hki : o.b.i ≤ 4611686018427387904
              · rw [decide_eq_true hki] at g0
                obtain ⟨rfl, rfl⟩ : r = tookV u o ∧ er2 = 0 := HTK.out.2.2 ⟨hk3, hki⟩
                have HRT := rtook_any u o Wf HPU.out.2 HOK.out (by omega)
                generalize tookV u o = r at *
                clear hk3 hki HPU
                go_wp2_with fail
                refine HRT.mono ?_
                rintro e Wk ⟨rfl, hbk⟩
                have HKB := Lib.hid (bel_trans HBF.out hbk)
                clear hbk
                have dr : (r != r) = false := by simp
                have hF := HCF.out Wk HKB.out
                have e2 : (Wk).cell? ⟨WA.heap.size, 2, none⟩ = some (.slice c.a c.n c.c) := hF.1.cell 2
                have HSP := spoil_any c.a c.n c.c c.L Wb.heap.size Wk hF.2.1 hF.2.2.size
                have hbw := hF.2.2
                have HBW := Lib.hid hbw
                clear hF hbw
                go_wp2_with fail
                refine HSP.mono ?_
                rintro e Ws ⟨rfl, hsoil⟩
                have hbs : Below Wb.heap.size Wb Ws := HBW.out.trans hsoil.bel
                obtain ⟨p1, p2, p3, p4, p5, p6, p7, p8⟩ := HF.out Ws hbs
                have l1 := ld_ms p3
                have l2 := ld_ms p4
                have HSM := samemsg_as m o Ws HAS.out.2.2.1 p7 p8
                have HBS := Lib.hid hbs
                clear p1 p2 p3 p4 p5 p6 p7 p8 hsoil hbs
                go_wp2_with fail
                refine HSM.mono ?_
                rintro e Wq ⟨rfl, hbq⟩
                have hbq2 := bel_trans HBS.out hbq
                obtain ⟨p1, p2, p3, p4, p5, p6, p7, p8⟩ := HF.out Wq hbq2
                have l1 := ld_vw p1
                have l2 := ld_vw p2
                have HSV := same_as v u Wq HAS.out.1 p5 p6
                have HBQ := Lib.hid hbq2
                clear p1 p2 p3 p4 p5 p6 p7 p8 hbq hbq2
                go_wp2_with fail
                refine HSV.mono ?_
                rintro e Wr ⟨rfl, hbr2⟩
                have HBR := Lib.hid (bel_trans HB0.out (bel_trans HBQ.out hbr2))
                clear hbr2
                go_wp2_with fail
                go_roundw
                case rel => exact ⟨q + 1, by omega, by omega, by go_num, HBR.out⟩
                case measure => (simp [intOf]; try omega)
              · rw [decide_eq_false hki] at g0
                obtain ⟨rfl, rfl⟩ : r = false ∧ er2 = 2 := HTK.out.2.1 (fun h => hki h.2)
                clear hk3 hki HPU
                have hF := HCF.out Wf HBF.out
                have e2 : (Wf).cell? ⟨WA.heap.size, 2, none⟩ = some (.slice c.a c.n c.c) := hF.1.cell 2
                have HSP := spoil_any c.a c.n c.c c.L Wb.heap.size Wf hF.2.1 hF.2.2.size
                have hbw := hF.2.2
                have HBW := Lib.hid hbw
                clear hF hbw
                go_wp2_with fail
                refine HSP.mono ?_
                rintro e Ws ⟨rfl, hsoil⟩
                have hbs : Below Wb.heap.size Wb Ws := HBW.out.trans hsoil.bel
                obtain ⟨p1, p2, p3, p4, p5, p6, p7, p8⟩ := HF.out Ws hbs
                have l1 := ld_ms p3
                have l2 := ld_ms p4
                have HSM := samemsg_as m o Ws HAS.out.2.2.1 p7 p8
                have HBS := Lib.hid hbs
                clear p1 p2 p3 p4 p5 p6 p7 p8 hsoil hbs
                go_wp2_with fail
                refine HSM.mono ?_
                rintro e Wq ⟨rfl, hbq⟩
                have hbq2 := bel_trans HBS.out hbq
                obtain ⟨p1, p2, p3, p4, p5, p6, p7, p8⟩ := HF.out Wq hbq2
                have l1 := ld_vw p1
                have l2 := ld_vw p2
                have HSV := same_as v u Wq HAS.out.1 p5 p6
                have HBQ := Lib.hid hbq2
                clear p1 p2 p3 p4 p5 p6 p7 p8 hbq hbq2
                go_wp2_with fail
                refine HSV.mono ?_
                rintro e Wr ⟨rfl, hbr2⟩
                have HBR := Lib.hid (bel_trans HB0.out (bel_trans HBQ.out hbr2))
                clear hbr2
                go_wp2_with fail
                go_roundw
                case rel => exact ⟨q + 1, by omega, by omega, by go_num, HBR.out⟩
                case measure => (simp [intOf]; try omega)
            · have dk : (o.kd != 3) = true := by simp [hk3]
              obtain ⟨rfl, rfl⟩ : r = false ∧ er2 = 2 := HTK.out.2.1 (fun h => hk3 h.1)
              clear hk3 HPU
              have hF := HCF.out Wf HBF.out
              have e2 : (Wf).cell? ⟨WA.heap.size, 2, none⟩ = some (.slice c.a c.n c.c) := hF.1.cell 2
              have HSP := spoil_any c.a c.n c.c c.L Wb.heap.size Wf hF.2.1 hF.2.2.size
              have hbw := hF.2.2
              have HBW := Lib.hid hbw
              clear hF hbw
              go_wp2_with fail
              refine HSP.mono ?_
              rintro e Ws ⟨rfl, hsoil⟩
              have hbs : Below Wb.heap.size Wb Ws := HBW.out.trans hsoil.bel
              obtain ⟨p1, p2, p3, p4, p5, p6, p7, p8⟩ := HF.out Ws hbs
              have l1 := ld_ms p3
              have l2 := ld_ms p4
              have HSM := samemsg_as m o Ws HAS.out.2.2.1 p7 p8
              have HBS := Lib.hid hbs
              clear p1 p2 p3 p4 p5 p6 p7 p8 hsoil hbs
              go_wp2_with fail
              refine HSM.mono ?_
              rintro e Wq ⟨rfl, hbq⟩
              have hbq2 := bel_trans HBS.out hbq
              obtain ⟨p1, p2, p3, p4, p5, p6, p7, p8⟩ := HF.out Wq hbq2
              have l1 := ld_vw p1
              have l2 := ld_vw p2
              have HSV := same_as v u Wq HAS.out.1 p5 p6
              have HBQ := Lib.hid hbq2
              clear p1 p2 p3 p4 p5 p6 p7 p8 hbq hbq2
              go_wp2_with fail
              refine HSV.mono ?_
              rintro e Wr ⟨rfl, hbr2⟩
              have HBR := Lib.hid (bel_trans HB0.out (bel_trans HBQ.out hbr2))
              clear hbr2
              go_wp2_with fail
              go_roundw
              case rel => exact ⟨q + 1, by omega, by omega, by go_num, HBR.out⟩
              case measure => (simp [intOf]; try omega)
    · obtain rfl : q = n := by omega
      have HE := Lib.hid (HV.out wr hbr).1
      clear hbr
      go_wp2_with fail
      go_ret
      exact ⟨rfl, HE.out⟩
end Go.Proofs.Ytkoenconjldojaa
