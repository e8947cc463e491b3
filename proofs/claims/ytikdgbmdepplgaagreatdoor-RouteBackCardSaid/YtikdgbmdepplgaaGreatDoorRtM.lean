/-
  Whether a RIB may be: the contract of route.Check. Nothing here is a statement of the document.
-/
import Derived.Test.YtikdgbmdepplgaaGreatDoorRtJ
namespace Go.Proofs.YtikdgbmdepplgaaGreatDoor
open Go.RowKit Go.Shelf
set_option linter.unusedVariables false
set_option maxRecDepth 100000
attribute [local go_sem ↓] load_ro_rule store_ro_rule roclear_rule
section
variable {P : Program} {ops : Array Oper} {Q : Exit → Act → World → Prop} {S : World → Prop}
/-- A call of a function value that has something behind its parameters. -/
theorem lin_fvC {o : Oper} {r : List Oper} {a : Act} {v : Value} {f : Nat} {cb : Array Value} {c : Call} {s : Operand} {args : Array Value} (hw : Region.wanted o (yielded ops a.tmps) = true) (ho : o.op = .call c) (hc : c.callee = .value s) (hs : a.eval s = .func (.func f) #[] cb) (he : ∀ args w, (callFunc f args).run P w = .ok (.enter f args) w)
    (hcl : ∀ w, S w → Calls P f (args ++ cb) w fun e w' => e = .returned v ∧ S w') (ha : c.args.map a.eval = args) (h : Lin P ops Q S r (a.put o.dst v)) : Lin P ops Q S (o :: r) a := by
  refine lin_call (f := f) (args := args ++ cb) hw (fun w => ?_) hcl h
  simp only [execOp, ho, resolve, hc, ha, hs, Deferred.ofValue, invoke, Sem.run_bind, Sem.run_pure, Result.andThen_ok]
  have e1 := he (#[] ++ args ++ cb) w
  simp only [Array.empty_append, Array.append_empty] at e1 ⊢
  exact e1
end
theorem bel_trans2 {B : Nat} {a b c : World} (h : Below B a b) (k : Below b.heap.size b c) (hB : B ≤ a.heap.size := by assumption) : Below B a c := h.trans (k.mono (Nat.le_trans hB h.size))
theorem take_set {M : List Ro} {k : Nat} {x : Ro} (h : k < M.length) : (M.set k x).take (k + 1) = M.take k ++ [x] := by
  rw [List.set_eq_take_append_cons_drop, if_pos h, List.take_append, List.length_take, List.take_of_length_le (by simp; omega), Nat.min_eq_left (by omega)]
  simp
set_option maxHeartbeats 8000000 in
theorem compact_any {w : World} {B g n c : Nat} {L : List Ro} (hO : OwnRo w B (.slice (some ⟨g, 0, none⟩) n c) L) (hs : n ≤ 100000) (hB : B ≤ w.heap.size) :
    Calls Tryz.prog 54 #[.slice (some ⟨g, 0, none⟩) n c, .func (.func 55) #[] #[]] w fun e w' => e = .returned (.slice (some ⟨g, 0, none⟩) (fstL L).length c) ∧ OwnRo w' B (.slice (some ⟨g, 0, none⟩) (fstL L).length c) (fstL L) ∧ Below B w w' := by
  obtain ⟨hBg, hgl, hn, hnc, hcm, hro⟩ := hO.lt
  have h0 : Below B w w := Below.refl _ _
  by_cases h2 : n < 2
  · have d2 : ((n : Int) < 2) := by omega
    have hf : fstL L = L := by
      unfold fstL
      rw [fstN_all _ (Nat.le_refl _) (fun j h1 h3 => by omega)]; simp
    have HE := Lib.hid (And.intro hO hf)
    clear hO hro hf
    go_enter Tryz.func54, Tryz.ntmps54
    go_wp2
    go_ret
    exact ⟨by rw [HE.out.2, ← hn]; rfl, by rw [HE.out.2, ← hn]; exact HE.out.1, h0⟩
  · have d2 : ¬ ((n : Int) < 2) := by omega
    have HO := Lib.hid (And.intro hO (And.intro hn hcm))
    clear hO hro hn hcm
    go_enter Tryz.func54, Tryz.ntmps54
    go_wp2_with fail
    go_loopw [5] (fun i wr => ∃ k : Nat, k + 1 ≤ n ∧ i = .int .i64 ((k : Int) + 1) ∧ (∀ j, 0 < j → j < k + 1 → (rog L j).p ≠ (rog L (j - 1)).p) ∧ Below w.heap.size w wr) (fun i _ => n - (intOf i).toNat)
    case atStart => exact ⟨0, by omega, rfl, fun j h1 h3 => by omega, Below.refl _ _⟩
    case round =>
      obtain ⟨k, hk, rfl, hok, hkb⟩ := hrel
      have hnL := HO.out.2.1
      by_cases hlt : k + 1 < n
      · have hltz : (k : Int) + 1 < (n : Int) := by omega
        have hk1 : (k : Int) < (n : Int) := by omega
        have hp1 : (0 : Int) ≤ (k : Int) + 1 := by omega
        have e1 : ((k : Int) + 1).toNat = k + 1 := by omega
        have hOr := HO.out.1.later hkb
        have hrow := hOr.lt.2.2.2.2.2
        have LR : ∀ w', Below wr.heap.size wr w' → (loadSem 50 (.pointer (some ⟨g, 0 + k * 21, none⟩))).run Tryz.prog w' = .ok (.agg (rog L k).cs) w' := fun w' h => (hrow.later h).load (i := k) (by rw [← hnL]; omega)
        have LS : ∀ w', Below wr.heap.size wr w' → (loadSem 50 (.pointer (some ⟨g, 0 + (k + 1) * 21, none⟩))).run Tryz.prog w' = .ok (.agg (rog L (k + 1)).cs) w' := fun w' h => (hrow.later h).load (i := k + 1) (by rw [← hnL]; omega)
        have h02 : Below wr.heap.size wr wr := Below.refl _ _
        have HC := onepre_any (rog L (k + 1)) (rog L k)
        simp only [Nat.zero_add] at LR LS
        clear hrow hOr hnL
        by_cases he : (rog L (k + 1)).p = (rog L k).p
        · rw [decide_eq_true he] at HC
          have HK := Lib.hid (And.intro hok (And.intro hkb he))
          clear hok he hkb
          go_upto_region 6 with fail
          refine wp_region_lin (fun w' => Below wr.heap.size wr w') (by kernel_rfl) (by kernel_rfl) (bel_drew (by assumption)) ?_
          (repeat (first | (refine lin_off (by rfl) ?_; (try simp only [Act.put, List.setIfInBounds_toArray, List.set_cons_zero, List.set_cons_succ])) | (refine lin_op (v := ?_) (by rfl) (fun w9 hS9 => ?_) ?_; rotate_left; (focus (((try dsimp only at hS9); go_simp; (try go_bits)) <;> with_reducible rfl)); (try simp only [Act.put, List.setIfInBounds_toArray, List.set_cons_zero, List.set_cons_succ])) | (refine lin_fvC (f := 55) (cb := #[]) (by rfl) rfl rfl (by rfl) (enters_of Tryz.func55 (by kernel_rfl) rfl) (fun w9 hS9 => (HC w9).mono fun e w' h => ⟨h.1, bel_trans hS9 h.2⟩) ?_ ?_; (focus (simp [Act.eval]; done)); (try simp only [Act.put, List.setIfInBounds_toArray, List.set_cons_zero, List.set_cons_succ]))))
          refine lin_nil (fun w2 hb2 => ?_)
          have HB2 := Lib.hid (And.intro hb2 h02)
          clear LR LS HC hb2 h02
          by_cases hck : c = k + 1
          · exact absurd hck (by omega)
          go_wp2_with fail
          go_loopw [5, 7] (fun i5 i7 wi => ∃ m q : Nat, i5 = .int .i64 (m : Int) ∧ i7 = .int .i64 ((q : Int) + 1) ∧ k + q + 2 ≤ n ∧ m ≤ k + q + 1 ∧ m = (fstN L (k + q + 2)).length ∧ (∃ M, OwnRo wi B (.slice (some ⟨g, 0, none⟩) n c) M ∧ M.take m = fstN L (k + q + 2) ∧ ∀ j, k + q + 1 ≤ j → rog M j = rog L j) ∧ Below B w wi) (fun _ i7 _ => n - (intOf i7).toNat)
          case atStart =>
            have h1 : fstN L (k + 2) = L.take (k + 1) := by
              rw [fstN_old (by omega) HK.out.2.2, fstN_all (k + 1) (by rw [← HO.out.2.1]; omega) HK.out.1]
            have hl : (L.take (k + 1)).length = k + 1 := by rw [List.length_take, ← HO.out.2.1]; omega
            have hk9 : Below w.heap.size w w2 := bel_trans HK.out.2.1 HB2.out.1
            exact ⟨k + 1, 0, rfl, rfl, by omega, by omega, by rw [Nat.add_zero, h1, hl], ⟨L, HO.out.1.later hk9, by rw [Nat.add_zero, h1], fun j hj => rfl⟩, hk9.mono hB⟩
          case round =>
            obtain ⟨m, q, rfl, rfl, hq, hmq, hml, ⟨M, hOM, hMt, hMd⟩, hbw⟩ := hrel
            have hn9 := hOM.lt.2.2.1
            by_cases hlt2 : k + q + 2 < n
            · have i1 : (q : Int) + 1 < ((n - (k + 1) : Nat) : Int) := by omega
              have i2 : (q : Int) < ((n - (k + 1) : Nat) : Int) := by omega
              have i3 : (0 : Int) ≤ (q : Int) + 1 := by omega
              have i4 : ((q : Int) + 1).toNat = q + 1 := by omega
              have hrow := hOM.lt.2.2.2.2.2
              have LR : ∀ w', Below wr.heap.size wr w' → (loadSem 50 (.pointer (some ⟨g, (k + 1) * 21 + q * 21, none⟩))).run Tryz.prog w' = .ok (.agg (rog L (k + q + 1)).cs) w' := fun w' h => by
                have h9 := (hrow.later h).load (i := k + q + 1) (by rw [← hn9]; omega)
                rw [hMd _ (by omega), show 0 + (k + q + 1) * 21 = (k + 1) * 21 + q * 21 by omega] at h9
                exact h9
              have LS : ∀ w', Below wr.heap.size wr w' → (loadSem 50 (.pointer (some ⟨g, (k + 1) * 21 + (q + 1) * 21, none⟩))).run Tryz.prog w' = .ok (.agg (rog L (k + q + 2)).cs) w' := fun w' h => by
                have h9 := (hrow.later h).load (i := k + q + 2) (by rw [← hn9]; omega)
                rw [hMd _ (by omega), show 0 + (k + q + 2) * 21 = (k + 1) * 21 + (q + 1) * 21 by omega] at h9
                exact h9
              have HC := onepre_any (rog L (k + q + 2)) (rog L (k + q + 1))
              have h03 : Below wr.heap.size wr wr := Below.refl _ _
              have HM := Lib.hid (And.intro hml (And.intro hOM (And.intro hMt (And.intro hMd (And.intro hbw hn9)))))
              clear hrow hml hOM hMt hMd hbw hn9
              by_cases he2 : (rog L (k + q + 2)).p = (rog L (k + q + 1)).p
              · rw [decide_eq_true he2] at HC
                have HE := Lib.hid he2
                clear he2
                go_upto_region 11 with fail
                refine wp_region_lin (fun w' => Below wr.heap.size wr w') (by kernel_rfl) (by kernel_rfl) (bel_drew (by assumption)) ?_
                (repeat (first | (refine lin_off (by rfl) ?_; (try simp only [Act.put, List.setIfInBounds_toArray, List.set_cons_zero, List.set_cons_succ])) | (refine lin_op (v := ?_) (by rfl) (fun w9 hS9 => ?_) ?_; rotate_left; (focus (((try dsimp only at hS9); go_simp; (try go_bits)) <;> with_reducible rfl)); (try simp only [Act.put, List.setIfInBounds_toArray, List.set_cons_zero, List.set_cons_succ])) | (refine lin_fvC (f := 55) (cb := #[]) (by rfl) rfl rfl (by rfl) (enters_of Tryz.func55 (by kernel_rfl) rfl) (fun w9 hS9 => (HC w9).mono fun e w' h => ⟨h.1, bel_trans hS9 h.2⟩) ?_ ?_; (focus (simp [Act.eval]; done)); (try simp only [Act.put, List.setIfInBounds_toArray, List.set_cons_zero, List.set_cons_succ]))))
                refine lin_nil (fun w3 hb3 => ?_)
                go_wp2
                go_roundw
                case rel =>
                  have h1 : fstN L (k + (q + 1) + 2) = fstN L (k + q + 2) := fstN_old (m := k + q + 2) (by omega) HE.out
                  exact ⟨m, q + 1, rfl, by go_num, by omega, by omega, by rw [h1]; exact HM.out.1, ⟨M, HM.out.2.1.later hb3, by rw [h1]; exact HM.out.2.2.1, fun j hj => HM.out.2.2.2.1 j (by omega)⟩, bel_trans2 HM.out.2.2.2.2.1 hb3⟩
                case measure => simp [intOf]; omega
              · rw [decide_eq_false he2] at HC
                have HE := Lib.hid he2
                clear he2
                go_upto_region 11 with fail
                refine wp_region_lin (fun w' => Below wr.heap.size wr w') (by kernel_rfl) (by kernel_rfl) (bel_drew (by assumption)) ?_
                (repeat (first | (refine lin_off (by rfl) ?_; (try simp only [Act.put, List.setIfInBounds_toArray, List.set_cons_zero, List.set_cons_succ])) | (refine lin_op (v := ?_) (by rfl) (fun w9 hS9 => ?_) ?_; rotate_left; (focus (((try dsimp only at hS9); go_simp; (try go_bits)) <;> with_reducible rfl)); (try simp only [Act.put, List.setIfInBounds_toArray, List.set_cons_zero, List.set_cons_succ])) | (refine lin_fvC (f := 55) (cb := #[]) (by rfl) rfl rfl (by rfl) (enters_of Tryz.func55 (by kernel_rfl) rfl) (fun w9 hS9 => (HC w9).mono fun e w' h => ⟨h.1, bel_trans hS9 h.2⟩) ?_ ?_; (focus (simp [Act.eval]; done)); (try simp only [Act.put, List.setIfInBounds_toArray, List.set_cons_zero, List.set_cons_succ]))))
                refine lin_nil (fun w3 hb3 => ?_)
                have hOM3 := HM.out.2.1.later hb3
                have LS3 := LS w3 hb3
                obtain ⟨w4, hst, hO4, hb4⟩ := roset_run (k := m) (x := rog L (k + q + 2)) hOM3 (by omega)
                have i5 : (m : Int) < (n : Int) := by omega
                have HW := Lib.hid (And.intro hO4 (And.intro hb3 hb4))
                clear hO4 hb4 hOM3 LR LS HC hb3
                go_wp2
                go_roundw
                case rel =>
                  have h1 : fstN L (k + (q + 1) + 2) = fstN L (k + q + 2) ++ [rog L (k + q + 2)] := fstN_new (m := k + q + 2) (.inr HE.out)
                  have h2 : (M.set m (rog L (k + q + 2))).length = n := by rw [List.length_set]; exact HM.out.2.2.2.2.2.symm
                  refine ⟨m + 1, q + 1, by go_num, by go_num, by omega, by omega, by rw [h1, List.length_append, ← HM.out.1]; rfl, ⟨_, HW.out.1, ?_, fun j hj => ?_⟩, (bel_trans2 HM.out.2.2.2.2.1 HW.out.2.1).trans HW.out.2.2⟩
                  · rw [take_set (by rw [← HM.out.2.2.2.2.2]; omega), h1, HM.out.2.2.1]
                  · rw [rog_set (by rw [← HM.out.2.2.2.2.2]; omega), if_neg (by omega), HM.out.2.2.2.1 j (by omega)]
                case measure => simp [intOf]; omega
            · obtain ⟨w5, hcl, hO5, hb5⟩ := roclear_own (m := m) hOM (by omega)
              have i1 : ¬ ((q : Int) + 1 < ((n - (k + 1) : Nat) : Int)) := by omega
              have i2 : (m : Int) ≤ (n : Int) := by omega
              have i3 : ¬ (c = m) := by omega
              have i4 : m ≤ n := by omega
              have i5 : m ≤ c := by omega
              have hqn : k + q + 2 = n := by omega
              have HF := Lib.hid (show m = (fstL L).length ∧ OwnRo w5 B (.slice (some ⟨g, 0, none⟩) m c) (fstL L) ∧ Below B w w5 by
                have e9 : fstL L = fstN L (k + q + 2) := by rw [fstL, ← HO.out.2.1, hqn]
                rw [e9, ← hMt]
                refine ⟨?_, hO5, hbw.trans hb5⟩
                rw [hMt]; exact hml)
              clear hml hOM hMt hMd hbw hn9 hO5 hb5
              go_wp2
              go_ret
              exact ⟨by rw [← HF.out.1]; rfl, by rw [← HF.out.1]; exact HF.out.2.1, HF.out.2.2⟩
        · rw [decide_eq_false he] at HC
          have HK := Lib.hid (And.intro hok (And.intro hkb he))
          clear hok he hkb
          go_upto_region 6 with fail
          refine wp_region_lin (fun w' => Below wr.heap.size wr w') (by kernel_rfl) (by kernel_rfl) (bel_drew (by assumption)) ?_
          (repeat (first | (refine lin_off (by rfl) ?_; (try simp only [Act.put, List.setIfInBounds_toArray, List.set_cons_zero, List.set_cons_succ])) | (refine lin_op (v := ?_) (by rfl) (fun w9 hS9 => ?_) ?_; rotate_left; (focus (((try dsimp only at hS9); go_simp; (try go_bits)) <;> with_reducible rfl)); (try simp only [Act.put, List.setIfInBounds_toArray, List.set_cons_zero, List.set_cons_succ])) | (refine lin_fvC (f := 55) (cb := #[]) (by rfl) rfl rfl (by rfl) (enters_of Tryz.func55 (by kernel_rfl) rfl) (fun w9 hS9 => (HC w9).mono fun e w' h => ⟨h.1, bel_trans hS9 h.2⟩) ?_ ?_; (focus (simp [Act.eval]; done)); (try simp only [Act.put, List.setIfInBounds_toArray, List.set_cons_zero, List.set_cons_succ]))))
          refine lin_nil (fun w2 hb2 => ?_)
          go_wp2
          go_roundw
          case rel => exact ⟨k + 1, by omega, by go_num, fun j h1 h3 => by
            by_cases e : j = k + 1
            · rw [e]; exact HK.out.2.2
            · exact HK.out.1 j h1 (by omega), bel_trans HK.out.2.1 hb2⟩
          case measure => simp [intOf]; omega
      · have hnk : n = k + 1 := by omega
        have i1 : ¬ ((k : Int) + 1 < (n : Int)) := by omega
        have HF := Lib.hid (show n = (fstL L).length ∧ fstL L = L by
          have h9 : fstL L = L := by
            rw [fstL, ← hnL, fstN_all n (by omega) (fun j h1 h2 => hok j h1 (by omega)), hnL]; simp
          exact ⟨by rw [h9]; exact hnL, h9⟩)
        have HK := Lib.hid hkb
        clear hok hkb hnL hnk
        go_wp2
        go_ret
        exact ⟨by rw [← HF.out.1]; rfl, by rw [← HF.out.1, HF.out.2]; exact HO.out.1.later HK.out, HK.out.mono hB⟩
end Go.Proofs.YtikdgbmdepplgaaGreatDoor
namespace Go.Proofs.YtikdgbmdepplgaaGreatDoor
open Go.RowKit Go.Shelf
set_option linter.unusedVariables false
set_option maxRecDepth 100000
attribute [local go_sem ↓] load_ro_rule store_ro_rule roclear_rule
theorem compact_none (w : World) :
    Calls Tryz.prog 54 #[.slice none 0 0, .func (.func 55) #[] #[]] w fun e w' => e = .returned (.slice none 0 0) ∧ w' = w := by
  go_enter Tryz.func54, Tryz.ntmps54
  go_wp2
  go_ret
  exact ⟨rfl, rfl⟩
set_option maxHeartbeats 1600000 in
theorem firsts_any (a : Option Addr) (n c : Nat) (L : List Ro) (w : World) (hn : L.length = n) (hs : n ≤ 1000) (hR : RoAt w a L) (h0 : a = none → c = 0) :
    Calls Tryz.prog 37 #[.slice a n c] w fun e w' => ∃ v, e = .returned v ∧ OwnRo w' w.heap.size v (fstL L) ∧ Below w.heap.size w w' := by
  have HC := roclone_any a n c L w hn hs hR h0
  clear h0 hR
  go_enter Tryz.func37, Tryz.ntmps37
  go_wp2_with fail
  refine HC.mono ?_
  rintro e w2 ⟨v, rfl, hO, hb⟩
  clear HC
  rcases hO.2 with ⟨h9, h8⟩ | ⟨g, cap, cur, h9, hO2⟩
  · have hL : L = [] := List.eq_nil_of_length_eq_zero h8
    have HE := Lib.hid (show OwnRo w2 w.heap.size (.slice none 0 0) (fstL L) by subst hL; exact World.ownsRow_nil _ _ _ _)
    have HC := compact_none w2
    subst h9
    clear hO
    go_wp2_with fail
    refine HC.mono ?_
    rintro e w3 ⟨rfl, rfl⟩
    go_wp2_with fail
    go_ret
    exact ⟨_, rfl, HE.out, hb⟩
  · subst h9
    have HC := compact_any hO (by omega) hb.size
    clear hO hO2 hn
    go_wp2_with fail
    refine HC.mono ?_
    rintro e w3 ⟨rfl, hO3, hb3⟩
    go_wp2_with fail
    go_ret
    exact ⟨_, rfl, hO3, hb.trans hb3⟩
end Go.Proofs.YtikdgbmdepplgaaGreatDoor
namespace Go.Proofs.YtikdgbmdepplgaaGreatDoor
open Go.RowKit Go.Shelf
set_option linter.unusedVariables false
set_option maxRecDepth 100000
attribute [local go_sem ↓] load_ro_rule store_ro_rule
/-- A RIB. -/
def okRib (L : List Ro) : Prop := (∀ j, j < L.length → okRo (rog L j)) ∧ (∀ j, j + 1 < L.length → cmpR (rog L j) (rog L (j + 1)) < 0) ∧ (fstL L).length ≤ 40
noncomputable instance (L : List Ro) : Decidable (okRib L) := Classical.propDecidable _
noncomputable def ribE (L : List Ro) : Int := if okRib L then 0 else 211
theorem load_rib_rule (v : Value) : Instr.loadAt 24 v = loadSem 24 v := rfl
theorem store_rib_rule (v x : Value) : Instr.storeAt 24 v x = storeSem 24 v x := rfl
attribute [local go_sem ↓] load_rib_rule store_rib_rule
theorem st_ronew {w W : World} {g : Nat} {q : Ro} (h : Blk W g 50 Ro.zero.cs) : (storeSem 50 (.pointer (some ⟨g, 0, none⟩)) (.agg q.cs)).run Tryz.prog W = .ok () (W.setRow g q.cs) := st_ro h
/-- A candidate in a new block. -/
theorem ro_new (x : Ro) (w : World) : ∃ W, (storeSem 50 (.pointer (some ⟨w.heap.size, 0, none⟩)) (.agg x.cs)).run Tryz.prog (w.alloc (.cells Ro.zero.cs 50)) = .ok () W ∧ Blk W w.heap.size 50 x.cs ∧ Below w.heap.size w W :=
  ⟨_, st_ro (Blk.new w _ _), Blk.row (Blk.new w _ _) _, below_setRow ((Below.refl _ _).alloc (Nat.le_refl _) _) (Nat.le_refl _) _⟩
set_option maxHeartbeats 2000000 in
theorem rcheck_any (a : Option Addr) (n c : Nat) (L : List Ro) (w : World) (hW : Wid w) (hn : L.length = n) (hs : n ≤ 1000) (hR : RoAt w a L) (h0 : a = none → c = 0) :
    Calls Tryz.prog 16 #[.agg #[.slice a n c]] w fun e w' => e = .returned (.int .i64 (ribE L)) ∧ Below w.heap.size w w' := by
  obtain ⟨W1, hW1⟩ : ∃ W1, w.alloc (.cells #[.slice a n c] 24) = W1 := ⟨_, rfl⟩
  have hb1 : Below w.heap.size w W1 := by rw [← hW1]; exact (Below.refl _ _).alloc (Nat.le_refl _) _
  have b1 : Blk W1 w.heap.size 24 #[.slice a n c] := by rw [← hW1]; exact Blk.new _ _ _
  have CT : ∀ w', Below W1.heap.size W1 w' → w'.cell? ⟨w.heap.size, 0, none⟩ = some (.slice a n c) := fun w' k => (b1.later k).cell 0
  have HR : ∀ w', Below W1.heap.size W1 w' → RoAt w' a L := fun w' h => (hR.later hb1).later h
  have HB := Lib.hid (And.intro hb1 (And.intro (hW.later hb1) (And.intro h0 hn)))
  have HRI := rising_any W1
  clear hb1 b1 hR hW h0 hn
  go_enter Tryz.func16, Tryz.ntmps16
  go_wp2_with fail
  refine HRI.mono ?_
  rintro e W2 ⟨ob, sb, rfl, hris, _, _, hb2⟩
  unfold byF
  have CT2 := CT W2 hb2
  clear HRI
  go_wp2_with fail
  go_loopw [10] (fun i wr => ∃ k : Nat, k ≤ n ∧ i = .int .i64 (k : Int) ∧ (∀ j, j < k → okRo (rog L j)) ∧ (∀ j, j + 1 < k → cmpR (rog L j) (rog L (j + 1)) < 0) ∧ Below W2.heap.size W2 wr) (fun i _ => n - (intOf i).toNat)
  case atStart => exact ⟨0, Nat.zero_le _, rfl, fun j hj => absurd hj (Nat.not_lt_zero _), fun j hj => absurd hj (Nat.not_lt_zero _), Below.refl _ _⟩
  case round =>
    obtain ⟨k, hk, rfl, hok, hup, hkb⟩ := hrel
    have hnL := HB.out.2.2.2
    have hb0 : Below W1.heap.size W1 wr := bel_trans hb2 hkb
    by_cases hlt : k < n
    · have hkl : k < L.length := by omega
      obtain ⟨g, o, hao, hrow⟩ := (HR wr hb0).spot hkl
      have LK := hrow.load hkl
      obtain ⟨W3, hst, hblk, hb3⟩ := ro_new (rog L k) wr
      have LX := ro_r hblk
      have CT3 : ∀ w', Below W3.heap.size W3 w' → w'.cell? ⟨w.heap.size, 0, none⟩ = some (.slice a n c) := fun w' h => CT w' (bel_trans hb0 (bel_trans hb3 h))
      have HCR := fun w' (h : Below W3.heap.size W3 w') => isroute_any (rog L k) w' (HB.out.2.1.later (bel_trans hb0 (bel_trans hb3 h)))
      have h03 : Below W3.heap.size W3 W3 := Below.refl _ _
      have HRow := Lib.hid hrow
      have HK := Lib.hid (And.intro hok (And.intro hup (And.intro hkb (And.intro hb0 (And.intro hb3 (And.intro hkl hnL))))))
      have HRis := Lib.hid hris
      have HCT0 := Lib.hid (And.intro hb2 CT)
      have HR' := Lib.hid HR
      clear hrow hok hup hb0 hkb hb3 hblk CT2 CT HR hris hb2 hnL
      subst hao
      by_cases he : okRo (rog L k)
      · simp only [decide_eq_true he] at HCR
        by_cases hk0 : k = 0
        · subst hk0
          simp only [Nat.zero_mul, Nat.add_zero] at LK
          go_upto_region 5 with (with_reducible refine wpList_alloc_z rfl 50 rfl Ro.zero.cs 21 z_ro ?_)
          refine wp_region_lin (fun w' => Below W3.heap.size W3 w') (by kernel_rfl) (by kernel_rfl) (bel_drew h03) ?_
          (repeat (first | (refine lin_off (by rfl) ?_; (try simp only [Act.put, List.setIfInBounds_toArray, List.set_cons_zero, List.set_cons_succ])) | (refine lin_op (v := ?_) (by rfl) (fun w9 hS9 => ?_) ?_; rotate_left; (focus (((try dsimp only at hS9); go_simp; (try go_bits)) <;> with_reducible rfl)); (try simp only [Act.put, List.setIfInBounds_toArray, List.set_cons_zero, List.set_cons_succ])) | (refine lin_fn (f := 40) (args := #[.agg (rog L 0).cs]) (by rfl) rfl rfl (enters_of Tryz.func40 (by kernel_rfl) rfl) (fun w9 hS9 => (HCR w9 hS9).mono fun e w' h => ⟨h.1, bel_trans hS9 h.2⟩) ?_ ?_; (focus (simp [Act.eval]; done)); (try simp only [Act.put, List.setIfInBounds_toArray, List.set_cons_zero, List.set_cons_succ])) | (refine lin_fvC (f := 72) (cb := #[.pointer (some ⟨ob, 0, none⟩)]) (args := #[.agg (rog L m).cs, .agg (rog L (m + 1)).cs]) (by rfl) rfl rfl (by rfl) (enters_of Tryz.func72 (by kernel_rfl) rfl) (fun w9 hS9 => (HCT w9 hS9).mono fun e w' h => ⟨h.1, bel_trans hS9 h.2.below⟩) ?_ ?_; (focus (simp [Act.eval]; done)); (try simp only [Act.put, List.setIfInBounds_toArray, List.set_cons_zero, List.set_cons_succ]))))
          refine lin_nil (fun w4 hb4 => ?_)
          go_wp2
          go_roundw
          case rel => exact ⟨0 + 1, by omega, by go_num, fun j hj => by
            obtain rfl : j = 0 := by omega
            exact he, fun j hj => by omega, bel_trans HK.out.2.2.1 (bel_trans HK.out.2.2.2.2.1 hb4)⟩
          case measure => simp [intOf]; omega
        · obtain ⟨m, rfl⟩ : ∃ m, k = m + 1 := ⟨k - 1, by omega⟩
          have LP : ∀ w', Below W3.heap.size W3 w' → (loadSem 50 (.pointer (some ⟨g, o + m * 21, none⟩))).run Tryz.prog w' = .ok (.agg (rog L m).cs) w' := fun w' h => ((HRow.out.later HK.out.2.2.2.2.1).later h).load (i := m) (by have := HK.out.2.2.2.2.2.1; omega)
          have HCT := fun w' (h : Below W3.heap.size W3 w') => Ris_any (rog L m) (rog L (m + 1)) ob sb w' (HRis.out.later (bel_trans HK.out.2.2.1 (bel_trans HK.out.2.2.2.2.1 h)))
          have e1 : ((m : Int) + 1).toNat = m + 1 := by omega
          have g0 : (0 : Int) < (m : Int) + 1 := by omega
          have g1 : (m : Int) < (n : Int) := by omega
          have g2 : (0 : Int) ≤ (m : Int) + 1 := by omega
          have g3 : (m : Int) + 1 < (n : Int) := by omega
          obtain ⟨v, hv⟩ : ∃ v, cmpR (rog L m) (rog L (m + 1)) = v := ⟨_, rfl⟩
          rw [hv] at HCT
          by_cases hvl : v < 0
          · have d0 : ¬ (0 ≤ v) := by omega
            have HV := Lib.hid (And.intro hv hvl)
            clear hv hvl
            go_upto_region 5 with (with_reducible refine wpList_alloc_z rfl 50 rfl Ro.zero.cs 21 z_ro ?_)
            refine wp_region_lin (fun w' => Below W3.heap.size W3 w') (by kernel_rfl) (by kernel_rfl) (bel_drew h03) ?_
            (repeat (first | (refine lin_off (by rfl) ?_; (try simp only [Act.put, List.setIfInBounds_toArray, List.set_cons_zero, List.set_cons_succ])) | (refine lin_op (v := ?_) (by rfl) (fun w9 hS9 => ?_) ?_; rotate_left; (focus (((try dsimp only at hS9); go_simp; (try go_bits)) <;> with_reducible rfl)); (try simp only [Act.put, List.setIfInBounds_toArray, List.set_cons_zero, List.set_cons_succ])) | (refine lin_fn (f := 40) (args := #[.agg (rog L (m + 1)).cs]) (by rfl) rfl rfl (enters_of Tryz.func40 (by kernel_rfl) rfl) (fun w9 hS9 => (HCR w9 hS9).mono fun e w' h => ⟨h.1, bel_trans hS9 h.2⟩) ?_ ?_; (focus (simp [Act.eval]; done)); (try simp only [Act.put, List.setIfInBounds_toArray, List.set_cons_zero, List.set_cons_succ])) | (refine lin_fvC (f := 72) (cb := #[.pointer (some ⟨ob, 0, none⟩)]) (args := #[.agg (rog L m).cs, .agg (rog L (m + 1)).cs]) (by rfl) rfl rfl (by rfl) (enters_of Tryz.func72 (by kernel_rfl) rfl) (fun w9 hS9 => (HCT w9 hS9).mono fun e w' h => ⟨h.1, bel_trans hS9 h.2.below⟩) ?_ ?_; (focus (simp [Act.eval]; done)); (try simp only [Act.put, List.setIfInBounds_toArray, List.set_cons_zero, List.set_cons_succ]))))
            refine lin_nil (fun w4 hb4 => ?_)
            go_wp2
            go_roundw
            case rel => exact ⟨m + 1 + 1, by omega, by go_num, fun j hj => by
              by_cases e : j = m + 1
              · rw [e]; exact he
              · exact HK.out.1 j (by omega), fun j hj => by
              by_cases e : j = m
              · rw [e, HV.out.1]; exact HV.out.2
              · exact HK.out.2.1 j (by omega), bel_trans HK.out.2.2.1 (bel_trans HK.out.2.2.2.2.1 hb4)⟩
            case measure => simp [intOf]; omega
          · have d0 : 0 ≤ v := by omega
            have HV := Lib.hid (show ribE L = 211 from if_neg fun h => by
              have h1 := h.2.1 m HK.out.2.2.2.2.2.1
              rw [hv] at h1; exact hvl h1)
            clear hv hvl
            go_upto_region 5 with (with_reducible refine wpList_alloc_z rfl 50 rfl Ro.zero.cs 21 z_ro ?_)
            refine wp_region_lin (fun w' => Below W3.heap.size W3 w') (by kernel_rfl) (by kernel_rfl) (bel_drew h03) ?_
            (repeat (first | (refine lin_off (by rfl) ?_; (try simp only [Act.put, List.setIfInBounds_toArray, List.set_cons_zero, List.set_cons_succ])) | (refine lin_op (v := ?_) (by rfl) (fun w9 hS9 => ?_) ?_; rotate_left; (focus (((try dsimp only at hS9); go_simp; (try go_bits)) <;> with_reducible rfl)); (try simp only [Act.put, List.setIfInBounds_toArray, List.set_cons_zero, List.set_cons_succ])) | (refine lin_fn (f := 40) (args := #[.agg (rog L (m + 1)).cs]) (by rfl) rfl rfl (enters_of Tryz.func40 (by kernel_rfl) rfl) (fun w9 hS9 => (HCR w9 hS9).mono fun e w' h => ⟨h.1, bel_trans hS9 h.2⟩) ?_ ?_; (focus (simp [Act.eval]; done)); (try simp only [Act.put, List.setIfInBounds_toArray, List.set_cons_zero, List.set_cons_succ])) | (refine lin_fvC (f := 72) (cb := #[.pointer (some ⟨ob, 0, none⟩)]) (args := #[.agg (rog L m).cs, .agg (rog L (m + 1)).cs]) (by rfl) rfl rfl (by rfl) (enters_of Tryz.func72 (by kernel_rfl) rfl) (fun w9 hS9 => (HCT w9 hS9).mono fun e w' h => ⟨h.1, bel_trans hS9 h.2.below⟩) ?_ ?_; (focus (simp [Act.eval]; done)); (try simp only [Act.put, List.setIfInBounds_toArray, List.set_cons_zero, List.set_cons_succ]))))
            refine lin_nil (fun w4 hb4 => ?_)
            go_wp2
            go_ret
            exact ⟨by rw [HV.out]; rfl, bel_trans HB.out.1 (bel_trans HK.out.2.2.2.1 (bel_trans HK.out.2.2.2.2.1 hb4))⟩
      · simp only [decide_eq_false he] at HCR
        have HV := Lib.hid (show ribE L = 211 from if_neg fun h => he (h.1 k HK.out.2.2.2.2.2.1))
        clear he
        go_upto_region 5 with (with_reducible refine wpList_alloc_z rfl 50 rfl Ro.zero.cs 21 z_ro ?_)
        refine wp_region_lin (fun w' => Below W3.heap.size W3 w') (by kernel_rfl) (by kernel_rfl) (bel_drew h03) ?_
        (repeat (first | (refine lin_off (by rfl) ?_; (try simp only [Act.put, List.setIfInBounds_toArray, List.set_cons_zero, List.set_cons_succ])) | (refine lin_op (v := ?_) (by rfl) (fun w9 hS9 => ?_) ?_; rotate_left; (focus (((try dsimp only at hS9); go_simp; (try go_bits)) <;> with_reducible rfl)); (try simp only [Act.put, List.setIfInBounds_toArray, List.set_cons_zero, List.set_cons_succ])) | (refine lin_fn (f := 40) (args := #[.agg (rog L k).cs]) (by rfl) rfl rfl (enters_of Tryz.func40 (by kernel_rfl) rfl) (fun w9 hS9 => (HCR w9 hS9).mono fun e w' h => ⟨h.1, bel_trans hS9 h.2⟩) ?_ ?_; (focus (simp [Act.eval]; done)); (try simp only [Act.put, List.setIfInBounds_toArray, List.set_cons_zero, List.set_cons_succ])) | (refine lin_fvC (f := 72) (cb := #[.pointer (some ⟨ob, 0, none⟩)]) (args := #[.agg (rog L m).cs, .agg (rog L (m + 1)).cs]) (by rfl) rfl rfl (by rfl) (enters_of Tryz.func72 (by kernel_rfl) rfl) (fun w9 hS9 => (HCT w9 hS9).mono fun e w' h => ⟨h.1, bel_trans hS9 h.2.below⟩) ?_ ?_; (focus (simp [Act.eval]; done)); (try simp only [Act.put, List.setIfInBounds_toArray, List.set_cons_zero, List.set_cons_succ]))))
        refine lin_nil (fun w4 hb4 => ?_)
        go_wp2
        go_ret
        exact ⟨by rw [HV.out]; rfl, bel_trans HB.out.1 (bel_trans HK.out.2.2.2.1 (bel_trans HK.out.2.2.2.2.1 hb4))⟩
    · have hkn : k = n := by omega
      have HF := firsts_any a n c L wr hnL hs (HR wr hb0) HB.out.2.2.1
      have CT3 := CT wr hb0
      have i1 : ¬ ((k : Int) < (n : Int)) := by omega
      have HK := Lib.hid (And.intro hok (And.intro hup (And.intro hb0 (And.intro hkn hnL))))
      clear hok hup hkb hb0 hkn hnL CT CT2 HR hris hb2
      go_wp2_with fail
      refine HF.mono ?_
      rintro e W3 ⟨v, rfl, hO, hb3⟩
      obtain ⟨a3, c3, rfl, _, _, _, _⟩ := hO.lies
      have HK3 := Lib.hid hb3
      clear hO hb3 HF
      by_cases hl : (fstL L).length ≤ 40
      · have d0 : ¬ ((40 : Int) < ((fstL L).length : Int)) := by omega
        have HV := Lib.hid (show ribE L = 0 from if_pos ⟨fun j hj => HK.out.1 j (by rw [HK.out.2.2.2.1, ← HK.out.2.2.2.2]; exact hj), fun j hj => HK.out.2.1 j (by rw [HK.out.2.2.2.1, ← HK.out.2.2.2.2]; exact hj), hl⟩)
        clear hl
        go_wp2_with fail
        go_ret
        exact ⟨by rw [HV.out]; rfl, bel_trans HB.out.1 (bel_trans HK.out.2.2.1 HK3.out)⟩
      · have d0 : (40 : Int) < ((fstL L).length : Int) := by omega
        have HV := Lib.hid (show ribE L = 211 from if_neg fun h => hl h.2.2)
        clear hl
        go_wp2_with fail
        go_ret
        exact ⟨by rw [HV.out]; rfl, bel_trans HB.out.1 (bel_trans HK.out.2.2.1 HK3.out)⟩
end Go.Proofs.YtikdgbmdepplgaaGreatDoor
