/-
  slices.Delete of one row out of rows that a call owns. Nothing here is a statement of the document.
-/
import Derived.Test.YtfnagfmbhcaphaaDoorTbL
namespace Go.Proofs.YtfnagfmbhcaphaaDoor
open Go.RowKit Go.Shelf
set_option linter.unusedVariables false
set_option maxRecDepth 100000

def tclearSem (ty : TypeId) (args : Array Value) : Sem Value := Builtin.clear_ #[22] ty args
theorem tclear_rule (ty : TypeId) (args : Array Value) : Builtin.clear_ #[22] ty args = tclearSem ty args := rfl
theorem zero_once : (Builtin.zeroCells (Value.agg Rt.zero.cs).cells 1).toList = Rt.zero.cs.toList := by kernel_rfl
theorem tclear_run {w : World} {g o k : Nat} {cur : Array Value} (ty : TypeId) (cc : Nat) (hk : k = 1) (hg : Blk w g 43 cur) (hcur : o + 19 ≤ cur.size) :
    (tclearSem ty #[.slice (some ⟨g, o, none⟩) k cc]).run Tryd.prog w = .ok (.tuple #[]) (w.setRow g (layC o Rt.zero.cs.toList cur.toList).toArray) := by
  subst hk
  have h19 : Rt.zero.cs.toList.length = 19 := by simp [Rt.size]
  have hst := run_storeCells_at Tryd.prog g o 43 Rt.zero.cs.toList 0 cur w hg (by omega) (fun u hu => Array.all_eq_true_iff_forall_mem.1 Rt.zero.one u (by simpa using hu))
  have hz := (zero_of_info z_rt).1 w
  rw [Nat.add_zero] at hst
  unfold tclearSem layC
  simp [Builtin.clear_, run_underlying Tryd.underlying22, hz, zero_once, hst]
attribute [local go_sem ↓] tbuild_rule tapp_rule tcopy_rule tclear_rule
set_option maxHeartbeats 4000000 in
theorem del_walk {w W1 W2 : World} {g c i n m : Nat} {A : Addr} (hin : i < n) (hin2 : i ≤ n) (h1 : (0 : Int) ≤ (i : Int) + 1) (h3 : (i : Int) + 1 ≤ (n : Int)) (h4 : n ≤ c) (hm63 : c ≤ 9223372036854775807) (hne : ¬ ((i : Int) = (i : Int) + 1)) (e1 : ((i : Int) + 1).toNat = i + 1) (hic : i ≤ c) (hi1 : i + 1 ≤ n) (hi3 : (i : Int) ≤ (i : Int) + 1)
    (hA : (if c = i + 1 then (some ⟨g, 0, none⟩ : Option Addr) else some ⟨g, (i + 1) * 19, none⟩) = some A)
    (hap : ∀ ty : TypeId, (tappSem ty #[.slice (some ⟨g, 0, none⟩) i c, .slice (some A) (n - (i + 1)) (c - (i + 1))]).run Tryd.prog w.drew = .ok (.slice (some ⟨g, 0, none⟩) m c) W1)
    (hmc : ¬ (c = m)) (hmn : m ≤ n) (hmn2 : (m : Int) ≤ (n : Int)) (hnm : m ≤ c) (hcl : ∀ ty : TypeId, (tclearSem ty #[.slice (some ⟨g, m * 19, none⟩) (n - m) (c - m)]).run Tryd.prog W1 = .ok (.tuple #[]) W2) :
    Calls Tryd.prog 43 #[.slice (some ⟨g, 0, none⟩) n c, .int .i64 (i : Int), .int .i64 ((i : Int) + 1)] w fun e w' => e = .returned (.slice (some ⟨g, 0, none⟩) m c) ∧ w' = W2 := by
  go_enter Tryd.func43, Tryd.ntmps43
  have hap2 : ∀ ty : TypeId, (Builtin.append_ #[22, 22] ty #[.slice (some ⟨g, 0, none⟩) i c, .slice (some A) (n - (i + 1)) (c - (i + 1))]).run Tryd.prog w.drew = .ok (.slice (some ⟨g, 0, none⟩) m c) W1 := hap
  go_wp2_with fail
  refine wp_region_linX (fun _ => True) [6] [0, 1, 2, 3, 4, 5, 6, 7] (by kernel_rfl) (by kernel_rfl) trivial ?_
  (repeat (first | (refine linX_off rfl rfl (by rfl) ?_; (try simp only [Act.put, List.getElem_toArray, List.getElem_cons_zero, List.getElem_cons_succ, List.setIfInBounds_toArray, List.set_cons_zero, List.set_cons_succ])) | (refine linX_op (v := ?_) rfl rfl (by rfl) (fun w9 hS9 => ?_) ?_; rotate_left; (focus (((try dsimp only at hS9); go_simp; (try go_bits)) <;> with_reducible rfl)); (try simp only [Act.put, List.getElem_toArray, List.getElem_cons_zero, List.getElem_cons_succ, List.setIfInBounds_toArray, List.set_cons_zero, List.set_cons_succ])) ))
  refine linX_do (v := .slice (some ⟨g, 0, none⟩) m c) (w' := W1) rfl rfl (by rfl) ?_ trivial ?_; (focus (simp [execOp, resolve, invoke, builtin, Act.eval, hap2, Result.andThen]; done))
  (try simp only [Act.put, List.getElem_toArray, List.getElem_cons_zero, List.getElem_cons_succ, List.setIfInBounds_toArray, List.set_cons_zero, List.set_cons_succ])
  (repeat (first | (refine linX_off rfl rfl (by rfl) ?_; (try simp only [Act.put, List.getElem_toArray, List.getElem_cons_zero, List.getElem_cons_succ, List.setIfInBounds_toArray, List.set_cons_zero, List.set_cons_succ])) | (refine linX_op (v := ?_) rfl rfl (by rfl) (fun w9 hS9 => ?_) ?_; rotate_left; (focus (((try dsimp only at hS9); go_simp; (try go_bits)) <;> with_reducible rfl)); (try simp only [Act.put, List.getElem_toArray, List.getElem_cons_zero, List.getElem_cons_succ, List.setIfInBounds_toArray, List.set_cons_zero, List.set_cons_succ])) ))
  refine linX_nil ?_
  clear hap hap2 hA
  go_wp2
  go_ret
  exact ⟨rfl, rfl⟩
theorem delete_any {w : World} {B g c i : Nat} {L : List Rt} (h : OwnT w B (.slice (some ⟨g, 0, none⟩) L.length c) L) (hi : i < L.length) (hs : L.length ≤ 1000) (hB : B ≤ w.heap.size) :
    Calls Tryd.prog 43 #[.slice (some ⟨g, 0, none⟩) L.length c, .int .i64 (i : Int), .int .i64 ((i : Int) + 1)] w fun e w' => ∃ m, m = (L.eraseIdx i).length ∧ e = .returned (.slice (some ⟨g, 0, none⟩) m c) ∧ OwnT w' B (.slice (some ⟨g, 0, none⟩) m c) (L.eraseIdx i) ∧ Below B w w' := by
  rcases h.2 with ⟨h9, _⟩ | ⟨g', cap, cur, h9, hb, hg, hc, hm, hcs, ht⟩
  · cases h9
  · cases h9
    have hg1 : Blk w.drew g 43 cur := hg
    have hcells := own_cells (w := w.drew) hg1 ht
    obtain ⟨i0, hi0, hz0, hz1, hz2⟩ := info_parts info_rt
    obtain ⟨A, hA, hsrc⟩ : ∃ A : Addr, (if c = i + 1 then (some ⟨g, 0, none⟩ : Option Addr) else some ⟨g, (i + 1) * 19, none⟩) = some A ∧ ∀ j u, (rtcs (L.drop (i + 1)))[j]? = some u → w.drew.cell? (A.add j) = some u := by
      by_cases hci : c = i + 1
      · refine ⟨⟨g, 0, none⟩, if_pos hci, fun j u hj => ?_⟩
        rw [List.drop_eq_nil_of_le (by omega)] at hj
        simp [rtcs] at hj
      · refine ⟨⟨g, (i + 1) * 19, none⟩, if_neg hci, fun j u hj => ?_⟩
        rw [Addr.add_lit]
        rw [← rtcs_drop, List.getElem?_drop] at hj
        exact hcells _ _ hj
    have hpre : w.drew.ownsRow B 43 19 (.slice (some ⟨g, 0, none⟩) i c) i (rtcs (L.take i)) := by
      refine ⟨by rw [rtcs_len, List.length_take]; congr 1; omega, .inr ⟨g, c, cur, rfl, hb, hg, by omega, hm, hcs, ?_⟩⟩
      rw [← rtcs_take, ← ht, List.take_take]
      congr 1
      omega
    obtain ⟨m, hmm⟩ : ∃ m, i + (L.length - (i + 1)) = m := ⟨_, rfl⟩
    have hel : L.eraseIdx i = L.take i ++ L.drop (i + 1) := List.eraseIdx_eq_take_drop_succ L i
    have hlen : (L.eraseIdx i).length = m := by rw [List.length_eraseIdx]; split <;> omega
    have hap : ∃ W1, (∀ ty : TypeId, (tappSem ty #[.slice (some ⟨g, 0, none⟩) i c, .slice (some A) (L.length - (i + 1)) (c - (i + 1))]).run Tryd.prog w.drew = .ok (.slice (some ⟨g, 0, none⟩) m c) W1) ∧ W1.ownsRow B 43 19 (.slice (some ⟨g, 0, none⟩) m c) m (rtcs (L.eraseIdx i)) ∧ w.drew.grownBy W1 (some g) := by
      have hdl : (rtcs (L.drop (i + 1))).length = (L.length - (i + 1)) * 19 := by rw [rtcs_len, List.length_drop]
      obtain ⟨W1, q1, q2, q3⟩ := run_append_fits (P := Tryd.prog) w.drew B 22 22 43 i0 19 Tryd.underlying22 hi0 hz1 g i c (rtcs (L.take i)) hpre A (L.length - (i + 1)) (c - (i + 1)) (rtcs (L.drop (i + 1))) hdl hsrc (rtcs_all _) (by omega)
      rw [hmm] at q1 q2
      refine ⟨W1, fun ty => ?_, ?_, q3⟩
      · exact q1
      · rw [hel, rtcs_append]; exact q2
    obtain ⟨W1, hap, hown, hgr⟩ := hap
    have hown2 : OwnT W1 B (.slice (some ⟨g, 0, none⟩) m c) (L.eraseIdx i) := by
      show W1.ownsRow B _ 19 _ (L.eraseIdx i).length _
      rw [hlen]; exact hown
    rcases hown.2 with ⟨h8, _⟩ | ⟨g2, cap2, cur2, h8, hb2, hg2, hc2, hm2, hcs2, ht2⟩
    · cases h8
    · cases h8
      obtain ⟨W2, hW2⟩ : ∃ W2, W1.setRow g (layC (m * 19) Rt.zero.cs.toList cur2.toList).toArray = W2 := ⟨_, rfl⟩
      have hz19 : Rt.zero.cs.toList.length = 19 := by simp [Rt.size]
      have hcl : ∀ ty : TypeId, (tclearSem ty #[.slice (some ⟨g, m * 19, none⟩) (L.length - m) (c - m)]).run Tryd.prog W1 = .ok (.tuple #[]) W2 := fun ty => by
        rw [← hW2]
        exact tclear_run ty _ (by omega) hg2 (by rw [hcs2]; omega)
      have hfin : OwnT W2 B (.slice (some ⟨g, 0, none⟩) m c) (L.eraseIdx i) := by
        have hb3 : Blk W2 g 43 (layC (m * 19) Rt.zero.cs.toList cur2.toList).toArray := by rw [← hW2]; exact Blk.row (w := W1) hg2 _
        have hll : (layC (m * 19) Rt.zero.cs.toList cur2.toList).length = cur2.size := by rw [layC_len]; simp; rw [hz19]; simp [hcs2]; omega
        rw [← hlen]
        refine own_of hb hb3 (by omega) hm (by rw [hll, hcs2]) ?_
        rw [hlen, ← ht2]
        unfold layC
        rw [List.append_assoc, List.take_append_of_le_length (by simp; omega), List.take_take, Nat.min_self]
      have hbel : Below B w W2 := by
        rw [← hW2]
        have k1 : Below B w w.drew := ⟨rfl, rfl, rfl, Nat.le_refl _, fun _ _ => rfl⟩
        exact below_setRow (k1.grown hgr hB (fun k hk => by cases hk; exact hb)) hb _
      have hm63 : c ≤ 9223372036854775807 := by unfold maxLen at hm; omega
      refine (del_walk (m := m) (by omega) (by omega) (by omega) (by omega) hc hm63 (by omega) (by omega) (by omega) (by omega) (by omega) hA hap (by omega) (by omega) (by omega) (by omega) hcl).mono ?_
      rintro e w' ⟨rfl, rfl⟩
      exact ⟨m, hlen.symm, rfl, hfin, hbel⟩
end Go.Proofs.YtfnagfmbhcaphaaDoor
