/-
  A range over a disk's rows as one law; the contract of disk's shows. Nothing here is a statement of the document.
-/
import Derived.Test.YtdbdmnahgkkjiaaDoorTbA
import Derived.Test.YtdbdmnahgkkjiaaDoorDskC
import Derived.RegionTactic
import Derived.BigRegion
import Derived.Shelf.Abstract
namespace Go.Proofs.YtdbdmnahgkkjiaaDoor
open Go.RowKit Go.Shelf
set_option linter.unusedVariables false
set_option maxRecDepth 100000

theorem z_rt : (Tryd.prog.info? 48).map (fun i => (i.zero, i.size)) = some (some (.agg Rt.zero.cs), 19) := by kernel_rfl
theorem s_rt (r : Rt) : (Tryd.prog.info? 48).map (·.size) = some r.cs.size := by rw [r.size]; exact (zero_of_info z_rt).2
theorem z_tab : (Tryd.prog.info? 24).map (fun i => (i.zero, i.size)) = some (some (.agg #[.slice none 0 0]), 1) := by kernel_rfl
theorem load_rt_rule (v : Value) : Instr.loadAt 48 v = loadSem 48 v := rfl
theorem store_rt_rule (v x : Value) : Instr.storeAt 48 v x = storeSem 48 v x := rfl

/-- Rows lie in a block from a place on. -/
structure Rws (w : World) (g o : Nat) (L : List Rt) : Prop where
  lt : g < w.heap.size
  row : ∀ i, i < L.length → ∀ j, j < 19 → w.cell? ⟨g, o + i * 19 + j, none⟩ = (rt L i).cs[j]?
def RowsAt (w : World) (a : Option Addr) (L : List Rt) : Prop := L = [] ∨ ∃ g o, a = some ⟨g, o, none⟩ ∧ Rws w g o L
theorem Rws.later {w w' : World} {g o : Nat} {L : List Rt} (h : Rws w g o L) (k : Below w.heap.size w w') : Rws w' g o L :=
  ⟨Nat.lt_of_lt_of_le h.lt k.size, fun i hi j hj => (k.cell (p := ⟨g, o + i * 19 + j, none⟩) h.lt).trans (h.row i hi j hj)⟩
theorem RowsAt.later {w w' : World} {a : Option Addr} {L : List Rt} (h : RowsAt w a L) (k : Below w.heap.size w w') : RowsAt w' a L := by
  rcases h with h | ⟨g, o, h1, h2⟩
  · exact .inl h
  · exact .inr ⟨g, o, h1, h2.later k⟩
theorem Rws.load {w : World} {g o : Nat} {L : List Rt} (h : Rws w g o L) {i : Nat} (hi : i < L.length) : (loadSem 48 (.pointer (some ⟨g, o + i * 19, none⟩))).run Tryd.prog w = .ok (.agg (rt L i).cs) w :=
  run_loadAt_mid (P := Tryd.prog) w g (o + i * 19) 48 (rt L i).cs.toList _ (fun j v hj => by
    have hl : j < 19 := by rw [← (rt L i).size]; simpa using (List.getElem?_eq_some_iff.1 hj).1
    rw [h.row i hi j hl]; simpa using hj) Tryd.underlying48 rfl (by simpa using s_rt (rt L i))
theorem Rws.loadp {w : World} {g o : Nat} {L : List Rt} (h : Rws w g o L) {i : Nat} (hi : i < L.length) : (loadSem 38 (.pointer (some ⟨g, o + i * 19, none⟩))).run Tryd.prog w = .ok (.agg (rt L i).p.cs) w :=
  run_loadAt_mid (P := Tryd.prog) w g (o + i * 19) 38 (rt L i).p.cs.toList _ (fun j v hj => by
    have hl : j < 18 := by rw [← (rt L i).p.size]; simpa using (List.getElem?_eq_some_iff.1 hj).1
    rw [h.row i hi j (by omega), (rt L i).cp j hl]; simpa using hj) Tryd.underlying38 rfl (by simpa using s_px (rt L i).p)
theorem Rws.hop {w : World} {g o : Nat} {L : List Rt} (h : Rws w g o L) {i : Nat} (hi : i < L.length) : w.cell? ⟨g, o + i * 19 + 18, none⟩ = some (.int .i64 (rt L i).h) := (h.row i hi 18 (by omega)).trans (rt L i).ch
theorem rt_r {W : World} {g : Nat} {r : Rt} (h : Blk W g 48 r.cs) : ∀ w', Below W.heap.size W w' → (loadSem 48 (.pointer (some ⟨g, 0, none⟩))).run Tryd.prog w' = .ok (.agg r.cs) w' :=
  fun w' k => loadRes_of (o := 0) (h.later k) (fun q _ => by rw [Nat.zero_add]) _ Tryd.underlying48 rfl (s_rt r)
theorem rt_p {W : World} {g : Nat} {r : Rt} (h : Blk W g 48 r.cs) : ∀ w', Below W.heap.size W w' → (loadSem 38 (.pointer (some ⟨g, 0, none⟩))).run Tryd.prog w' = .ok (.agg r.p.cs) w' :=
  fun w' k => loadRes_of (o := 0) (h.later k) (fun q hq => by rw [Nat.zero_add]; exact r.cp q (by rw [Px.size] at hq; exact hq)) _ Tryd.underlying38 rfl (s_px r.p)
theorem rt_h {W : World} {g : Nat} {r : Rt} (h : Blk W g 48 r.cs) : ∀ w', Below W.heap.size W w' → w'.cell? ⟨g, 18, none⟩ = some (.int .i64 r.h) :=
  fun w' k => ((h.later k).cell 18).trans r.ch

theorem st_rt {w : World} {g : Nat} {p q : Rt} (h : Blk w g 48 p.cs) : (storeSem 48 (.pointer (some ⟨g, 0, none⟩)) (.agg q.cs)).run Tryd.prog w = .ok () (w.setRow g q.cs) := by
  have := storeRes_of (P := Tryd.prog) (ty := 48) (o := 0) (vs := q.cs) h (by rw [Rt.size, Rt.size]; omega) (s_rt q) q.one
  rwa [over_all (by rw [Rt.size, Rt.size])] at this
theorem ishop_any (h : Int) (w : World) : Calls Tryd.prog 38 #[.int .i64 h] w fun e w' => e = .returned (.bool (decide (1 ≤ h ∧ h ≤ 255))) ∧ w = w' := by
  by_cases h1 : 1 ≤ h
  · have d1 : decide (1 ≤ h) = true := by simpa using h1
    go_enter Tryd.func38, Tryd.ntmps38
    go_wp2
    go_ret
    exact ⟨by simp [h1], rfl⟩
  · have d1 : decide (1 ≤ h) = false := by simpa using h1
    go_enter Tryd.func38, Tryd.ntmps38
    go_wp2
    go_ret
    exact ⟨by simp [h1], rfl⟩

attribute [local go_sem ↓] load_b16_rule store_b16_rule load_ad_rule store_ad_rule load_px_rule store_px_rule eq_b16_rule eq_ad_rule eq_px_rule load_rt_rule store_rt_rule


set_option maxHeartbeats 1600000 in
theorem tcheck_any (a : Option Addr) (n c : Nat) (L : List Rt) (w : World) (hW : Wid w) (hn : L.length = n) (hm : n ≤ 9223372036854775807) (hR : RowsAt w a L) :
    Calls Tryd.prog 25 #[.agg #[.slice a n c]] w fun e w' => e = .returned (.int .i64 (eT L)) ∧ Below w.heap.size w w' := by
  obtain ⟨W1, hW1⟩ : ∃ W1, w.alloc (.cells #[.slice a n c] 24) = W1 := ⟨_, rfl⟩
  have hb1 : Below w.heap.size w W1 := by rw [← hW1]; exact (Below.refl _ _).alloc (Nat.le_refl _) _
  have b1 : Blk W1 w.heap.size 24 #[.slice a n c] := by rw [← hW1]; exact Blk.new w _ _
  have CT : ∀ w', Below W1.heap.size W1 w' → w'.cell? ⟨w.heap.size, 0, none⟩ = some (.slice a n c) := fun w' k => (b1.later k).cell 0
  have CT0 := CT W1 (Below.refl _ _)
  have HR : ∀ w', Below W1.heap.size W1 w' → RowsAt w' a L := fun w' h => (hR.later hb1).later h
  have HW : ∀ w', Below W1.heap.size W1 w' → Wid w' := fun w' h => (hW.later hb1).later h
  have h0 : Below W1.heap.size W1 W1 := Below.refl _ _
  have HB := Lib.hid (And.intro hb1 hn)
  clear hb1 b1
  by_cases h40 : 40 < n
  · have d1 : decide (40 < (n : Int)) = true := decide_eq_true (by omega)
    have HE := Lib.hid (eT_no (fun h => by have := h.1; omega) : eT L = 190)
    clear HR HW hW hR CT
    go_enter Tryd.func25, Tryd.ntmps25
    go_wp2
    go_ret
    exact ⟨by rw [HE.out]; rfl, HB.out.1⟩
  · have d1 : decide (40 < (n : Int)) = false := decide_eq_false (by omega)
    clear hR hW
    go_enter Tryd.func25, Tryd.ntmps25
    go_wp2_with fail
    go_loopw [12] (fun i wr => ∃ k : Nat, k ≤ n ∧ i = .int .i64 k ∧ (∀ j, j < k → okR (rt L j) ∧ (0 < j → ltR (rt L (j - 1)) (rt L j))) ∧ Below W1.heap.size W1 wr) (fun i _ => n - (intOf i).toNat)
    case atStart => exact ⟨0, Nat.zero_le _, rfl, fun j hj => by omega, h0⟩
    case round =>
      obtain ⟨k, hk, rfl, hok, hkb⟩ := hrel
      by_cases hlt : k < n
      · rcases HR wr hkb with hnil | ⟨g, o, rfl, hrow⟩
        · have := HB.out.2; rw [hnil] at this; simp at this; omega
        · have hkl : k < L.length := by have := HB.out.2; omega
          have LR := hrow.load hkl
          obtain ⟨W2, hW2⟩ : ∃ W2, wr.alloc (.cells (rt L k).cs 48) = W2 := ⟨_, rfl⟩
          have S2 := st_rt (q := rt L k) (Blk.new wr 48 Rt.zero.cs)
          rw [World.setRow_alloc_new, hW2] at S2
          have b2 : Blk W2 wr.heap.size 48 (rt L k).cs := by rw [← hW2]; exact Blk.new _ _ _
          have hb2 : Below wr.heap.size wr W2 := by rw [← hW2]; exact (Below.refl _ _).alloc (Nat.le_refl _) _
          have hb12 : Below W1.heap.size W1 W2 := bel_trans hkb hb2
          have LP := rt_p b2
          have LH := rt_h b2
          have CT2 : ∀ w', Below W2.heap.size W2 w' → w'.cell? ⟨w.heap.size, 0, none⟩ = some (.slice (some ⟨g, o, none⟩) n c) := fun w' h => CT w' (bel_trans hb12 h)
          have LQ : ∀ w', Below W2.heap.size W2 w' → 0 < k → (loadSem 38 (.pointer (some ⟨g, o + (k - 1) * 19, none⟩))).run Tryd.prog w' = .ok (.agg (rt L (k - 1)).p.cs) w' := fun w' h hk0 => ((hrow.later hb2).later h).loadp (by omega)
          have HCP := fun w' h => check_any (rt L k).p w' (HW w' (bel_trans hb12 h))
          have HIH := ishop_any (rt L k).h
          have HCM := compare_any (rt L (k - 1)).p (rt L k).p
          have h02 : Below W2.heap.size W2 W2 := Below.refl _ _
          have HK := Lib.hid (And.intro hok hb12)
          clear hok hb12 hb2 b2 hrow CT HR HW
          by_cases hp : okP (rt L k).p
          · rw [eP_ok hp] at HCP
            by_cases hh : 1 ≤ (rt L k).h ∧ (rt L k).h ≤ 255
            · rw [decide_eq_true hh] at HIH
              by_cases hk0 : 0 < k
              · have dk : decide (0 < (k : Int)) = true := decide_eq_true (by omega)
                have dk2 : decide (0 < k) = true := decide_eq_true hk0
                have e1 : ((k : Int) - 1) = ((k - 1 : Nat) : Int) := by omega
                have e2 : k - 1 < n := by omega
                have LQ2 := fun w' h => LQ w' h hk0
                clear LQ
                by_cases hc : cmpP (rt L (k - 1)).p (rt L k).p < 0
                · have dc : decide (0 ≤ cmpP (rt L (k - 1)).p (rt L k).p) = false := decide_eq_false (by omega)
                  have HN := Lib.hid (show ∀ j, j < k + 1 → okR (rt L j) ∧ (0 < j → ltR (rt L (j - 1)) (rt L j)) from fun j hj => by
                    by_cases e : j = k
                    · rw [e]; exact ⟨⟨hp, hh⟩, fun _ => hc⟩
                    · exact HK.out.1 j (by omega))
                  clear hp hh hc
                  generalize cmpP (rt L (k - 1)).p (rt L k).p = cv at *
                  generalize (rt L (k - 1)).p = pq at *
                  generalize hkk : k - 1 = k1 at *
                  have HKK := Lib.hid hkk
                  clear hkk hk0
                  go_wp2_with (first | (with_reducible refine wpList_alloc_z rfl 48 rfl Rt.zero.cs 19 z_rt ?_) | (go_at_call 37; refine (HCP _ (by assumption)).mono ?_; rintro e w2 ⟨rfl, hb2⟩; have hk2 : Below W2.heap.size W2 w2 := (by first | exact bel_trans (by assumption) hb2 | (subst hb2; assumption)); clear hb2) | (go_at_call 38; refine (HIH _).mono ?_; rintro e w2 ⟨rfl, hb2⟩; have hk2 : Below W2.heap.size W2 w2 := (by first | exact bel_trans (by assumption) hb2 | (subst hb2; assumption)); clear hb2) | (go_at_call 49; refine (HCM _).mono ?_; rintro e w2 ⟨rfl, hb2⟩; have hk2 : Below W2.heap.size W2 w2 := (by first | exact bel_trans (by assumption) hb2 | (subst hb2; assumption)); clear hb2) | (refine wp_region_lin (fun w' => Below W2.heap.size W2 w') (by kernel_rfl) (by kernel_rfl) (bel_drew (by assumption)) ?_; (repeat (first | (refine lin_off (by rfl) ?_; (try simp only [Act.put, List.setIfInBounds_toArray, List.set_cons_zero, List.set_cons_succ])) | (refine lin_op (v := ?_) (by rfl) (fun w9 hS9 => ?_) ?_; rotate_left; (focus (((try dsimp only at hS9); go_simp; (try go_bits)) <;> with_reducible rfl)); (try simp only [Act.put, List.setIfInBounds_toArray, List.set_cons_zero, List.set_cons_succ])) | (refine lin_fn (f := 37) (by rfl) rfl rfl (enters_of Tryd.func37 (by kernel_rfl) rfl) (fun w9 hS9 => (HCP w9 hS9).mono (fun e w' h => ⟨h.1, (by first | exact bel_trans hS9 h.2 | (rw [← h.2]; exact hS9))⟩)) ?_ ?_; (focus (simp [Act.eval]; done)); (try simp only [Act.put, List.setIfInBounds_toArray, List.set_cons_zero, List.set_cons_succ])) | (refine lin_fn (f := 38) (by rfl) rfl rfl (enters_of Tryd.func38 (by kernel_rfl) rfl) (fun w9 hS9 => (HIH w9).mono (fun e w' h => ⟨h.1, (by first | exact bel_trans hS9 h.2 | (rw [← h.2]; exact hS9))⟩)) ?_ ?_; (focus (simp [Act.eval]; done)); (try simp only [Act.put, List.setIfInBounds_toArray, List.set_cons_zero, List.set_cons_succ])) | (refine lin_fn (f := 49) (by rfl) rfl rfl (enters_of Tryd.func49 (by kernel_rfl) rfl) (fun w9 hS9 => (HCM w9).mono (fun e w' h => ⟨h.1, (by first | exact bel_trans hS9 h.2 | (rw [← h.2]; exact hS9))⟩)) ?_ ?_; (focus (simp [Act.eval]; done)); (try simp only [Act.put, List.setIfInBounds_toArray, List.set_cons_zero, List.set_cons_succ])))); refine lin_nil (fun w8 hS8 => ?_)))
                  go_roundw
                  case rel => exact ⟨k + 1, by omega, by go_num, HN.out, bel_trans HK.out.2 (by assumption)⟩
                  case measure => simp [intOf]; omega
                · have dc : decide (0 ≤ cmpP (rt L (k - 1)).p (rt L k).p) = true := decide_eq_true (by omega)
                  have HE := Lib.hid (eT_no (fun h => hc (((okT_iff L).1 h).2 k hkl |>.2 hk0)) : eT L = 190)
                  clear hp hh hc
                  generalize cmpP (rt L (k - 1)).p (rt L k).p = cv at *
                  generalize (rt L (k - 1)).p = pq at *
                  generalize hkk : k - 1 = k1 at *
                  clear hkk hk0
                  go_wp2_with (first | (with_reducible refine wpList_alloc_z rfl 48 rfl Rt.zero.cs 19 z_rt ?_) | (go_at_call 37; refine (HCP _ (by assumption)).mono ?_; rintro e w2 ⟨rfl, hb2⟩; have hk2 : Below W2.heap.size W2 w2 := (by first | exact bel_trans (by assumption) hb2 | (subst hb2; assumption)); clear hb2) | (go_at_call 38; refine (HIH _).mono ?_; rintro e w2 ⟨rfl, hb2⟩; have hk2 : Below W2.heap.size W2 w2 := (by first | exact bel_trans (by assumption) hb2 | (subst hb2; assumption)); clear hb2) | (go_at_call 49; refine (HCM _).mono ?_; rintro e w2 ⟨rfl, hb2⟩; have hk2 : Below W2.heap.size W2 w2 := (by first | exact bel_trans (by assumption) hb2 | (subst hb2; assumption)); clear hb2) | (refine wp_region_lin (fun w' => Below W2.heap.size W2 w') (by kernel_rfl) (by kernel_rfl) (bel_drew (by assumption)) ?_; (repeat (first | (refine lin_off (by rfl) ?_; (try simp only [Act.put, List.setIfInBounds_toArray, List.set_cons_zero, List.set_cons_succ])) | (refine lin_op (v := ?_) (by rfl) (fun w9 hS9 => ?_) ?_; rotate_left; (focus (((try dsimp only at hS9); go_simp; (try go_bits)) <;> with_reducible rfl)); (try simp only [Act.put, List.setIfInBounds_toArray, List.set_cons_zero, List.set_cons_succ])) | (refine lin_fn (f := 37) (by rfl) rfl rfl (enters_of Tryd.func37 (by kernel_rfl) rfl) (fun w9 hS9 => (HCP w9 hS9).mono (fun e w' h => ⟨h.1, (by first | exact bel_trans hS9 h.2 | (rw [← h.2]; exact hS9))⟩)) ?_ ?_; (focus (simp [Act.eval]; done)); (try simp only [Act.put, List.setIfInBounds_toArray, List.set_cons_zero, List.set_cons_succ])) | (refine lin_fn (f := 38) (by rfl) rfl rfl (enters_of Tryd.func38 (by kernel_rfl) rfl) (fun w9 hS9 => (HIH w9).mono (fun e w' h => ⟨h.1, (by first | exact bel_trans hS9 h.2 | (rw [← h.2]; exact hS9))⟩)) ?_ ?_; (focus (simp [Act.eval]; done)); (try simp only [Act.put, List.setIfInBounds_toArray, List.set_cons_zero, List.set_cons_succ])) | (refine lin_fn (f := 49) (by rfl) rfl rfl (enters_of Tryd.func49 (by kernel_rfl) rfl) (fun w9 hS9 => (HCM w9).mono (fun e w' h => ⟨h.1, (by first | exact bel_trans hS9 h.2 | (rw [← h.2]; exact hS9))⟩)) ?_ ?_; (focus (simp [Act.eval]; done)); (try simp only [Act.put, List.setIfInBounds_toArray, List.set_cons_zero, List.set_cons_succ])))); refine lin_nil (fun w8 hS8 => ?_)))
                  go_ret
                  exact ⟨by rw [HE.out]; rfl, bel_trans HB.out.1 (bel_trans HK.out.2 (by assumption))⟩
              · obtain rfl : k = 0 := by omega
                have HN := Lib.hid (show ∀ j, j < 0 + 1 → okR (rt L j) ∧ (0 < j → ltR (rt L (j - 1)) (rt L j)) from fun j hj => by
                  by_cases e : j = 0
                  · rw [e]; exact ⟨⟨hp, hh⟩, fun h => by omega⟩
                  · exact HK.out.1 j (by omega))
                rw [Nat.zero_mul, Nat.add_zero] at LR
                clear hp hh LQ HCM
                go_wp2_with (first | (with_reducible refine wpList_alloc_z rfl 48 rfl Rt.zero.cs 19 z_rt ?_) | (go_at_call 37; refine (HCP _ (by assumption)).mono ?_; rintro e w2 ⟨rfl, hb2⟩; have hk2 : Below W2.heap.size W2 w2 := (by first | exact bel_trans (by assumption) hb2 | (subst hb2; assumption)); clear hb2) | (go_at_call 38; refine (HIH _).mono ?_; rintro e w2 ⟨rfl, hb2⟩; have hk2 : Below W2.heap.size W2 w2 := (by first | exact bel_trans (by assumption) hb2 | (subst hb2; assumption)); clear hb2) | (refine wp_region_lin (fun w' => Below W2.heap.size W2 w') (by kernel_rfl) (by kernel_rfl) (bel_drew (by assumption)) ?_; (repeat (first | (refine lin_off (by rfl) ?_; (try simp only [Act.put, List.setIfInBounds_toArray, List.set_cons_zero, List.set_cons_succ])) | (refine lin_op (v := ?_) (by rfl) (fun w9 hS9 => ?_) ?_; rotate_left; (focus (((try dsimp only at hS9); go_simp; (try go_bits)) <;> with_reducible rfl)); (try simp only [Act.put, List.setIfInBounds_toArray, List.set_cons_zero, List.set_cons_succ])) | (refine lin_fn (f := 37) (by rfl) rfl rfl (enters_of Tryd.func37 (by kernel_rfl) rfl) (fun w9 hS9 => (HCP w9 hS9).mono (fun e w' h => ⟨h.1, (by first | exact bel_trans hS9 h.2 | (rw [← h.2]; exact hS9))⟩)) ?_ ?_; (focus (simp [Act.eval]; done)); (try simp only [Act.put, List.setIfInBounds_toArray, List.set_cons_zero, List.set_cons_succ])) | (refine lin_fn (f := 38) (by rfl) rfl rfl (enters_of Tryd.func38 (by kernel_rfl) rfl) (fun w9 hS9 => (HIH w9).mono (fun e w' h => ⟨h.1, (by first | exact bel_trans hS9 h.2 | (rw [← h.2]; exact hS9))⟩)) ?_ ?_; (focus (simp [Act.eval]; done)); (try simp only [Act.put, List.setIfInBounds_toArray, List.set_cons_zero, List.set_cons_succ])))); refine lin_nil (fun w8 hS8 => ?_)))
                go_roundw
                case rel => exact ⟨0 + 1, by omega, by go_num, HN.out, bel_trans HK.out.2 (by assumption)⟩
                case measure => simp [intOf]; omega
            · rw [decide_eq_false hh] at HIH
              have HE := Lib.hid (eT_no (fun h => hh (((okT_iff L).1 h).2 k hkl).1.2) : eT L = 190)
              clear hp hh LQ HCM
              go_wp2_with (first | (with_reducible refine wpList_alloc_z rfl 48 rfl Rt.zero.cs 19 z_rt ?_) | (go_at_call 37; refine (HCP _ (by assumption)).mono ?_; rintro e w2 ⟨rfl, hb2⟩; have hk2 : Below W2.heap.size W2 w2 := (by first | exact bel_trans (by assumption) hb2 | (subst hb2; assumption)); clear hb2) | (go_at_call 38; refine (HIH _).mono ?_; rintro e w2 ⟨rfl, hb2⟩; have hk2 : Below W2.heap.size W2 w2 := (by first | exact bel_trans (by assumption) hb2 | (subst hb2; assumption)); clear hb2) | (refine wp_region_lin (fun w' => Below W2.heap.size W2 w') (by kernel_rfl) (by kernel_rfl) (bel_drew (by assumption)) ?_; (repeat (first | (refine lin_off (by rfl) ?_; (try simp only [Act.put, List.setIfInBounds_toArray, List.set_cons_zero, List.set_cons_succ])) | (refine lin_op (v := ?_) (by rfl) (fun w9 hS9 => ?_) ?_; rotate_left; (focus (((try dsimp only at hS9); go_simp; (try go_bits)) <;> with_reducible rfl)); (try simp only [Act.put, List.setIfInBounds_toArray, List.set_cons_zero, List.set_cons_succ])) | (refine lin_fn (f := 37) (by rfl) rfl rfl (enters_of Tryd.func37 (by kernel_rfl) rfl) (fun w9 hS9 => (HCP w9 hS9).mono (fun e w' h => ⟨h.1, (by first | exact bel_trans hS9 h.2 | (rw [← h.2]; exact hS9))⟩)) ?_ ?_; (focus (simp [Act.eval]; done)); (try simp only [Act.put, List.setIfInBounds_toArray, List.set_cons_zero, List.set_cons_succ])) | (refine lin_fn (f := 38) (by rfl) rfl rfl (enters_of Tryd.func38 (by kernel_rfl) rfl) (fun w9 hS9 => (HIH w9).mono (fun e w' h => ⟨h.1, (by first | exact bel_trans hS9 h.2 | (rw [← h.2]; exact hS9))⟩)) ?_ ?_; (focus (simp [Act.eval]; done)); (try simp only [Act.put, List.setIfInBounds_toArray, List.set_cons_zero, List.set_cons_succ])))); refine lin_nil (fun w8 hS8 => ?_)))
              go_ret
              exact ⟨by rw [HE.out]; rfl, bel_trans HB.out.1 (bel_trans HK.out.2 (by assumption))⟩
          · rw [eP_no hp] at HCP
            have HE := Lib.hid (eT_no (fun h => hp (((okT_iff L).1 h).2 k hkl).1.1) : eT L = 190)
            clear hp LQ HCM HIH
            go_wp2_with (first | (with_reducible refine wpList_alloc_z rfl 48 rfl Rt.zero.cs 19 z_rt ?_) | (go_at_call 37; refine (HCP _ (by assumption)).mono ?_; rintro e w2 ⟨rfl, hb2⟩; have hk2 : Below W2.heap.size W2 w2 := (by first | exact bel_trans (by assumption) hb2 | (subst hb2; assumption)); clear hb2) | (refine wp_region_lin (fun w' => Below W2.heap.size W2 w') (by kernel_rfl) (by kernel_rfl) (bel_drew (by assumption)) ?_; (repeat (first | (refine lin_off (by rfl) ?_; (try simp only [Act.put, List.setIfInBounds_toArray, List.set_cons_zero, List.set_cons_succ])) | (refine lin_op (v := ?_) (by rfl) (fun w9 hS9 => ?_) ?_; rotate_left; (focus (((try dsimp only at hS9); go_simp; (try go_bits)) <;> with_reducible rfl)); (try simp only [Act.put, List.setIfInBounds_toArray, List.set_cons_zero, List.set_cons_succ])) | (refine lin_fn (f := 37) (by rfl) rfl rfl (enters_of Tryd.func37 (by kernel_rfl) rfl) (fun w9 hS9 => (HCP w9 hS9).mono (fun e w' h => ⟨h.1, (by first | exact bel_trans hS9 h.2 | (rw [← h.2]; exact hS9))⟩)) ?_ ?_; (focus (simp [Act.eval]; done)); (try simp only [Act.put, List.setIfInBounds_toArray, List.set_cons_zero, List.set_cons_succ])))); refine lin_nil (fun w8 hS8 => ?_)))
            go_ret
            exact ⟨by rw [HE.out]; rfl, bel_trans HB.out.1 (bel_trans HK.out.2 (by assumption))⟩
      · obtain rfl : k = n := by omega
        have HE := Lib.hid (eT_ok ((okT_iff L).2 ⟨by have := HB.out.2; omega, fun i hi => hok i (by have := HB.out.2; omega)⟩) : eT L = 0)
        clear hok
        go_wp2
        go_ret
        exact ⟨by rw [HE.out]; rfl, bel_trans HB.out.1 (by assumption)⟩
end Go.Proofs.YtdbdmnahgkkjiaaDoor
namespace Go.Proofs.YtdbdmnahgkkjiaaDoor
open Go.RowKit Go.Shelf
set_option linter.unusedVariables false

/-! ### What speaks of cells alone -/
theorem own_blk {β : Type} (B g : Nat) (t : TypeId) (f : β → Array Value) : OwnFrom B (fun s W => Blk W g t (f s)) := fun s X Y row hs hg hrow =>
  (hg.block g hs.lt (fun e => by
    obtain ⟨_, o, ho, hc⟩ := hrow g e.symm
    rw [show X.heap[g]? = _ from hs] at ho; cases ho; cases hc)).trans hs
theorem own_kept {β : Type} {B : Nat} (S : List Nat) {w0 : World} (h : w0.heap.size ≤ B) : OwnFrom B (fun (_ : β) W => Kept S w0 W) := fun s X Y row hs hg hrow =>
  hs.grown hg (fun k e => .inr (Nat.le_trans h (hrow k e).1))
theorem KeepsFrom.row {B : Nat} {W : World} {g : Nat} (h : g < B) (cs : Array Value) : KeepsFrom B W (W.setRow g cs) :=
  KeepsFrom.of_grownBy (row := some g) ⟨rfl, rfl, rfl, by simp, fun k _ hk => setRow_other W g k cs (fun e => hk (by rw [e]))⟩ (fun j e => by cases e; exact h)
theorem KeepsFrom.kept {B : Nat} {W W' : World} {S : List Nat} (h : Kept S W W') (hS : ∀ k ∈ S, k < B) : KeepsFrom B W W' :=
  ⟨h.size, fun k o hB hk ho => (h.block k (Array.getElem?_eq_some_iff.1 hk).1 (fun hm => by have := hS k hm; omega)).trans hk⟩
theorem SameBuf.kept {bv : Value} {W W' : World} {S : List Nat} (h : Kept S W W') (hb : ∀ k, bv.ownBlock = some k → k < W.heap.size ∧ k ∉ S) : SameBuf bv W W' := fun k hk => h.block k (hb k hk).1 (hb k hk).2

/-- A function whose body holds a range over a function: its contract out of its body's walk. -/
theorem calls_of_wp_marks {f : FuncId} {fn : Func} {c : Code} {args : Array Value} {w : World} {R : Ending → World → Prop}
    (hf : Tryd.prog.funcs[f]? = some fn) (hb : fn.body = some c)
    (h : c.wp Tryd.prog (bodyPostM Fence.wide 10 Tryd.prog fn R) { tmps := args ++ Array.replicate (fn.ntmps - args.size) undef, defers := [] } w) : Calls Tryd.prog f args w R :=
  (callsIn_wide (n := 10)).1 (callsIn_of_wp_marks hf hb trivial (wpIn_wide.2 h) rfl)
/-- Where such a function returns. -/
theorem marks_ret {fn : Func} {R : Ending → World → Prop} {tmps : Array Value} {w : World} {d : Nat} {v : Value} (hd : w.heap[d]? = some (.deferred (some []))) (hr : (results fn tmps).run Tryd.prog (w.putObj d (.deferred none)) = .ok v (w.putObj d (.deferred none))) (h : R (.returned v) (w.putObj d (.deferred none))) :
    bodyPostM Fence.wide 10 Tryd.prog fn R .ret { tmps := tmps, defers := [{ target := .collected d, args := #[] }] } w :=
  ⟨by simp, .inl ⟨_, _, rfl, run_takeDeferred hd, ⟨_, hr, h⟩⟩⟩
theorem put_kept {S : List Nat} {w0 w : World} {d : Nat} {o o' : Obj} (h : Kept S w0 w) (hd : w.heap[d]? = some o) (hl : w0.heap.size ≤ d) : Kept S w0 (w.putObj d o') :=
  h.grown (grownBy_putObj' w d o') (fun k e => by cases e; exact .inr hl)

/-! ### shows -/
/-- What a sector shows. -/
def showsM (D : Dk) (i : Nat) : Bk := match D.rows.find? (fun r => r.s == i) with | some r => r.b | none => D.plate.getD i Bk.zero

theorem blk_put {w : World} {g d : Nat} {t : TypeId} {cs : Array Value} {o o' : Obj} (h : Blk w g t cs) (hd : w.heap[d]? = some o) (hc : o.isCells = false) : Blk (w.putObj d o') g t cs :=
  ((grownBy_putObj' w d o').block g h.lt (fun e => by
    cases e
    rw [show w.heap[g]? = _ from h] at hd; cases hd; cases hc)).trans h
theorem showsM_plate {D : Dk} {i : Nat} (hi : i < D.plate.length) (h : ∀ r ∈ D.rows, r.s ≠ i) : D.plate[i]? = some (showsM D i) := by
  unfold showsM
  rw [List.find?_eq_none.2 (fun r hr => by have := h r hr; simpa using this)]
  simp [List.getElem?_eq_getElem hi]
theorem showsM_row {D : Dk} {i k : Nat} (hk : k < D.rows.length) (h : ∀ j (hj : j < k), (D.rows[j]'(by omega)).s ≠ i) (he : D.rows[k].s = i) : showsM D i = D.rows[k].b := by
  unfold showsM
  have e : D.rows.find? (fun r => r.s == i) = some D.rows[k] := by
    rw [List.find?_eq_some_iff_getElem]
    exact ⟨by simpa using he, k, hk, rfl, fun j hj => by have := h j hj; simpa using this⟩
  rw [e]
attribute [local go_sem] Oper.semAt_some

end Go.Proofs.YtdbdmnahgkkjiaaDoor
