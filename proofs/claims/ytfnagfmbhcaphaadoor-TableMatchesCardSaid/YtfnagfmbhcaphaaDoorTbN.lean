/-
  The walk of TableMatches. Nothing here is a statement of the document.
-/
import Derived.Test.YtfnagfmbhcaphaaDoorTbM
namespace Go.Proofs.YtfnagfmbhcaphaaDoor
open Go.RowKit Go.Shelf
set_option linter.unusedVariables false
set_option maxRecDepth 100000
theorem zero_lit : Rt.zero.cs = #[.int .i64 0, .int .u8 0, .int .u8 0, .int .u8 0, .int .u8 0, .int .u8 0, .int .u8 0, .int .u8 0, .int .u8 0, .int .u8 0, .int .u8 0, .int .u8 0, .int .u8 0, .int .u8 0, .int .u8 0, .int .u8 0, .int .u8 0, .int .i64 0, .int .i64 0] := rfl
theorem stx1 (r : Rt) (w : World) : (storeSem 43 (.pointer (some ⟨w.heap.size, 0, none⟩)) (.agg r.cs)).run Tryd.prog (w.alloc (.cells #[.int .i64 0, .int .u8 0, .int .u8 0, .int .u8 0, .int .u8 0, .int .u8 0, .int .u8 0, .int .u8 0, .int .u8 0, .int .u8 0, .int .u8 0, .int .u8 0, .int .u8 0, .int .u8 0, .int .u8 0, .int .u8 0, .int .u8 0, .int .i64 0, .int .i64 0] 43)) = .ok () (w.alloc (.cells r.cs 43)) := by
  rw [← zero_lit]
  have := st_rt (q := r) (Blk.new w 43 Rt.zero.cs)
  rwa [World.setRow_alloc_new] at this
def AftZ (w w2 : World) : Prop := Below (w.alloc (.cells #[.int .i64 0, .int .u8 0, .int .u8 0, .int .u8 0, .int .u8 0, .int .u8 0, .int .u8 0, .int .u8 0, .int .u8 0, .int .u8 0, .int .u8 0, .int .u8 0, .int .u8 0, .int .u8 0, .int .u8 0, .int .u8 0, .int .u8 0, .int .i64 0, .int .i64 0] 43)).heap.size (w.alloc (.cells #[.int .i64 0, .int .u8 0, .int .u8 0, .int .u8 0, .int .u8 0, .int .u8 0, .int .u8 0, .int .u8 0, .int .u8 0, .int .u8 0, .int .u8 0, .int .u8 0, .int .u8 0, .int .u8 0, .int .u8 0, .int .u8 0, .int .u8 0, .int .i64 0, .int .i64 0] 43)) w2
theorem aft_mk {w w2 : World} (h : Below (w.alloc (.cells #[.int .i64 0, .int .u8 0, .int .u8 0, .int .u8 0, .int .u8 0, .int .u8 0, .int .u8 0, .int .u8 0, .int .u8 0, .int .u8 0, .int .u8 0, .int .u8 0, .int .u8 0, .int .u8 0, .int .u8 0, .int .u8 0, .int .u8 0, .int .i64 0, .int .i64 0] 43)).heap.size (w.alloc (.cells #[.int .i64 0, .int .u8 0, .int .u8 0, .int .u8 0, .int .u8 0, .int .u8 0, .int .u8 0, .int .u8 0, .int .u8 0, .int .u8 0, .int .u8 0, .int .u8 0, .int .u8 0, .int .u8 0, .int .u8 0, .int .u8 0, .int .u8 0, .int .i64 0, .int .i64 0] 43)) w2) : AftZ w w2 := h
theorem aft_mkd {w w2 : World} (h : Below (w.alloc (.cells #[.int .i64 0, .int .u8 0, .int .u8 0, .int .u8 0, .int .u8 0, .int .u8 0, .int .u8 0, .int .u8 0, .int .u8 0, .int .u8 0, .int .u8 0, .int .u8 0, .int .u8 0, .int .u8 0, .int .u8 0, .int .u8 0, .int .u8 0, .int .i64 0, .int .i64 0] 43)).drew.heap.size (w.alloc (.cells #[.int .i64 0, .int .u8 0, .int .u8 0, .int .u8 0, .int .u8 0, .int .u8 0, .int .u8 0, .int .u8 0, .int .u8 0, .int .u8 0, .int .u8 0, .int .u8 0, .int .u8 0, .int .u8 0, .int .u8 0, .int .u8 0, .int .u8 0, .int .i64 0, .int .i64 0] 43)).drew w2) : AftZ w w2 := ⟨h.os, h.tape, h.output, h.size, h.block⟩
theorem AftZ.later {w w2 w3 : World} (h : AftZ w w2) (k : Below w2.heap.size w2 w3) : AftZ w w3 := bel_trans h k
theorem stx2 (r : Rt) (w w2 : World) (h : AftZ w w2) : (storeSem 43 (.pointer (some ⟨w.heap.size, 0, none⟩)) (.agg r.cs)).run Tryd.prog w2 = .ok () (w2.setRow w.heap.size r.cs) := by
  unfold AftZ at h
  rw [← zero_lit] at h
  exact st_rt (q := r) ((Blk.new w 43 Rt.zero.cs).later h)
theorem blk2 (r : Rt) (w w2 : World) (h : AftZ w w2) : Blk (w2.setRow w.heap.size r.cs) w.heap.size 43 r.cs := by
  unfold AftZ at h
  rw [← zero_lit] at h
  exact ((Blk.new w 43 Rt.zero.cs).later h).row _
attribute [local go_sem ↓] load_b16_rule store_b16_rule load_ad_rule store_ad_rule load_px_rule store_px_rule eq_b16_rule eq_ad_rule eq_px_rule load_rt_rule store_rt_rule build_ad_rule build_px_rule build_b16_rule build_rt_rule load_tab_rule build_tab_rule store_tab_rule tbuild_rule tapp_rule tcopy_rule eq_rt_rule

set_option maxHeartbeats 8000000 in
theorem tmatches_walk (a : Option Addr) (n c : Nat) (L : List Rt) (x : Ad) (w : World) (hW : Wid w) (hn : L.length = n) (hT : Tbl w a c L) :
    Calls Tryd.prog 4 #[.agg #[.slice a n c], .agg x.cs] w fun e w' => e = .returned (.bool true) ∧ Below w.heap.size w w' := by
  have hR := hT.at'
  have hm : n ≤ 9223372036854775807 := by have := hT.le; have := hT.cap; unfold maxLen at this; omega
  obtain ⟨W1, hW1⟩ : ∃ W1, (w.alloc (.cells #[.slice a n c] 24)).alloc (.cells x.cs 27) = W1 := ⟨_, rfl⟩
  have hb1 : Below w.heap.size w W1 := by rw [← hW1]; exact (((Below.refl w.heap.size w).alloc (Nat.le_refl _) _).alloc (by simp) _)
  have b1 : Blk W1 w.heap.size 24 #[.slice a n c] := by
    have h9 := (Blk.new w 24 #[.slice a n c]).alloc (.cells x.cs 27)
    rwa [hW1] at h9
  have b2 : Blk W1 (w.heap.size + 1) 27 x.cs := by
    have h9 := Blk.new (w.alloc (.cells #[.slice a n c] 24)) 27 x.cs
    rwa [World.size_alloc, hW1] at h9
  have LT := tab_t b1
  have CT := tab_c b1
  have LX := ad_a b2
  have HR : ∀ w', Below W1.heap.size W1 w' → RowsAt w' a L := fun w' h => (hR.later hb1).later h
  have HW : ∀ w', Below W1.heap.size W1 w' → Wid w' := fun w' h => (hW.later hb1).later h
  have hTW : ∀ w', Below W1.heap.size W1 w' → Tbl w' a c L := fun w' h => (hT.later hb1).later h
  have h0 : Below W1.heap.size W1 W1 := Below.refl _ _
  have HB := Lib.hid hb1
  have HWK := fun w' h => wakes9_any w' (HW w' h)
  clear hR hW b1 b2 hb1
  by_cases h200 : 200 < n
  · have d1 : decide (200 < (n : Int)) = true := decide_eq_true (by omega)
    clear h200
    go_enter Tryd.func4, Tryd.ntmps4
    go_wp2_with (first | (go_at_call 9; refine (HWK _ (by assumption)).mono ?_; rintro e w2 ⟨rfl, hb2⟩; have hk2 : Below W1.heap.size W1 w2 := (by first | exact bel_trans (by assumption) hb2 | (subst hb2; assumption)); clear hb2))
    all_goals go_ret
    all_goals exact ⟨rfl, bel_trans HB.out (by assumption)⟩
  · have d1 : decide (200 < (n : Int)) = false := decide_eq_false (by omega)
    have HCO := fun w' (h : Below W1.heap.size W1 w') => copied_any a n c L w' hn (by omega) (hTW w' h)
    clear h200
    go_enter Tryd.func4, Tryd.ntmps4
    go_wp2_with (first | (go_at_call 9; refine (HWK _ (by assumption)).mono ?_; rintro e w2 ⟨rfl, hb2⟩; have hk2 : Below W1.heap.size W1 w2 := (by first | exact bel_trans (by assumption) hb2 | (subst hb2; assumption)); clear hb2))
    obtain ⟨T, hTT⟩ : ∃ T, lgB L x = T := ⟨_, rfl⟩
    obtain ⟨M, hMM⟩ : ∃ M, lgR L x = M := ⟨_, rfl⟩
    obtain ⟨E, hEE⟩ : ∃ E, lgE L x = E := ⟨_, rfl⟩
    have HLO := fun w' (h : Below W1.heap.size W1 w') a1 c1 (ht : Tbl w' a1 c1 L) => longest_any a1 n c1 L x w' (HW w' h) hn hm ht.at'
    rw [hTT, hMM, hEE] at HLO
    have LD := bel_drew_all W1
    have LE := bel_alloc_all W1
    have LDE : ∀ (w' : World) o, Below W1.heap.size W1 w' → Below W1.heap.size W1 (w'.alloc o).drew := fun w' o h => LD _ (LE _ _ h)
    go_cut [5, 6, 7] from 17 (fun r t e wc => ∃ g, r = .pointer (some ⟨g, 0, none⟩) ∧ t = .bool T ∧ e = .int .i64 E ∧ Blk wc g 43 M.cs ∧ Below W1.heap.size W1 wc)
    case first =>
      have X1 := stx1 M
      have X1d : ∀ w : World, (storeSem 43 (.pointer (some ⟨w.heap.size, 0, none⟩)) (.agg M.cs)).run Tryd.prog (w.drew.alloc (.cells #[.int .i64 0, .int .u8 0, .int .u8 0, .int .u8 0, .int .u8 0, .int .u8 0, .int .u8 0, .int .u8 0, .int .u8 0, .int .u8 0, .int .u8 0, .int .u8 0, .int .u8 0, .int .u8 0, .int .u8 0, .int .u8 0, .int .u8 0, .int .i64 0, .int .i64 0] 43)) = .ok () (w.drew.alloc (.cells M.cs 43)) := fun w => stx1 M w.drew
      have X2 := stx2 M
      have X2d : ∀ w w2 : World, AftZ w.drew w2 → (storeSem 43 (.pointer (some ⟨w.heap.size, 0, none⟩)) (.agg M.cs)).run Tryd.prog w2 = .ok () (w2.setRow w.heap.size M.cs) := fun w w2 h => stx2 M w.drew w2 h
      go_region_with (first | (go_at_call 11; refine (HCO _ (by first | assumption | exact LD _ (by assumption) | exact LE _ _ (by assumption) | exact LE _ _ (LD _ (by assumption)) | exact LDE _ _ (by assumption))).mono ?_; rintro e w2 ⟨a1, c1, rfl, ht1, _, hb2⟩; have hk2 : Below W1.heap.size W1 w2 := bel_trans (by first | assumption | exact LD _ (by assumption) | exact LE _ _ (by assumption) | exact LE _ _ (LD _ (by assumption)) | exact LDE _ _ (by assumption)) hb2; (try have hy2 := aft_mkd hb2); (try have hz2 := aft_mk hb2)) | (go_at_call 19; refine (HLO _ (by first | assumption | exact LD _ (by assumption) | exact LE _ _ (by assumption) | exact LE _ _ (LD _ (by assumption)) | exact LDE _ _ (by assumption)) _ _ (by first | assumption | exact Tbl.later (by assumption) ((Below.refl _ _).alloc (Nat.le_refl _) _) | exact Tbl.later (by assumption) (bel_drew ((Below.refl _ _).alloc (Nat.le_refl _) _)))).mono ?_; rintro e w3 ⟨rfl, hb3⟩; have hk3 : Below W1.heap.size W1 w3 := bel_trans (by first | assumption | exact LD _ (by assumption) | exact LE _ _ (by assumption) | exact LE _ _ (LD _ (by assumption)) | exact LDE _ _ (by assumption)) hb3; (try have ha2 := aft_mkd hb3); (try have ha3 := aft_mk hb3); (try have ha4 := AftZ.later (by assumption) hb3)))
      all_goals go_wp2_with fail
      all_goals go_meet
      all_goals first
        | exact ⟨_, rfl, rfl, rfl, Blk.new _ _ _, (by first | assumption | exact LD _ (by assumption) | exact LE _ _ (by assumption) | exact LE _ _ (LD _ (by assumption)) | exact LDE _ _ (by assumption))⟩
        | exact ⟨_, rfl, rfl, rfl, blk2 M _ _ (by assumption), below_setRow (by first | assumption | exact LD _ (by assumption) | exact LE _ _ (by assumption) | exact LE _ _ (LD _ (by assumption)) | exact LDE _ _ (by assumption)) (by first | exact (Below.size (w := W1) (B := W1.heap.size) (by assumption)) | exact h0.size) _⟩
    case rest =>
      obtain ⟨g, rfl, rfl, rfl, bM, hkc⟩ := hcut
      have LTc : ∀ w', Below wc.heap.size wc w' → (loadSem 24 (.pointer (some ⟨w.heap.size, 0, none⟩))).run Tryd.prog w' = .ok (.agg #[.slice a n c]) w' := fun w' h => LT w' (bel_trans hkc h)
      have LXc : ∀ w', Below wc.heap.size wc w' → (loadSem 27 (.pointer (some ⟨w.heap.size + 1, 0, none⟩))).run Tryd.prog w' = .ok (.agg x.cs) w' := fun w' h => LX w' (bel_trans hkc h)
      have LMc := rt_r bM
      have HCOc := fun w' (h : Below wc.heap.size wc w') => HCO w' (bel_trans hkc h)
      have HCKc := fun w' (h : Below wc.heap.size wc w') a1 c1 (ht : Tbl w' a1 c1 L) => tcheck_any a1 n c1 L w' (HW w' (bel_trans hkc h)) hn hm ht.at'
      have HRRc := fun w' (h : Below wc.heap.size wc w') => rright_any a n c L w' hn hm (HR w' (bel_trans hkc h))
      have HRA := refrightaddr_any x
      have h0c : Below wc.heap.size wc wc := Below.refl _ _
      have HBc := Lib.hid (bel_trans HB.out hkc)
      have HRX := Lib.hid (And.intro HR hkc)
      clear LT LX HCO HLO LD LE LDE HW HR hTW HWK bM hkc CT hT h0
      by_cases k1 : okT L
      · rw [eT_ok k1] at HCKc
        rw [decide_eq_true k1] at HRRc
        by_cases k2 : okA x
        · rw [decide_eq_true k2] at HRA
          have e0 : lgE L x = 0 := by unfold lgE; rw [if_neg (by simpa using k1), if_neg (by simpa using k2)]
          have e1 : lgB L x = longB L x := if_pos e0
          have e2 : lgR L x = longR L x := if_pos e0
          have HRLc := fun w' (h : Below wc.heap.size wc w') => rlong_any a n c L x w' hn hm (HRX.out.1 w' (bel_trans HRX.out.2 h)) k1.2.2
          rw [← e1, ← e2, hTT, hMM] at HRLc
          obtain rfl : E = 0 := by rw [← hEE, e0]
          have EQ := eqR M M
          rw [decide_eq_true rfl] at EQ
          have dTT : (T == T) = true := by simp
          clear e0 e1 e2 k1 k2 hTT hMM hEE
          have X1 := stx1 M
          have X3 : ∀ w' : World, (loadSem 43 (.pointer (some ⟨w'.heap.size, 0, none⟩))).run Tryd.prog (w'.alloc (.cells M.cs 43)) = .ok (.agg M.cs) (w'.alloc (.cells M.cs 43)) := fun w' => rt_r (Blk.new w' _ _) _ (Below.refl _ _)
          have LEc := bel_alloc_all wc
          go_wp2_with (first | (go_at_call 11; refine (HCOc _ (by assumption)).mono ?_; rintro e w2 ⟨a1, c1, rfl, ht1, _, hb2⟩; have hk2 : Below wc.heap.size wc w2 := bel_trans (by assumption) hb2; clear hb2) | (go_at_call 20; refine (HCKc _ (by assumption) _ _ (by assumption)).mono ?_; rintro e w2 ⟨rfl, hb2⟩; have hk2 : Below wc.heap.size wc w2 := bel_trans (by assumption) hb2; clear hb2) | (go_at_call 17; refine (HRRc _ (by assumption)).mono ?_; rintro e w2 ⟨rfl, hb2⟩; have hk2 : Below wc.heap.size wc w2 := bel_trans (by assumption) hb2; clear hb2) | (go_at_call 21; refine (HRA _).mono ?_; rintro e w2 ⟨rfl, hb2⟩; have hk2 : Below wc.heap.size wc w2 := bel_trans (by assumption) hb2; clear hb2) | (go_at_call 22; refine (HRLc _ (by assumption)).mono ?_; rintro e w2 ⟨rfl, hb2⟩; have hk2 : Below wc.heap.size wc w2 := bel_trans (by assumption) hb2; clear hb2))
          all_goals go_ret
          all_goals exact ⟨rfl, bel_trans HBc.out (by first | assumption | exact LEc _ _ (by assumption))⟩
        · rw [decide_eq_false k2] at HRA
          have e0 : lgE L x = 150 := by unfold lgE; rw [if_neg (by simpa using k1), if_pos k2]
          obtain rfl : E = 150 := by rw [← hEE, e0]
          obtain rfl : T = false := by rw [← hTT]; exact if_neg (by rw [e0]; omega)
          obtain rfl : M = Rt.zero := by rw [← hMM]; exact if_neg (by rw [e0]; omega)
          have EQ := eqR Rt.zero Rt.zero
          rw [decide_eq_true rfl] at EQ
          have B0 := build_rt0
          clear e0 k1 k2 hTT hMM hEE
          go_wp2_with (first | (go_at_call 11; refine (HCOc _ (by assumption)).mono ?_; rintro e w2 ⟨a1, c1, rfl, ht1, _, hb2⟩; have hk2 : Below wc.heap.size wc w2 := bel_trans (by assumption) hb2; clear hb2) | (go_at_call 20; refine (HCKc _ (by assumption) _ _ (by assumption)).mono ?_; rintro e w2 ⟨rfl, hb2⟩; have hk2 : Below wc.heap.size wc w2 := bel_trans (by assumption) hb2; clear hb2) | (go_at_call 17; refine (HRRc _ (by assumption)).mono ?_; rintro e w2 ⟨rfl, hb2⟩; have hk2 : Below wc.heap.size wc w2 := bel_trans (by assumption) hb2; clear hb2) | (go_at_call 21; refine (HRA _).mono ?_; rintro e w2 ⟨rfl, hb2⟩; have hk2 : Below wc.heap.size wc w2 := bel_trans (by assumption) hb2; clear hb2))
          all_goals go_ret
          all_goals exact ⟨rfl, bel_trans HBc.out (by assumption)⟩
      · rw [eT_no k1] at HCKc
        rw [decide_eq_false k1] at HRRc
        have e0 : lgE L x = 190 := by unfold lgE; rw [if_pos k1]
        obtain rfl : E = 190 := by rw [← hEE, e0]
        obtain rfl : T = false := by rw [← hTT]; exact if_neg (by rw [e0]; omega)
        obtain rfl : M = Rt.zero := by rw [← hMM]; exact if_neg (by rw [e0]; omega)
        have EQ := eqR Rt.zero Rt.zero
        rw [decide_eq_true rfl] at EQ
        have B0 := build_rt0
        clear e0 k1 hTT hMM hEE HRA
        go_wp2_with (first | (go_at_call 11; refine (HCOc _ (by assumption)).mono ?_; rintro e w2 ⟨a1, c1, rfl, ht1, _, hb2⟩; have hk2 : Below wc.heap.size wc w2 := bel_trans (by assumption) hb2; clear hb2) | (go_at_call 20; refine (HCKc _ (by assumption) _ _ (by assumption)).mono ?_; rintro e w2 ⟨rfl, hb2⟩; have hk2 : Below wc.heap.size wc w2 := bel_trans (by assumption) hb2; clear hb2) | (go_at_call 17; refine (HRRc _ (by assumption)).mono ?_; rintro e w2 ⟨rfl, hb2⟩; have hk2 : Below wc.heap.size wc w2 := bel_trans (by assumption) hb2; clear hb2) | (go_at_call 21; refine (HRA _).mono ?_; rintro e w2 ⟨rfl, hb2⟩; have hk2 : Below wc.heap.size wc w2 := bel_trans (by assumption) hb2; clear hb2))
        all_goals go_ret
        all_goals exact ⟨rfl, bel_trans HBc.out (by assumption)⟩
end Go.Proofs.YtfnagfmbhcaphaaDoor
