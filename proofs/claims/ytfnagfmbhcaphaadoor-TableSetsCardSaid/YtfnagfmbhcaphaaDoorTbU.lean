/-
  The walk of TableSets. Nothing here is a statement of the document.
-/
import Derived.Test.YtfnagfmbhcaphaaDoorTbT
namespace Go.Proofs.YtfnagfmbhcaphaaDoor
open Go.RowKit Go.Shelf
set_option linter.unusedVariables false
set_option maxRecDepth 100000
theorem stT1 (a : Option Addr) (n c : Nat) (w : World) : (storeSem 24 (.pointer (some ⟨w.heap.size, 0, none⟩)) (.agg #[.slice a n c])).run Tryd.prog (w.alloc (.cells #[.slice none 0 0] 24)) = .ok () (w.alloc (.cells #[.slice a n c] 24)) := by
  have := st_tab (a2 := a) (n2 := n) (c2 := c) (Blk.new w 24 #[.slice none 0 0])
  rwa [World.setRow_alloc_new] at this
def AftT (w w2 : World) : Prop := Below (w.alloc (.cells #[.slice none 0 0] 24)).heap.size (w.alloc (.cells #[.slice none 0 0] 24)) w2
theorem aftT_mk {w w2 : World} (h : Below (w.alloc (.cells #[.slice none 0 0] 24)).heap.size (w.alloc (.cells #[.slice none 0 0] 24)) w2) : AftT w w2 := h
theorem aftT_mkd {w w2 : World} (h : Below (w.alloc (.cells #[.slice none 0 0] 24)).drew.heap.size (w.alloc (.cells #[.slice none 0 0] 24)).drew w2) : AftT w w2 := ⟨h.os, h.tape, h.output, h.size, h.block⟩
theorem AftT.later {w w2 w3 : World} (h : AftT w w2) (k : Below w2.heap.size w2 w3) : AftT w w3 := bel_trans h k
theorem AftT.blk {w w2 : World} (h : AftT w w2) : Blk w2 w.heap.size 24 #[.slice none 0 0] := (Blk.new w 24 #[.slice none 0 0]).later h
theorem stT2 (a : Option Addr) (n c : Nat) (w w2 : World) (h : AftT w w2) : (storeSem 24 (.pointer (some ⟨w.heap.size, 0, none⟩)) (.agg #[.slice a n c])).run Tryd.prog w2 = .ok () (w2.setRow w.heap.size #[.slice a n c]) := st_tab h.blk
theorem blkT2 (a : Option Addr) (n c : Nat) (w w2 : World) (h : AftT w w2) : Blk (w2.setRow w.heap.size #[.slice a n c]) w.heap.size 24 #[.slice a n c] := h.blk.row _
/-- A store into a box of one cell leaves rows as they were. -/
theorem tblT2 {w w2 : World} (h : AftT w w2) {a : Option Addr} {c : Nat} {L : List Rt} (t : Tbl w2 a c L) (v : Value) : Tbl (w2.setRow w.heap.size #[v]) a c L := by
  by_cases hL : L = []
  · exact ⟨.inl hL, t.le, t.cap, t.nil⟩
  · refine t.kept ((Kept.refl [w.heap.size] w2).setRow (.inl (by simp)) _) fun x hx => ?_
    rcases t.at' with h1 | ⟨g, o, h1, h2⟩
    · exact absurd h1 hL
    · intro hm
      have e : g = w.heap.size := by rw [hx] at h1; cases h1; simpa using hm
      have hl : 0 < L.length := List.length_pos_iff.2 hL
      have q := h2.row 0 hl 1 (by omega)
      rw [e, h.blk.cell] at q
      simp at q
      have q2 := (rt L 0).size
      omega
attribute [local go_sem ↓] load_b16_rule store_b16_rule load_ad_rule store_ad_rule load_px_rule store_px_rule eq_b16_rule eq_ad_rule eq_px_rule load_rt_rule store_rt_rule build_ad_rule build_px_rule build_b16_rule build_rt_rule load_tab_rule build_tab_rule store_tab_rule tbuild_rule tapp_rule tcopy_rule eq_rt_rule

set_option maxHeartbeats 8000000 in
theorem tsets_walk (a : Option Addr) (n c : Nat) (L : List Rt) (p : Px) (hop : Int) (w : World) (hW : Wid w) (hn : L.length = n) (hT : Tbl w a c L) :
    Calls Tryd.prog 3 #[.agg #[.slice a n c], .agg p.cs, .int .i64 hop] w fun e w' => e = .returned (.bool true) ∧ Below w.heap.size w w' := by
  have hR := hT.at'
  have hm : n ≤ 9223372036854775807 := by have := hT.le; have := hT.cap; unfold maxLen at this; omega
  obtain ⟨W1, hW1⟩ : ∃ W1, (w.alloc (.cells #[.slice a n c] 24)).alloc (.cells p.cs 29) = W1 := ⟨_, rfl⟩
  have hb1 : Below w.heap.size w W1 := by rw [← hW1]; exact (((Below.refl w.heap.size w).alloc (Nat.le_refl _) _).alloc (by simp) _)
  have b1 : Blk W1 w.heap.size 24 #[.slice a n c] := by
    have h9 := (Blk.new w 24 #[.slice a n c]).alloc (.cells p.cs 29)
    rwa [hW1] at h9
  have b2 : Blk W1 (w.heap.size + 1) 29 p.cs := by
    have h9 := Blk.new (w.alloc (.cells #[.slice a n c] 24)) 29 p.cs
    rwa [World.size_alloc, hW1] at h9
  have LT := tab_t b1
  have CT := tab_c b1
  have LX := px_p b2
  have HR : ∀ w', Below W1.heap.size W1 w' → RowsAt w' a L := fun w' h => (hR.later hb1).later h
  have HW : ∀ w', Below W1.heap.size W1 w' → Wid w' := fun w' h => (hW.later hb1).later h
  have hTW : ∀ w', Below W1.heap.size W1 w' → Tbl w' a c L := fun w' h => (hT.later hb1).later h
  have h0 : Below W1.heap.size W1 W1 := Below.refl _ _
  have HB := Lib.hid hb1
  have HWK := fun w' h => wakes9_any w' (HW w' h)
  clear hR hW b1 b2 hb1
  by_cases h200 : 200 < n
  · have d1 : decide (200 < (n : Int)) = true := decide_eq_true (by omega)
    clear h200
    go_enter Tryd.func3, Tryd.ntmps3
    go_wp2_with (first | (go_at_call 9; refine (HWK _ (by assumption)).mono ?_; rintro e w2 ⟨rfl, hb2⟩; have hk2 : Below W1.heap.size W1 w2 := (by first | exact bel_trans (by assumption) hb2 | (subst hb2; assumption)); clear hb2))
    all_goals go_ret
    all_goals exact ⟨rfl, bel_trans HB.out (by assumption)⟩
  · have d1 : decide (200 < (n : Int)) = false := decide_eq_false (by omega)
    obtain ⟨X, hX⟩ : ∃ X, setM L p hop = X := ⟨_, rfl⟩
    obtain ⟨E, hE⟩ : ∃ E, setE L p hop = E := ⟨_, rfl⟩
    obtain ⟨Y, hY⟩ : ∃ Y, dropM L p = Y := ⟨_, rfl⟩
    obtain ⟨F, hF⟩ : ∃ F, dropE L p = F := ⟨_, rfl⟩
    obtain ⟨T, hTT⟩ : ∃ T, getB L p = T := ⟨_, rfl⟩
    obtain ⟨V, hV⟩ : ∃ V, getV L p = V := ⟨_, rfl⟩
    have HCO1 := fun w' (h : Below W1.heap.size W1 w') => copied_any a n c L w' hn (by omega) (hTW w' h)
    have HSE1 := fun w' (h : Below W1.heap.size W1 w') a1 c1 (ht : Tbl w' a1 c1 L) => set_any a1 n c1 L p hop w' (HW w' h) hn ht
    have HDR1 := fun w' (h : Below W1.heap.size W1 w') a1 c1 (ht : Tbl w' a1 c1 L) => drop_any a1 n c1 L p w' (HW w' h) hn ht
    have HGE1 := fun w' (h : Below W1.heap.size W1 w') a1 c1 (ht : Tbl w' a1 c1 L) => get_any a1 n c1 L p w' (HW w' h) hn ht
    have HRS1 := fun w' (h : Below W1.heap.size W1 w') => rset_any a n c L p hop w' (HW w' h) hn (hTW w' h)
    have HRD1 := fun w' (h : Below W1.heap.size W1 w') => rdrop_any a n c L p w' (HW w' h) hn (hTW w' h)
    have HRR1 := fun w' (h : Below W1.heap.size W1 w') => rright_any a n c L w' hn hm (HR w' h)
    have HRG1 := fun w' (h : Below W1.heap.size W1 w') (hL : L.Pairwise ltR) => rget_any a n c L p w' hn hm (hTW w' h) (HW w' h) hL
    rw [hX, hE] at HSE1 HRS1
    rw [hY, hF] at HDR1 HRD1
    rw [hTT, hV] at HGE1
    have HL := Lib.hid (And.intro LT (And.intro LX (And.intro HCO1 (And.intro HSE1 (And.intro HDR1 (And.intro HGE1 (And.intro HRS1 (And.intro HRD1 (And.intro HRR1 HRG1)))))))))
    have HV := Lib.hid (And.intro hTT hV)
    clear h200 hTT hV hX hE hY hF HCO1 HSE1 HDR1 HGE1 HRS1 HRD1 HRR1 HRG1 HW HR hTW hT hn hm
    go_enter Tryd.func3, Tryd.ntmps3
    go_wp2_with (first | (go_at_call 9; refine (HWK _ (by assumption)).mono ?_; rintro e w2 ⟨rfl, hb2⟩; have hk2 : Below W1.heap.size W1 w2 := (by first | exact bel_trans (by assumption) hb2 | (subst hb2; assumption)); clear hb2))
    clear HWK CT LT LX h0
    have h0 : Below W1.heap.size W1 W1 := Below.refl _ _
    have LT := fun w' (h : Below W1.heap.size W1 w') => HL.out.1 w' h
    have LX := fun w' (h : Below W1.heap.size W1 w') => HL.out.2.1 w' h
    have HCO := fun w' (h : Below W1.heap.size W1 w') => HL.out.2.2.1 w' h
    have HSE := fun w' (h : Below W1.heap.size W1 w') => HL.out.2.2.2.1 w' h
    have LD := bel_drew_all W1
    have LE := bel_alloc_all W1
    have LDE : ∀ (w' : World) o, Below W1.heap.size W1 w' → Below W1.heap.size W1 (w'.alloc o).drew := fun w' o h => LD _ (LE _ _ h)
    go_cut [7, 8] from 24 (fun r e wc => ∃ g a' c', r = .pointer (some ⟨g, 0, none⟩) ∧ e = .int .i64 E ∧ Blk wc g 24 #[.slice a' X.length c'] ∧ Tbl wc a' c' X ∧ Below W1.heap.size W1 wc)
    case first =>
      have X1 := stT1
      have X2 := stT2
      have X1d : ∀ (a : Option Addr) (n c : Nat) (w : World), (storeSem 24 (.pointer (some ⟨w.heap.size, 0, none⟩)) (.agg #[.slice a n c])).run Tryd.prog (w.drew.alloc (.cells #[.slice none 0 0] 24)) = .ok () (w.drew.alloc (.cells #[.slice a n c] 24)) := fun a n c w => stT1 a n c w.drew
      have X2d : ∀ (a : Option Addr) (n c : Nat) (w w2 : World), AftT w.drew w2 → (storeSem 24 (.pointer (some ⟨w.heap.size, 0, none⟩)) (.agg #[.slice a n c])).run Tryd.prog w2 = .ok () (w2.setRow w.heap.size #[.slice a n c]) := fun a n c w w2 h => stT2 a n c w.drew w2 h
      go_region_with (first | (go_at_call 11; refine (HCO _ (by first | assumption | exact LD _ (by assumption) | exact LE _ _ (by assumption) | exact LE _ _ (LD _ (by assumption)) | exact LDE _ _ (by assumption))).mono ?_; rintro e w2 ⟨a1, c1, rfl, ht1, _, hb2⟩; have hk2 : Below W1.heap.size W1 w2 := bel_trans (by first | assumption | exact LD _ (by assumption) | exact LE _ _ (by assumption) | exact LE _ _ (LD _ (by assumption)) | exact LDE _ _ (by assumption)) hb2; (try have hy2 := aftT_mkd hb2); (try have hz2 := aftT_mk hb2)) | (go_at_call 10; refine (HSE _ (by first | assumption | exact LD _ (by assumption) | exact LE _ _ (by assumption) | exact LE _ _ (LD _ (by assumption)) | exact LDE _ _ (by assumption)) _ _ (by first | assumption | exact Tbl.later (by assumption) ((Below.refl _ _).alloc (Nat.le_refl _) _) | exact Tbl.later (by assumption) (bel_drew ((Below.refl _ _).alloc (Nat.le_refl _) _)))).mono ?_; rintro e w3 ⟨a3, c3, rfl, ht3, _, hb3⟩; have hk3 : Below W1.heap.size W1 w3 := bel_trans (by first | assumption | exact LD _ (by assumption) | exact LE _ _ (by assumption) | exact LE _ _ (LD _ (by assumption)) | exact LDE _ _ (by assumption)) hb3; (try have ha2 := aftT_mkd hb3); (try have ha3 := aftT_mk hb3); (try have ha4 := AftT.later (by assumption) hb3)))
      all_goals go_wp2_with fail
      all_goals go_meet
      all_goals first
        | exact ⟨_, _, _, rfl, rfl, Blk.new _ _ _, (by first | exact Tbl.later (by assumption) ((Below.refl _ _).alloc (Nat.le_refl _) _) | exact Tbl.later (by assumption) (bel_drew ((Below.refl _ _).alloc (Nat.le_refl _) _))), (by first | assumption | exact LD _ (by assumption) | exact LE _ _ (by assumption) | exact LE _ _ (LD _ (by assumption)) | exact LDE _ _ (by assumption))⟩
        | exact ⟨_, _, _, rfl, rfl, blkT2 _ _ _ _ _ (by assumption), tblT2 (by assumption) (by assumption) _, below_setRow (by first | assumption | exact LD _ (by assumption) | exact LE _ _ (by assumption) | exact LE _ _ (LD _ (by assumption)) | exact LDE _ _ (by assumption)) (by first | exact (Below.size (w := W1) (B := W1.heap.size) (by assumption)) | exact h0.size) _⟩
    case rest =>
      generalize wc = V7 at *
      obtain ⟨g7, a7, c7, rfl, rfl, b7, t7, hk7⟩ := hcut
      have HKV7 := Lib.hid hk7
      clear h0 LD LE LDE LT LX HCO HSE
      have HH7 := Lib.hid (And.intro b7 (And.intro t7 hk7))
      clear b7 t7 hk7
      have h0 : Below V7.heap.size V7 V7 := Below.refl _ _
      have LT := fun w' (h : Below V7.heap.size V7 w') => HL.out.1 w' (bel_trans HKV7.out h)
      have LX := fun w' (h : Below V7.heap.size V7 w') => HL.out.2.1 w' (bel_trans HKV7.out h)
      have HRS := fun w' (h : Below V7.heap.size V7 w') => HL.out.2.2.2.2.2.2.1 w' (bel_trans HKV7.out h)
      have LD := bel_drew_all V7
      have LE := bel_alloc_all V7
      have LDE : ∀ (w' : World) o, Below V7.heap.size V7 w' → Below V7.heap.size V7 (w'.alloc o).drew := fun w' o h => LD _ (LE _ _ h)
      go_upto_region 6 with fail
      go_cut [9, 10] from 32 (fun r e wc => ∃ g a' c', r = .pointer (some ⟨g, 0, none⟩) ∧ e = .int .i64 E ∧ Blk wc g 24 #[.slice a' X.length c'] ∧ Tbl wc a' c' X ∧ Below V7.heap.size V7 wc)
      case first =>
        have X1 := stT1
        have X2 := stT2
        have X1d : ∀ (a : Option Addr) (n c : Nat) (w : World), (storeSem 24 (.pointer (some ⟨w.heap.size, 0, none⟩)) (.agg #[.slice a n c])).run Tryd.prog (w.drew.alloc (.cells #[.slice none 0 0] 24)) = .ok () (w.drew.alloc (.cells #[.slice a n c] 24)) := fun a n c w => stT1 a n c w.drew
        have X2d : ∀ (a : Option Addr) (n c : Nat) (w w2 : World), AftT w.drew w2 → (storeSem 24 (.pointer (some ⟨w.heap.size, 0, none⟩)) (.agg #[.slice a n c])).run Tryd.prog w2 = .ok () (w2.setRow w.heap.size #[.slice a n c]) := fun a n c w w2 h => stT2 a n c w.drew w2 h
        go_wp2_with (first | (go_at_call 12; refine (HRS _ (by first | assumption | exact LD _ (by assumption) | exact LE _ _ (by assumption) | exact LE _ _ (LD _ (by assumption)) | exact LDE _ _ (by assumption))).mono ?_; rintro e w3 ⟨a3, c3, rfl, ht3, _, hb3⟩; have hk3 : Below V7.heap.size V7 w3 := bel_trans (by first | assumption | exact LD _ (by assumption) | exact LE _ _ (by assumption) | exact LE _ _ (LD _ (by assumption)) | exact LDE _ _ (by assumption)) hb3) | (with_reducible refine wpList_alloc_z rfl 24 rfl #[.slice none 0 0] 1 z_tab ?_))
        all_goals go_meet
        all_goals first
          | exact ⟨_, _, _, rfl, rfl, Blk.new _ _ _, (by first | exact Tbl.later (by assumption) ((Below.refl _ _).alloc (Nat.le_refl _) _) | exact Tbl.later (by assumption) (bel_drew ((Below.refl _ _).alloc (Nat.le_refl _) _))), (by first | assumption | exact LD _ (by assumption) | exact LE _ _ (by assumption) | exact LE _ _ (LD _ (by assumption)) | exact LDE _ _ (by assumption))⟩
          | exact ⟨_, _, _, rfl, rfl, blkT2 _ _ _ _ _ (by assumption), tblT2 (by assumption) (by assumption) _, below_setRow (by first | assumption | exact LD _ (by assumption) | exact LE _ _ (by assumption) | exact LE _ _ (LD _ (by assumption)) | exact LDE _ _ (by assumption)) (by first | exact (Below.size (w := V7) (B := V7.heap.size) (by assumption)) | exact h0.size) _⟩
      case rest =>
        generalize wc = V9 at *
        obtain ⟨g9, a9, c9, rfl, rfl, b9, t9, hk9⟩ := hcut
        have HKV9 := Lib.hid (bel_trans HKV7.out hk9)
        clear h0 LD LE LDE LT LX HRS
        have HH9 := Lib.hid (And.intro b9 (And.intro t9 hk9))
        clear b9 t9 hk9
        have h0 : Below V9.heap.size V9 V9 := Below.refl _ _
        have LT := fun w' (h : Below V9.heap.size V9 w') => HL.out.1 w' (bel_trans HKV9.out h)
        have LX := fun w' (h : Below V9.heap.size V9 w') => HL.out.2.1 w' (bel_trans HKV9.out h)
        have HCO := fun w' (h : Below V9.heap.size V9 w') => HL.out.2.2.1 w' (bel_trans HKV9.out h)
        have HDR := fun w' (h : Below V9.heap.size V9 w') => HL.out.2.2.2.2.1 w' (bel_trans HKV9.out h)
        have LD := bel_drew_all V9
        have LE := bel_alloc_all V9
        have LDE : ∀ (w' : World) o, Below V9.heap.size V9 w' → Below V9.heap.size V9 (w'.alloc o).drew := fun w' o h => LD _ (LE _ _ h)
        go_upto_region 7 with fail
        go_cut [11, 12] from 39 (fun r e wc => ∃ g a' c', r = .pointer (some ⟨g, 0, none⟩) ∧ e = .int .i64 F ∧ Blk wc g 24 #[.slice a' Y.length c'] ∧ Tbl wc a' c' Y ∧ Below V9.heap.size V9 wc)
        case first =>
          have X1 := stT1
          have X2 := stT2
          have X1d : ∀ (a : Option Addr) (n c : Nat) (w : World), (storeSem 24 (.pointer (some ⟨w.heap.size, 0, none⟩)) (.agg #[.slice a n c])).run Tryd.prog (w.drew.alloc (.cells #[.slice none 0 0] 24)) = .ok () (w.drew.alloc (.cells #[.slice a n c] 24)) := fun a n c w => stT1 a n c w.drew
          have X2d : ∀ (a : Option Addr) (n c : Nat) (w w2 : World), AftT w.drew w2 → (storeSem 24 (.pointer (some ⟨w.heap.size, 0, none⟩)) (.agg #[.slice a n c])).run Tryd.prog w2 = .ok () (w2.setRow w.heap.size #[.slice a n c]) := fun a n c w w2 h => stT2 a n c w.drew w2 h
          go_region_with (first | (go_at_call 11; refine (HCO _ (by first | assumption | exact LD _ (by assumption) | exact LE _ _ (by assumption) | exact LE _ _ (LD _ (by assumption)) | exact LDE _ _ (by assumption))).mono ?_; rintro e w2 ⟨a1, c1, rfl, ht1, _, hb2⟩; have hk2 : Below V9.heap.size V9 w2 := bel_trans (by first | assumption | exact LD _ (by assumption) | exact LE _ _ (by assumption) | exact LE _ _ (LD _ (by assumption)) | exact LDE _ _ (by assumption)) hb2; (try have hy2 := aftT_mkd hb2); (try have hz2 := aftT_mk hb2)) | (go_at_call 13; refine (HDR _ (by first | assumption | exact LD _ (by assumption) | exact LE _ _ (by assumption) | exact LE _ _ (LD _ (by assumption)) | exact LDE _ _ (by assumption)) _ _ (by first | assumption | exact Tbl.later (by assumption) ((Below.refl _ _).alloc (Nat.le_refl _) _) | exact Tbl.later (by assumption) (bel_drew ((Below.refl _ _).alloc (Nat.le_refl _) _)))).mono ?_; rintro e w3 ⟨a3, c3, rfl, ht3, _, hb3⟩; have hk3 : Below V9.heap.size V9 w3 := bel_trans (by first | assumption | exact LD _ (by assumption) | exact LE _ _ (by assumption) | exact LE _ _ (LD _ (by assumption)) | exact LDE _ _ (by assumption)) hb3; (try have ha2 := aftT_mkd hb3); (try have ha3 := aftT_mk hb3); (try have ha4 := AftT.later (by assumption) hb3)))
          all_goals go_wp2_with fail
          all_goals go_meet
          all_goals first
            | exact ⟨_, _, _, rfl, rfl, Blk.new _ _ _, (by first | exact Tbl.later (by assumption) ((Below.refl _ _).alloc (Nat.le_refl _) _) | exact Tbl.later (by assumption) (bel_drew ((Below.refl _ _).alloc (Nat.le_refl _) _))), (by first | assumption | exact LD _ (by assumption) | exact LE _ _ (by assumption) | exact LE _ _ (LD _ (by assumption)) | exact LDE _ _ (by assumption))⟩
            | exact ⟨_, _, _, rfl, rfl, blkT2 _ _ _ _ _ (by assumption), tblT2 (by assumption) (by assumption) _, below_setRow (by first | assumption | exact LD _ (by assumption) | exact LE _ _ (by assumption) | exact LE _ _ (LD _ (by assumption)) | exact LDE _ _ (by assumption)) (by first | exact (Below.size (w := V9) (B := V9.heap.size) (by assumption)) | exact h0.size) _⟩
        case rest =>
          generalize wc = V11 at *
          obtain ⟨g11, a11, c11, rfl, rfl, b11, t11, hk11⟩ := hcut
          have HKV11 := Lib.hid (bel_trans HKV9.out hk11)
          clear h0 LD LE LDE LT LX HCO HDR
          have HH11 := Lib.hid (And.intro b11 (And.intro t11 hk11))
          clear b11 t11 hk11
          have h0 : Below V11.heap.size V11 V11 := Below.refl _ _
          have LT := fun w' (h : Below V11.heap.size V11 w') => HL.out.1 w' (bel_trans HKV11.out h)
          have LX := fun w' (h : Below V11.heap.size V11 w') => HL.out.2.1 w' (bel_trans HKV11.out h)
          have HRD := fun w' (h : Below V11.heap.size V11 w') => HL.out.2.2.2.2.2.2.2.1 w' (bel_trans HKV11.out h)
          have LD := bel_drew_all V11
          have LE := bel_alloc_all V11
          have LDE : ∀ (w' : World) o, Below V11.heap.size V11 w' → Below V11.heap.size V11 (w'.alloc o).drew := fun w' o h => LD _ (LE _ _ h)
          go_upto_region 8 with fail
          go_cut [13, 14] from 46 (fun r e wc => ∃ g a' c', r = .pointer (some ⟨g, 0, none⟩) ∧ e = .int .i64 F ∧ Blk wc g 24 #[.slice a' Y.length c'] ∧ Tbl wc a' c' Y ∧ Below V11.heap.size V11 wc)
          case first =>
            have X1 := stT1
            have X2 := stT2
            have X1d : ∀ (a : Option Addr) (n c : Nat) (w : World), (storeSem 24 (.pointer (some ⟨w.heap.size, 0, none⟩)) (.agg #[.slice a n c])).run Tryd.prog (w.drew.alloc (.cells #[.slice none 0 0] 24)) = .ok () (w.drew.alloc (.cells #[.slice a n c] 24)) := fun a n c w => stT1 a n c w.drew
            have X2d : ∀ (a : Option Addr) (n c : Nat) (w w2 : World), AftT w.drew w2 → (storeSem 24 (.pointer (some ⟨w.heap.size, 0, none⟩)) (.agg #[.slice a n c])).run Tryd.prog w2 = .ok () (w2.setRow w.heap.size #[.slice a n c]) := fun a n c w w2 h => stT2 a n c w.drew w2 h
            go_wp2_with (first | (go_at_call 14; refine (HRD _ (by first | assumption | exact LD _ (by assumption) | exact LE _ _ (by assumption) | exact LE _ _ (LD _ (by assumption)) | exact LDE _ _ (by assumption))).mono ?_; rintro e w3 ⟨a3, c3, rfl, ht3, _, hb3⟩; have hk3 : Below V11.heap.size V11 w3 := bel_trans (by first | assumption | exact LD _ (by assumption) | exact LE _ _ (by assumption) | exact LE _ _ (LD _ (by assumption)) | exact LDE _ _ (by assumption)) hb3) | (with_reducible refine wpList_alloc_z rfl 24 rfl #[.slice none 0 0] 1 z_tab ?_))
            all_goals go_meet
            all_goals first
              | exact ⟨_, _, _, rfl, rfl, Blk.new _ _ _, (by first | exact Tbl.later (by assumption) ((Below.refl _ _).alloc (Nat.le_refl _) _) | exact Tbl.later (by assumption) (bel_drew ((Below.refl _ _).alloc (Nat.le_refl _) _))), (by first | assumption | exact LD _ (by assumption) | exact LE _ _ (by assumption) | exact LE _ _ (LD _ (by assumption)) | exact LDE _ _ (by assumption))⟩
              | exact ⟨_, _, _, rfl, rfl, blkT2 _ _ _ _ _ (by assumption), tblT2 (by assumption) (by assumption) _, below_setRow (by first | assumption | exact LD _ (by assumption) | exact LE _ _ (by assumption) | exact LE _ _ (LD _ (by assumption)) | exact LDE _ _ (by assumption)) (by first | exact (Below.size (w := V11) (B := V11.heap.size) (by assumption)) | exact h0.size) _⟩
          case rest =>
            generalize wc = V13 at *
            obtain ⟨g13, a13, c13, rfl, rfl, b13, t13, hk13⟩ := hcut
            have HKV13 := Lib.hid (bel_trans HKV11.out hk13)
            clear h0 LD LE LDE LT LX HRD
            have HH13 := Lib.hid (And.intro b13 (And.intro t13 hk13))
            clear b13 t13 hk13
            have k9 := HH9.out.2.2
            have k11 := HH11.out.2.2
            have k13 := HH13.out.2.2
            have q9 := bel_trans k11 k13
            have q7 := bel_trans k9 q9
            have ta := HH7.out.2.1.later q7
            have tb := HH9.out.2.1.later q9
            have tc := HH11.out.2.1.later k13
            have td := HH13.out.2.1
            have LA := tab_t (HH7.out.1.later q7)
            have LB := tab_t (HH9.out.1.later q9)
            have LC := tab_t (HH11.out.1.later k13)
            have LDD := tab_t HH13.out.1
            have xm : X.length ≤ 9223372036854775807 := by have := ta.le; have := ta.cap; unfold maxLen at this; omega
            have ym : Y.length ≤ 9223372036854775807 := by have := tc.le; have := tc.cap; unfold maxLen at this; omega
            have HS1 := fun w' (h : Below V13.heap.size V13 w') => rsame_any a7 a9 X.length c7 X.length c9 X X w' rfl xm (ta.later h).at' rfl xm (tb.later h).at'
            have HS2 := fun w' (h : Below V13.heap.size V13 w') => rsame_any a11 a13 Y.length c11 Y.length c13 Y Y w' rfl ym (tc.later h).at' rfl ym (td.later h).at'
            rw [decide_eq_true rfl] at HS1 HS2
            have dE : (E != E) = false := by simp
            have dF : (F != F) = false := by simp
            clear k9 k11 k13 q9 q7 ta tb tc td xm ym
            have h0 : Below V13.heap.size V13 V13 := Below.refl _ _
            go_upto_region 9 with fail
            go_wp2_with fail
            refine (HS1 _ h0).mono ?_
            rintro e w2 ⟨rfl, hb2⟩
            have hk2 : Below V13.heap.size V13 w2 := hb2
            clear hb2 HS1
            go_wp2_with fail
            refine (HS2 _ hk2).mono ?_
            rintro e w3 ⟨rfl, hb3⟩
            have hk3 : Below V13.heap.size V13 w3 := bel_trans hk2 hb3
            clear hb3 HS2 hk2
            go_upto_region 11 with fail
            clear LA LB LC LDD dE dF h0
            have LT := fun w' (h : Below V13.heap.size V13 w') => HL.out.1 w' (bel_trans HKV13.out h)
            have LX := fun w' (h : Below V13.heap.size V13 w') => HL.out.2.1 w' (bel_trans HKV13.out h)
            have HCO := fun w' (h : Below V13.heap.size V13 w') => HL.out.2.2.1 w' (bel_trans HKV13.out h)
            have HGE := fun w' (h : Below V13.heap.size V13 w') => HL.out.2.2.2.2.2.1 w' (bel_trans HKV13.out h)
            have LD := bel_drew_all V13
            have LE := bel_alloc_all V13
            have LDE : ∀ (w' : World) o, Below V13.heap.size V13 w' → Below V13.heap.size V13 (w'.alloc o).drew := fun w' o h => LD _ (LE _ _ h)
            go_cut [15, 16] from 72 (fun v t wc => v = .int .i64 V ∧ t = .bool T ∧ Below V13.heap.size V13 wc)
            case first =>
              go_region_with (first | (go_at_call 11; refine (HCO _ (by first | assumption | exact LD _ (by assumption) | exact LE _ _ (by assumption) | exact LE _ _ (LD _ (by assumption)) | exact LDE _ _ (by assumption))).mono ?_; rintro e w2 ⟨a1, c1, rfl, ht1, _, hb2⟩; have hk2 : Below V13.heap.size V13 w2 := bel_trans (by first | assumption | exact LD _ (by assumption) | exact LE _ _ (by assumption) | exact LE _ _ (LD _ (by assumption)) | exact LDE _ _ (by assumption)) hb2; (try have hy2 := aftT_mkd hb2); (try have hz2 := aftT_mk hb2)) | (go_at_call 16; refine (HGE _ (by first | assumption | exact LD _ (by assumption) | exact LE _ _ (by assumption) | exact LE _ _ (LD _ (by assumption)) | exact LDE _ _ (by assumption)) _ _ (by first | assumption | exact Tbl.later (by assumption) ((Below.refl _ _).alloc (Nat.le_refl _) _) | exact Tbl.later (by assumption) (bel_drew ((Below.refl _ _).alloc (Nat.le_refl _) _)))).mono ?_; rintro e w3 ⟨rfl, hb3⟩; have hk3 : Below V13.heap.size V13 w3 := bel_trans (by first | assumption | exact LD _ (by assumption) | exact LE _ _ (by assumption) | exact LE _ _ (LD _ (by assumption)) | exact LDE _ _ (by assumption)) hb3; (try have ha2 := aftT_mkd hb3); (try have ha3 := aftT_mk hb3); (try have ha4 := AftT.later (by assumption) hb3)))
              all_goals go_wp2_with fail
              all_goals go_meet
              all_goals first
                | exact ⟨rfl, rfl, (by first | assumption | exact LD _ (by assumption) | exact LE _ _ (by assumption) | exact LE _ _ (LD _ (by assumption)) | exact LDE _ _ (by assumption))⟩
            case rest =>
              generalize wc = V15 at *
              obtain ⟨rfl, rfl, hk15⟩ := hcut
              clear LD LE LDE HCO HGE
              have HBZ := Lib.hid (bel_trans HB.out HKV13.out)
              have HRR := fun w' (h : Below V13.heap.size V13 w') => HL.out.2.2.2.2.2.2.2.2.1 w' (bel_trans HKV13.out h)
              by_cases k1 : okT L
              · rw [decide_eq_true k1] at HRR
                have HRG := fun w' (h : Below V13.heap.size V13 w') => HL.out.2.2.2.2.2.2.2.2.2 w' (bel_trans HKV13.out h) k1.2.2
                have e1 : rgetV L p = V := by rw [← HV.out.2]; unfold rgetV getV; rw [if_pos k1]
                have e2 : decide (0 < V) = T := by
                  rw [← HV.out.1, ← HV.out.2]
                  unfold getV getB
                  rw [if_pos k1, decide_eq_true k1]
                  rcases ix_spec L p with ⟨i, i1, i2, i3, _⟩ | ⟨i1, _⟩
                  · have q := (hop_get k1 i1 i2).2
                    rw [i2, if_neg (by omega), Int.toNat_natCast, decide_eq_true (by omega)]
                    simp
                  · rw [i1]; simp
                rw [e1] at HRG
                have dV : (V == V) = true := by simp
                have dT : (T == T) = true := by simp
                clear k1 e1
                go_wp2_with (first | (go_at_call 17; refine (HRR _ (by assumption)).mono ?_; rintro e w2 ⟨rfl, hb2⟩; have hk2 : Below V13.heap.size V13 w2 := bel_trans (by assumption) hb2; clear hb2) | (go_at_call 18; refine (HRG _ (by assumption)).mono ?_; rintro e w2 ⟨rfl, hb2⟩; have hk2 : Below V13.heap.size V13 w2 := bel_trans (by assumption) hb2; clear hb2))
                all_goals go_ret
                all_goals exact ⟨rfl, bel_trans HBZ.out (by assumption)⟩
              · rw [decide_eq_false k1] at HRR
                obtain rfl : V = 0 := by rw [← HV.out.2]; unfold getV; rw [if_neg k1]
                obtain rfl : T = false := by rw [← HV.out.1]; unfold getB; rw [decide_eq_false k1]; rfl
                clear k1
                go_wp2_with (go_at_call 17; refine (HRR _ (by assumption)).mono ?_; rintro e w2 ⟨rfl, hb2⟩; have hk2 : Below V13.heap.size V13 w2 := bel_trans (by assumption) hb2; clear hb2)
                all_goals go_ret
                all_goals exact ⟨rfl, bel_trans HBZ.out (by assumption)⟩
end Go.Proofs.YtfnagfmbhcaphaaDoor
