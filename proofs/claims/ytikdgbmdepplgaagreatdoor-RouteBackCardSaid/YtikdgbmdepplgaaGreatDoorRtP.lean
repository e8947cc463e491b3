/-
  What a batch makes of a RIB: words for it. Nothing here is a statement of the document.
-/
import Derived.Test.YtikdgbmdepplgaaGreatDoorRtM
import Derived.Test.YtikdgbmdepplgaaGreatDoorRtJ
namespace Go.Proofs.YtikdgbmdepplgaaGreatDoor
open Go.RowKit Go.Shelf
set_option linter.unusedVariables false
set_option maxRecDepth 100000
attribute [local go_sem ↓] load_ro_rule store_ro_rule load_up_rule store_up_rule
/-- A batch. -/
def okBat (L : List Up) : Prop := (1 ≤ L.length ∧ L.length ≤ 8) ∧ (∀ j, j < L.length → okUp (upg L j)) ∧ ∀ j, j < L.length → ∀ i, i < j → ¬ spk (upg L j) (said (upg L i))
noncomputable instance (L : List Up) : Decidable (okBat L) := Classical.propDecidable _
noncomputable def batE (L : List Up) : Int := if okBat L then 0 else 210
theorem load_bat_rule (v : Value) : Instr.loadAt 27 v = loadSem 27 v := rfl
theorem store_bat_rule (v x : Value) : Instr.storeAt 27 v x = storeSem 27 v x := rfl
attribute [local go_sem ↓] load_bat_rule store_bat_rule
theorem UpAt.spot {w : World} {a : Option Addr} {L : List Up} (h : UpAt w a L) {i : Nat} (hi : i < L.length) : ∃ g o, a = some ⟨g, o, none⟩ ∧ Ups w g o L := by
  rcases h with rfl | h
  · simp at hi
  · exact h
/-- An update in a new block. -/
theorem up_new (x : Up) (w : World) : ∃ W, (storeSem 48 (.pointer (some ⟨w.heap.size, 0, none⟩)) (.agg x.cs)).run Tryz.prog (w.alloc (.cells Up.zero.cs 48)) = .ok () W ∧ Blk W w.heap.size 48 x.cs ∧ Below w.heap.size w W :=
  ⟨_, st_up (Blk.new w _ _), Blk.row (Blk.new w _ _) _, below_setRow ((Below.refl _ _).alloc (Nat.le_refl _) _) (Nat.le_refl _) _⟩
set_option maxHeartbeats 4000000 in
theorem bcheck_any (a : Option Addr) (n c : Nat) (L : List Up) (w : World) (hW : Wid w) (hn : L.length = n) (hs : n ≤ 1000000) (hnc : n ≤ c) (hR : UpAt w a L) :
    Calls Tryz.prog 22 #[.agg #[.slice a n c]] w fun e w' => e = .returned (.int .i64 (batE L)) ∧ Below w.heap.size w w' := by
  obtain ⟨W1, hW1⟩ : ∃ W1, w.alloc (.cells #[.slice a n c] 27) = W1 := ⟨_, rfl⟩
  have hb1 : Below w.heap.size w W1 := by rw [← hW1]; exact (Below.refl _ _).alloc (Nat.le_refl _) _
  have b1 : Blk W1 w.heap.size 27 #[.slice a n c] := by rw [← hW1]; exact Blk.new _ _ _
  have CT : ∀ w', Below W1.heap.size W1 w' → w'.cell? ⟨w.heap.size, 0, none⟩ = some (.slice a n c) := fun w' k => (b1.later k).cell 0
  have HR : ∀ w', Below W1.heap.size W1 w' → UpAt w' a L := fun w' h => (hR.later hb1).later h
  have CT1 := CT W1 (Below.refl _ _)
  have HB := Lib.hid (And.intro hb1 (And.intro (hW.later hb1) hn))
  clear hb1 b1 hR hW hn
  by_cases h0 : n = 0
  · have HV := Lib.hid (show batE L = 210 from if_neg fun h => by have := h.1; have := HB.out.2.2; omega)
    subst h0
    clear CT HR
    go_enter Tryz.func22, Tryz.ntmps22
    go_wp2
    all_goals go_ret
    all_goals exact ⟨by rw [HV.out]; rfl, HB.out.1⟩
  have d0 : ((n : Int) == 0) = false := by simp; omega
  by_cases h8 : 8 < n
  · have HV := Lib.hid (show batE L = 210 from if_neg fun h => by have := h.1; have := HB.out.2.2; omega)
    have d8 : (8 : Int) < (n : Int) := by omega
    clear CT HR
    go_enter Tryz.func22, Tryz.ntmps22
    go_wp2
    all_goals go_ret
    all_goals exact ⟨by rw [HV.out]; rfl, HB.out.1⟩
  have d8 : ¬ ((8 : Int) < (n : Int)) := by omega
  go_enter Tryz.func22, Tryz.ntmps22
  go_wp2_with fail
  go_loopw [20] (fun i wr => ∃ k : Nat, k ≤ n ∧ i = .int .i64 (k : Int) ∧ (∀ j, j < k → okUp (upg L j)) ∧ (∀ j, j < k → ∀ i, i < j → ¬ spk (upg L j) (said (upg L i))) ∧ Below W1.heap.size W1 wr) (fun i _ => n - (intOf i).toNat)
  case atStart => exact ⟨0, Nat.zero_le _, rfl, fun j hj => absurd hj (Nat.not_lt_zero _), fun j hj => absurd hj (Nat.not_lt_zero _), Below.refl _ _⟩
  case round =>
    obtain ⟨k, hk, rfl, hok, hup, hkb⟩ := hrel
    obtain ⟨wo, hwo⟩ : ∃ wo, wo = wr := ⟨_, rfl⟩
    subst hwo
    have hnL := HB.out.2.2
    clear CT1
    by_cases hlt : k < n
    · have hkl : k < L.length := by omega
      obtain ⟨g, o, hao, hrow⟩ := (HR wo hkb).spot hkl
      have LK := hrow.load hkl
      obtain ⟨W3, hst, hblk, hb3⟩ := up_new (upg L k) wo
      have LX := up_r hblk W3 (Below.refl _ _)
      have hb13 := bel_trans hkb hb3
      have HCI := isupd_any (upg L k) W3 (HB.out.2.1.later hb13)
      have HRow := Lib.hid hrow
      have HK := Lib.hid (And.intro hok (And.intro hup (And.intro hkb (And.intro hb13 (And.intro hkl (And.intro hnL hblk))))))
      have HR' := Lib.hid HR
      have HCT := Lib.hid CT
      clear hrow hok hup hkb hb3 hblk CT HR hb13 hnL
      subst hao
      by_cases he : okUp (upg L k)
      · rw [decide_eq_true he] at HCI
        go_wp2_with (with_reducible refine wpList_alloc_z rfl 48 rfl Up.zero.cs 22 z_up ?_)
        refine HCI.mono ?_
        rintro e W4 ⟨rfl, hb4⟩
        have CT4 := HCT.out W4 (bel_trans HK.out.2.2.2.1 hb4)
        have HB4 := Lib.hid hb4
        have i1 : (k : Int) ≤ (c : Int) := by omega
        have i2 : k ≤ c := by omega
        clear hb4 HCI LX hst LK
        go_wp2_with fail
        go_loopw [33] (fun i wr => ∃ j : Nat, j ≤ k ∧ i = .int .i64 (j : Int) ∧ (∀ i, i < j → ¬ spk (upg L k) (said (upg L i))) ∧ Below W4.heap.size W4 wr) (fun i _ => k - (intOf i).toNat)
        case atStart => exact ⟨0, Nat.zero_le _, rfl, fun j hj => absurd hj (Nat.not_lt_zero _), Below.refl _ _⟩
        case round =>
          obtain ⟨j, hj, rfl, hno, hjb⟩ := hrel
          clear CT4
          have hb14 : Below W1.heap.size W1 wr := bel_trans HK.out.2.2.2.1 (bel_trans HB4.out hjb)
          by_cases hjk : j < k
          · have hrow2 : Ups wr g o L := by
              rcases HR'.out wr hb14 with h9 | ⟨g2, o2, h9, h8⟩
              · exact absurd h9 (by intro h7; have := HK.out.2.2.2.2.1; rw [h7] at this; simp at this)
              · cases h9; exact h8
            have LK := hrow2.load (i := j) (by have := HK.out.2.2.2.2.1; omega)
            obtain ⟨W6, hst, hblk, hb6⟩ := up_new (upg L j) wr
            have LX := up_r hblk
            have hbk : Blk W6 wo.heap.size 48 (upg L k).cs := HK.out.2.2.2.2.2.2.later (bel_trans HB4.out (bel_trans hjb hb6))
            have LY := up_r hbk
            have HCS := fun w' => speaks_any (upg L k) (said (upg L j)) w'
            have h06 : Below W6.heap.size W6 W6 := Below.refl _ _
            have HJ := Lib.hid (And.intro hno (And.intro (bel_trans hjb hb6) (bel_trans hb14 hb6)))
            clear hrow2 hno hjb hb6 hb14 hblk hbk
            by_cases hsp : spk (upg L k) (said (upg L j))
            · simp only [decide_eq_true hsp] at HCS
              have HV := Lib.hid (show batE L = 210 from if_neg fun h => h.2.2 k HK.out.2.2.2.2.1 j hjk hsp)
              clear hsp
              go_upto_region 11 with (with_reducible refine wpList_alloc_z rfl 48 rfl Up.zero.cs 22 z_up ?_)
              refine wp_region_lin (fun w' => Below W6.heap.size W6 w') (by kernel_rfl) (by kernel_rfl) (bel_drew h06) ?_
              (repeat (first | (refine lin_off (by rfl) ?_; (try simp only [Act.put, List.setIfInBounds_toArray, List.set_cons_zero, List.set_cons_succ])) | (refine lin_op (v := ?_) (by rfl) (fun w9 hS9 => ?_) ?_; rotate_left; (focus (((try dsimp only at hS9); go_simp; (try go_bits)) <;> with_reducible rfl)); (try simp only [Act.put, List.setIfInBounds_toArray, List.set_cons_zero, List.set_cons_succ])) | (refine lin_fn (f := 34) (args := #[.agg (upg L j).cs]) (by rfl) rfl rfl (enters_of Tryz.func34 (by kernel_rfl) rfl) (fun w9 hS9 => (said_any (upg L j) w9).mono fun e w' h => ⟨h.1, bel_trans hS9 h.2⟩) ?_ ?_; (focus (simp [Act.eval]; done)); (try simp only [Act.put, List.setIfInBounds_toArray, List.set_cons_zero, List.set_cons_succ])) | (refine lin_fn (f := 32) (args := #[.agg (upg L k).cs, .agg (said (upg L j)).cs]) (by rfl) rfl rfl (enters_of Tryz.func32 (by kernel_rfl) rfl) (fun w9 hS9 => (HCS w9).mono fun e w' h => ⟨h.1, bel_trans hS9 h.2⟩) ?_ ?_; (focus (simp [Act.eval]; done)); (try simp only [Act.put, List.setIfInBounds_toArray, List.set_cons_zero, List.set_cons_succ]))))
              refine lin_nil (fun w7 hb7 => ?_)
              go_wp2
              go_ret
              exact ⟨by rw [HV.out]; rfl, bel_trans HB.out.1 (bel_trans HJ.out.2.2 hb7)⟩
            · simp only [decide_eq_false hsp] at HCS
              have HV := Lib.hid hsp
              clear hsp
              go_upto_region 11 with (with_reducible refine wpList_alloc_z rfl 48 rfl Up.zero.cs 22 z_up ?_)
              refine wp_region_lin (fun w' => Below W6.heap.size W6 w') (by kernel_rfl) (by kernel_rfl) (bel_drew h06) ?_
              (repeat (first | (refine lin_off (by rfl) ?_; (try simp only [Act.put, List.setIfInBounds_toArray, List.set_cons_zero, List.set_cons_succ])) | (refine lin_op (v := ?_) (by rfl) (fun w9 hS9 => ?_) ?_; rotate_left; (focus (((try dsimp only at hS9); go_simp; (try go_bits)) <;> with_reducible rfl)); (try simp only [Act.put, List.setIfInBounds_toArray, List.set_cons_zero, List.set_cons_succ])) | (refine lin_fn (f := 34) (args := #[.agg (upg L j).cs]) (by rfl) rfl rfl (enters_of Tryz.func34 (by kernel_rfl) rfl) (fun w9 hS9 => (said_any (upg L j) w9).mono fun e w' h => ⟨h.1, bel_trans hS9 h.2⟩) ?_ ?_; (focus (simp [Act.eval]; done)); (try simp only [Act.put, List.setIfInBounds_toArray, List.set_cons_zero, List.set_cons_succ])) | (refine lin_fn (f := 32) (args := #[.agg (upg L k).cs, .agg (said (upg L j)).cs]) (by rfl) rfl rfl (enters_of Tryz.func32 (by kernel_rfl) rfl) (fun w9 hS9 => (HCS w9).mono fun e w' h => ⟨h.1, bel_trans hS9 h.2⟩) ?_ ?_; (focus (simp [Act.eval]; done)); (try simp only [Act.put, List.setIfInBounds_toArray, List.set_cons_zero, List.set_cons_succ]))))
              refine lin_nil (fun w7 hb7 => ?_)
              go_wp2
              go_roundw
              case rel => exact ⟨j + 1, by omega, by go_num, fun i hi => by
                by_cases e : i = j
                · rw [e]; exact HV.out
                · exact HJ.out.1 i (by omega), bel_trans HJ.out.2.1 hb7⟩
              case measure => simp [intOf]; omega
          · obtain hjk2 : j = k := by omega
            have i3 : ¬ ((j : Int) < (k : Int)) := by omega
            have HJ := Lib.hid (And.intro hno (And.intro hb14 hjk2))
            clear hno hjb hb14 hjk2
            go_wp2
            go_roundw
            case rel => exact ⟨k + 1, by omega, by go_num, fun i hi => by
              by_cases e : i = k
              · rw [e]; exact he
              · exact HK.out.1 i (by omega), fun i hi m hm => by
              by_cases e : i = k
              · subst e; exact HJ.out.1 m (by rw [HJ.out.2.2]; exact hm)
              · exact HK.out.2.1 i (by omega) m hm, HJ.out.2.1⟩
            case measure => simp [intOf]; omega
      · rw [decide_eq_false he] at HCI
        have HV := Lib.hid (show batE L = 210 from if_neg fun h => he (h.2.1 k HK.out.2.2.2.2.1))
        clear he
        go_wp2_with (with_reducible refine wpList_alloc_z rfl 48 rfl Up.zero.cs 22 z_up ?_)
        refine HCI.mono ?_
        rintro e W4 ⟨rfl, hb4⟩
        go_wp2
        go_ret
        exact ⟨by rw [HV.out]; rfl, bel_trans HB.out.1 (bel_trans HK.out.2.2.2.1 hb4)⟩
    · have i1 : ¬ ((k : Int) < (n : Int)) := by omega
      have HV := Lib.hid (show batE L = 0 from if_pos ⟨⟨by omega, by omega⟩, fun j hj => hok j (by omega), fun j hj => hup j (by omega)⟩)
      clear hok hup CT HR hnL
      go_wp2
      go_ret
      exact ⟨by rw [HV.out]; rfl, bel_trans HB.out.1 hkb⟩
end Go.Proofs.YtikdgbmdepplgaaGreatDoor
namespace Go.Proofs.YtikdgbmdepplgaaGreatDoor
open Go.RowKit Go.Shelf Go.Sort
set_option linter.unusedVariables false
set_option maxRecDepth 100000
theorem rins_none (cap ob : Nat) (w : World) : Calls Tryz.prog 62 #[.slice none 0 cap, .int .i64 0, .int .i64 0, byF ob] w fun e w' => e = .returned (.tuple #[]) ∧ w' = w := by
  unfold byF
  go_enter Tryz.func62, Tryz.ntmps62
  go_wp2
  refine wp_loop_rounds 1 ?_
  rw [rounds_succ]
  go_wp2
  go_end0
  exact ⟨rfl, rfl⟩
theorem rpdq_none (cap ob : Nat) (lim : Int) (w : World) : Calls Tryz.prog 49 #[.slice none 0 cap, .int .i64 0, .int .i64 0, .int .i64 lim, byF ob] w fun e w' => e = .returned (.tuple #[]) ∧ w' = w := by
  have hi := fun w => rins_none cap ob w
  unfold byF at *
  go_enter Tryz.func49, Tryz.ntmps49
  go_wp2
  refine wp_loop_rounds 1 ?_
  rw [rounds_succ]
  go_wp2_with (go_at_call 62; refine (hi _).mono ?_; rintro e w' ⟨rfl, rfl⟩)
  (try simp only [Exit.inBlock, Exit.then]); refine bodyPost_ret (results_none rfl _ _ _) rfl ?_
  exact ⟨rfl, rfl⟩
theorem rsort_none (cap ob : Nat) (w : World) : Calls Tryz.prog 35 #[.slice none 0 cap, byF ob] w fun e w' => e = .returned (.tuple #[]) ∧ w' = w := by
  have hp := fun lim w => rpdq_none cap ob lim w
  have hl : ∀ W, Calls Tryz.prog 50 #[.int .u64 0] W fun e w' => e = .returned (.int .i64 (Lib.bitLen 0 : Nat)) ∧ w' = W := fun W =>
    Any.bits_Len (SlLaysF0.n15.bits (P := Tryz.prog) (ρ := sortR_ren) { sortR with }) 0 W (by omega) (by omega)
  unfold byF at *
  go_enter Tryz.func35, Tryz.ntmps35
  go_wp2_with (first | (go_at_call 50; refine (hl _).mono ?_; rintro e w' ⟨rfl, rfl⟩) | (go_at_call 49; refine (hp _ _).mono ?_; rintro e w' ⟨rfl, rfl⟩))
  go_end0
  exact ⟨rfl, rfl⟩
/-- Put in order by that comparison: a permutation, each not behind the next one. -/
def Sorted (cf : Ro → Ro → Int) (L L' : List Ro) : Prop := L'.Perm L ∧ ∀ i j, i < j → j < L.length → cf (rog L' i) (rog L' j) ≤ 0
theorem rsort_any {w : World} {B : Nat} {v : Value} {L : List Ro} {cf : Ro → Ro → Int} {ob : Nat} (hcm : Cm cf) (h : OwnRo w B v L) (hs : L.length ≤ 100000) (hB : B ≤ w.heap.size)
    (HC : ∀ g, v.ownBlock = some g → ∀ w', Kept [g] w w' → ∀ x y : Ro, Calls Tryz.prog 72 #[.agg x.cs, .agg y.cs, .pointer (some ⟨ob, 0, none⟩)] w' fun e w2 => e = .returned (.int .i64 (cf x y)) ∧ Gr w' w2) :
    Calls Tryz.prog 35 #[v, byF ob] w fun e w' => e = .returned (.tuple #[]) ∧ ∃ L', Sorted cf L L' ∧ OwnRo w' B v L' ∧ Below B w w' := by
  rcases h.2 with ⟨h9, h8⟩ | ⟨g, cap, cur, h9, hb, _⟩
  · have hL : L = [] := List.eq_nil_of_length_eq_zero h8
    subst hL h9
    exact (rsort_none 0 ob w).mono fun e w' hp => ⟨hp.1, [], ⟨List.Perm.refl _, fun i j _ hj => by simp at hj⟩, by rw [hp.2]; exact h, by rw [hp.2]; exact Below.refl _ _⟩
  · subst h9
    refine (rsort_some hcm h hs hB (fun w' hk x y => HC g rfl w' hk x y)).mono fun e w' hp => ⟨hp.1, ?_⟩
    obtain ⟨L', h1, h2, h3, h4⟩ := hp.2
    refine ⟨L', ⟨h1, h2⟩, ?_, h4.below (fun k hk => by simp at hk; omega) hB⟩
    exact h3
theorem RisAt.kept {S : List Nat} {w w' : World} {ob sb : Nat} (h : RisAt w ob sb) (k : Kept S w w') (h1 : ob ∉ S) (h2 : sb ∉ S) : RisAt w' ob sb :=
  ⟨(World.cell?_of_block (w := w) (k.block _ h.2.2.2.1 h1)).trans h.1, (World.cell?_of_block (w := w) (k.block _ h.2.2.2.2 h2)).trans h.2.1, (World.cell?_of_block (w := w) (k.block _ h.2.2.2.2 h2)).trans h.2.2.1, Nat.lt_of_lt_of_le h.2.2.2.1 k.size, Nat.lt_of_lt_of_le h.2.2.2.2 k.size⟩
theorem BstAt.kept {S : List Nat} {w w' : World} {ob sb : Nat} (h : BstAt w ob sb) (k : Kept S w w') (h1 : ob ∉ S) (h2 : sb ∉ S) : BstAt w' ob sb :=
  ⟨(World.cell?_of_block (w := w) (k.block _ h.2.2.2.2.1 h1)).trans h.1, (World.cell?_of_block (w := w) (k.block _ h.2.2.2.2.2 h2)).trans h.2.1, (World.cell?_of_block (w := w) (k.block _ h.2.2.2.2.2 h2)).trans h.2.2.1, (World.cell?_of_block (w := w) (k.block _ h.2.2.2.2.2 h2)).trans h.2.2.2.1, Nat.lt_of_lt_of_le h.2.2.2.2.1 k.size, Nat.lt_of_lt_of_le h.2.2.2.2.2 k.size⟩
theorem ris_sort {w W : World} {B : Nat} {v : Value} {L : List Ro} {ob sb : Nat} (h0 : OwnRo W B v L) (hb : Below W.heap.size W w) (h : OwnRo w B v L) (hs : L.length ≤ 100000) (hB : B ≤ w.heap.size) (hr : RisAt w ob sb) (h1 : W.heap.size ≤ ob) (h2 : W.heap.size ≤ sb) :
    Calls Tryz.prog 35 #[v, byF ob] w fun e w' => e = .returned (.tuple #[]) ∧ ∃ L', Sorted cmpR L L' ∧ OwnRo w' B v L' ∧ Below B w w' :=
  rsort_any cm_r h hs hB fun g hg w' hk x y => Ris_any x y ob sb w' (hr.kept hk (by
    rcases h0.2 with ⟨rfl, _⟩ | ⟨g2, cap, cur, rfl, _, h9, _⟩
    · cases hg
    · cases hg; have := (Array.getElem?_eq_some_iff.1 h9).1; simp; omega) (by
    rcases h0.2 with ⟨rfl, _⟩ | ⟨g2, cap, cur, rfl, _, h9, _⟩
    · cases hg
    · cases hg; have := (Array.getElem?_eq_some_iff.1 h9).1; simp; omega))
theorem bst_sort {w W : World} {B : Nat} {v : Value} {L : List Ro} {ob sb : Nat} (h0 : OwnRo W B v L) (hb : Below W.heap.size W w) (h : OwnRo w B v L) (hs : L.length ≤ 100000) (hB : B ≤ w.heap.size) (hr : BstAt w ob sb) (h1 : W.heap.size ≤ ob) (h2 : W.heap.size ≤ sb) :
    Calls Tryz.prog 35 #[v, byF ob] w fun e w' => e = .returned (.tuple #[]) ∧ ∃ L', Sorted cmpB1 L L' ∧ OwnRo w' B v L' ∧ Below B w w' :=
  rsort_any cm_b h hs hB fun g hg w' hk x y => Bst_any x y ob sb w' (hr.kept hk (by
    rcases h0.2 with ⟨rfl, _⟩ | ⟨g2, cap, cur, rfl, _, h9, _⟩
    · cases hg
    · cases hg; have := (Array.getElem?_eq_some_iff.1 h9).1; simp; omega) (by
    rcases h0.2 with ⟨rfl, _⟩ | ⟨g2, cap, cur, rfl, _, h9, _⟩
    · cases hg
    · cases hg; have := (Array.getElem?_eq_some_iff.1 h9).1; simp; omega))
/-- One candidate in a slice of its own, appended. -/
theorem robuild1_run (r : Ro) (w : World) : (robuildSem 1 #[(0, .agg r.cs)]).run Tryz.prog w = .ok (.slice (some ⟨w.heap.size, 0, none⟩) 1 1) (w.alloc (.cells r.cs 50)) := by
  unfold Ro.cs Px.cs Ad.cs
  obtain ⟨a0, a1, a2, a3, a4, a5, a6, a7, a8, a9, a10, a11, a12, a13, a14, a15, hh⟩ := r.p.a.b.out
  rw [hh]
  kernel_rfl
theorem roapp1 {w : World} (r : Ro) {B : Nat} {v : Value} {L : List Ro} (h : OwnRo w B v L) (hs : L.length ≤ 1000) (hB : B ≤ w.heap.size) :
    ∃ v' w', (∀ ty : TypeId, (roappSem ty #[v, .slice (some ⟨w.heap.size, 0, none⟩) 1 1]).run Tryz.prog (w.alloc (.cells r.cs 50)) = .ok v' w') ∧ OwnRo w' B v' (L ++ [r]) ∧ Below B w w' := by
  have h0 : Below w.heap.size w w := Below.refl _ _
  have ho : OwnRo (w.alloc (.cells r.cs 50)) B v L := by
    refine ⟨h.1, ?_⟩
    rcases h.2 with h | ⟨g, cap, cur, h1, h2, h3, h4⟩
    · exact .inl h
    · exact .inr ⟨g, cap, cur, h1, h2, (((Below.refl w.heap.size w).alloc (Nat.le_refl _) (.cells r.cs 50)).block _ (Array.getElem?_eq_some_iff.1 h3).1).trans h3, h4⟩
  have hM : RoAt (w.alloc (.cells r.cs 50)) (some ⟨w.heap.size, 0, none⟩) [r] := by
    refine .inr ⟨w.heap.size, 0, rfl, rorow_cells _ _ _ 0 (by simp) fun k u hk => ?_⟩
    rw [Nat.zero_add, (Blk.new w 50 r.cs).cell, ← Array.getElem?_toList]
    rw [rocs_one] at hk
    exact hk
  obtain ⟨v', w', q1, q2, q3, _⟩ := roapp_run (m := 1) (c := 1) 22 ho rfl hM (by omega) (by simp; omega)
  refine ⟨v', w', fun ty => q1, q2, ?_⟩
  refine (((Below.refl B w).alloc hB _).grown q3 (by simp; omega) fun k hk => ?_)
  rcases h.2 with ⟨rfl, _⟩ | ⟨g, cap, cur, rfl, h2, _⟩
  · cases hk
  · cases hk; exact h2
end Go.Proofs.YtikdgbmdepplgaaGreatDoor
namespace Go.Proofs.YtikdgbmdepplgaaGreatDoor
open Go.RowKit Go.Shelf
set_option linter.unusedVariables false
set_option maxRecDepth 100000
/-- What an update leaves of candidates; what it makes of them; whether it cannot. -/
noncomputable def rest1 (M : List Ro) (u : Up) : List Ro := if spotF u M < M.length then M.eraseIdx (spotF u M) else M
noncomputable def stepL (M : List Ro) (u : Up) : List Ro := if u.g = true then rest1 M u else rest1 M u ++ [said u]
def badU (M : List Ro) (u : Up) : Prop := u.g = true ∧ ¬ spotF u M < M.length
noncomputable def runU : List Ro → List Up → Option (List Ro)
  | M, [] => some M
  | M, u :: U => open Classical in if badU M u then none else runU (stepL M u) U
theorem runU_append : ∀ (U V : List Up) (M : List Ro), runU M (U ++ V) = (runU M U).bind fun D => runU D V
  | [], V, M => rfl
  | u :: U, V, M => by
    show runU M (u :: (U ++ V)) = _
    by_cases h : badU M u
    · rw [runU, if_pos h, runU, if_pos h]; rfl
    · rw [runU, if_neg h, runU, if_neg h]; exact runU_append U V _
theorem runU_next {L M : List Ro} {U : List Up} {k : Nat} (hk : k < U.length) (h : runU L (U.take k) = some M) (hb : ¬ badU M (upg U k)) : runU L (U.take (k + 1)) = some (stepL M (upg U k)) := by
  rw [List.take_succ_eq_append_getElem hk, runU_append, h, ← upg_get hk]
  show runU M [upg U k] = _
  rw [runU, if_neg hb, runU]
theorem runU_stop {L M : List Ro} {U : List Up} {k : Nat} (hk : k < U.length) (h : runU L (U.take k) = some M) (hb : badU M (upg U k)) : runU L U = none := by
  have e : U = U.take k ++ (upg U k :: U.drop (k + 1)) := by
    rw [upg_get hk, ← List.drop_eq_getElem_cons hk, List.take_append_drop]
  rw [e, runU_append]
  rw [show runU L (List.take k U) = some M from h]
  show runU M (upg U k :: U.drop (k + 1)) = none
  rw [runU, if_pos hb]
theorem rest1_len (M : List Ro) (u : Up) : (rest1 M u).length ≤ M.length := by
  unfold rest1
  split
  · exact List.length_eraseIdx_le ..
  · exact Nat.le_refl _
theorem stepL_len (M : List Ro) (u : Up) : (stepL M u).length ≤ M.length + 1 := by
  have := rest1_len M u
  unfold stepL
  split
  · omega
  · rw [List.length_append]; simp; omega
/-- What a batch makes of a RIB, and the error. -/
inductive AppR (L : List Ro) (U : List Up) : List Ro → Int → Prop
  | rib : ¬ okRib L → AppR L U [] 211
  | bat : okRib L → ¬ okBat U → AppR L U [] 210
  | gone : okRib L → okBat U → runU L U = none → AppR L U [] 4
  | full {D S : List Ro} : okRib L → okBat U → runU L U = some D → Sorted cmpR D S → ¬ (fstL S).length ≤ 40 → AppR L U [] 6
  | good {D S : List Ro} : okRib L → okBat U → runU L U = some D → Sorted cmpR D S → (fstL S).length ≤ 40 → AppR L U S 0
theorem OwnRo.less {w : World} {B B' : Nat} {v : Value} {L : List Ro} (h : OwnRo w B v L) (k : B' ≤ B) : OwnRo w B' v L := by
  refine ⟨h.1, ?_⟩
  rcases h.2 with h | ⟨g, cap, cur, h1, h2, h3⟩
  · exact .inl h
  · exact .inr ⟨g, cap, cur, h1, Nat.le_trans k h2, h3⟩
theorem OwnRo.kept {w w' : World} {B : Nat} {S : List Nat} {v : Value} {L : List Ro} (h : OwnRo w B v L) (k : Kept S w w') (hS : ∀ g, v.ownBlock = some g → g ∉ S) : OwnRo w' B v L := by
  refine ⟨h.1, ?_⟩
  rcases h.2 with h | ⟨g, cap, cur, h1, h2, h3, h4⟩
  · exact .inl h
  · exact .inr ⟨g, cap, cur, h1, h2, (k.block _ (Array.getElem?_eq_some_iff.1 h3).1 (hS g (by rw [h1]; rfl))).trans h3, h4⟩
theorem OwnRo.nil (w : World) (B : Nat) : OwnRo w B (.slice none 0 0) [] := World.ownsRow_nil _ _ _ _
theorem OwnRo.above {w : World} {B : Nat} {v : Value} {L : List Ro} (h : OwnRo w B v L) : ∀ g, v.ownBlock = some g → B ≤ g ∧ g < w.heap.size := by
  intro g hg
  rcases h.2 with ⟨rfl, _⟩ | ⟨g', cap, cur, rfl, h2, h3, _⟩
  · cases hg
  · cases hg; exact ⟨h2, (Array.getElem?_eq_some_iff.1 h3).1⟩
theorem z_rib : (Tryz.prog.info? 24).map (fun i => (i.zero, i.size)) = some (some (.agg #[.slice none 0 0]), 1) := by kernel_rfl
theorem s_rib1 {a : Option Addr} {n c : Nat} : (Tryz.prog.info? 24).map (·.size) = some (#[Value.slice a n c] : Array Value).size := (zero_of_info z_rib).2
theorem build_rib_rule (ps : Array (Nat × Value)) : Instr.build 24 ps = buildSem 24 ps := rfl
theorem build_rib0 (w : World) : (buildSem 24 #[]).run Tryz.prog w = .ok (.agg #[.slice none 0 0]) w := by kernel_rfl
theorem build_rib1 (a : Option Addr) (n c : Nat) (w : World) : (buildSem 24 #[(0, .slice a n c)]).run Tryz.prog w = .ok (.agg #[.slice a n c]) w := by kernel_rfl
theorem st_rib {w : World} {g : Nat} {a a2 : Option Addr} {n c n2 c2 : Nat} (h : Blk w g 24 #[.slice a n c]) : (storeSem 24 (.pointer (some ⟨g, 0, none⟩)) (.agg #[.slice a2 n2 c2])).run Tryz.prog w = .ok () (w.setRow g #[.slice a2 n2 c2]) := by
  have := storeRes_of (P := Tryz.prog) (ty := 24) (o := 0) (vs := #[.slice a2 n2 c2]) h (by simp) s_rib1 (by simp [Value.oneCell'])
  rwa [over_all (by simp)] at this
theorem rib_t {W : World} {g : Nat} {a : Option Addr} {n c : Nat} (h : Blk W g 24 #[.slice a n c]) : ∀ w', Below W.heap.size W w' → (loadSem 24 (.pointer (some ⟨g, 0, none⟩))).run Tryz.prog w' = .ok (.agg #[.slice a n c]) w' :=
  fun w' k => loadRes_of (o := 0) (h.later k) (fun q _ => by rw [Nat.zero_add]) _ Tryz.underlying24 rfl (zero_of_info z_rib).2
theorem bat_t {W : World} {g : Nat} {a : Option Addr} {n c : Nat} (h : Blk W g 27 #[.slice a n c]) : ∀ w', Below W.heap.size W w' → (loadSem 27 (.pointer (some ⟨g, 0, none⟩))).run Tryz.prog w' = .ok (.agg #[.slice a n c]) w' :=
  fun w' k => loadRes_of (o := 0) (h.later k) (fun q _ => by rw [Nat.zero_add]) _ Tryz.underlying27 rfl (by kernel_rfl)
end Go.Proofs.YtikdgbmdepplgaaGreatDoor
