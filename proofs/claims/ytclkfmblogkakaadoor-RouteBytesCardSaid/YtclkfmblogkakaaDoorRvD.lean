/-
  The contract of the reference's Apply. Nothing here is a statement of the document.
-/
import Derived.Test.YtclkfmblogkakaaDoorRvC
import Derived.Test.YtclkfmblogkakaaDoorRtW
namespace Go.Proofs.YtclkfmblogkakaaDoor
open Go.RowKit Go.Shelf
set_option linter.unusedVariables false
set_option maxRecDepth 100000
theorem runI_append : ∀ (U V : List Up) (M : List Ro), runI M (U ++ V) = (runI M U).bind fun D => runI D V
  | [], V, M => rfl
  | u :: U, V, M => by
    show runI M (u :: (U ++ V)) = _
    by_cases h : u.g = true ∧ hadL M u = false
    · rw [runI, if_pos h, runI, if_pos h]; rfl
    · rw [runI, if_neg h, runI, if_neg h]; exact runI_append U V _
theorem runI_next {L M : List Ro} {U : List Up} {k : Nat} (hk : k < U.length) (h : runI L (U.take k) = some M) (hb : ¬ ((upg U k).g = true ∧ hadL M (upg U k) = false)) : runI L (U.take (k + 1)) = some (insR M (upg U k)) := by
  rw [List.take_succ_eq_append_getElem hk, runI_append, h, ← upg_get hk]
  show runI M [upg U k] = _
  rw [runI, if_neg hb, runI]
theorem runI_stop {L M : List Ro} {U : List Up} {k : Nat} (hk : k < U.length) (h : runI L (U.take k) = some M) (hb : (upg U k).g = true ∧ hadL M (upg U k) = false) : runI L U = none := by
  have e : U = U.take k ++ (upg U k :: U.drop (k + 1)) := by
    rw [upg_get hk, ← List.drop_eq_getElem_cons hk, List.take_append_drop]
  rw [e, runI_append]
  rw [show runI L (List.take k U) = some M from h]
  show runI M (upg U k :: U.drop (k + 1)) = none
  rw [runI, if_pos hb]
theorem put_gone (L : List Ro) (u : Up) (hg : u.g = true) : ∀ k, (insK L u k).2.1 = true
  | 0 => hg
  | k + 1 => by
    have ih := put_gone L u hg k
    rw [insK]
    split
    · exact ih
    · split
      · rfl
      · exact ih
theorem OwnRo.spare {w : World} {B : Nat} {v : Value} {L : List Ro} (h : OwnRo w B v L) : ∃ a c, v = .slice a L.length c ∧ RoAt w a L ∧ ∀ x, a = some x → B ≤ x.block := by
  obtain ⟨a, c, h1, _, _, h4, h5⟩ := h.lies
  exact ⟨a, c, h1, h4, h5⟩
theorem RoAt.sep {w : World} {a : Option Addr} {L : List Ro} (h : RoAt w a L) : L = [] ∨ ∀ x, a = some x → x.block < w.heap.size := by
  rcases h with h | ⟨g, o, h1, h2⟩
  · exact .inl h
  · exact .inr fun x hx => by rw [h1] at hx; injection hx with hx; rw [← hx]; exact h2.lt
theorem RoAt.set {w : World} {a : Option Addr} {L : List Ro} {g : Nat} (h : RoAt w a L) (k : L = [] ∨ ∀ x, a = some x → x.block ≠ g) (V : Array Value) : RoAt (w.setRow g V) a L := by
  rcases k with k | k
  · exact .inl k
  · exact h.kept ((Kept.refl [g] w).setRow (.inl (by simp)) _) (fun x hx => by have := k x hx; simp; omega)
attribute [local go_sem ↓] load_b16_rule store_b16_rule load_ad_rule store_ad_rule load_px_rule store_px_rule eq_b16_rule eq_ad_rule eq_px_rule load_ro_rule store_ro_rule load_up_rule store_up_rule load_rib_rule store_rib_rule build_rib_rule load_bat_rule roapp_rule robuild_rule build_ro_rule
set_option maxHeartbeats 8000000 in
theorem rrapply_any (a : Option Addr) (n c : Nat) (L : List Ro) (a2 : Option Addr) (n2 c2 : Nat) (U : List Up) (w : World) (hn : L.length = n) (hs : n ≤ 900) (hR : RoAt w a L)
    (hn2 : U.length = n2) (hs2 : n2 ≤ 1000000) (hR2 : UpAt w a2 U) :
    Calls Tryd.prog 12 #[.agg #[.slice a n c], .agg #[.slice a2 n2 c2]] w fun e w' => ∃ a' c' M er, e = .returned (.tuple #[.agg #[.slice a' (List.length M) c'], .int .i64 er]) ∧ RoAt w' a' M ∧ AppI L U M er ∧ Below w.heap.size w w' := by
  obtain ⟨W0, hW0⟩ : ∃ W0, (w.alloc (.cells #[.slice a n c] 24)).alloc (.cells #[.slice a2 n2 c2] 27) = W0 := ⟨_, rfl⟩
  obtain ⟨W1, hW1⟩ : ∃ W1, W0.alloc (.cells #[.slice none 0 0] 24) = W1 := ⟨_, rfl⟩
  have sz0 : W0.heap.size = w.heap.size + 2 := by rw [← hW0]; simp
  have sz1 : W1.heap.size = w.heap.size + 3 := by rw [← hW1, World.size_alloc, sz0]
  have hb0 : Below w.heap.size w W0 := by rw [← hW0]; exact (((Below.refl w.heap.size w).alloc (Nat.le_refl _) _).alloc (by simp) _)
  have hb01 : Below W0.heap.size W0 W1 := by rw [← hW1]; exact (Below.refl _ _).alloc (Nat.le_refl _) _
  have hb1 : Below w.heap.size w W1 := bel_trans hb0 hb01
  have b3 : Blk W1 W0.heap.size 24 #[.slice none 0 0] := by rw [← hW1]; exact Blk.new _ _ _
  have b1 : Blk W1 w.heap.size 24 #[.slice a n c] := by
    have h9 := (Blk.new w 24 #[.slice a n c]).alloc (.cells #[.slice a2 n2 c2] 27)
    rw [hW0] at h9
    exact h9.later hb01
  have b2 : Blk W1 (w.heap.size + 1) 27 #[.slice a2 n2 c2] := by
    have h9 := Blk.new (w.alloc (.cells #[.slice a n c] 24)) 27 #[.slice a2 n2 c2]
    rw [World.size_alloc, hW0] at h9
    exact h9.later hb01
  have LR := rib_t b1
  have LB := bat_t b2
  have CR : ∀ w', Below W1.heap.size W1 w' → w'.cell? ⟨w.heap.size, 0, none⟩ = some (.slice a n c) := fun w' k => (b1.later k).cell 0
  have CB : ∀ w', Below W1.heap.size W1 w' → w'.cell? ⟨w.heap.size + 1, 0, none⟩ = some (.slice a2 n2 c2) := fun w' k => (b2.later k).cell 0
  have h01 : Below W1.heap.size W1 W1 := Below.refl _ _
  have HCK := rright11_any a n c L W1 hn (by omega) (hR.later hb1)
  have HB := Lib.hid (And.intro hb1 (And.intro b3 (And.intro sz0 (And.intro sz1 (And.intro hn hn2)))))
  have HSEP := Lib.hid (show L = [] ∨ ∀ x, a = some x → x.block ≠ W0.heap.size from hR.sep.imp id fun h x hx => by have := h x hx; omega)
  have HR := Lib.hid (fun (w' : World) (h : Below W1.heap.size W1 w') => (hR.later hb1).later h)
  have HR2 := Lib.hid (fun (w' : World) (h : Below W1.heap.size W1 w') => (hR2.later hb1).later h)
  have HCR := Lib.hid CR
  have HCB := Lib.hid CB
  have BZ := build_rib0
  have LR1 := LR W1 h01
  clear hR hR2 b1 b2 hb0 hb01 hb1 b3 sz0 sz1 hn hn2 CR CB
  -- whatever is refused
  have REF : ∀ W : World, Below W1.heap.size W1 W → ∀ er, AppI L U [] er → ∃ a' c' M er', (Ending.returned (.tuple #[.agg #[.slice none 0 0], .int .i64 er])) = .returned (.tuple #[.agg #[.slice a' (List.length M) c'], .int .i64 er']) ∧ RoAt (W.setRow W0.heap.size #[.slice none 0 0]) a' M ∧ AppI L U M er' ∧ Below w.heap.size w (W.setRow W0.heap.size #[.slice none 0 0]) := fun W h er hA =>
    ⟨none, 0, [], er, rfl, .inl rfl, hA, below_setRow (bel_trans HB.out.1 h) (by have := HB.out.2.2.1; omega) _⟩
  have HREF := Lib.hid REF
  clear REF
  by_cases h1 : okRib L
  · rw [decide_eq_true h1] at HCK
    go_enter Tryd.func12, Tryd.ntmps12
    go_wp2_with (with_reducible refine wpList_alloc_z rfl 24 rfl #[.slice none 0 0] 1 z_rib ?_)
    refine HCK.mono ?_
    rintro e W2 ⟨rfl, hb2⟩
    have LB2 := LB W2 hb2
    have HCB2 := rrbat_any a2 n2 c2 U W2 HB.out.2.2.2.2.2 hs2 (HR2.out W2 hb2)
    clear HCK
    by_cases h2 : okBat U
    · rw [decide_eq_true h2] at HCB2
      go_wp2_with fail
      refine HCB2.mono ?_
      rintro e W3 ⟨rfl, hb3⟩
      have hb13 : Below W1.heap.size W1 W3 := bel_trans hb2 hb3
      have CR3 := HCR.out W3 hb13
      have hB8 : n2 ≤ 8 := by have := h2.1.2; have := HB.out.2.2.2.2.2; omega
      have H4 := Lib.hid (And.intro (HR.out W3 hb13) (And.intro hb13 HSEP.out))
      clear HCB2 LB2 LR LB LR1 hb13 hb3 hb2
      go_wp2_with fail
      go_loopw [6, 7] (fun v i wr => ∃ (k : Nat) (a6 : Option Addr) (c6 : Nat) (M : List Ro), k ≤ n2 ∧ i = .int .i64 (k : Int) ∧ v = .slice a6 (List.length M) c6 ∧ RoAt wr a6 M ∧ (M = [] ∨ ∀ x, a6 = some x → x.block ≠ W0.heap.size) ∧ runI L (U.take k) = some M ∧ M.length ≤ n + k ∧ Below W1.heap.size W1 wr) (fun _ i _ => n2 - (intOf i).toNat)
      case atStart => exact ⟨0, a, c, L, Nat.zero_le _, rfl, by rw [HB.out.2.2.2.2.1], H4.out.1, H4.out.2.2, rfl, by have := HB.out.2.2.2.2.1; omega, H4.out.2.1⟩
      case round =>
        obtain ⟨k, a6, c6, M, hk, rfl, rfl, hO, hsep, hrun, hlen, hkb⟩ := hrel
        have HSE := Lib.hid hsep
        clear hsep
        obtain ⟨wo, hwo⟩ : ∃ wo, wo = wr := ⟨_, rfl⟩
        subst hwo
        have CB4 := HCB.out wo hkb
        clear CR3
        by_cases hlt : k < n2
        · have hkl : k < U.length := by have := HB.out.2.2.2.2.2; omega
          obtain ⟨g2, o2, hao, hrow⟩ := (HR2.out wo hkb).spot hkl
          have LK := hrow.load hkl
          obtain ⟨W4, hst4, hblk4, hb4⟩ := up_new (upg U k) wo
          have LP4 := up_p hblk4 W4 (Below.refl _ _)
          have LS4 := up_s hblk4 W4 (Below.refl _ _)
          have LF4 := up_f hblk4 W4 (Below.refl _ _)
          have LH4 := up_h hblk4 W4 (Below.refl _ _)
          have BR4 := build_ro4 (upg U k).p (upg U k).s (upg U k).f (upg U k).h W4
          have e9 : Ro.mk (upg U k).p (upg U k).s (upg U k).f (upg U k).h = said (upg U k) := rfl
          rw [e9] at BR4
          obtain ⟨W5, hst5, hblk5, hb5⟩ := ro_new (said (upg U k)) W4
          have LG5 := up_g (hblk4.later hb5) W5 (Below.refl _ _)
          have hb45 := bel_trans hb4 hb5
          have HX := Lib.hid (And.intro (hO.later hb45) (And.intro (bel_trans hkb hb45) (And.intro hrun (And.intro hlen (And.intro hkl (And.intro hblk5 (And.intro (hblk4.later hb5) hb5)))))))
          clear hO hkb hrun hlen hkl hblk5 hblk4 hb5 hb4 hb45 hrow e9
          have hml : M.length ≤ 1000 := by have := HX.out.2.2.2.1; omega
          subst hao
          generalize hgg : (upg U k).g = gg at LG5
          have HG := Lib.hid hgg
          clear hgg
          go_wp2_with (first | (with_reducible refine wpList_alloc_z rfl 72 rfl Up.zero.cs 22 z_up ?_) | (with_reducible refine wpList_alloc_z rfl 67 rfl Ro.zero.cs 21 z_ro ?_))
          go_loopw [10, 11, 12, 13] (fun vo vp vh i wr => ∃ (j : Nat) (O : List Ro) (pt hd : Bool), j ≤ M.length ∧ i = .int .i64 (j : Int) ∧ vp = .bool pt ∧ vh = .bool hd ∧ insK M (upg U k) j = (O, pt, hd) ∧ OwnRo wr W5.heap.size vo O ∧ Below W5.heap.size W5 wr) (fun _ _ _ i _ => M.length - (intOf i).toNat)
          case atStart => exact ⟨0, [], gg, false, Nat.zero_le _, rfl, rfl, rfl, by rw [insK, HG.out], OwnRo.nil _ _, Below.refl _ _⟩
          case round =>
            obtain ⟨j, O, pt, hd, hj, rfl, rfl, rfl, hins, hown, hjb⟩ := hrel
            obtain ⟨wi, hwi⟩ : ∃ wi, wi = wr := ⟨_, rfl⟩
            subst hwi
            by_cases hjl : j < M.length
            · obtain ⟨g6, o6, hao6, hrow6⟩ := (HX.out.1.later hjb).spot hjl
              subst hao6
              have L1 : ∀ w', Below wi.heap.size wi w' → (loadSem 65 (.pointer (some ⟨g6, o6 + j * 21, none⟩))).run Tryd.prog w' = .ok (.agg (rog M j).p.cs) w' := fun w' h => (hrow6.later h).loadp hjl
              have L2 : ∀ w', Below wi.heap.size wi w' → w'.cell? ⟨g6, o6 + j * 21 + 18, none⟩ = some (.int .i64 (rog M j).s) := fun w' h => (hrow6.later h).s hjl
              have L5 : ∀ w', Below wi.heap.size wi w' → (loadSem 67 (.pointer (some ⟨g6, o6 + j * 21, none⟩))).run Tryd.prog w' = .ok (.agg (rog M j).cs) w' := fun w' h => (hrow6.later h).load hjl
              have hbx := HX.out.2.2.2.2.2.1.later hjb
              have L3 : ∀ w', Below wi.heap.size wi w' → (loadSem 65 (.pointer (some ⟨W4.heap.size, 0, none⟩))).run Tryd.prog w' = .ok (.agg (upg U k).p.cs) w' := ro_p hbx
              have L4 : ∀ w', Below wi.heap.size wi w' → w'.cell? ⟨W4.heap.size, 18, none⟩ = some (.int .i64 (upg U k).s) := ro_s hbx
              have L6 : ∀ w', Below wi.heap.size wi w' → (loadSem 67 (.pointer (some ⟨W4.heap.size, 0, none⟩))).run Tryd.prog w' = .ok (.agg (said (upg U k)).cs) w' := ro_r hbx
              have h02 : Below wi.heap.size wi wi := Below.refl _ _
              have EQ := eqP (rog M j).p (upg U k).p
              have i1 : (j : Int) < (M.length : Int) := by omega
              have hol : O.length ≤ 1000 := by have h9 := insK_len M (upg U k) j; rw [hins] at h9; have := HX.out.2.2.2.1; simp only at h9; omega
              have HJ := Lib.hid (And.intro hins (And.intro hown (And.intro hjb (And.intro hjl hol))))
              clear hins hown hjb hrow6 hbx hol hjl LG5 LH4 LF4 LS4 LP4 BR4 hst5 hst4 LK CB4
              by_cases hp6 : (rog M j).p = (upg U k).p
              · rw [decide_eq_true hp6] at EQ
                by_cases hs6 : (rog M j).s = (upg U k).s
                · have d2 : ((rog M j).s == (upg U k).s) = true := by rw [hs6]; simp
                  have e9 : insK M (upg U k) (j + 1) = (O, pt, true) := by rw [insK, HJ.out.1, if_pos ⟨hp6.symm, hs6.symm⟩]
                  have HE := Lib.hid e9
                  clear hp6 hs6 e9
                  go_upto_region 16 with fail
                  refine wp_region_lin (fun w' => Below wi.heap.size wi w') (by kernel_rfl) (by kernel_rfl) (bel_drew (by assumption)) ?_
                  (repeat (first | (refine lin_off (by rfl) ?_; (try simp only [Act.put, List.setIfInBounds_toArray, List.set_cons_zero, List.set_cons_succ])) | (refine lin_op (v := ?_) (by rfl) (fun w9 hS9 => ?_) ?_; rotate_left; (focus (((try dsimp only at hS9); go_simp; (try go_bits)) <;> with_reducible rfl)); (try simp only [Act.put, List.setIfInBounds_toArray, List.set_cons_zero, List.set_cons_succ]))))
                  refine lin_nil (fun w7 hb7 => ?_)
                  go_wp2_with fail
                  go_roundw
                  case rel => exact ⟨j + 1, O, pt, true, by have := HJ.out.2.2.2.1; omega, by go_num, rfl, rfl, HE.out, HJ.out.2.1.later hb7, HJ.out.2.2.1.trans (hb7.mono HJ.out.2.2.1.size)⟩
                  case measure => have := HJ.out.2.2.2.1; simp [intOf]; omega
                · have d2 : ((rog M j).s == (upg U k).s) = false := by simpa using hs6
                  have HN := Lib.hid hs6
                  clear hp6 hs6
                  go_upto_region 16 with fail
                  refine wp_region_lin (fun w' => Below wi.heap.size wi w') (by kernel_rfl) (by kernel_rfl) (bel_drew (by assumption)) ?_
                  (repeat (first | (refine lin_off (by rfl) ?_; (try simp only [Act.put, List.setIfInBounds_toArray, List.set_cons_zero, List.set_cons_succ])) | (refine lin_op (v := ?_) (by rfl) (fun w9 hS9 => ?_) ?_; rotate_left; (focus (((try dsimp only at hS9); go_simp; (try go_bits)) <;> with_reducible rfl)); (try simp only [Act.put, List.setIfInBounds_toArray, List.set_cons_zero, List.set_cons_succ]))))
                  refine lin_nil (fun w7 hb7 => ?_)
                  have hns : ¬ spk (upg U k) (rog M j) := fun h => HN.out h.2.symm
                  have L57 := L5 w7 hb7
                  have L67 := L6 w7 hb7
                  have HCA := rahead_any (said (upg U k)) (rog M j)
                  have h07 : Below w7.heap.size w7 w7 := Below.refl _ _
                  have HS := Lib.hid (And.intro hns hb7)
                  have L5h := Lib.hid L5
                  have L6h := Lib.hid L6
                  clear hns EQ L1 L2 L3 L4
                  cases pt
                  · by_cases hc : cmpR (said (upg U k)) (rog M j) < 0
                    · rw [decide_eq_true hc] at HCA
                      have e9 : insK M (upg U k) (j + 1) = (O ++ [said (upg U k)] ++ [rog M j], true, hd) := by rw [insK, HJ.out.1, if_neg HS.out.1, if_pos ⟨rfl, hc⟩]
                      have HE := Lib.hid e9
                      clear hc e9
                      have L5 : ∀ w', Below w7.heap.size w7 w' → (loadSem 67 (.pointer (some ⟨g6, o6 + j * 21, none⟩))).run Tryd.prog w' = .ok (.agg (rog M j).cs) w' := fun w' h => L5h.out w' (bel_trans HS.out.2 h)
                      have L6 : ∀ w', Below w7.heap.size w7 w' → (loadSem 67 (.pointer (some ⟨W4.heap.size, 0, none⟩))).run Tryd.prog w' = .ok (.agg (said (upg U k)).cs) w' := fun w' h => L6h.out w' (bel_trans HS.out.2 h)
                      clear L57 L67
                      go_upto_region 18 with fail
                      refine wp_region_lin (fun w' => Below w7.heap.size w7 w') (by kernel_rfl) (by kernel_rfl) (bel_drew (by assumption)) ?_
                      (repeat (first | (refine lin_off (by rfl) ?_; (try simp only [Act.put, List.setIfInBounds_toArray, List.set_cons_zero, List.set_cons_succ])) | (refine lin_op (v := ?_) (by rfl) (fun w9 hS9 => ?_) ?_; rotate_left; (focus (((try dsimp only at hS9); go_simp; (try go_bits)) <;> with_reducible rfl)); (try simp only [Act.put, List.setIfInBounds_toArray, List.set_cons_zero, List.set_cons_succ])) | (refine lin_fn (f := 43) (args := #[.agg (said (upg U k)).cs, .agg (rog M j).cs]) (by rfl) rfl rfl (enters_of Tryd.func43 (by kernel_rfl) rfl) (fun w9 hS9 => (HCA w9).mono fun e w' h => ⟨h.1, bel_trans hS9 h.2⟩) ?_ ?_; (focus (simp [Act.eval]; done)); (try simp only [Act.put, List.setIfInBounds_toArray, List.set_cons_zero, List.set_cons_succ]))))
                      refine lin_nil (fun w8 hb8 => ?_)
                      have hb78 := bel_trans HS.out.2 hb8
                      have L68 := L6 w8 hb8
                      have BU := robuild1_run (said (upg U k)) w8
                      have hszA : W5.heap.size ≤ w8.heap.size := by have := HJ.out.2.2.1.size; have := hb78.size; omega
                      obtain ⟨v9, W9, happ, hO9, hb9⟩ := roapp1 (said (upg U k)) (HJ.out.2.1.later hb78) HJ.out.2.2.2.2 hszA
                      have hszB : W5.heap.size ≤ W9.heap.size := by have := hb9.size; omega
                      have h59 : Below W5.heap.size W5 W9 := (HJ.out.2.2.1.trans (hb78.mono HJ.out.2.2.1.size)).trans hb9
                      have L59 := (HX.out.1.later h59)
                      obtain ⟨g7, o7, hao7, hrow7⟩ := L59.spot HJ.out.2.2.2.1
                      obtain ⟨rfl, rfl⟩ : g6 = g7 ∧ o6 = o7 := by injection hao7 with h9; injection h9 with h8 h7; exact ⟨h8, h7⟩
                      have L5b := hrow7.load HJ.out.2.2.2.1
                      have BU2 := robuild1_run (rog M j) W9
                      obtain ⟨v10, W10, happ2, hO10, hb10⟩ := roapp1 (rog M j) hO9 (by have h9 := HJ.out.2.2.2.2; have h8 := insK_len M (upg U k) j; rw [HJ.out.1] at h8; have := HX.out.2.2.2.1; simp only [List.length_append, List.length_cons, List.length_nil] at h8 ⊢; omega) hszB
                      have HZ := Lib.hid (And.intro hO10 (h59.trans hb10))
                      clear hO9 hO10 hb9 hb10 hb78 hb8 L5 L6 hszA hszB h59 L59 hrow7 hao7 HCA h07
                      go_wp2_with fail
                      go_roundw
                      case rel => exact ⟨j + 1, _, _, _, by have := HJ.out.2.2.2.1; omega, by go_num, rfl, rfl, HE.out, HZ.out.1, HZ.out.2⟩
                      case measure => have := HJ.out.2.2.2.1; simp [intOf]; omega
                    · rw [decide_eq_false hc] at HCA
                      have e9 : insK M (upg U k) (j + 1) = (O ++ [rog M j], false, hd) := by rw [insK, HJ.out.1, if_neg HS.out.1, if_neg (fun h => hc h.2)]
                      have HE := Lib.hid e9
                      clear hc e9
                      have L5 : ∀ w', Below w7.heap.size w7 w' → (loadSem 67 (.pointer (some ⟨g6, o6 + j * 21, none⟩))).run Tryd.prog w' = .ok (.agg (rog M j).cs) w' := fun w' h => L5h.out w' (bel_trans HS.out.2 h)
                      have L6 : ∀ w', Below w7.heap.size w7 w' → (loadSem 67 (.pointer (some ⟨W4.heap.size, 0, none⟩))).run Tryd.prog w' = .ok (.agg (said (upg U k)).cs) w' := fun w' h => L6h.out w' (bel_trans HS.out.2 h)
                      clear L57 L67
                      go_upto_region 18 with fail
                      refine wp_region_lin (fun w' => Below w7.heap.size w7 w') (by kernel_rfl) (by kernel_rfl) (bel_drew (by assumption)) ?_
                      (repeat (first | (refine lin_off (by rfl) ?_; (try simp only [Act.put, List.setIfInBounds_toArray, List.set_cons_zero, List.set_cons_succ])) | (refine lin_op (v := ?_) (by rfl) (fun w9 hS9 => ?_) ?_; rotate_left; (focus (((try dsimp only at hS9); go_simp; (try go_bits)) <;> with_reducible rfl)); (try simp only [Act.put, List.setIfInBounds_toArray, List.set_cons_zero, List.set_cons_succ])) | (refine lin_fn (f := 43) (args := #[.agg (said (upg U k)).cs, .agg (rog M j).cs]) (by rfl) rfl rfl (enters_of Tryd.func43 (by kernel_rfl) rfl) (fun w9 hS9 => (HCA w9).mono fun e w' h => ⟨h.1, bel_trans hS9 h.2⟩) ?_ ?_; (focus (simp [Act.eval]; done)); (try simp only [Act.put, List.setIfInBounds_toArray, List.set_cons_zero, List.set_cons_succ]))))
                      refine lin_nil (fun w8 hb8 => ?_)
                      have hb78 := bel_trans HS.out.2 hb8
                      have L58 := L5 w8 hb8
                      have BU := robuild1_run (rog M j) w8
                      have hszA : W5.heap.size ≤ w8.heap.size := by have := HJ.out.2.2.1.size; have := hb78.size; omega
                      obtain ⟨v9, W9, happ, hO9, hb9⟩ := roapp1 (rog M j) (HJ.out.2.1.later hb78) HJ.out.2.2.2.2 hszA
                      have h59 : Below W5.heap.size W5 W9 := (HJ.out.2.2.1.trans (hb78.mono HJ.out.2.2.1.size)).trans hb9
                      have HZ := Lib.hid (And.intro hO9 h59)
                      clear hO9 hb9 hb78 hb8 L5 L6 hszA h59 HCA h07
                      go_wp2_with fail
                      go_roundw
                      case rel => exact ⟨j + 1, _, _, _, by have := HJ.out.2.2.2.1; omega, by go_num, rfl, rfl, HE.out, HZ.out.1, HZ.out.2⟩
                      case measure => have := HJ.out.2.2.2.1; simp [intOf]; omega
                  · have e9 : insK M (upg U k) (j + 1) = (O ++ [rog M j], true, hd) := by rw [insK, HJ.out.1, if_neg HS.out.1, if_neg (fun h => by cases h.1)]
                    have HE := Lib.hid e9
                    clear e9 L57 L67
                    go_upto_region 18 with fail
                    refine wp_region_lin (fun w' => Below w7.heap.size w7 w') (by kernel_rfl) (by kernel_rfl) (bel_drew (by assumption)) ?_
                    (repeat (first | (refine lin_off (by rfl) ?_; (try simp only [Act.put, List.setIfInBounds_toArray, List.set_cons_zero, List.set_cons_succ])) | (refine lin_op (v := ?_) (by rfl) (fun w9 hS9 => ?_) ?_; rotate_left; (focus (((try dsimp only at hS9); go_simp; (try go_bits)) <;> with_reducible rfl)); (try simp only [Act.put, List.setIfInBounds_toArray, List.set_cons_zero, List.set_cons_succ]))))
                    refine lin_nil (fun w8 hb8 => ?_)
                    have hb78 := bel_trans HS.out.2 hb8
                    have L58 := L5h.out w8 hb78
                    have BU := robuild1_run (rog M j) w8
                    have hszA : W5.heap.size ≤ w8.heap.size := by have := HJ.out.2.2.1.size; have := hb78.size; omega
                    obtain ⟨v9, W9, happ, hO9, hb9⟩ := roapp1 (rog M j) (HJ.out.2.1.later hb78) HJ.out.2.2.2.2 hszA
                    have h59 : Below W5.heap.size W5 W9 := (HJ.out.2.2.1.trans (hb78.mono HJ.out.2.2.1.size)).trans hb9
                    have HZ := Lib.hid (And.intro hO9 h59)
                    clear hO9 hb9 hb78 hb8 hszA h59 HCA h07 L5 L6
                    go_wp2_with fail
                    go_roundw
                    case rel => exact ⟨j + 1, _, _, _, by have := HJ.out.2.2.2.1; omega, by go_num, rfl, rfl, HE.out, HZ.out.1, HZ.out.2⟩
                    case measure => have := HJ.out.2.2.2.1; simp [intOf]; omega
              · rw [decide_eq_false hp6] at EQ
                have HN := Lib.hid hp6
                clear hp6
                go_upto_region 16 with fail
                refine wp_region_lin (fun w' => Below wi.heap.size wi w') (by kernel_rfl) (by kernel_rfl) (bel_drew (by assumption)) ?_
                (repeat (first | (refine lin_off (by rfl) ?_; (try simp only [Act.put, List.setIfInBounds_toArray, List.set_cons_zero, List.set_cons_succ])) | (refine lin_op (v := ?_) (by rfl) (fun w9 hS9 => ?_) ?_; rotate_left; (focus (((try dsimp only at hS9); go_simp; (try go_bits)) <;> with_reducible rfl)); (try simp only [Act.put, List.setIfInBounds_toArray, List.set_cons_zero, List.set_cons_succ]))))
                refine lin_nil (fun w7 hb7 => ?_)
                have hns : ¬ spk (upg U k) (rog M j) := fun h => HN.out h.1.symm
                have L57 := L5 w7 hb7
                have L67 := L6 w7 hb7
                have HCA := rahead_any (said (upg U k)) (rog M j)
                have h07 : Below w7.heap.size w7 w7 := Below.refl _ _
                have HS := Lib.hid (And.intro hns hb7)
                have L5h := Lib.hid L5
                have L6h := Lib.hid L6
                clear hns EQ L1 L2 L3 L4
                cases pt
                · by_cases hc : cmpR (said (upg U k)) (rog M j) < 0
                  · rw [decide_eq_true hc] at HCA
                    have e9 : insK M (upg U k) (j + 1) = (O ++ [said (upg U k)] ++ [rog M j], true, hd) := by rw [insK, HJ.out.1, if_neg HS.out.1, if_pos ⟨rfl, hc⟩]
                    have HE := Lib.hid e9
                    clear hc e9
                    have L5 : ∀ w', Below w7.heap.size w7 w' → (loadSem 67 (.pointer (some ⟨g6, o6 + j * 21, none⟩))).run Tryd.prog w' = .ok (.agg (rog M j).cs) w' := fun w' h => L5h.out w' (bel_trans HS.out.2 h)
                    have L6 : ∀ w', Below w7.heap.size w7 w' → (loadSem 67 (.pointer (some ⟨W4.heap.size, 0, none⟩))).run Tryd.prog w' = .ok (.agg (said (upg U k)).cs) w' := fun w' h => L6h.out w' (bel_trans HS.out.2 h)
                    clear L57 L67
                    go_upto_region 18 with fail
                    refine wp_region_lin (fun w' => Below w7.heap.size w7 w') (by kernel_rfl) (by kernel_rfl) (bel_drew (by assumption)) ?_
                    (repeat (first | (refine lin_off (by rfl) ?_; (try simp only [Act.put, List.setIfInBounds_toArray, List.set_cons_zero, List.set_cons_succ])) | (refine lin_op (v := ?_) (by rfl) (fun w9 hS9 => ?_) ?_; rotate_left; (focus (((try dsimp only at hS9); go_simp; (try go_bits)) <;> with_reducible rfl)); (try simp only [Act.put, List.setIfInBounds_toArray, List.set_cons_zero, List.set_cons_succ])) | (refine lin_fn (f := 43) (args := #[.agg (said (upg U k)).cs, .agg (rog M j).cs]) (by rfl) rfl rfl (enters_of Tryd.func43 (by kernel_rfl) rfl) (fun w9 hS9 => (HCA w9).mono fun e w' h => ⟨h.1, bel_trans hS9 h.2⟩) ?_ ?_; (focus (simp [Act.eval]; done)); (try simp only [Act.put, List.setIfInBounds_toArray, List.set_cons_zero, List.set_cons_succ]))))
                    refine lin_nil (fun w8 hb8 => ?_)
                    have hb78 := bel_trans HS.out.2 hb8
                    have L68 := L6 w8 hb8
                    have BU := robuild1_run (said (upg U k)) w8
                    have hszA : W5.heap.size ≤ w8.heap.size := by have := HJ.out.2.2.1.size; have := hb78.size; omega
                    obtain ⟨v9, W9, happ, hO9, hb9⟩ := roapp1 (said (upg U k)) (HJ.out.2.1.later hb78) HJ.out.2.2.2.2 hszA
                    have hszB : W5.heap.size ≤ W9.heap.size := by have := hb9.size; omega
                    have h59 : Below W5.heap.size W5 W9 := (HJ.out.2.2.1.trans (hb78.mono HJ.out.2.2.1.size)).trans hb9
                    have L59 := (HX.out.1.later h59)
                    obtain ⟨g7, o7, hao7, hrow7⟩ := L59.spot HJ.out.2.2.2.1
                    obtain ⟨rfl, rfl⟩ : g6 = g7 ∧ o6 = o7 := by injection hao7 with h9; injection h9 with h8 h7; exact ⟨h8, h7⟩
                    have L5b := hrow7.load HJ.out.2.2.2.1
                    have BU2 := robuild1_run (rog M j) W9
                    obtain ⟨v10, W10, happ2, hO10, hb10⟩ := roapp1 (rog M j) hO9 (by have h9 := HJ.out.2.2.2.2; have h8 := insK_len M (upg U k) j; rw [HJ.out.1] at h8; have := HX.out.2.2.2.1; simp only [List.length_append, List.length_cons, List.length_nil] at h8 ⊢; omega) hszB
                    have HZ := Lib.hid (And.intro hO10 (h59.trans hb10))
                    clear hO9 hO10 hb9 hb10 hb78 hb8 L5 L6 hszA hszB h59 L59 hrow7 hao7 HCA h07
                    go_wp2_with fail
                    go_roundw
                    case rel => exact ⟨j + 1, _, _, _, by have := HJ.out.2.2.2.1; omega, by go_num, rfl, rfl, HE.out, HZ.out.1, HZ.out.2⟩
                    case measure => have := HJ.out.2.2.2.1; simp [intOf]; omega
                  · rw [decide_eq_false hc] at HCA
                    have e9 : insK M (upg U k) (j + 1) = (O ++ [rog M j], false, hd) := by rw [insK, HJ.out.1, if_neg HS.out.1, if_neg (fun h => hc h.2)]
                    have HE := Lib.hid e9
                    clear hc e9
                    have L5 : ∀ w', Below w7.heap.size w7 w' → (loadSem 67 (.pointer (some ⟨g6, o6 + j * 21, none⟩))).run Tryd.prog w' = .ok (.agg (rog M j).cs) w' := fun w' h => L5h.out w' (bel_trans HS.out.2 h)
                    have L6 : ∀ w', Below w7.heap.size w7 w' → (loadSem 67 (.pointer (some ⟨W4.heap.size, 0, none⟩))).run Tryd.prog w' = .ok (.agg (said (upg U k)).cs) w' := fun w' h => L6h.out w' (bel_trans HS.out.2 h)
                    clear L57 L67
                    go_upto_region 18 with fail
                    refine wp_region_lin (fun w' => Below w7.heap.size w7 w') (by kernel_rfl) (by kernel_rfl) (bel_drew (by assumption)) ?_
                    (repeat (first | (refine lin_off (by rfl) ?_; (try simp only [Act.put, List.setIfInBounds_toArray, List.set_cons_zero, List.set_cons_succ])) | (refine lin_op (v := ?_) (by rfl) (fun w9 hS9 => ?_) ?_; rotate_left; (focus (((try dsimp only at hS9); go_simp; (try go_bits)) <;> with_reducible rfl)); (try simp only [Act.put, List.setIfInBounds_toArray, List.set_cons_zero, List.set_cons_succ])) | (refine lin_fn (f := 43) (args := #[.agg (said (upg U k)).cs, .agg (rog M j).cs]) (by rfl) rfl rfl (enters_of Tryd.func43 (by kernel_rfl) rfl) (fun w9 hS9 => (HCA w9).mono fun e w' h => ⟨h.1, bel_trans hS9 h.2⟩) ?_ ?_; (focus (simp [Act.eval]; done)); (try simp only [Act.put, List.setIfInBounds_toArray, List.set_cons_zero, List.set_cons_succ]))))
                    refine lin_nil (fun w8 hb8 => ?_)
                    have hb78 := bel_trans HS.out.2 hb8
                    have L58 := L5 w8 hb8
                    have BU := robuild1_run (rog M j) w8
                    have hszA : W5.heap.size ≤ w8.heap.size := by have := HJ.out.2.2.1.size; have := hb78.size; omega
                    obtain ⟨v9, W9, happ, hO9, hb9⟩ := roapp1 (rog M j) (HJ.out.2.1.later hb78) HJ.out.2.2.2.2 hszA
                    have h59 : Below W5.heap.size W5 W9 := (HJ.out.2.2.1.trans (hb78.mono HJ.out.2.2.1.size)).trans hb9
                    have HZ := Lib.hid (And.intro hO9 h59)
                    clear hO9 hb9 hb78 hb8 L5 L6 hszA h59 HCA h07
                    go_wp2_with fail
                    go_roundw
                    case rel => exact ⟨j + 1, _, _, _, by have := HJ.out.2.2.2.1; omega, by go_num, rfl, rfl, HE.out, HZ.out.1, HZ.out.2⟩
                    case measure => have := HJ.out.2.2.2.1; simp [intOf]; omega
                · have e9 : insK M (upg U k) (j + 1) = (O ++ [rog M j], true, hd) := by rw [insK, HJ.out.1, if_neg HS.out.1, if_neg (fun h => by cases h.1)]
                  have HE := Lib.hid e9
                  clear e9 L57 L67
                  go_upto_region 18 with fail
                  refine wp_region_lin (fun w' => Below w7.heap.size w7 w') (by kernel_rfl) (by kernel_rfl) (bel_drew (by assumption)) ?_
                  (repeat (first | (refine lin_off (by rfl) ?_; (try simp only [Act.put, List.setIfInBounds_toArray, List.set_cons_zero, List.set_cons_succ])) | (refine lin_op (v := ?_) (by rfl) (fun w9 hS9 => ?_) ?_; rotate_left; (focus (((try dsimp only at hS9); go_simp; (try go_bits)) <;> with_reducible rfl)); (try simp only [Act.put, List.setIfInBounds_toArray, List.set_cons_zero, List.set_cons_succ]))))
                  refine lin_nil (fun w8 hb8 => ?_)
                  have hb78 := bel_trans HS.out.2 hb8
                  have L58 := L5h.out w8 hb78
                  have BU := robuild1_run (rog M j) w8
                  have hszA : W5.heap.size ≤ w8.heap.size := by have := HJ.out.2.2.1.size; have := hb78.size; omega
                  obtain ⟨v9, W9, happ, hO9, hb9⟩ := roapp1 (rog M j) (HJ.out.2.1.later hb78) HJ.out.2.2.2.2 hszA
                  have h59 : Below W5.heap.size W5 W9 := (HJ.out.2.2.1.trans (hb78.mono HJ.out.2.2.1.size)).trans hb9
                  have HZ := Lib.hid (And.intro hO9 h59)
                  clear hO9 hb9 hb78 hb8 hszA h59 HCA h07 L5 L6
                  go_wp2_with fail
                  go_roundw
                  case rel => exact ⟨j + 1, _, _, _, by have := HJ.out.2.2.2.1; omega, by go_num, rfl, rfl, HE.out, HZ.out.1, HZ.out.2⟩
                  case measure => have := HJ.out.2.2.2.1; simp [intOf]; omega
            · have hjl2 : j = M.length := by omega
              have i1 : ¬ ((j : Int) < (M.length : Int)) := by omega
              have hins2 : insK M (upg U k) M.length = (O, pt, hd) := by rw [← hjl2]; exact hins
              have hol : O.length ≤ 1000 := by have h9 := insK_len M (upg U k) j; rw [hins] at h9; have := HX.out.2.2.2.1; simp only at h9; omega
              have hhad : hadL M (upg U k) = hd := by rw [hadL, hins2]
              have hbu : Blk wi wo.heap.size 72 (upg U k).cs := HX.out.2.2.2.2.2.2.1.later hjb
              have hbx := HX.out.2.2.2.2.2.1.later hjb
              have h19 : Below W1.heap.size W1 wi := bel_trans HX.out.2.1 hjb
              have L6 : (loadSem 67 (.pointer (some ⟨W4.heap.size, 0, none⟩))).run Tryd.prog wi = .ok (.agg (said (upg U k)).cs) wi := ro_r hbx wi (Below.refl _ _)
              have HJ := Lib.hid (And.intro hins2 (And.intro hown (And.intro hjb (And.intro hhad (And.intro hol (And.intro h19 hbu))))))
              clear hins hins2 hown hjb hhad hol hbx hbu h19 hjl2 hjl LG5 LH4 LF4 LS4 LP4 BR4 hst5 hst4 LK CB4
              cases pt
              · have hg0 : gg = false := by
                  cases gg with
                  | false => rfl
                  | true => have h9 := put_gone M (upg U k) HG.out M.length; rw [HJ.out.1] at h9; cases h9
                subst hg0
                have BU := robuild1_run (said (upg U k)) wi
                have hszA : W5.heap.size ≤ wi.heap.size := HJ.out.2.2.1.size
                obtain ⟨v9, W9, happ, hO9, hb9⟩ := roapp1 (said (upg U k)) HJ.out.2.1 HJ.out.2.2.2.2.1 hszA
                have hg9 : Blk W9 wo.heap.size 72 (upg U k).cs := (hb9.block _ (by have := HX.out.2.2.2.2.2.2.1.lt; omega)).trans HJ.out.2.2.2.2.2.2
                have LG9 := up_g hg9 W9 (Below.refl _ _)
                rw [HG.out] at LG9
                have e8 : insR M (upg U k) = O ++ [said (upg U k)] := by rw [insR, HJ.out.1, if_pos rfl]
                have hnx := runI_next HX.out.2.2.2.2.1 HX.out.2.2.1 (fun h => by rw [HG.out] at h; cases h.1)
                rw [e8] at hnx
                have h1W : W1.heap.size ≤ W5.heap.size := HX.out.2.1.size
                obtain ⟨a9, c9, rfl, hR9, hS9⟩ := hO9.spare
                have HZ := Lib.hid (And.intro hR9 (And.intro hnx (HJ.out.2.2.2.2.2.1.trans (hb9.mono h1W))))
                have hl9 := insR_len M (upg U k)
                rw [e8] at hl9
                have HL := Lib.hid hl9
                have hsepO : (O ++ [said (upg U k)]) = [] ∨ ∀ x, a9 = some x → x.block ≠ W0.heap.size := .inr fun x hx => by have := hS9 x hx; have := HX.out.2.1.size; have := HB.out.2.2.1; have := HB.out.2.2.2.1; omega
                have HSO := Lib.hid hsepO
                clear hsepO hS9
                clear hO9 hb9 hszA hg9 hnx e8 h1W hR9 hl9
                go_wp2_with fail
                go_roundw
                case rel => exact ⟨k + 1, a9, c9, O ++ [said (upg U k)], by omega, by go_num, (by rw [List.length_append]; rfl), HZ.out.1, HSO.out, HZ.out.2.1, by have := HL.out; have := HX.out.2.2.2.1; omega, HZ.out.2.2⟩
                case measure => simp [intOf]; omega
              · have LG9 := up_g HJ.out.2.2.2.2.2.2 wi (Below.refl _ _)
                rw [HG.out] at LG9
                have e8 : insR M (upg U k) = O := by rw [insR, HJ.out.1, if_neg (by simp)]
                have hl9 := insR_len M (upg U k)
                rw [e8] at hl9
                have HL := Lib.hid hl9
                clear hl9
                obtain ⟨a9, c9, hv9, hR9, hS9⟩ := HJ.out.2.1.spare
                have hsepO : O = [] ∨ ∀ x, a9 = some x → x.block ≠ W0.heap.size := .inr fun x hx => by have := hS9 x hx; have := HX.out.2.1.size; have := HB.out.2.2.1; have := HB.out.2.2.2.1; omega
                have HSO := Lib.hid hsepO
                clear hsepO hS9
                subst hv9
                by_cases hgo : gg = true ∧ hd = false
                · obtain ⟨rfl, rfl⟩ := hgo
                  have hnone := runI_stop HX.out.2.2.2.2.1 HX.out.2.2.1 ⟨HG.out, HJ.out.2.2.2.1⟩
                  have HZ := Lib.hid hnone
                  have ST0 := st_rib (a2 := none) (n2 := 0) (c2 := 0) (HB.out.2.1.later HJ.out.2.2.2.2.2.1)
                  clear hnone e8 hR9 L6
                  go_wp2_with fail
                  refine bodyPost_ret (results_blk rfl _ _ W0.heap.size _ _ rfl ((HB.out.2.1.later HJ.out.2.2.2.2.2.1).row _) Tryd.underlying24 rfl s_rib1) rfl ?_
                  exact HREF.out wi HJ.out.2.2.2.2.2.1 4 (.gone h1 h2 HZ.out)
                · have hnx := runI_next HX.out.2.2.2.2.1 HX.out.2.2.1 (fun h => hgo ⟨by rw [← HG.out]; exact h.1, by rw [← HJ.out.2.2.2.1]; exact h.2⟩)
                  rw [e8] at hnx
                  have HZ := Lib.hid (And.intro hR9 hnx)
                  clear hnx e8 hR9 L6
                  cases gg
                  · clear hgo
                    go_wp2_with fail
                    go_roundw
                    case rel => exact ⟨k + 1, a9, c9, O, by omega, by go_num, rfl, HZ.out.1, HSO.out, HZ.out.2, by have := HL.out; have := HX.out.2.2.2.1; omega, HJ.out.2.2.2.2.2.1⟩
                    case measure => simp [intOf]; omega
                  · have hd1 : hd = true := by
                      cases hd with
                      | false => exact absurd ⟨rfl, rfl⟩ hgo
                      | true => rfl
                    subst hd1
                    clear hgo
                    go_wp2_with fail
                    go_roundw
                    case rel => exact ⟨k + 1, a9, c9, O, by omega, by go_num, rfl, HZ.out.1, HSO.out, HZ.out.2, by have := HL.out; have := HX.out.2.2.2.1; omega, HJ.out.2.2.2.2.2.1⟩
                    case measure => simp [intOf]; omega
        · have hkn : U.take k = U := List.take_of_length_le (by have := HB.out.2.2.2.2.2; omega)
          rw [hkn] at hrun
          have i1 : ¬ ((k : Int) < (n2 : Int)) := by omega
          have HPR := rprefixes_any a6 M.length c6 M wo rfl (by omega) hO
          have HX := Lib.hid (And.intro hO (And.intro hrun (And.intro hlen hkb)))
          clear hO hrun hlen hkb hkn
          go_wp2_with fail
          refine HPR.mono ?_
          rintro e W5 ⟨rfl, hb5⟩
          have hb15 := bel_trans HX.out.2.2.2 hb5
          have HY := Lib.hid (And.intro hb15 (HX.out.1.later hb5))
          have b3 := HB.out.2.1.later hb15
          clear HPR hb5 hb15
          by_cases hl : disN M M.length ≤ 40
          · have d0 : ¬ ((40 : Int) < ((disN M M.length : Nat) : Int)) := by omega
            have BT := build_rib1 a6 M.length c6
            have ST4 := st_rib (a2 := a6) (n2 := M.length) (c2 := c6) b3
            clear b3
            go_wp2_with fail
            refine bodyPost_ret (results_blk rfl _ _ W0.heap.size _ _ rfl ((HB.out.2.1.later HY.out.1).row _) Tryd.underlying24 rfl s_rib1) rfl ?_
            exact ⟨a6, c6, M, 0, rfl, HY.out.2.set HSE.out _, .good h1 h2 HX.out.2.1 hl, below_setRow (bel_trans HB.out.1 HY.out.1) (by have := HB.out.2.2.1; omega) _⟩
          · have d0 : (40 : Int) < ((disN M M.length : Nat) : Int) := by omega
            have ST0 := st_rib (a2 := none) (n2 := 0) (c2 := 0) b3
            clear b3
            go_wp2_with fail
            refine bodyPost_ret (results_blk rfl _ _ W0.heap.size _ _ rfl ((HB.out.2.1.later HY.out.1).row _) Tryd.underlying24 rfl s_rib1) rfl ?_
            exact HREF.out W5 HY.out.1 6 (.full h1 h2 HX.out.2.1 hl)
    · rw [decide_eq_false h2] at HCB2
      go_wp2_with fail
      refine HCB2.mono ?_
      rintro e W3 ⟨rfl, hb3⟩
      have hb13 : Below W1.heap.size W1 W3 := bel_trans hb2 hb3
      have ST0 := st_rib (a2 := none) (n2 := 0) (c2 := 0) (HB.out.2.1.later hb13)
      go_wp2_with fail
      refine bodyPost_ret (results_blk rfl _ _ W0.heap.size _ _ rfl ((HB.out.2.1.later hb13).row _) Tryd.underlying24 rfl s_rib1) rfl ?_
      exact HREF.out W3 hb13 210 (.bat h1 h2)
  · rw [decide_eq_false h1] at HCK
    go_enter Tryd.func12, Tryd.ntmps12
    go_wp2_with (with_reducible refine wpList_alloc_z rfl 24 rfl #[.slice none 0 0] 1 z_rib ?_)
    refine HCK.mono ?_
    rintro e W2 ⟨rfl, hb2⟩
    have ST0 := st_rib (a2 := none) (n2 := 0) (c2 := 0) (HB.out.2.1.later hb2)
    go_wp2_with fail
    refine bodyPost_ret (results_blk rfl _ _ W0.heap.size _ _ rfl ((HB.out.2.1.later hb2).row _) Tryd.underlying24 rfl s_rib1) rfl ?_
    exact HREF.out W2 hb2 211 (.rib h1)
end Go.Proofs.YtclkfmblogkakaaDoor
