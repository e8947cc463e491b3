/-
  How many prefixes candidates have: the contract of the reference's prefixes; what it is of candidates in order. Nothing here is a statement of the document.
-/
import Derived.Test.YtikdgbmdepplgaaGreatDoorRtP
import Derived.Test.YtikdgbmdepplgaaGreatDoorPfxQ
namespace Go.Proofs.YtikdgbmdepplgaaGreatDoor
open Go.RowKit Go.Shelf
set_option linter.unusedVariables false
set_option maxRecDepth 100000
attribute [local go_sem ↓] load_ro_rule store_ro_rule load_up_rule store_up_rule load_rib_rule store_rib_rule build_rib_rule load_bat_rule roapp_rule robuild_rule
set_option maxHeartbeats 4000000 in
theorem rapply_any (a : Option Addr) (n c : Nat) (L : List Ro) (a2 : Option Addr) (n2 c2 : Nat) (U : List Up) (w : World) (hW : Wid w) (hn : L.length = n) (hs : n ≤ 900) (hR : RoAt w a L) (h0 : a = none → c = 0)
    (hn2 : U.length = n2) (hs2 : n2 ≤ 1000000) (hnc2 : n2 ≤ c2) (hR2 : UpAt w a2 U) :
    Calls Tryz.prog 12 #[.agg #[.slice a n c], .agg #[.slice a2 n2 c2]] w fun e w' => ∃ a' c' M er, e = .returned (.tuple #[.agg #[.slice a' M.length c'], .int .i64 er]) ∧ OwnRo w' w.heap.size (.slice a' M.length c') M ∧ AppR L U M er ∧ Below w.heap.size w w' := by
  obtain ⟨W0, hW0⟩ : ∃ W0, (w.alloc (.cells #[.slice a n c] 24)).alloc (.cells #[.slice a2 n2 c2] 27) = W0 := ⟨_, rfl⟩
  obtain ⟨W1, hW1⟩ : ∃ W1, W0.alloc (.cells #[.slice none 0 0] 24) = W1 := ⟨_, rfl⟩
  have sz0 : W0.heap.size = w.heap.size + 2 := by rw [← hW0]; simp
  have sz1 : W1.heap.size = w.heap.size + 3 := by rw [← hW1, World.size_alloc, sz0]
  have hb0 : Below w.heap.size w W0 := by rw [← hW0]; exact (((Below.refl w.heap.size w).alloc (Nat.le_refl _) _).alloc (by simp) _)
  have hb01 : Below W0.heap.size W0 W1 := by rw [← hW1]; exact (Below.refl _ _).alloc (Nat.le_refl _) _
  have hb1 : Below w.heap.size w W1 := bel_trans hb0 hb01
  have b3 : Blk W1 W0.heap.size 24 #[.slice none 0 0] := by rw [← hW1]; exact Blk.new _ _ _
  have b1 : Blk W1 w.heap.size 24 #[.slice a n c] := by
    have h9 := (Blk.new w 24 #[.slice a n c]).alloc (.cells #[.slice a2 n2 c2] 27)
    rw [hW0] at h9
    exact h9.later hb01
  have b2 : Blk W1 (w.heap.size + 1) 27 #[.slice a2 n2 c2] := by
    have h9 := Blk.new (w.alloc (.cells #[.slice a n c] 24)) 27 #[.slice a2 n2 c2]
    rw [World.size_alloc, hW0] at h9
    exact h9.later hb01
  have LR := rib_t b1
  have LB := bat_t b2
  have CR : ∀ w', Below W1.heap.size W1 w' → w'.cell? ⟨w.heap.size, 0, none⟩ = some (.slice a n c) := fun w' k => (b1.later k).cell 0
  have CB : ∀ w', Below W1.heap.size W1 w' → w'.cell? ⟨w.heap.size + 1, 0, none⟩ = some (.slice a2 n2 c2) := fun w' k => (b2.later k).cell 0
  have h01 : Below W1.heap.size W1 W1 := Below.refl _ _
  have HCK := rcheck_any a n c L W1 (hW.later hb1) hn (by omega) (hR.later hb1) h0
  have HB := Lib.hid (And.intro hb1 (And.intro b3 (And.intro sz0 (And.intro sz1 (And.intro hn (And.intro hn2 (And.intro h0 (hW.later hb1))))))))
  have HR := Lib.hid (fun (w' : World) (h : Below W1.heap.size W1 w') => (hR.later hb1).later h)
  have HR2 := Lib.hid (fun (w' : World) (h : Below W1.heap.size W1 w') => (hR2.later hb1).later h)
  have BZ := build_rib0
  have LR1 := LR W1 h01
  clear hR hR2 hW b1 b2 hb0 hb01 hb1 b3 sz0 sz1 h0 hn hn2
  -- whatever is refused
  have REF : ∀ W : World, Below W1.heap.size W1 W → ∀ er, AppR L U [] er → ∃ a' c' M er', (Ending.returned (.tuple #[.agg #[.slice none 0 0], .int .i64 er])) = .returned (.tuple #[.agg #[.slice a' M.length c'], .int .i64 er']) ∧ OwnRo (W.setRow W0.heap.size #[.slice none 0 0]) w.heap.size (.slice a' M.length c') M ∧ AppR L U M er' ∧ Below w.heap.size w (W.setRow W0.heap.size #[.slice none 0 0]) := fun W h er hA =>
    ⟨none, 0, [], er, rfl, OwnRo.nil _ _, hA, below_setRow (bel_trans HB.out.1 h) (by have := HB.out.2.2.1; omega) _⟩
  have HREF := Lib.hid REF
  clear REF
  by_cases h1 : okRib L
  · have e1 : ribE L = 0 := if_pos h1
    rw [e1] at HCK
    go_enter Tryz.func12, Tryz.ntmps12
    go_wp2_with (with_reducible refine wpList_alloc_z rfl 24 rfl #[.slice none 0 0] 1 z_rib ?_)
    refine HCK.mono ?_
    rintro e W2 ⟨rfl, hb2⟩
    have LB2 := LB W2 hb2
    have HCB := bcheck_any a2 n2 c2 U W2 (HB.out.2.2.2.2.2.2.2.later hb2) HB.out.2.2.2.2.2.1 hs2 hnc2 (HR2.out W2 hb2)
    have CR2 := CR
    clear HCK
    by_cases h2 : okBat U
    · have e2 : batE U = 0 := if_pos h2
      rw [e2] at HCB
      go_wp2_with fail
      refine HCB.mono ?_
      rintro e W3 ⟨rfl, hb3⟩
      have hb13 : Below W1.heap.size W1 W3 := bel_trans hb2 hb3
      have CR3 := CR W3 hb13
      have HCL := roclone_any a n c L W3 HB.out.2.2.2.2.1 (by omega) (HR.out W3 hb13) HB.out.2.2.2.2.2.2.1
      clear HCB LB2 LR LB LR1 CR2
      go_wp2_with fail
      refine HCL.mono ?_
      rintro e W4 ⟨v4, rfl, hO4, hb4⟩
      have hb14 : Below W1.heap.size W1 W4 := bel_trans hb13 hb4
      have CB4 := CB W4 hb14
      have hB8 : n2 ≤ 8 := by have := h2.1.2; have := HB.out.2.2.2.2.2.1; omega
      have H4 := Lib.hid (And.intro (hO4.less hb13.size) hb14)
      clear HCL CR3 hO4 hb4 hb14 hb13 hb3 hb2
      go_wp2_with fail
      go_loopw [8, 30] (fun v8 i wr => ∃ (k : Nat) (M : List Ro), k ≤ n2 ∧ i = .int .i64 (k : Int) ∧ OwnRo wr W1.heap.size v8 M ∧ runU L (U.take k) = some M ∧ M.length ≤ n + k ∧ Below W1.heap.size W1 wr) (fun _ i _ => n2 - (intOf i).toNat)
      case atStart => exact ⟨0, L, Nat.zero_le _, rfl, H4.out.1, rfl, by have := HB.out.2.2.2.2.1; omega, H4.out.2⟩
      case round =>
        obtain ⟨k, M, hk, rfl, hO, hrun, hlen, hkb⟩ := hrel
        obtain ⟨wo, hwo⟩ : ∃ wo, wo = wr := ⟨_, rfl⟩
        subst hwo
        clear CB4
        by_cases hlt : k < n2
        · have hkl : k < U.length := by have := HB.out.2.2.2.2.2.1; omega
          obtain ⟨g2, o2, hao, hrow⟩ := (HR2.out wo hkb).spot hkl
          have LK := hrow.load hkl
          obtain ⟨W5, hst, hblk, hb5⟩ := up_new (upg U k) wo
          have hO5 := hO.later hb5
          have hab := hO.above
          obtain ⟨av, cv, rfl, hcv1, hcv2, hRo5, _⟩ := hO5.lies
          have HI := rindex_any (upg U k) wo.heap.size av M.length cv M W5 hblk rfl (by omega) hRo5
          subst hao
          by_cases hsp : spotF (upg U k) M < M.length
          · have e3 : spotI (upg U k) M = (spotF (upg U k) M : Int) := if_pos hsp
            have e4 : rest1 M (upg U k) = M.eraseIdx (spotF (upg U k) M) := if_pos hsp
            have e5 : ¬ badU M (upg U k) := fun h => h.2 hsp
            rw [e3] at HI
            generalize spotF (upg U k) M = i at *
            obtain ⟨g, rfl⟩ : ∃ g, av = some ⟨g, 0, none⟩ := by
              rcases hO5.2 with ⟨h9, _⟩ | ⟨g', cap, cur, h9, _⟩
              · injection h9 with h8 h7 h6; omega
              · injection h9 with h8; exact ⟨g', h8⟩
            have hgl := hab g rfl
            have i1 : (0 : Int) ≤ (i : Int) := by omega
            have i2 : (i : Int) < 1000 := by omega
            have HX := Lib.hid (And.intro hO5 (And.intro hkb (And.intro hb5 (And.intro hblk (And.intro hrun (And.intro e4 (And.intro e5 (And.intro hlen (And.intro hkl (And.intro hgl hsp))))))))))
            clear hO hO5 hkb hb5 hblk hrun e4 e5 hab hRo5 hrow e3 hlen hkl hgl hsp
            go_wp2_with (with_reducible refine wpList_alloc_z rfl 48 rfl Up.zero.cs 22 z_up ?_)
            refine HI.mono ?_
            rintro e W6 ⟨rfl, hb6⟩
            have HD := rodelete_any (HX.out.1.later hb6) HX.out.2.2.2.2.2.2.2.2.2.2 (by have := HX.out.2.2.2.2.2.2.2.1; omega) (Nat.le_trans HX.out.2.1.size (Nat.le_trans HX.out.2.2.1.size hb6.size))
            clear HI hst LK
            go_wp2_with fail
            refine HD.mono ?_
            rintro e W7 ⟨m, hm, rfl, hO7, hk7⟩
            have hbu7 : Blk W7 wo.heap.size 48 (upg U k).cs := hk7.blk (HX.out.2.2.2.1.later hb6) (by have := HX.out.2.2.2.2.2.2.2.2.2.1.2; simp; omega)
            have hb17 : Below W1.heap.size W1 W7 := (bel_trans HX.out.2.1 (bel_trans HX.out.2.2.1 hb6)).trans (hk7.below (fun q hq => by have := HX.out.2.2.2.2.2.2.2.2.2.1.1; simp at hq; omega) (Nat.le_trans HX.out.2.1.size (Nat.le_trans HX.out.2.2.1.size hb6.size)))
            have hm1 : (M.eraseIdx i).length ≤ M.length := List.length_eraseIdx_le ..
            have hrl : (rest1 M (upg U k)) = M.eraseIdx i := HX.out.2.2.2.2.2.1
            clear HD hk7 hb6
            have LG7 := up_g hbu7 W7 (Below.refl _ _)
            have LU7 := up_r hbu7 W7 (Below.refl _ _)
            have HS := said_any (upg U k) W7
            have hstep := runU_next HX.out.2.2.2.2.2.2.2.2.1 HX.out.2.2.2.2.1 HX.out.2.2.2.2.2.2.1
            cases hg : (upg U k).g
            · rw [hg] at LG7
              have e6 : stepL M (upg U k) = M.eraseIdx i ++ [said (upg U k)] := by rw [stepL, if_neg (by simp [hg]), hrl]
              rw [e6] at hstep
              have HY := Lib.hid (And.intro hO7 (And.intro hb17 (And.intro hstep (And.intro hm hm1))))
              clear hO7 hb17 hstep hbu7 hrl hm hm1 e6 hg
              go_wp2_with fail
              refine HS.mono ?_
              rintro e W8 ⟨rfl, hb8⟩
              have BU := robuild1_run (said (upg U k)) W8
              obtain ⟨v9, W9, happ, hO9, hb9⟩ := roapp1 (said (upg U k)) (HY.out.1.later hb8) (by have := HY.out.2.2.2.2; have := HX.out.2.2.2.2.2.2.2.1; omega) (Nat.le_trans HY.out.2.1.size hb8.size)
              have HZ := Lib.hid (And.intro hO9 ((bel_trans HY.out.2.1 hb8).trans hb9))
              clear hO9 hb9 hb8 HS LG7 LU7
              go_wp2_with fail
              go_roundw
              case rel => exact ⟨k + 1, _, by omega, by go_num, HZ.out.1, HY.out.2.2.1, by rw [List.length_append]; have := HY.out.2.2.2.2; have := HX.out.2.2.2.2.2.2.2.1; simp; omega, HZ.out.2⟩
              case measure => simp [intOf]; omega
            · rw [hg] at LG7
              have e6 : stepL M (upg U k) = M.eraseIdx i := by rw [stepL, if_pos hg, hrl]
              rw [e6] at hstep
              have HY := Lib.hid (And.intro hO7 (And.intro hb17 (And.intro hstep (And.intro hm hm1))))
              clear hO7 hb17 hstep hbu7 hrl hm hm1 e6 hg
              go_wp2_with fail
              go_roundw
              case rel => exact ⟨k + 1, _, by omega, by go_num, HY.out.1, HY.out.2.2.1, by have := HY.out.2.2.2.2; have := HX.out.2.2.2.2.2.2.2.1; omega, HY.out.2.1⟩
              case measure => simp [intOf]; omega
          · have e3 : spotI (upg U k) M = -1 := if_neg hsp
            have e4 : rest1 M (upg U k) = M := if_neg hsp
            rw [e3] at HI
            have HX := Lib.hid (And.intro hO5 (And.intro hkb (And.intro hb5 (And.intro hblk (And.intro hrun (And.intro e4 (And.intro hsp (And.intro hlen hkl))))))))
            clear hO hO5 hkb hb5 hblk hrun e4 hab hRo5 hrow e3 hlen hkl hsp
            go_wp2_with (with_reducible refine wpList_alloc_z rfl 48 rfl Up.zero.cs 22 z_up ?_)
            refine HI.mono ?_
            rintro e W6 ⟨rfl, hb6⟩
            have hbu7 := HX.out.2.2.2.1.later hb6
            have hb17 : Below W1.heap.size W1 W6 := bel_trans HX.out.2.1 (bel_trans HX.out.2.2.1 hb6)
            have hO7 := HX.out.1.later hb6
            have LG7 := up_g hbu7 W6 (Below.refl _ _)
            have LU7 := up_r hbu7 W6 (Below.refl _ _)
            have HS := said_any (upg U k) W6
            clear HI hst LK hb6
            cases hg : (upg U k).g
            · rw [hg] at LG7
              have hstep := runU_next HX.out.2.2.2.2.2.2.2.2 HX.out.2.2.2.2.1 (fun h => by have := h.1; rw [hg] at this; cases this)
              have e6 : stepL M (upg U k) = M ++ [said (upg U k)] := by rw [stepL, if_neg (by simp [hg]), HX.out.2.2.2.2.2.1]
              rw [e6] at hstep
              have HY := Lib.hid (And.intro hO7 (And.intro hb17 hstep))
              clear hO7 hb17 hstep hbu7 e6 hg
              go_wp2_with fail
              refine HS.mono ?_
              rintro e W8 ⟨rfl, hb8⟩
              have BU := robuild1_run (said (upg U k)) W8
              obtain ⟨v9, W9, happ, hO9, hb9⟩ := roapp1 (said (upg U k)) (HY.out.1.later hb8) (by have := HX.out.2.2.2.2.2.2.2.1; omega) (Nat.le_trans HY.out.2.1.size hb8.size)
              have HZ := Lib.hid (And.intro hO9 ((bel_trans HY.out.2.1 hb8).trans hb9))
              clear hO9 hb9 hb8 HS LG7 LU7
              go_wp2_with fail
              go_roundw
              case rel => exact ⟨k + 1, _, by omega, by go_num, HZ.out.1, HY.out.2.2, by rw [List.length_append]; have := HX.out.2.2.2.2.2.2.2.1; simp; omega, HZ.out.2⟩
              case measure => simp [intOf]; omega
            · rw [hg] at LG7
              have hnone := runU_stop HX.out.2.2.2.2.2.2.2.2 HX.out.2.2.2.2.1 ⟨hg, HX.out.2.2.2.2.2.2.1⟩
              have HY := Lib.hid (And.intro hb17 hnone)
              have ST0 := st_rib (a2 := none) (n2 := 0) (c2 := 0) (HB.out.2.1.later hb17)
              clear hO7 hb17 hnone hbu7 hg HS LU7
              go_wp2_with fail
              refine bodyPost_ret (results_blk rfl _ _ W0.heap.size _ _ rfl ((HB.out.2.1.later HY.out.1).row _) Tryz.underlying24 rfl s_rib1) rfl ?_
              exact HREF.out W6 HY.out.1 4 (.gone h1 h2 HY.out.2)
        · have hkn : U.take k = U := List.take_of_length_le (by have := HB.out.2.2.2.2.2.1; omega)
          rw [hkn] at hrun
          have i1 : ¬ ((k : Int) < (n2 : Int)) := by omega
          have HRI := rising_any wo
          have HX := Lib.hid (And.intro hO (And.intro hrun (And.intro hlen hkb)))
          clear hO hrun hlen hkb hkn
          go_wp2_with fail
          refine HRI.mono ?_
          rintro e W5 ⟨ob, sb, rfl, hris, ho1, ho2, hb5⟩
          have HSO := ris_sort HX.out.1 hb5 (HX.out.1.later hb5) (by have := HX.out.2.2.1; omega) (Nat.le_trans HX.out.2.2.2.size hb5.size) hris ho1 ho2
          unfold byF at *
          clear HRI hris
          go_wp2_with fail
          refine HSO.mono ?_
          rintro e W6 ⟨rfl, S, hS, hO6, hb6⟩
          have hSl : S.length = M.length := hS.1.length_eq
          obtain ⟨az, cs, hv, hcs1, hcs2, hRs, _⟩ := hO6.lies
          subst hv
          have hn0 : az = none → cs = 0 := by
            intro has
            rcases hO6.2 with ⟨h9, _⟩ | ⟨g', cap, cur, h9, _⟩
            · injection h9
            · rw [has] at h9; injection h9 with h8; cases h8
          have HF := firsts_any az S.length cs S W6 rfl (by have := HX.out.2.2.1; omega) hRs hn0
          have hb16 : Below W1.heap.size W1 W6 := (bel_trans HX.out.2.2.2 hb5).trans hb6
          have HY := Lib.hid (And.intro hS (And.intro hO6 hb16))
          clear HSO hS hO6 hb6 hRs hb16 hSl
          go_wp2_with fail
          refine HF.mono ?_
          rintro e W7 ⟨v7, rfl, hO7, hb7⟩
          obtain ⟨a7, c7, rfl, _, _, _, _⟩ := hO7.lies
          have hb17 : Below W1.heap.size W1 W7 := bel_trans HY.out.2.2 hb7
          have HZ := Lib.hid (And.intro hb17 (HY.out.2.1.later hb7))
          have b3 := HB.out.2.1.later hb17
          clear HF hO7 hb7 hb17
          by_cases hl : (fstL S).length ≤ 40
          · have d0 : ¬ ((40 : Int) < ((fstL S).length : Int)) := by omega
            have BT := build_rib1 az S.length cs
            have ST4 := st_rib (a2 := az) (n2 := S.length) (c2 := cs) b3
            clear b3
            go_wp2_with fail
            refine bodyPost_ret (results_blk rfl _ _ W0.heap.size _ _ rfl ((HB.out.2.1.later HZ.out.1).row _) Tryz.underlying24 rfl s_rib1) rfl ?_
            have hsz := HB.out.2.2.1
            exact ⟨az, cs, S, 0, rfl, ((HZ.out.2.kept ((Kept.refl [W0.heap.size] W7).setRow (.inl (by simp)) _) (fun g hg => by have := HZ.out.2.above g hg; have := HB.out.2.2.2.1; simp; omega)).less (by have := HB.out.2.2.2.1; omega)), .good h1 h2 HX.out.2.1 HY.out.1 hl, below_setRow (bel_trans HB.out.1 HZ.out.1) (by omega) _⟩
          · have d0 : (40 : Int) < ((fstL S).length : Int) := by omega
            have ST0 := st_rib (a2 := none) (n2 := 0) (c2 := 0) b3
            clear b3
            go_wp2_with fail
            refine bodyPost_ret (results_blk rfl _ _ W0.heap.size _ _ rfl ((HB.out.2.1.later HZ.out.1).row _) Tryz.underlying24 rfl s_rib1) rfl ?_
            exact HREF.out W7 HZ.out.1 6 (.full h1 h2 HX.out.2.1 HY.out.1 hl)
    · have e2 : batE U = 210 := if_neg h2
      rw [e2] at HCB
      go_wp2_with fail
      refine HCB.mono ?_
      rintro e W3 ⟨rfl, hb3⟩
      have hb13 : Below W1.heap.size W1 W3 := bel_trans hb2 hb3
      have ST0 := st_rib (a2 := none) (n2 := 0) (c2 := 0) (HB.out.2.1.later hb13)
      go_wp2_with fail
      refine bodyPost_ret (results_blk rfl _ _ W0.heap.size _ _ rfl ((HB.out.2.1.later hb13).row _) Tryz.underlying24 rfl s_rib1) rfl ?_
      exact HREF.out W3 hb13 210 (.bat h1 h2)
  · have e1 : ribE L = 211 := if_neg h1
    rw [e1] at HCK
    go_enter Tryz.func12, Tryz.ntmps12
    go_wp2_with (with_reducible refine wpList_alloc_z rfl 24 rfl #[.slice none 0 0] 1 z_rib ?_)
    refine HCK.mono ?_
    rintro e W2 ⟨rfl, hb2⟩
    have ST0 := st_rib (a2 := none) (n2 := 0) (c2 := 0) (HB.out.2.1.later hb2)
    go_wp2_with fail
    refine bodyPost_ret (results_blk rfl _ _ W0.heap.size _ _ rfl ((HB.out.2.1.later hb2).row _) Tryz.underlying24 rfl s_rib1) rfl ?_
    exact HREF.out W2 hb2 211 (.rib h1)
end Go.Proofs.YtikdgbmdepplgaaGreatDoor
namespace Go.Proofs.YtikdgbmdepplgaaGreatDoor
open Go.RowKit Go.Shelf
set_option linter.unusedVariables false
set_option maxRecDepth 100000
theorem tapp1 {w : World} (r : Rt) {B : Nat} {v : Value} {L : List Rt} (h : OwnT w B v L) (hs : L.length ≤ 1000) (hB : B ≤ w.heap.size) :
    ∃ v' w', (∀ ty : TypeId, (tappSem ty #[v, .slice (some ⟨w.heap.size, 0, none⟩) 1 1]).run Tryz.prog (w.alloc (.cells r.cs 60)) = .ok v' w') ∧ OwnT w' B v' (L ++ [r]) ∧ Below B w w' := by
  have ho : OwnT (w.alloc (.cells r.cs 60)) B v L := h.later ((Below.refl _ _).alloc (Nat.le_refl _) _)
  have hM : RowsAt (w.alloc (.cells r.cs 60)) (some ⟨w.heap.size, 0, none⟩) [r] := by
    refine .inr ⟨w.heap.size, 0, rfl, row_cells _ _ _ 0 (by simp) fun k u hk => ?_⟩
    rw [Nat.zero_add, (Blk.new w 60 r.cs).cell, ← Array.getElem?_toList]
    rw [rtcs_one] at hk
    exact hk
  obtain ⟨v', w', q1, q2, q3, _⟩ := tapp_run (m := 1) (c := 1) 54 ho rfl hM (by omega) (by simp; omega)
  refine ⟨v', w', fun ty => q1, q2, ?_⟩
  refine (((Below.refl B w).alloc hB _).grown q3 (by simp; omega) fun k hk => ?_)
  rcases h.2 with ⟨rfl, _⟩ | ⟨g, cap, cur, rfl, h2, _⟩
  · cases hk
  · cases hk; exact h2
theorem kept_step {S : List Nat} {a b c : World} (h : Kept S a b) (k : Below a.heap.size b c) : Kept S a c :=
  ⟨k.os.trans h.os, k.tape.trans h.tape, k.output.trans h.output, Nat.le_trans h.size k.size, fun i hi hn => (k.block i hi).trans (h.block i hi hn)⟩
theorem OwnT.kept9 {w w' : World} {B : Nat} {S : List Nat} {v : Value} {L : List Rt} (h : OwnT w B v L) (k : Kept S w w') (hS : ∀ g ∈ S, g < B) : OwnT w' B v L := by
  refine ⟨h.1, ?_⟩
  rcases h.2 with h | ⟨g, cap, cur, h1, h2, h3, h4⟩
  · exact .inl h
  · exact .inr ⟨g, cap, cur, h1, h2, (k.block _ (Array.getElem?_eq_some_iff.1 h3).1 (fun hm => by have := hS g hm; omega)).trans h3, h4⟩
theorem OwnT.less9 {w : World} {B B' : Nat} {v : Value} {L : List Rt} (h : OwnT w B v L) (k : B' ≤ B) : OwnT w B' v L := by
  refine ⟨h.1, ?_⟩
  rcases h.2 with h | ⟨g, cap, cur, h1, h2, h3⟩
  · exact .inl h
  · exact .inr ⟨g, cap, cur, h1, Nat.le_trans k h2, h3⟩
theorem OwnT.nil9 (w : World) (B : Nat) : OwnT w B (.slice none 0 0) [] := World.ownsRow_nil _ _ _ _
theorem RoAt.kept {S : List Nat} {w w' : World} {a : Option Addr} {L : List Ro} (h : RoAt w a L) (k : Kept S w w') (hS : ∀ x, a = some x → x.block ∉ S) : RoAt w' a L := by
  rcases h with h | ⟨g, o, h1, h2⟩
  · exact .inl h
  · exact .inr ⟨g, o, h1, Nat.lt_of_lt_of_le h2.lt k.size, fun i hi j hj => (World.cell?_of_block (w := w) (k.block g h2.lt (hS _ h1))).trans (h2.row i hi j hj)⟩
theorem fstL_len (L : List Ro) : (fstL L).length ≤ L.length := fstN_le L _
/-- The row of a candidate. -/
def roRow (x : Ro) : Rt := ⟨x.p, x.h⟩
/-- The best of each prefix of a RIB, and the error. -/
inductive BestR (L : List Ro) : List Rt → Int → Prop
  | rib : ¬ okRib L → BestR L [] 211
  | good {S : List Ro} : okRib L → Sorted cmpB1 L S → BestR L ((fstL S).map roRow) 0
theorem take_row {F : List Ro} {k : Nat} (h : k < F.length) : (F.take k).map roRow ++ [roRow (rog F k)] = (F.take (k + 1)).map roRow := by
  rw [List.take_succ_eq_append_getElem h, List.map_append, rog_get h]; rfl
attribute [local go_sem ↓] load_b16_rule store_b16_rule load_ad_rule store_ad_rule load_px_rule store_px_rule eq_px_rule load_ro_rule store_ro_rule load_rib_rule load_tab_rule store_tab_rule build_tab_rule build_rt_rule tapp_rule tbuild_rule
set_option maxHeartbeats 4000000 in
theorem rbest_any (a : Option Addr) (n c : Nat) (L : List Ro) (w : World) (hW : Wid w) (hn : L.length = n) (hs : n ≤ 900) (hR : RoAt w a L) (h0 : a = none → c = 0) :
    Calls Tryz.prog 15 #[.agg #[.slice a n c]] w fun e w' => ∃ a' c' T er, e = .returned (.tuple #[.agg #[.slice a' T.length c'], .int .i64 er]) ∧ OwnT w' w.heap.size (.slice a' T.length c') T ∧ BestR L T er ∧ Below w.heap.size w w' := by
  obtain ⟨W0, hW0⟩ : ∃ W0, w.alloc (.cells #[.slice a n c] 24) = W0 := ⟨_, rfl⟩
  obtain ⟨W1, hW1⟩ : ∃ W1, W0.alloc (.cells #[.slice none 0 0] 56) = W1 := ⟨_, rfl⟩
  have sz0 : W0.heap.size = w.heap.size + 1 := by rw [← hW0]; simp
  have sz1 : W1.heap.size = w.heap.size + 2 := by rw [← hW1, World.size_alloc, sz0]
  have hb0 : Below w.heap.size w W0 := by rw [← hW0]; exact (Below.refl w.heap.size w).alloc (Nat.le_refl _) _
  have hb01 : Below W0.heap.size W0 W1 := by rw [← hW1]; exact (Below.refl _ _).alloc (Nat.le_refl _) _
  have hb1 : Below w.heap.size w W1 := bel_trans hb0 hb01
  have b3 : Blk W1 W0.heap.size 56 #[.slice none 0 0] := by rw [← hW1]; exact Blk.new _ _ _
  have b1 : Blk W1 w.heap.size 24 #[.slice a n c] := by
    have h9 := Blk.new w 24 #[.slice a n c]
    rw [hW0] at h9
    exact h9.later hb01
  have LR := rib_t b1
  have CR : ∀ w', Below W1.heap.size W1 w' → w'.cell? ⟨w.heap.size, 0, none⟩ = some (.slice a n c) := fun w' k => (b1.later k).cell 0
  have h01 : Below W1.heap.size W1 W1 := Below.refl _ _
  have HCK := rcheck_any a n c L W1 (hW.later hb1) hn (by omega) (hR.later hb1) h0
  have HB := Lib.hid (And.intro hb1 (And.intro b3 (And.intro sz0 (And.intro sz1 (And.intro hn h0)))))
  have HR := Lib.hid (fun (w' : World) (h : Below W1.heap.size W1 w') => (hR.later hb1).later h)
  have BZ := build_tab0
  have LR1 := LR W1 h01
  clear hR hW b1 hb0 hb01 hb1 b3 sz0 sz1 h0 hn
  by_cases h1 : okRib L
  · have e1 : ribE L = 0 := if_pos h1
    rw [e1] at HCK
    go_enter Tryz.func15, Tryz.ntmps15
    go_wp2_with (with_reducible refine wpList_alloc_z rfl 56 rfl #[.slice none 0 0] 1 z_tab ?_)
    refine HCK.mono ?_
    rintro e W3 ⟨rfl, hb13⟩
    have CR3 := CR W3 hb13
    have HCL := roclone_any a n c L W3 HB.out.2.2.2.2.1 (by omega) (HR.out W3 hb13) HB.out.2.2.2.2.2
    clear HCK LR1 LR CR
    go_wp2_with fail
    refine HCL.mono ?_
    rintro e W4 ⟨v4, rfl, hO4, hb4⟩
    have hb14 : Below W1.heap.size W1 W4 := bel_trans hb13 hb4
    have HRI := bestfirst_any W4
    have H4 := Lib.hid (And.intro (hO4.less hb13.size) hb14)
    clear HCL CR3 hO4 hb4 hb14 hb13
    go_wp2_with fail
    refine HRI.mono ?_
    rintro e W5 ⟨ob, sb, rfl, hris, ho1, ho2, hb5⟩
    have HSO := bst_sort H4.out.1 hb5 (H4.out.1.later hb5) (by have := HB.out.2.2.2.2.1; omega) (Nat.le_trans H4.out.2.size hb5.size) hris ho1 ho2
    unfold byF at *
    clear HRI hris
    go_wp2_with fail
    refine HSO.mono ?_
    rintro e W6 ⟨rfl, S, hS, hO6, hb6⟩
    have hSl : S.length = n := hS.1.length_eq.trans HB.out.2.2.2.2.1
    obtain ⟨az, cs, hv, hcs1, hcs2, hRs, _⟩ := hO6.lies
    subst hv
    have hn0 : az = none → cs = 0 := by
      intro has
      rcases hO6.2 with ⟨h9, _⟩ | ⟨g', cap, cur, h9, _⟩
      · injection h9
      · rw [has] at h9; injection h9 with h8; cases h8
    have hb16 : Below W1.heap.size W1 W6 := (bel_trans H4.out.2 hb5).trans hb6
    obtain ⟨W7, hW7⟩ : ∃ W7, W6.alloc (.cells #[.slice none 0 0] 56) = W7 := ⟨_, rfl⟩
    have hb67 : Below W6.heap.size W6 W7 := by rw [← hW7]; exact (Below.refl _ _).alloc (Nat.le_refl _) _
    have bt : Blk W7 W6.heap.size 56 #[.slice none 0 0] := by rw [← hW7]; exact Blk.new _ _ _
    have hsz7 : W7.heap.size = W6.heap.size + 1 := by rw [← hW7]; simp
    have HF := firsts_any az S.length cs S W7 rfl (by omega) (hRs.later hb67) hn0
    have HY := Lib.hid (And.intro hS (And.intro (bel_trans hb16 hb67) (And.intro bt (And.intro hsz7 hSl))))
    have hb16s := hb16.size
    clear HSO hS hO6 hb6 hRs hb16 hSl hb67 bt
    go_wp2_with (with_reducible refine wpList_alloc_z rfl 56 rfl #[.slice none 0 0] 1 z_tab ?_)
    refine HF.mono ?_
    rintro e W8 ⟨v8, rfl, hO8, hb8⟩
    obtain ⟨a8, c8, rfl, _, _, hR8, ha8⟩ := hO8.lies
    have hFl : (fstL S).length ≤ 900 := by have := fstL_len S; have := HY.out.2.2.2.2; omega
    have HZ := Lib.hid (And.intro hR8 (And.intro ha8 (And.intro (bel_trans HY.out.2.1 hb8) (HY.out.2.2.1.later hb8))))
    clear HF hO8 hb8 hR8 ha8
    obtain ⟨F, hF⟩ : ∃ F, fstL S = F := ⟨_, rfl⟩
    rw [hF] at hFl HZ ⊢
    have hsz8 := HZ.out.2.2.2.lt
    go_wp2_with fail
    go_loopw [24] (fun i wr => ∃ (k : Nat) (v : Value), k ≤ F.length ∧ i = .int .i64 (k : Int) ∧ Blk wr W6.heap.size 56 #[v] ∧ OwnT wr W8.heap.size v ((F.take k).map roRow) ∧ Kept [W6.heap.size] W8 wr) (fun i _ => F.length - (intOf i).toNat)
    case atStart => exact ⟨0, _, Nat.zero_le _, rfl, HZ.out.2.2.2, OwnT.nil9 _ _, Kept.refl _ _⟩
    case round =>
      obtain ⟨k, v, hk, rfl, hbt, hOT, hkk⟩ := hrel
      obtain ⟨wo, hwo⟩ : ∃ wo, wo = wr := ⟨_, rfl⟩
      subst hwo
      by_cases hlt : k < F.length
      · have hRo : RoAt wo a8 F := HZ.out.1.kept hkk (fun x hx => by have := HZ.out.2.1 x hx; have := HY.out.2.2.2.1; simp; omega)
        obtain ⟨g8, o8, rfl, hrow⟩ := hRo.spot hlt
        have LK := hrow.load hlt
        obtain ⟨W9, hst, hblk, hb9⟩ := ro_new (rog F k) wo
        have LP := ro_p hblk W9 (Below.refl _ _)
        have LH := ro_h hblk W9 (Below.refl _ _)
        have hbt9 := hbt.later hb9
        have CT9 := hbt9.cell 0
        have BR := build_rt (rog F k).p (rog F k).h W9
        have BU := tbuild1_run (roRow (rog F k)) W9
        have hs9 : W8.heap.size ≤ W9.heap.size := Nat.le_trans hkk.size hb9.size
        obtain ⟨v2, W10, happ, hO10, hb10⟩ := tapp1 (roRow (rog F k)) (hOT.later hb9) (by simp; omega) hs9
        have hbt10 : Blk W10 W6.heap.size 56 #[v] := (hb10.block _ hsz8).trans hbt9
        have CT10 : W10.cell? ⟨W6.heap.size, 0, none⟩ = some v := hbt10.cell 0
        have CF10 : W10.frozen? ⟨W6.heap.size, 0, none⟩ = false := hbt10.free 0
        obtain ⟨av, cv, hv2, _, _, _, _⟩ := hO10.lies
        obtain ⟨q, hq⟩ : ∃ q, (List.map roRow (List.take k F) ++ [roRow (rog F k)]).length = q := ⟨_, rfl⟩
        rw [hq] at hv2
        subst hv2
        have hk10 : Kept [W6.heap.size] W8 W10 := kept_step hkk ((hb9.mono hkk.size).trans hb10)
        have HX := Lib.hid (And.intro hO10 (And.intro hk10 (And.intro hbt10 hsz8)))
        rw [take_row hlt] at HX
        have CT9' : W9.cell? ⟨W6.heap.size, 0, none⟩ = some v := CT9
        unfold roRow at BU happ
        clear hbt hOT hkk hRo hrow hblk hb9 hbt9 hO10 hb10 hbt10 hk10 CT9 hs9 hq
        go_wp2_with (with_reducible refine wpList_alloc_z rfl 50 rfl Ro.zero.cs 21 z_ro ?_)
        go_roundw
        case rel =>
          have hkS : Kept [W6.heap.size] W10 (W10.setCell ⟨W6.heap.size, 0, none⟩ (.slice av q cv)) := (Kept.refl _ _).setCell (.inl (by simp)) _
          exact ⟨k + 1, .slice av q cv, by omega, by go_num, HX.out.2.2.1.set 0 (.slice av q cv), HX.out.1.kept9 hkS (fun g hg => by simp at hg; have := HX.out.2.2.2; omega), HX.out.2.1.trans hkS⟩
        case measure => simp [intOf]; omega
      · obtain hkn : k = F.length := by omega
        have i1 : ¬ ((k : Int) < (F.length : Int)) := by omega
        rw [show F.take k = F by rw [hkn]; exact List.take_length] at hOT
        obtain ⟨av, cv, rfl, _, _, _, _⟩ := hOT.lies
        have hnl : ((F.map roRow).length) = F.length := List.length_map ..
        rw [hnl] at hOT hbt
        have LT := tab_t hbt wo (Below.refl _ _)
        have hb1w : Below W1.heap.size W1 wo := (HZ.out.2.2.1).trans (hkk.below (fun q hq => by simp at hq; omega) HZ.out.2.2.1.size)
        have b3 := HB.out.2.1.later hb1w
        have ST4 := st_tab (a2 := av) (n2 := F.length) (c2 := cv) b3
        have HX := Lib.hid (And.intro hOT (And.intro hb1w b3))
        clear hOT hkk hbt hb1w b3 hkn
        go_wp2_with fail
        refine bodyPost_ret (results_blk rfl _ _ W0.heap.size _ _ rfl (HX.out.2.2.row _) Tryz.underlying56 rfl s_tab1) rfl ?_
        have h9 := HB.out.2.2.1
        have h8 := HZ.out.2.2.1.size
        have h7 := HB.out.2.2.2.1
        refine ⟨av, cv, F.map roRow, 0, by rw [hnl]; rfl, by rw [hnl]; exact (HX.out.1.kept9 ((Kept.refl [W0.heap.size] wo).setRow (.inl (by simp)) _) (fun g hg => by simp at hg; omega)).less9 (by omega), ?_, below_setRow (bel_trans HB.out.1 HX.out.2.1) (by omega) _⟩
        rw [← hF]; exact .good h1 HY.out.1
  · have e1 : ribE L = 211 := if_neg h1
    rw [e1] at HCK
    go_enter Tryz.func15, Tryz.ntmps15
    go_wp2_with (with_reducible refine wpList_alloc_z rfl 56 rfl #[.slice none 0 0] 1 z_tab ?_)
    refine HCK.mono ?_
    rintro e W2 ⟨rfl, hb2⟩
    have ST0 := st_tab (a2 := none) (n2 := 0) (c2 := 0) (HB.out.2.1.later hb2)
    go_wp2_with fail
    refine bodyPost_ret (results_blk rfl _ _ W0.heap.size _ _ rfl ((HB.out.2.1.later hb2).row _) Tryz.underlying56 rfl s_tab1) rfl ?_
    exact ⟨none, 0, [], 211, rfl, OwnT.nil9 _ _, .rib h1, below_setRow (bel_trans HB.out.1 hb2) (by have := HB.out.2.2.1; omega) _⟩
end Go.Proofs.YtikdgbmdepplgaaGreatDoor
namespace Go.Proofs.YtikdgbmdepplgaaGreatDoor
open Go.RowKit Go.Shelf
set_option linter.unusedVariables false
set_option maxRecDepth 100000
attribute [local go_sem ↓] load_b16_rule store_b16_rule load_ad_rule store_ad_rule load_px_rule store_px_rule eq_b16_rule eq_ad_rule eq_px_rule load_ro_rule store_ro_rule
end Go.Proofs.YtikdgbmdepplgaaGreatDoor
namespace Go.Proofs.YtikdgbmdepplgaaGreatDoor
open Go.RowKit Go.Shelf
set_option linter.unusedVariables false
set_option maxRecDepth 100000
/-- How many of the first ones are of a prefix that none ahead of them has. -/
noncomputable def disN (L : List Ro) : Nat → Nat
  | 0 => 0
  | m + 1 => open Classical in if ∃ i, i < m ∧ (rog L i).p = (rog L m).p then disN L m else disN L m + 1
theorem disN_old {L : List Ro} {m : Nat} (h : ∃ i, i < m ∧ (rog L i).p = (rog L m).p) : disN L (m + 1) = disN L m := by rw [disN, if_pos h]
theorem disN_new {L : List Ro} {m : Nat} (h : ¬ ∃ i, i < m ∧ (rog L i).p = (rog L m).p) : disN L (m + 1) = disN L m + 1 := by rw [disN, if_neg h]
theorem disN_le (L : List Ro) : ∀ m, disN L m ≤ m
  | 0 => Nat.le_refl _
  | m + 1 => by
    have := disN_le L m
    rw [disN]
    split <;> omega
/-- Strictly in order. -/
def Up2 (L : List Ro) : Prop := ∀ j, j + 1 < L.length → cmpR (rog L j) (rog L (j + 1)) < 0
theorem Up2.lt {L : List Ro} (h : Up2 L) {i : Nat} : ∀ {j}, i < j → j < L.length → cmpR (rog L i) (rog L j) < 0
  | 0, h1, _ => absurd h1 (Nat.not_lt_zero _)
  | j + 1, h1, h2 => by
    by_cases e : i = j
    · rw [e]; exact h j h2
    · exact cm_r.lt _ _ _ (h.lt (j := j) (by omega) (by omega)) (h j h2)
theorem cmpR_le {x y : Ro} (h : cmpR x y < 0) : cmpP x.p y.p ≤ 0 := by
  rw [cmpR_eq] at h
  by_cases e : cmpP x.p y.p = 0
  · omega
  · rw [if_neg e] at h; omega
theorem Up2.one {L : List Ro} (h : Up2 L) {i j : Nat} (hij : i < j) (hj : j < L.length) (e : (rog L i).p = (rog L j).p) : (rog L j).p = (rog L (j - 1)).p := by
  by_cases k : i = j - 1
  · rw [← k]; exact e.symm
  · have h1 := cmpR_le (h.lt (i := i) (j := j - 1) (by omega) (by omega))
    have h2 := cmpR_le (h (j - 1) (by omega))
    rw [show j - 1 + 1 = j by omega] at h2
    rw [e] at h1
    have h3 := cmpP_neg (rog L j).p (rog L (j - 1)).p
    exact (cmpP_zero _ _).1 (by omega)
theorem Up2.count {L : List Ro} (h : Up2 L) : ∀ m, m ≤ L.length → disN L m = (fstN L m).length
  | 0, _ => rfl
  | m + 1, hm => by
    have ih := h.count m (by omega)
    by_cases k : m = 0 ∨ (rog L m).p ≠ (rog L (m - 1)).p
    · rw [fstN_new k, List.length_append, ← ih, disN_new]
      · rfl
      · rintro ⟨i, h1, h2⟩
        rcases k with k | k
        · omega
        · exact k (h.one h1 (by omega) h2)
    · have k1 : m ≠ 0 := fun e => k (.inl e)
      have k2 : (rog L m).p = (rog L (m - 1)).p := Classical.not_not.1 fun e => k (.inr e)
      rw [fstN_old k1 k2, ← ih, disN_old ⟨m - 1, by omega, k2.symm⟩]
theorem Up2.many {L : List Ro} (h : Up2 L) (ho : ∀ j, j < L.length → okRo (rog L j)) : ∀ m, m + 1 ≤ L.length → ((m + 1 : Nat) : Int) ≤ 4 * ((fstN L (m + 1)).length - 1 : Int) + (rog L m).s
  | 0, hm => by
    rw [fstN_new (.inl rfl)]
    have := (ho 0 (by omega)).2.1.1
    show (1 : Int) ≤ 4 * ((([] ++ [rog L 0] : List Ro).length : Int) - 1) + _
    simp
    omega
  | m + 1, hm => by
    have ih := h.many ho m (by omega)
    have h1 := (ho m (by omega)).2.1
    have h2 := (ho (m + 1) (by omega)).2.1
    by_cases k : (rog L (m + 1)).p = (rog L m).p
    · rw [fstN_old (m := m + 1) (by omega) k]
      have h3 := h m (by omega)
      rw [cmpR_eq, k, if_pos ((cmpP_zero _ _).2 rfl)] at h3
      have h4 : (rog L m).s < (rog L (m + 1)).s := by
        rcases cmpI_cases (rog L m).s (rog L (m + 1)).s with g | g | g <;> omega
      omega
    · rw [fstN_new (m := m + 1) (.inr k), List.length_append]
      simp
      omega
theorem okRib_len {L : List Ro} (h : okRib L) : L.length ≤ 160 := by
  by_cases e : L.length = 0
  · omega
  · have h1 := Up2.many h.2.1 h.1 (L.length - 1) (by omega)
    rw [show L.length - 1 + 1 = L.length by omega] at h1
    have h2 := (h.1 (L.length - 1) (by omega)).2.1.2
    have h3 := h.2.2
    unfold fstL at h3
    omega
theorem okRib_iff (L : List Ro) : okRib L ↔ L.length ≤ 160 ∧ (∀ j, j < L.length → okRo (rog L j)) ∧ Up2 L ∧ disN L L.length ≤ 40 := by
  constructor
  · intro h
    exact ⟨okRib_len h, h.1, h.2.1, by rw [Up2.count h.2.1 _ (Nat.le_refl _)]; exact h.2.2⟩
  · rintro ⟨_, h1, h2, h3⟩
    exact ⟨h1, h2, by rw [Up2.count h2 _ (Nat.le_refl _)] at h3; exact h3⟩
attribute [local go_sem ↓] load_b16_rule store_b16_rule load_ad_rule store_ad_rule load_px_rule store_px_rule eq_b16_rule eq_ad_rule eq_px_rule load_ro_rule store_ro_rule
end Go.Proofs.YtikdgbmdepplgaaGreatDoor
