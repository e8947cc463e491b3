/-
  A lease that is data. Nothing here is a statement of the document.
-/
import Derived.Test.YtgmagnmbbhekjaaLsI
import Derived.Test.YtgmagnmbbhekjaaLinG
import Derived.Deep.DeepCutAuto
import Derived.Deep.CutBlock
import Derived.Test.YtgmagnmbbhekjaaLin
import Derived.WalkKit
import Derived.ProofKit
import Derived.OpenShut
import Derived.DataShut
import Derived.Deep.SlicePairs
namespace Go.Proofs.Ytgmagnmbbhekjaa
open Go.RowKit
set_option linter.unusedVariables false
attribute [local go_sem 10000] gtU_rule leU_rule ltU_rule geU_rule adU_rule sbU_rule mxU_rule mxI_rule remI_rule rmI_run fvI_rule
attribute [local go_sem ↓] load_ls_rule store_ls_rule load_act_rule store_act_rule load_mom_rule store_mom_rule

set_option maxRecDepth 100000 in
set_option maxHeartbeats 8000000 in
theorem leaseone_walk (f : Nat) (hf : f < 18446744073709551616) (s : Nat) (hs : s < 18446744073709551616) (a : Option Addr) (len cap : Nat) (K N : Nat → Int) (w : World) (hR : IsActs w a len K N) :
    Calls Try.prog 5 #[.int .u64 f, .int .u64 s, .slice a len cap] w fun e w' => e = .returned (.bool true) ∧ Below w.heap.size w w' := by
  obtain ⟨F, hF⟩ : ∃ F, f % 1000000 = F := ⟨_, rfl⟩
  obtain ⟨S, hS⟩ : ∃ S, s % 1000000 = S := ⟨_, rfl⟩
  have hFl : F < 1000000 := by rw [← hF]; exact Nat.mod_lt _ (by omega)
  have hSl : S < 1000000 := by rw [← hS]; exact Nat.mod_lt _ (by omega)
  have r1 : (f : Int) % 1000000 = (F : Int) := by rw [← hF]; simp
  have r2 : (s : Int) % 1000000 = (S : Int) := by rw [← hS]; simp
  have HR := Lib.hid hR
  have HO := Lib.hid (Oi.start F S hFl hSl)
  clear hR hf hs hF hS hFl hSl
  go_enter Try.func5, Try.ntmps5
  go_wp2_with fail
  refine (lwakes_any _).mono ?_
  rintro e u0 ⟨rfl, hu0⟩
  obtain ⟨V1, hV1⟩ : ∃ V, u0.alloc (.cells #[.int .u64 0, .int .u64 0, .int .u64 0] 24) = V := ⟨_, rfl⟩
  have s1 : V1.heap.size = u0.heap.size + 1 := by rw [← hV1]; simp
  obtain ⟨V2, hV2⟩ : ∃ V, V1.alloc (.cells #[.int .u64 0, .int .u64 0, .int .u64 0] 24) = V := ⟨_, rfl⟩
  have s2 : V2.heap.size = u0.heap.size + 2 := by rw [← hV2]; simp [s1]
  have ba : Blk V2 u0.heap.size 24 Ls.zero.cs := by rw [← hV2, ← hV1]; exact (Blk.new u0 _ _).alloc _
  have bb : Blk V2 V1.heap.size 24 Ls.zero.cs := by rw [← hV2]; exact Blk.new V1 _ _
  have hb2 : Below w.heap.size w V2 := by rw [← hV2, ← hV1]; exact bel_al (bel_al hu0 _) _
  have st1 : (storeSem 24 (.pointer (some ⟨u0.heap.size, 0, none⟩)) (.agg #[.int .u64 F, .int .u64 0, .int .u64 0])).run Try.prog V2 = .ok () (V2.setRow u0.heap.size (Ls.mk F 0 0).cs) := st_ls (m := ⟨F, 0, 0⟩) ba
  have k3 : Kept [u0.heap.size] V2 (V2.setRow u0.heap.size (Ls.mk F 0 0).cs) := (Kept.refl [u0.heap.size] V2).setRow (.inl (by simp)) _
  obtain ⟨V3, hV3⟩ : ∃ V, V2.setRow u0.heap.size (Ls.mk F 0 0).cs = V := ⟨_, rfl⟩
  have ba3 := ba.row (Ls.mk F 0 0).cs
  have bb3 := bb.kept k3 (by simp; omega)
  rw [hV3] at st1 k3 ba3 bb3
  have st2 : (storeSem 24 (.pointer (some ⟨V1.heap.size, 0, none⟩)) (.agg #[.int .u64 S, .int .u64 0, .int .u64 0])).run Try.prog V3 = .ok () (V3.setRow V1.heap.size (Ls.mk S 0 0).cs) := st_ls (m := ⟨S, 0, 0⟩) bb3
  have k4 : Kept [V1.heap.size] V3 (V3.setRow V1.heap.size (Ls.mk S 0 0).cs) := (Kept.refl [V1.heap.size] V3).setRow (.inl (by simp)) _
  obtain ⟨V4, hV4⟩ : ∃ V, V3.setRow V1.heap.size (Ls.mk S 0 0).cs = V := ⟨_, rfl⟩
  have bb4 := bb3.row (Ls.mk S 0 0).cs
  have ba4 := ba3.kept k4 (by simp; omega)
  rw [hV4] at st2 k4 ba4 bb4
  have hlow : w.heap.size ≤ u0.heap.size := hu0.size
  have hb3 := hb2.trans (k3.below (by simpa using hlow) hb2.size)
  have hb4 := hb3.trans (k4.below (by simp; omega) hb3.size)
  have hs4 : V2.heap.size ≤ V4.heap.size := Nat.le_trans k3.size k4.size
  have HM := Lib.hid (show Lm V4 V2.heap.size u0.heap.size V1.heap.size ⟨F, 0, 0⟩ ⟨S, 0, 0⟩ (.slice none 0 0) (.slice none 0 0) (.slice none 0 0) [] [] [] from
    ⟨ba4, bb4, World.ownsRow_nil _ _ _ _, World.ownsRow_nil _ _ _ _, World.ownsRow_nil _ _ _ _, Sep.none _, Sep.none _, Sep.none _, by omega, by omega, by omega, hs4⟩)
  have HB4 := Lib.hid hb4
  have HS := Lib.hid (show w.heap.size ≤ u0.heap.size ∧ V1.heap.size = u0.heap.size + 1 ∧ V2.heap.size = u0.heap.size + 2 from ⟨hlow, s1, s2⟩)
  clear ba bb hb2 k3 ba3 bb3 k4 ba4 bb4 hb3 hb4 hs4 hlow s1 s2 hu0
  go_wp2_with fail
  go_loopw [9, 10, 11, 29] (fun va vt vg i wr => ∃ k : Nat, k ≤ len ∧ k ≤ 300 ∧ i = .int .i64 k ∧ ∃ la lb A T G, Lm wr V2.heap.size u0.heap.size V1.heap.size la lb va vt vg A T G ∧ Oi la lb A T G k 12 ∧ Below w.heap.size w wr) (fun _ _ _ i _ => len - (intOf i).toNat)
  case atStart => exact ⟨0, by omega, by omega, rfl, _, _, [], [], [], HM.out, HO.out, HB4.out⟩
  case round =>
    obtain ⟨k, hk, hk3, rfl, la, lb, A, T, G, hM, hO, hB⟩ := hrel
    clear r1 r2
    by_cases hlt : k < len
    · obtain ⟨b, o, rfl, hA⟩ := HR.out.at (by omega)
      have hA2 := hA.later hA.1 hB
      have hltz : (k : Int) < (len : Int) := by omega
      have LR := hA2.load hlt
      have hkk : k ≤ 301 := by omega
      clear hA hA2
      have sx := act_new (K k) (N k) wr
      generalize K k = kd at *
      generalize N k = nn at *
      obtain ⟨X, hX⟩ : ∃ X, wr.alloc (.cells #[.int .i64 kd, .int .i64 nn] 37) = X := ⟨_, rfl⟩
      rw [hX] at sx
      have hbX : Below wr.heap.size wr X := by rw [← hX]; exact below_alloc _ _
      have bX : Blk X wr.heap.size 37 #[.int .i64 kd, .int .i64 nn] := by rw [← hX]; exact Blk.new wr _ _
      have x0 : X.cell? ⟨wr.heap.size, 0, none⟩ = some (.int .i64 kd) := bX.cell 0
      have x1 : X.cell? ⟨wr.heap.size, 1, none⟩ = some (.int .i64 nn) := bX.cell 1
      have HX := Lib.hid (And.intro (hM.later hbX) (And.intro hO (bel_tr hB hbX)))
      clear hM hO hB hbX bX
      by_cases h300 : k = 300
      · subst h300
        go_wp2
        go_ret
        exact ⟨rfl, HX.out.2.2⟩
      · have d3 : ((k : Int) == 300) = false := by simp; omega
        have d3n : (k == 300) = false := by simp; omega
        have d3m : ¬ k = 300 := h300
        obtain ⟨n, hn⟩ : ∃ n : Nat, nn.toNat = n := ⟨_, rfl⟩
        have mx : mxI nn 0 = (n : Int) := by rw [← hn]; exact mxI_nat nn
        obtain ⟨q, c, κ, q1, q2, q3, hκ⟩ := kind5 kd
        clear hn
        go_upto_block 2 with (fail)
        go_cut [9, 10, 11, 15] from 44 (fun va vt vg e wc => e = .int .i64 0 ∧ ∃ la lb A T G, Lm wc V2.heap.size u0.heap.size V1.heap.size la lb va vt vg A T G ∧ Oi la lb A T G (k + 1) 13 ∧ Below w.heap.size w wc)
        case first =>
          obtain ⟨hM, hO, hB⟩ := HX.out
          have okA := hO.okA hkk
          have okB := hO.okB hkk
          clear sx x0 x1 LR
          have hκ5 : κ = 0 ∨ κ = 1 ∨ κ = 2 ∨ κ = 3 ∨ κ = 4 := by omega
          clear hκ
          rcases hκ5 with hκ | hκ | hκ | hκ | hκ
          · have e0 : ((κ : Int) == 0) = true := by rw [hκ]; decide
            have f0 : (κ == 0) = true := by rw [hκ]; decide
            have g0 : decide (κ = 0) = true := by rw [hκ]; decide
            have e1 : ((κ : Int) == 1) = false := by rw [hκ]; decide
            have f1 : (κ == 1) = false := by rw [hκ]; decide
            have g1 : decide (κ = 1) = false := by rw [hκ]; decide
            have e2 : ((κ : Int) == 2) = false := by rw [hκ]; decide
            have f2 : (κ == 2) = false := by rw [hκ]; decide
            have g2 : decide (κ = 2) = false := by rw [hκ]; decide
            have e3 : ((κ : Int) == 3) = false := by rw [hκ]; decide
            have f3 : (κ == 3) = false := by rw [hκ]; decide
            have g3 : decide (κ = 3) = false := by rw [hκ]; decide
            have e4 : ((κ : Int) == 4) = false := by rw [hκ]; decide
            have f4 : (κ == 4) = false := by rw [hκ]; decide
            have g4 : decide (κ = 4) = false := by rw [hκ]; decide
            clear hκ
            have lx := ld_ls hM.a
            have tc := ltick_any la
            rw [show tickR la = (tickL la, 0) by unfold tickR; rw [if_pos okA.2]] at tc
            clear hM hO hB okA okB
            go_wp2_with fail
            refine (tc _).mono ?_
            rintro e Y ⟨rfl, hbY⟩
            obtain ⟨hM, hO, hB⟩ := HX.out
            have hM := hM.later hbY
            have hB := bel_tr hB hbY
            have st := st_ls (m := tickL la) hM.a
            have hb2 := below_setRow hB (g := u0.heap.size) HS.out.1 (tickL la).cs
            have HE := Lib.hid (And.intro (hM.setA (tickL la)) (And.intro hO.tickA hb2))
            generalize Y.setRow u0.heap.size (tickL la).cs = Z at *
            clear hM hO hB hb2
            go_wp2_with fail
            go_meet
            exact ⟨rfl, _, _, _, _, _, HE.out⟩
          · have e0 : ((κ : Int) == 0) = false := by rw [hκ]; decide
            have f0 : (κ == 0) = false := by rw [hκ]; decide
            have g0 : decide (κ = 0) = false := by rw [hκ]; decide
            have e1 : ((κ : Int) == 1) = true := by rw [hκ]; decide
            have f1 : (κ == 1) = true := by rw [hκ]; decide
            have g1 : decide (κ = 1) = true := by rw [hκ]; decide
            have e2 : ((κ : Int) == 2) = false := by rw [hκ]; decide
            have f2 : (κ == 2) = false := by rw [hκ]; decide
            have g2 : decide (κ = 2) = false := by rw [hκ]; decide
            have e3 : ((κ : Int) == 3) = false := by rw [hκ]; decide
            have f3 : (κ == 3) = false := by rw [hκ]; decide
            have g3 : decide (κ = 3) = false := by rw [hκ]; decide
            have e4 : ((κ : Int) == 4) = false := by rw [hκ]; decide
            have f4 : (κ == 4) = false := by rw [hκ]; decide
            have g4 : decide (κ = 4) = false := by rw [hκ]; decide
            clear hκ
            have lx := ld_ls hM.b
            have tc := ltick_any lb
            rw [show tickR lb = (tickL lb, 0) by unfold tickR; rw [if_pos okB.2]] at tc
            clear hM hO hB okA okB
            go_wp2_with fail
            refine (tc _).mono ?_
            rintro e Y ⟨rfl, hbY⟩
            obtain ⟨hM, hO, hB⟩ := HX.out
            have hM := hM.later hbY
            have hB := bel_tr hB hbY
            have st := st_ls (m := tickL lb) hM.b
            have hb2 := below_setRow hB (g := V1.heap.size) (by have := HS.out; omega) (tickL lb).cs
            have HE := Lib.hid (And.intro (hM.setB (tickL lb)) (And.intro hO.tickB hb2))
            generalize Y.setRow V1.heap.size (tickL lb).cs = Z at *
            clear hM hO hB hb2
            go_wp2_with fail
            go_meet
            exact ⟨rfl, _, _, _, _, _, HE.out⟩
          · have e0 : ((κ : Int) == 0) = false := by rw [hκ]; decide
            have f0 : (κ == 0) = false := by rw [hκ]; decide
            have g0 : decide (κ = 0) = false := by rw [hκ]; decide
            have e1 : ((κ : Int) == 1) = false := by rw [hκ]; decide
            have f1 : (κ == 1) = false := by rw [hκ]; decide
            have g1 : decide (κ = 1) = false := by rw [hκ]; decide
            have e2 : ((κ : Int) == 2) = true := by rw [hκ]; decide
            have f2 : (κ == 2) = true := by rw [hκ]; decide
            have g2 : decide (κ = 2) = true := by rw [hκ]; decide
            have e3 : ((κ : Int) == 3) = false := by rw [hκ]; decide
            have f3 : (κ == 3) = false := by rw [hκ]; decide
            have g3 : decide (κ = 3) = false := by rw [hκ]; decide
            have e4 : ((κ : Int) == 4) = false := by rw [hκ]; decide
            have f4 : (κ == 4) = false := by rw [hκ]; decide
            have g4 : decide (κ = 4) = false := by rw [hκ]; decide
            clear hκ
            obtain ⟨c0, _, _⟩ := ls_cell hM.a
            have hbs : Below X.heap.size X (X.alloc (.cells #[.int .u64 la.n] 22)) := below_alloc _ _
            have hM2 := hM.later hbs
            have hB2 := bel_tr hB hbs
            have hAk := hO.Ak
            have hrA := hM2.rA
            have hlB := hM2.lB
            clear hM hB okA okB hO
            go_wp2_with (at_builtin; refine wpList_append_u64 rfl _ _ rfl V2.heap.size _ _ A rfl hrA ⟨X.heap.size, 0, none⟩ la.n rfl (by simp [u64v]) (by omega) hlB ?_)
            intro va' w' ho hg hn
            have HE := Lib.hid (And.intro (hM2.appA (A' := A ++ [la.n]) (by simpa using ho) hg (by simpa using hn)) (And.intro HX.out.2.1.ask (hB2.grown hg hB2.size (fun j hj => by have := (hrA.lt j hj).1; have := HS.out; omega))))
            clear ho hg hn hM2 hB2 hrA
            go_wp2_with fail
            go_meet
            exact ⟨rfl, _, _, _, _, _, HE.out⟩
          · have e0 : ((κ : Int) == 0) = false := by rw [hκ]; decide
            have f0 : (κ == 0) = false := by rw [hκ]; decide
            have g0 : decide (κ = 0) = false := by rw [hκ]; decide
            have e1 : ((κ : Int) == 1) = false := by rw [hκ]; decide
            have f1 : (κ == 1) = false := by rw [hκ]; decide
            have g1 : decide (κ = 1) = false := by rw [hκ]; decide
            have e2 : ((κ : Int) == 2) = false := by rw [hκ]; decide
            have f2 : (κ == 2) = false := by rw [hκ]; decide
            have g2 : decide (κ = 2) = false := by rw [hκ]; decide
            have e3 : ((κ : Int) == 3) = true := by rw [hκ]; decide
            have f3 : (κ == 3) = true := by rw [hκ]; decide
            have g3 : decide (κ = 3) = true := by rw [hκ]; decide
            have e4 : ((κ : Int) == 4) = false := by rw [hκ]; decide
            have f4 : (κ == 4) = false := by rw [hκ]; decide
            have g4 : decide (κ = 4) = false := by rw [hκ]; decide
            clear hκ
            have hAk := hO.Ak
            have hTk := hO.Tk
            have hGk : G.length ≤ k := by have h1 := hO.Tl; have h2 := hO.Tk; omega
            obtain ⟨av, cv, ev⟩ := own_slicel hM.rA
            by_cases hz : A.length = 0
            · subst ev
              have l0 : decide ((0 : Int) < (A.length : Int)) = false := by rw [hz]; decide
              have l1 : decide (0 < A.length) = false := by rw [hz]; decide
              have HE := Lib.hid (And.intro hM (And.intro hO.stay hB))
              clear hM hO hB okA okB hz
              go_wp2_with fail
              go_meet
              exact ⟨rfl, _, _, _, _, _, HE.out⟩
            · have l0 : decide ((0 : Int) < (A.length : Int)) = true := by simp; omega
              have l1 : decide (0 < A.length) = true := by simp; omega
              clear ev av cv
              obtain ⟨ga, ca, ev, hcA⟩ := own_slice64 hM.rA (by omega)
              subst ev
              have lx := ld_ls hM.b
              have tc := lgrant_any lb
              rw [show grantR lb = (grantL lb, 0) by unfold grantR; rw [if_pos okB.2]] at tc
              have hgr := hO.grant (j := n % A.length) (Nat.mod_lt _ (by omega))
              have rm := rmI_nat n A.length
              have rne : ((A.length : Nat) : Int) ≠ 0 := by omega
              have rne2 : ¬ A.length = 0 := hz
              have hml : n % A.length < A.length := Nat.mod_lt _ (by omega)
              obtain ⟨m, hm⟩ : ∃ m, n % A.length = m := ⟨_, rfl⟩
              rw [hm] at hgr rm hml
              obtain ⟨y, hy⟩ : ∃ y, A.getD m 0 = y := ⟨_, rfl⟩
              rw [hy] at hgr
              have HG := Lib.hid hgr
              clear hM hO hB okA okB hz hcA hgr
              go_wp2_with fail
              refine (tc _).mono ?_
              rintro e Y ⟨rfl, hbY⟩
              obtain ⟨hM, hO, hB⟩ := HX.out
              have hM := hM.later hbY
              have hB := bel_tr hB hbY
              have st := st_ls (m := grantL lb) hM.b
              have hB := below_setRow hB (g := V1.heap.size) (by have := HS.out; omega) (grantL lb).cs
              have hM := hM.setB (grantL lb)
              generalize Y.setRow V1.heap.size (grantL lb).cs = Z at *
              obtain ⟨c0, _, _⟩ := ls_cell hM.a
              have d0 : Z.cell? ⟨V1.heap.size, 0, none⟩ = some (.int .u64 lb.n) := (ls_cell hM.b).1
              have HZ := Lib.hid (And.intro hM (And.intro hO hB))
              have hbs : Below Z.heap.size Z (Z.alloc (.cells #[.int .u64 la.n, .int .u64 lb.n] 39)) := below_alloc _ _
              have hM2 := hM.later hbs
              have hB2 := bel_tr hB hbs
              have hrG := hM2.rG
              have hlB := hM2.lB
              have bz : Blk (Z.alloc (.cells #[.int .u64 la.n, .int .u64 lb.n] 39)) Z.heap.size 39 (mcl (la.n, lb.n)).toArray := Blk.new Z _ _
              clear hM hB hO
              go_wp2_with (at_builtin; refine wpList_append_mom rfl _ _ rfl V2.heap.size _ _ G rfl hrG Z.heap.size (la.n, lb.n) rfl bz (by omega) hlB ?_)
              intro vg' w' ho hg hn
              have hM3 := hM2.appG (G' := G ++ [(la.n, lb.n)]) (by simpa using ho) hg (by simpa using hn)
              have hB3 := hB2.grown hg hB2.size (fun j hj => by have := (hrG.lt j hj).1; have := HS.out; omega)
              clear ho hg hn hM2 hB2 hrG bz hlB
              obtain ⟨ga2, ca2, ev2, hcA⟩ := own_slice64 hM3.rA (by omega)
              obtain ⟨rfl, rfl⟩ : ga2 = ga ∧ ca2 = ca := by injection ev2 with e1 e2 e3; injection e1 with e1; injection e1 with e1; exact ⟨e1.symm, e3.symm⟩
              have hcm := hcA m hml
              rw [hy] at hcm
              have hbs : Below w'.heap.size w' (w'.alloc (.cells #[.int .u64 y] 22)) := below_alloc _ _
              have hM4 := hM3.later hbs
              have hB4 := bel_tr hB3 hbs
              have hrT := hM4.rT
              have hlB := hM4.lB
              have HH := Lib.hid (And.intro hM3 hB3)
              clear hcA ev2 hM3 hB3
              go_wp2_with (at_builtin; refine wpList_append_u64 rfl _ _ rfl V2.heap.size _ _ T rfl hrT ⟨w'.heap.size, 0, none⟩ y rfl (by simp [u64v]) (by omega) hlB ?_)
              intro vt' w2 ho hg hn
              have HE := Lib.hid (And.intro (hM4.appT (T' := T ++ [y]) (by simpa using ho) hg (by simpa using hn)) (And.intro HG.out (hB4.grown hg hB4.size (fun j hj => by have := (hrT.lt j hj).1; have := HS.out; omega))))
              clear ho hg hn hM4 hB4 hrT
              go_wp2_with fail
              go_meet
              exact ⟨rfl, _, _, _, _, _, HE.out⟩
          · have e0 : ((κ : Int) == 0) = false := by rw [hκ]; decide
            have f0 : (κ == 0) = false := by rw [hκ]; decide
            have g0 : decide (κ = 0) = false := by rw [hκ]; decide
            have e1 : ((κ : Int) == 1) = false := by rw [hκ]; decide
            have f1 : (κ == 1) = false := by rw [hκ]; decide
            have g1 : decide (κ = 1) = false := by rw [hκ]; decide
            have e2 : ((κ : Int) == 2) = false := by rw [hκ]; decide
            have f2 : (κ == 2) = false := by rw [hκ]; decide
            have g2 : decide (κ = 2) = false := by rw [hκ]; decide
            have e3 : ((κ : Int) == 3) = false := by rw [hκ]; decide
            have f3 : (κ == 3) = false := by rw [hκ]; decide
            have g3 : decide (κ = 3) = false := by rw [hκ]; decide
            have e4 : ((κ : Int) == 4) = true := by rw [hκ]; decide
            have f4 : (κ == 4) = true := by rw [hκ]; decide
            have g4 : decide (κ = 4) = true := by rw [hκ]; decide
            clear hκ
            have hTk := hO.Tk
            obtain ⟨av, cv, ev⟩ := own_slicel hM.rT
            by_cases hz : T.length = 0
            · subst ev
              have l0 : decide ((0 : Int) < (T.length : Int)) = false := by rw [hz]; decide
              have l1 : decide (0 < T.length) = false := by rw [hz]; decide
              have HE := Lib.hid (And.intro hM (And.intro hO.stay hB))
              clear hM hO hB okA okB hz
              go_wp2_with fail
              go_meet
              exact ⟨rfl, _, _, _, _, _, HE.out⟩
            · have l0 : decide ((0 : Int) < (T.length : Int)) = true := by simp; omega
              have l1 : decide (0 < T.length) = true := by simp; omega
              clear ev av cv
              obtain ⟨ga, ca, ev, _⟩ := own_slice64 hM.rT (by omega)
              subst ev
              have hml : n % T.length < T.length := Nat.mod_lt _ (by omega)
              have hgr := hO.told hml
              have rm := rmI_nat n T.length
              have rne : ((T.length : Nat) : Int) ≠ 0 := by omega
              have rne2 : ¬ T.length = 0 := hz
              have hst : T.getD (n % T.length) 0 ≤ la.n := by
                have hTl := hO.Tl
                have h1 := hO.To _ (show n % T.length < G.length by omega)
                have h2 := (hO.Gl _ (show n % T.length < G.length by omega)).1
                omega
              obtain ⟨m, hm⟩ : ∃ m, n % T.length = m := ⟨_, rfl⟩
              rw [hm] at hgr rm hml hst
              have HT := Lib.hid (show ∀ W, Below X.heap.size X W → W.cell? ⟨ga, m, none⟩ = some (.int .u64 ((T.getD m 0 : Nat) : Int)) from fun W h => by
                obtain ⟨g2, c2, e2, h2⟩ := own_slice64 (hM.later h).rT (by omega)
                obtain ⟨rfl, rfl⟩ : g2 = ga ∧ c2 = ca := by injection e2 with e1 e2 e3; injection e1 with e1; injection e1 with e1; exact ⟨e1.symm, e3.symm⟩
                exact h2 m hml)
              obtain ⟨y, hy⟩ : ∃ y, T.getD m 0 = y := ⟨_, rfl⟩
              rw [hy] at hgr HT hst
              have tc := lgranted_any la y
              rw [show grantedR la y = (grantedL la y, 0) by unfold grantedR; rw [if_pos okA.2, if_pos (by simpa using hst)]] at tc
              have HG := Lib.hid hgr
              have hMM := Lib.hid (And.intro hM hB)
              clear hM hO hB okA okB hz hgr hst
              go_wp2_with fail
              refine wp_region_linG (fun w' => Below X.heap.size X w') 12 [8, 12] [11, 13] [0, 1, 2, 3, 4, 5, 6, 7, 8, 9, 10, 11, 12, 13] (by kernel_rfl) (by kernel_rfl) ((Below.refl _ _).drew) ?_
              (repeat (refine linG_op (v := ?_) rfl rfl rfl (by rfl) (fun w9 hS9 => ?_) ?_; rotate_left; (focus ((have k9 := ld_ls (hMM.out.1.later hS9).a; have k8 := HT.out w9 hS9; (try dsimp only at hS9); go_simp) <;> with_reducible rfl)); (try simp only [Act.put, List.getElem_toArray, List.getElem_cons_zero, List.getElem_cons_succ, List.setIfInBounds_toArray, List.set_cons_zero, List.set_cons_succ])))
              refine linG_call (f := 16) (args := #[.agg la.cs, .int .u64 y]) rfl rfl (by rfl) rfl rfl (enters_of Try.func16 (by kernel_rfl) rfl) ?_ ?_; (focus (simp [Act.eval]; done))
              refine (tc _).mono ?_
              rintro e Y ⟨rfl, hbY⟩
              replace hbY : Below X.heap.size X Y := ⟨hbY.os, hbY.tape, hbY.output, hbY.size, hbY.block⟩
              refine ⟨_, rfl, hbY, ?_⟩
              (try simp only [Act.put, List.getElem_toArray, List.getElem_cons_zero, List.getElem_cons_succ, List.setIfInBounds_toArray, List.set_cons_zero, List.set_cons_succ])
              (repeat (refine linG_op (v := ?_) rfl rfl rfl (by rfl) (fun w9 hS9 => ?_) ?_; rotate_left; (focus ((have k9 := ld_ls (hMM.out.1.later hS9).a; have k8 := HT.out w9 hS9; (try dsimp only at hS9); go_simp) <;> with_reducible rfl)); (try simp only [Act.put, List.getElem_toArray, List.getElem_cons_zero, List.getElem_cons_succ, List.setIfInBounds_toArray, List.set_cons_zero, List.set_cons_succ])))
              refine linG_free (v := ?_) rfl rfl (by rfl) (fun w9 => ?_) ?_; rotate_left; (focus (go_simp <;> with_reducible rfl)); (try simp only [Act.put, List.getElem_toArray, List.getElem_cons_zero, List.getElem_cons_succ, List.setIfInBounds_toArray, List.set_cons_zero, List.set_cons_succ])
              have hM := hMM.out.1.later hbY
              have hB := bel_tr hMM.out.2 hbY
              have st := st_ls (m := grantedL la y) hM.a
              have hb2 := below_setRow hB (g := u0.heap.size) HS.out.1 (grantedL la y).cs
              have HE := Lib.hid (And.intro (hM.setA (grantedL la y)) (And.intro HG.out hb2))
              generalize Y.setRow u0.heap.size (grantedL la y).cs = Z at *
              clear hM hB hb2
              refine linG_fin (w' := Z) rfl rfl (by rfl) (by go_simp) ?_
              (try simp only [Act.put, List.getElem_toArray, List.getElem_cons_zero, List.getElem_cons_succ, List.setIfInBounds_toArray, List.set_cons_zero, List.set_cons_succ])
              refine linG_free (v := ?_) rfl rfl (by rfl) (fun w9 => ?_) ?_; rotate_left; (focus (go_simp <;> with_reducible rfl)); (try simp only [Act.put, List.getElem_toArray, List.getElem_cons_zero, List.getElem_cons_succ, List.setIfInBounds_toArray, List.set_cons_zero, List.set_cons_succ])
              refine linG_nil ?_
              go_wp2_with fail
              go_meet
              exact ⟨rfl, _, _, _, _, _, HE.out⟩
        case rest =>
          obtain ⟨rfl, la', lb', A', T', G', hM, hO, hB⟩ := hcut
          have hGk : G'.length ≤ k + 1 := by have h1 := hO.Tl; have h2 := hO.Tk; omega
          clear sx x0 x1 LR hκ q1 q2 q3
          have HO2 := Lib.hid hO
          have HM2 := Lib.hid hM
          have HB2 := Lib.hid hB
          obtain ⟨av, cv, ev⟩ := own_slicel hM.rG
          subst ev
          clear hM hO hB
          go_wp2_with fail
          go_loopw [116] (fun i wi => ∃ j : Nat, j ≤ G'.length ∧ i = .int .i64 j ∧ Lm wi V2.heap.size u0.heap.size V1.heap.size la' lb' u9 u10 (.slice av G'.length cv) A' T' G' ∧ Below w.heap.size w wi ∧ ∀ i, i < j → ¬ (lb'.n - (G'.getD i (0, 0)).2 ≤ 12 ∧ la'.n - (G'.getD i (0, 0)).1 + 4 < lb'.n - (G'.getD i (0, 0)).2)) (fun i _ => G'.length - (intOf i).toNat)
          case atStart => exact ⟨0, Nat.zero_le _, rfl, HM2.out, HB2.out, fun i hi => by omega⟩
          case round =>
            obtain ⟨j, hj, rfl, hM, hB, hw⟩ := hrel
            by_cases hlj : j < G'.length
            · have hljz : (j : Int) < (G'.length : Int) := by omega
              obtain ⟨g, c9, e9, hc9⟩ := own_mom hM.rG rfl (by omega)
              obtain ⟨rfl, rfl⟩ : av = some ⟨g, 0, none⟩ ∧ cv = c9 := by injection e9 with e1 e2 e3; exact ⟨e1, e3⟩
              obtain ⟨h91, h92⟩ := hc9 j hlj
              have hG := HO2.out.Gl j hlj
              have hbn := HO2.out.bn
              have han := HO2.out.an
              have hwj : ∀ q, q = (G'.getD j (0, 0)) → (∀ i, i < j → ¬ (lb'.n - (G'.getD i (0, 0)).2 ≤ 12 ∧ la'.n - (G'.getD i (0, 0)).1 + 4 < lb'.n - (G'.getD i (0, 0)).2)) → ¬ (lb'.n - q.2 ≤ 12 ∧ la'.n - q.1 + 4 < lb'.n - q.2) → ∀ i, i < j + 1 → ¬ (lb'.n - (G'.getD i (0, 0)).2 ≤ 12 ∧ la'.n - (G'.getD i (0, 0)).1 + 4 < lb'.n - (G'.getD i (0, 0)).2) := fun q hq h1 h2 i hi => by
                by_cases e : i = j
                · subst e; rw [← hq]; exact h2
                · exact h1 i (by omega)
              obtain ⟨⟨g1, g2⟩, hg12⟩ : ∃ q, G'.getD j (0, 0) = q := ⟨_, rfl⟩
              have hwk := hwj _ hg12.symm hw
              rw [hg12] at h91 h92 hG
              obtain ⟨hG1, hG2, _⟩ := hG
              have hG1 : g1 ≤ la'.n := hG1
              have hG2 : g2 ≤ lb'.n := hG2
              have lm := ld_mom (g := g) (o := j * 2) (x := g1) (y := g2) h91 h92
              have sm := mom_new g1 g2 wr
              obtain ⟨Y, hY⟩ : ∃ Y, wr.alloc (.cells #[.int .u64 g1, .int .u64 g2] 39) = Y := ⟨_, rfl⟩
              rw [hY] at sm
              have hbY : Below wr.heap.size wr Y := by rw [← hY]; exact below_alloc _ _
              have bY : Blk Y wr.heap.size 39 #[.int .u64 g1, .int .u64 g2] := by rw [← hY]; exact Blk.new wr _ _
              have y0 : Y.cell? ⟨wr.heap.size, 0, none⟩ = some (.int .u64 g1) := bY.cell 0
              have y1 : Y.cell? ⟨wr.heap.size, 1, none⟩ = some (.int .u64 g2) := bY.cell 1
              have hM2 := hM.later hbY
              have a0 := (ls_cell hM2.a).1
              have b0 := (ls_cell hM2.b).1
              have HY := Lib.hid (And.intro hM2 (bel_tr hB hbY))
              have HW := Lib.hid hwk
              obtain ⟨gone, hgone⟩ : ∃ z, lb'.n - g2 = z := ⟨_, rfl⟩
              obtain ⟨went, hwent⟩ : ∃ z, la'.n - g1 = z := ⟨_, rfl⟩
              have t1 : sbU (lb'.n : Int) (g2 : Int) = (gone : Int) := by rw [← hgone]; exact sbU_nat hG2 (by omega)
              have t2 : sbU (la'.n : Int) (g1 : Int) = (went : Int) := by rw [← hwent]; exact sbU_nat hG1 (by omega)
              obtain ⟨w4, hw4⟩ : ∃ z, went + 4 = z := ⟨_, rfl⟩
              have t3 : adU (went : Int) 4 = (w4 : Int) := by rw [← hw4]; exact adU_nat (b := 4) (by omega)
              have t4 : leU (gone : Int) 12 = decide (gone ≤ 12) := leU_nat gone 12
              have t5 := gtU_nat gone w4
              have HN := Lib.hid (show ¬ (gone ≤ 12 ∧ w4 < gone) → ∀ i, i < j + 1 → ¬ (lb'.n - (G'.getD i (0, 0)).2 ≤ 12 ∧ la'.n - (G'.getD i (0, 0)).1 + 4 < lb'.n - (G'.getD i (0, 0)).2) from fun h => HW.out (by show ¬ (lb'.n - g2 ≤ 12 ∧ la'.n - g1 + 4 < lb'.n - g2); rw [hgone, hwent, hw4]; exact h))
              clear hM hB hM2 bY hbY hw hwj hwk hg12 h91 h92 hG1 hG2 hc9 e9 hgone hwent hw4 HW hbn han
              by_cases p1 : gone ≤ 12
              · rw [decide_eq_true p1] at t4
                by_cases p2 : gone ≤ w4
                · rw [decide_eq_true p2] at t5
                  simp only [Bool.not_true] at t5
                  have HNN := Lib.hid (HN.out (by omega))
                  clear p1 p2
                  go_wp2
                  go_roundw
                  case rel => exact ⟨j + 1, by omega, by go_num, HY.out.1, HY.out.2, HNN.out⟩
                  case measure => simp [intOf]; omega
                · rw [decide_eq_false p2] at t5
                  simp only [Bool.not_false] at t5
                  clear p1 p2
                  go_wp2
                  go_ret
                  exact ⟨rfl, HY.out.2⟩
              · rw [decide_eq_false p1] at t4
                have HNN := Lib.hid (HN.out (by omega))
                clear p1
                go_wp2
                go_roundw
                case rel => exact ⟨j + 1, by omega, by go_num, HY.out.1, HY.out.2, HNN.out⟩
                case measure => simp [intOf]; omega
            · obtain rfl : j = G'.length := by omega
              have hOk := HO2.out.within hw
              have HK := Lib.hid (And.intro hM (And.intro hOk hB))
              have ok1 := (hOk.okA (by omega)).1
              have ok2 := (hOk.okB (by omega)).1
              have one := hOk.one
              clear hw hOk
              by_cases hz : G'.length = 0
              · have l0 : decide ((0 : Int) < (G'.length : Int)) = false := by rw [hz]; decide
                have l1 : decide (0 < G'.length) = false := by rw [hz]; decide
                clear hM hB hz one ok1 ok2
                go_wp2
                go_roundw
                case rel => exact ⟨k + 1, by omega, by omega, by go_num, _, _, _, _, _, HK.out.1, HK.out.2.1, HK.out.2.2⟩
                case measure => simp [intOf]; omega
              · have l0 : decide ((0 : Int) < (G'.length : Int)) = true := by simp; omega
                have l1 : decide (0 < G'.length) = true := by simp; omega
                have hh := lholds_any la'
                have hf := lfree_any lb'
                rw [show la'.holds = decide (la'.n < la'.h) by unfold Ls.holds; rw [ok1]; simp] at hh
                rw [show lb'.free = decide (lb'.p ≤ lb'.n) by unfold Ls.free; rw [ok2]; simp] at hf
                have lx := ld_ls hM.a
                clear hM hB hz ok1 ok2
                by_cases p1 : la'.n < la'.h
                · have p2 : ¬ lb'.p ≤ lb'.n := fun h => one ⟨p1, h⟩
                  rw [decide_eq_true p1] at hh
                  rw [decide_eq_false p2] at hf
                  clear p1 p2 one
                  go_wp2_with fail
                  refine (hh _).mono ?_
                  rintro e Y ⟨rfl, hbY⟩
                  have hM := HK.out.1.later hbY
                  have lx2 := ld_ls hM.b
                  clear hM
                  go_wp2_with fail
                  refine (hf _).mono ?_
                  rintro e Z ⟨rfl, hbZ⟩
                  have hbZ := bel_tr hbY hbZ
                  have HE := Lib.hid (And.intro (HK.out.1.later hbZ) (bel_tr HK.out.2.2 hbZ))
                  clear hbY hbZ
                  go_wp2
                  go_roundw
                  case rel => exact ⟨k + 1, by omega, by omega, by go_num, _, _, _, _, _, HE.out.1, HK.out.2.1, HE.out.2⟩
                  case measure => simp [intOf]; omega
                · rw [decide_eq_false p1] at hh
                  clear p1 one
                  go_wp2_with fail
                  refine (hh _).mono ?_
                  rintro e Y ⟨rfl, hbY⟩
                  have HE := Lib.hid (And.intro (HK.out.1.later hbY) (bel_tr HK.out.2.2 hbY))
                  clear hbY
                  go_wp2
                  go_roundw
                  case rel => exact ⟨k + 1, by omega, by omega, by go_num, _, _, _, _, _, HE.out.1, HK.out.2.1, HE.out.2⟩
                  case measure => simp [intOf]; omega
    · obtain rfl : len = k := by omega
      go_wp2
      go_ret
      exact ⟨rfl, hB⟩
end Go.Proofs.Ytgmagnmbbhekjaa
namespace Go.Proofs.Ytgmagnmbbhekjaa
open Go.RowKit Go.ChangeShapes Go.WideShapes
set_option linter.unusedVariables false
theorem c_u64 : Try.prog.cellsOf 22 = 1 := by kernel_rfl
theorem c_ls : Try.prog.cellsOf 24 = 3 := by kernel_rfl
theorem u64_of {a : Int} (h : (Lit.int .u64 a).wf = true) : ∃ s : Nat, a = (s : Int) ∧ s < 18446744073709551616 := by
  have h0 := bounds_u64 h
  exact ⟨a.toNat, by omega, by omega⟩
theorem ls_cells {H : Type} {enc : TypeId × Value → H} {W : World} {sp : Nat → Bool} {held : Bool} {fuel : Nat} {cs : List Value} {y : DataW H × List MemPlace} (h : DataW.trod enc Try.prog W 0 sp held fuel 24 cs = some y) : ∃ n : Ls, cs = n.cs.toList := by
  obtain ⟨xs, m, _, _, hlen, hxs, hg⟩ := DataW.trod_struct Try.underlying24 h
  rw [c_ls] at hlen
  obtain ⟨y0, y1, y2, rfl⟩ : ∃ y0 y1 y2, xs = [y0, y1, y2] := by
    match xs, hxs with
    | [a, b, c], _ => exact ⟨a, b, c, rfl⟩
  have t0 : DataW.trod enc Try.prog W 0 sp held m 22 (List.take (Try.prog.cellsOf 22) (List.drop 0 cs)) = some y0 := hg 0 _ rfl
  have t1 : DataW.trod enc Try.prog W 0 sp held m 22 (List.take (Try.prog.cellsOf 22) (List.drop 1 cs)) = some y1 := hg 1 _ rfl
  have t2 : DataW.trod enc Try.prog W 0 sp held m 22 (List.take (Try.prog.cellsOf 22) (List.drop 2 cs)) = some y2 := hg 2 _ rfl
  rw [c_u64] at t0 t1 t2
  obtain ⟨u0, e0, _, f0⟩ := DataW.trod_int Try.underlying22 t0
  obtain ⟨u1, e1, _, f1⟩ := DataW.trod_int Try.underlying22 t1
  obtain ⟨u2, e2, _, f2⟩ := DataW.trod_int Try.underlying22 t2
  obtain ⟨n0, rfl, g0⟩ := u64_of f0
  obtain ⟨n1, rfl, g1⟩ := u64_of f1
  obtain ⟨n2, rfl, g2⟩ := u64_of f2
  refine ⟨⟨n0, n1, n2⟩, ?_⟩
  match cs, hlen with
  | [a, b, c], _ =>
    simp at e0 e1 e2
    simp [Ls.cs, e0, e1, e2]
theorem ls_of {H : Type} {enc : TypeId × Value → H} {W : World} {sp : Nat → Bool} {base : Nat} {held : Bool} {v : Value} {d : DataW H} {p : List MemPlace} (hv : Value.okWide Try.prog W .any base 24 v) (h : DataW.Trod enc Try.prog W 0 sp held 24 v d p) : ∃ n : Ls, v = .agg n.cs := by
  obtain ⟨cs, rfl, hsz⟩ := okWide_struct Try.underlying24 hv
  obtain ⟨fuel, hf⟩ := h
  obtain ⟨a, ha⟩ := ls_cells (show DataW.trod enc Try.prog W 0 sp held fuel 24 cs.toList = some _ from hf)
  exact ⟨a, congrArg Value.agg (Array.toList_inj.1 ha)⟩
theorem un_of {H : Type} {enc : TypeId × Value → H} {W : World} {sp : Nat → Bool} {base : Nat} {held : Bool} {v : Value} {d : DataW H} {p : List MemPlace} (hv : Value.okWide Try.prog W .any base 22 v) (h : DataW.Trod enc Try.prog W 0 sp held 22 v d p) : ∃ n : Nat, v = .int .u64 (n : Int) ∧ n < 18446744073709551616 := by
  obtain ⟨a0, rfl, rfl, rfl, w0⟩ := open_int Try.underlying22 hv h
  obtain ⟨n, rfl, hn⟩ := u64_of w0
  exact ⟨n, rfl, hn⟩
end Go.Proofs.Ytgmagnmbbhekjaa
