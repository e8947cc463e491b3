/-
  Both arenas told and compared. Nothing here is a statement of the document.
-/
import Derived.Test.YtgnpoehcmlmajaaRfY
import Derived.Test.YtgnpoehcmlmajaaRhS
namespace Go.Proofs.Ytgnpoehcmlmajaa
open Go.RowKit Go.Shelf
set_option linter.unusedVariables false
section
attribute [local go_sem ↓] load_ra_rule store_ra_rule load_root_rule load_rb_rule
variable {w W W' : World} {g p q z lo : Nat} {ws : List Nat} {bs : List Bool} {bv : Value} {ls : Nat → Value} {vs : List Value} {M : Mo} {o : OpM}
theorem ld_cell (h : Blk W g 36 (M.vals bv ls)) : (loadSem 34 (.pointer (some ⟨g, 8, none⟩))).run Try.prog W = .ok (.agg #[.int .u64 (M.v : Int), .int .u64 (M.e : Int), .int .i64 M.four, .int .i64 M.six]) W :=
  loadRes_of (w := W) (o := 8) (vs := #[.int .u64 (M.v : Int), .int .u64 (M.e : Int), .int .i64 M.four, .int .i64 M.six]) h (fun j hj => by
    have : j < 4 := hj
    rcases (show j = 0 ∨ j = 1 ∨ j = 2 ∨ j = 3 by omega) with rfl | rfl | rfl | rfl <;> rfl) _ Try.underlying34 rfl s_root
set_option maxRecDepth 100000 in
set_option maxHeartbeats 4000000 in
theorem agrees_any (h : Agr w g p q lo ws bs bv ls vs M) : Calls Try.prog 8 #[.pointer (some ⟨g, 0, none⟩), .agg (M.vals bv ls)] w fun e w' => e = .returned (.bool true) ∧ Below w.heap.size w w' := by
  have hB := bx_new h.rf
  obtain ⟨W1, hW1⟩ : ∃ W1, w.alloc (.cells (M.vals bv ls) 36) = W1 := ⟨_, rfl⟩
  rw [hW1] at hB
  have A1 := h.ar.later hB.hb
  have hbl := taken_all A1 h.pur.inv.chain h.pur.inv.edge
  have HK := Lib.hid (And.intro h (And.intro hB A1))
  clear hB A1 h
  obtain ⟨V, hV⟩ : ∃ V, M.vals bv ls = V := ⟨_, rfl⟩
  rw [hV] at hW1 ⊢
  have HV := Lib.hid hV
  clear hV
  go_enter Try.func8, Try.ntmps8
  go_wp2_with fail
  refine hbl.mono ?_
  rintro e W2 ⟨v, rfl, how, hb2⟩
  have hbb := bel_later HK.out.2.1.hb hb2
  have B2 := HK.out.2.1.later hb2
  have H2 := Lib.hid (And.intro hbb (And.intro B2 (And.intro how hb2)))
  clear hbl hW1 hb2
  -- the cells, the fence, what is left
  obtain ⟨S, hS⟩ : ∃ S : World → Prop, S = fun w' => Below W2.heap.size W2 w' := ⟨_, rfl⟩
  have hSb : ∀ w', S w' → Below W2.heap.size W2 w' := fun w' h' => by rw [hS] at h'; exact h'
  have hSs : ∀ w', Below W2.heap.size W2 w' → S w' := fun w' h' => by rw [hS]; exact h'
  have hA : ∀ w', S w' → Ar w' g p q ws bs := fun w' h' => HK.out.1.ar.later (bel_later hbb (hSb w' h'))
  have hsame := HK.out.1.pur.same
  have q0 : ∀ w', S w' → (loadSem 36 (.pointer (some ⟨w.heap.size, 0, none⟩))).run Try.prog w' = .ok (.agg V) w' := fun w' h' => by rw [← HV.out]; exact (B2.later (hSb w' h')).ld
  have q1 : ∀ w', S w' → (loadSem 34 (.pointer (some ⟨w.heap.size, 8, none⟩))).run Try.prog w' = .ok (.agg #[.int .u64 (M.v : Int), .int .u64 (M.e : Int), .int .i64 M.four, .int .i64 M.six]) w' := fun w' h' => ld_cell (B2.later (hSb w' h')).bx
  have q2 : ∀ w', S w' → w'.cell? ⟨w.heap.size, 12, none⟩ = some (.int .u64 (M.gd : Int)) := fun w' h' => (B2.later (hSb w' h')).bx.cell 12
  have q3 : ∀ w', S w' → w'.cell? ⟨w.heap.size, 0, none⟩ = some (.int .i64 (M.N : Int)) := fun w' h' => (B2.later (hSb w' h')).c0
  have cr : ∀ w', S w' → Calls Try.prog 30 #[.pointer (some ⟨g, 0, none⟩)] w' fun e w'' => e = .returned (.agg #[.int .u64 (M.v : Int), .int .u64 (M.e : Int), .int .i64 M.four, .int .i64 M.six]) ∧ S w'' := fun w' h' => (root_any (hA w' h')).mono fun e w'' ⟨h1, h2⟩ => ⟨by rw [h1, hsame.v, hsame.e, hsame.four, hsame.six]; rfl, hSs _ (bel_later (hSb w' h') h2)⟩
  have cf : ∀ w', S w' → Calls Try.prog 18 #[.pointer (some ⟨g, 0, none⟩)] w' fun e w'' => e = .returned (.int .u64 (M.gd : Int)) ∧ S w'' := fun w' h' => (fence_any (hA w' h')).mono fun e w'' ⟨h1, n, h2⟩ => ⟨by rw [h1, hsame.gd], by rw [h2]; exact hSs _ (below_drewN (hSb w' h') n)⟩
  have he := edge_eq HK.out.1.pur.inv
  have hE := HK.out.1.pur.inv.edge
  have hhi := HK.out.1.ar.hi
  have cl : ∀ w', S w' → Calls Try.prog 12 #[.pointer (some ⟨g, 0, none⟩)] w' fun e w'' => e = .returned (.int .i64 ((M.N : Int) - (M.edge : Int))) ∧ S w'' := fun w' h' => (aleft_any (hA w' h') hE).mono fun e w'' ⟨h1, n, h2⟩ => ⟨by rw [h1, he, hsame.n], by rw [h2]; exact hSs _ (below_drewN (hSb w' h') n)⟩
  have ce : ∀ w', S w' → Calls Try.prog 31 #[.agg V] w' fun e w'' => e = .returned (.int .i64 (M.edge : Int)) ∧ S w'' := fun w' h' => by
    have := redge_any (B2.later (hSb w' h')).rf
    rw [HV.out] at this
    exact this.mono fun e w'' ⟨h1, h2⟩ => ⟨h1, hSs _ (bel_later (hSb w' h') h2)⟩
  have hS0 : S W2.drew := hSs _ ⟨rfl, rfl, rfl, Nat.le_refl _, fun _ _ => rfl⟩
  have HS := Lib.hid hSb
  have hNe : M.edge ≤ M.N := by rw [he, hsame.n]; exact hE
  have hN16 : M.N ≤ 16384 := by rw [hsame.n]; exact hhi
  clear hA hsame he hE hhi hSs hSb hS how B2 hbb
  generalize M.N = mn at *
  generalize M.edge = me at *
  generalize M.v = mv at *
  generalize M.e = mee at *
  generalize M.four = m4 at *
  generalize M.six = m6 at *
  generalize M.gd = mg at *
  go_wp2_with fail
  refine wp_region_linB S [] [0, 1, 2, 3, 4, 5, 6, 7, 8, 9, 10, 11, 12, 13, 14, 15, 16, 17, 18, 19, 20, 21, 22] (by kernel_rfl) (by kernel_rfl) hS0 ?_
  (repeat (first | (refine linB_off rfl rfl (by rfl) ?_; (try simp only [Act.put, List.getElem_toArray, List.getElem_cons_zero, List.getElem_cons_succ, List.setIfInBounds_toArray, List.set_cons_zero, List.set_cons_succ])) | (refine linB_op (v := ?_) rfl rfl (by rfl) (fun w9 hS9 => ?_) ?_; rotate_left; (focus ((have k0 := q0 w9 hS9; have k1 := q1 w9 hS9; have k2 := q2 w9 hS9; have k3 := q3 w9 hS9; (try dsimp only at hS9); go_simp; (try go_bits)) <;> with_reducible rfl)); (try simp only [Act.put, List.getElem_toArray, List.getElem_cons_zero, List.getElem_cons_succ, List.setIfInBounds_toArray, List.set_cons_zero, List.set_cons_succ])) | (refine linB_fn (f := 30) rfl rfl (by rfl) rfl rfl (enters_of Try.func30 (by kernel_rfl) rfl) (fun w9 hS9 => cr w9 hS9) ?_ ?_; (focus (simp [Act.eval]; done)); (try simp only [Act.put, List.getElem_toArray, List.getElem_cons_zero, List.getElem_cons_succ, List.setIfInBounds_toArray, List.set_cons_zero, List.set_cons_succ])) | (refine linB_fn (f := 18) rfl rfl (by rfl) rfl rfl (enters_of Try.func18 (by kernel_rfl) rfl) (fun w9 hS9 => cf w9 hS9) ?_ ?_; (focus (simp [Act.eval]; done)); (try simp only [Act.put, List.getElem_toArray, List.getElem_cons_zero, List.getElem_cons_succ, List.setIfInBounds_toArray, List.set_cons_zero, List.set_cons_succ])) | (refine linB_fn (f := 12) rfl rfl (by rfl) rfl rfl (enters_of Try.func12 (by kernel_rfl) rfl) (fun w9 hS9 => cl w9 hS9) ?_ ?_; (focus (simp [Act.eval]; done)); (try simp only [Act.put, List.getElem_toArray, List.getElem_cons_zero, List.getElem_cons_succ, List.setIfInBounds_toArray, List.set_cons_zero, List.set_cons_succ])) | (refine linB_fn (f := 31) rfl rfl (by rfl) rfl rfl (enters_of Try.func31 (by kernel_rfl) rfl) (fun w9 hS9 => ce w9 hS9) ?_ ?_; (focus (simp [Act.eval]; done)); (try simp only [Act.put, List.getElem_toArray, List.getElem_cons_zero, List.getElem_cons_succ, List.setIfInBounds_toArray, List.set_cons_zero, List.set_cons_succ]))))
  refine linB_nil (fun W3 hS3 => ?_)
  have hB3 := HS.out W3 hS3
  have hB3d : Below W2.heap.size W2 W3.drew := below_drewN hB3 1
  have hlenT : (ofT true M.B).length ≤ 20000 := by have := ofT_len true M.B; have := HK.out.1.rf.few; have h9 : M.B.length = M.R.length := (by simp [Mo.B]); omega
  have hlenF : (ofT false M.B).length ≤ 20000 := by have := ofT_len false M.B; have := HK.out.1.rf.few; have h9 : M.B.length = M.R.length := (by simp [Mo.B]); omega
  have hld : ∀ {X : World}, Below W2.heap.size W2 X → (loadSem 36 (.pointer (some ⟨w.heap.size, 0, none⟩))).run Try.prog X = .ok (.agg V) X := fun hb => by rw [← HV.out]; exact (H2.out.2.1.later hb).ld
  have hpc : ∀ (t : Bool) {X : World}, Below W2.heap.size W2 X → Calls Try.prog 33 #[.agg V, .bool t] X fun e w' => ∃ v, e = .returned v ∧ w'.ownsRow X.heap.size 86 2 v (ofT t M.B).length (pcl (ofT t M.B)) ∧ Below X.heap.size X w' := fun t X hb => by rw [← HV.out]; exact rpieces_any (H2.out.2.1.later hb).rf t
  have hsp : ∀ {X : World}, Below W2.heap.size W2 X → Calls Try.prog 34 #[.pointer (some ⟨g, 0, none⟩)] X fun e w' => ∃ v, e = .returned v ∧ w'.ownsRow X.heap.size 86 2 v (ofT false M.B).length (pcl (ofT false M.B)) ∧ Below X.heap.size X w' := fun hb => spare_all (HK.out.1.ar.later (bel_later H2.out.1 hb)) HK.out.1.pur.inv.chain HK.out.1.pur.inv.edge
  have HH := Lib.hid (And.intro @hld (And.intro @hpc (And.intro @hsp (And.intro hlenT hlenF))))
  have HB3 := Lib.hid hB3d
  have l0 := hld hB3d
  have hp1 := hpc true hB3d
  clear hld hpc hsp hB3 hB3d hS3 hS0 q0 q1 q2 q3 cr cf cl ce hNe hN16 hlenT hlenF
  have HR3 := Lib.hid (And.intro l0 hp1)
  clear l0 hp1
  go_upto_region 3 with (fail)
  go_cut [52] from 36 (fun b wc => b = .bool false ∧ Below W2.heap.size W2 wc)
  case first =>
    have l0 := HR3.out.1
    have hp1 := HR3.out.2
    go_wp2_with fail
    go_region_with (first
      | (go_at_call 33; refine hp1.mono ?_; rintro ea Wa ⟨va, rfl, hoa, hba⟩; have hBa := Lib.hid (bel_later HB3.out hba); have hs1 := samep_any (L := ofT true M.B) HH.out.2.2.2.1 (owns_later H2.out.2.2.1 hBa.out) hoa; have la := HH.out.1 hBa.out; clear hoa hba hp1)
      | (go_at_call 32; refine hs1.mono ?_; rintro eb Wb ⟨rfl, nb, hnb⟩; have hBb := Lib.hid (show Below W2.heap.size W2 Wb by rw [hnb]; exact below_drewN hBa.out nb); have hspr := HH.out.2.2.1 hBb.out; have lb := HH.out.1 hBb.out; clear hnb hs1)
      | (go_at_call 34; refine hspr.mono ?_; rintro ec Wc ⟨vc, rfl, hoc, hbc⟩; have hBc := Lib.hid (bel_later hBb.out hbc); have HOC := Lib.hid hoc; have hp2 := HH.out.2.1 false hBc.out; have lc := HH.out.1 hBc.out; clear hoc hbc hspr)
      | (go_at_call 33; refine hp2.mono ?_; rintro ed Wd ⟨vd, rfl, hod, hbd⟩; have hBd := Lib.hid (bel_later hBc.out hbd); have hs2 := samep_any (L := ofT false M.B) HH.out.2.2.2.2 (owns_later HOC.out hbd) hod; clear hod hbd hp2)
      | (go_at_call 32; refine hs2.mono ?_; rintro ee We ⟨rfl, ne, hne⟩; have hBe := Lib.hid (show Below W2.heap.size W2 We by rw [hne]; exact below_drewN hBd.out ne); clear hne hs2))
    all_goals
      go_wp2_with fail
      go_meet
      exact ⟨rfl, hBe.out⟩
  case rest =>
    obtain ⟨rfl, hBc⟩ := hcut
    have HC := Lib.hid hBc
    have hN : wc.cell? ⟨w.heap.size, 0, none⟩ = some (.int .i64 (ws.length : Int)) := by rw [← HK.out.1.pur.same.n]; exact (H2.out.2.1.later hBc).c0
    have hhi := HK.out.1.ar.hi
    have hlo := HK.out.1.ar.lo
    obtain ⟨nn, hnn⟩ : ∃ nn, ws.length = nn := ⟨_, rfl⟩
    rw [hnn] at hN hhi hlo
    have Hn := Lib.hid hnn
    clear hBc HR3 hnn
    go_upto_region 5 with (fail)
    go_cut [55, 56] from 53 (fun u i wx => ∃ mm : Nat, u = .int .i64 (mm : Int) ∧ i = .int .i64 0 ∧ mm ≤ nn ∧ wx = wc)
    case first =>
      go_wp2_with fail
      all_goals
        go_meet
        first | exact ⟨nn, rfl, rfl, Nat.le_refl _, rfl⟩ | exact ⟨200, rfl, rfl, by omega, rfl⟩
    case rest =>
      obtain ⟨mm, rfl, rfl, hmm, rfl⟩ := hcut
      have hmi : (mm : Int) ≤ (nn : Int) := by omega
      go_upto_block 0 with (fail)
      go_cut [] from 56 (fun wx => Below W2.heap.size W2 wx)
      case first =>
        go_wp2_with fail
        go_loopw [56] (fun i wr => ∃ k : Nat, k ≤ mm ∧ i = .int .i64 k ∧ Below W2.heap.size W2 wr) (fun i _ => mm - (intOf i).toNat)
        case atStart => exact ⟨0, Nat.zero_le _, rfl, HC.out⟩
        case round =>
          obtain ⟨k, hk, rfl, hbe⟩ := hrel
          clear hN
          by_cases hlt : k < mm
          · have hki : (k : Int) < (mm : Int) := by omega
            have AX := HK.out.1.ar.later (bel_later H2.out.1 hbe)
            rcases HK.out.1.pur.cases (k : Int) with ⟨kk, b, hb, ht, hkx, hy⟩ | ⟨hn, hx⟩
            · obtain rfl : k = b.x := by omega
              have hc := class_yes AX hy
              have HX := Lib.hid (And.intro hb (And.intro ht hbe))
              clear AX hb ht hkx hy hbe
              go_wp2_with fail
              refine hc.mono ?_
              rintro e Xa ⟨rfl, na, hna⟩
              have hBa := Lib.hid (show Below W2.heap.size W2 Xa by rw [hna]; exact below_drewN HX.out.2.2 na)
              have Ba := H2.out.2.1.later hBa.out
              have la := Ba.ld
              have hta := rtk_yes Ba.rf HX.out.1 HX.out.2.1
              rw [HV.out] at la hta
              clear hna hc Ba
              go_wp2_with fail
              refine hta.mono ?_
              rintro e Xb ⟨rfl, hbx⟩
              have hBb := Lib.hid (bel_later hBa.out hbx)
              have Bb := H2.out.2.1.later hBb.out
              obtain ⟨gb, c, gw, cw, _, _, d1, _, dc, _, _, _, hkl⟩ := Bb.blk HX.out.1
              have hfew := Bb.rf.few
              clear hbx hta la Bb
              generalize M.R.length = nr at *
              have hk0 : (0 : Int) ≤ (kk : Int) := by omega
              have hkn : (kk : Int) < (nr : Int) := by omega
              have dce : ((b.c : Int) == (b.c : Int)) = true := by simp
              go_wp2_with fail
              go_roundw
              case rel => exact ⟨b.x + 1, by omega, by go_num, hBb.out⟩
              case measure => simp [intOf]; omega
            · have hc := class_no AX (k : Int) hn
              have HX := Lib.hid (And.intro hx hbe)
              clear AX hn hx hbe
              go_wp2_with fail
              refine hc.mono ?_
              rintro e Xa ⟨rfl, hna⟩
              have hBa := Lib.hid (show Below W2.heap.size W2 Xa by rw [← hna]; exact HX.out.2)
              have Ba := H2.out.2.1.later hBa.out
              have la := Ba.ld
              have hta := rtk_no Ba.rf HX.out.1
              rw [HV.out] at la hta
              clear hna hc Ba
              go_wp2_with fail
              refine hta.mono ?_
              rintro e Xb ⟨rfl, hbx⟩
              have hBb := Lib.hid (bel_later hBa.out hbx)
              clear hbx hta la
              go_wp2_with fail
              go_roundw
              case rel => exact ⟨k + 1, by omega, by go_num, hBb.out⟩
              case measure => simp [intOf]; omega
          · obtain rfl : k = mm := by omega
            have HX := Lib.hid hbe
            clear hbe
            go_wp2_with fail
            go_meet
            exact HX.out
      case rest =>
        have HC2 := Lib.hid hcut
        clear hcut hN
        obtain ⟨al, cl, hvl⟩ := owns_sl H2.out.2.2.1
        have hlen := ofT_len true M.B
        have hfew := HK.out.1.rf.few
        have hBl : M.B.length = M.R.length := by simp [Mo.B]
        obtain ⟨nl, hnl⟩ : ∃ nl, (ofT true M.B).length = nl := ⟨_, rfl⟩
        have hown := owns_later H2.out.2.2.1 HC2.out
        rw [hnl] at hvl hown hlen
        subst hvl
        have hnl2 : nl ≤ 20000 := by omega
        have HO := Lib.hid (And.intro hown ((H2.out.2.2.2).trans (HC2.out.mono H2.out.2.2.2.size)))
        clear hown hlen hfew hBl hnl
        go_upto_block 2 with (fail)
        go_cut [] from 94 (fun wx => Below W1.heap.size W1 wx)
        case first =>
          go_wp2_with fail
          go_loopw [96] (fun i wr => ∃ (k : Nat) (xs : List Value), k ≤ nl ∧ i = .int .i64 k ∧ wr.ownsRow W1.heap.size 86 2 (.slice al nl cl) nl xs ∧ Below W1.heap.size W1 wr) (fun i _ => nl - (intOf i).toNat)
          case atStart => exact ⟨0, _, Nat.zero_le _, rfl, HO.out.1, HO.out.2⟩
          case round =>
            obtain ⟨k, xs, hk, rfl, how, hbe⟩ := hrel
            by_cases hlt : k < nl
            · have hki : (k : Int) < (nl : Int) := by omega
              obtain ⟨gl, cl9, hsl, _⟩ := owns_cell how (by omega)
              injection hsl with hal _ hcl9
              subst hal
              have hlx := how.1
              obtain ⟨u, hu⟩ : ∃ u, xs[k * 2]? = some u := ⟨_, List.getElem?_eq_getElem (by omega)⟩
              have ck := (how.cellAt (k * 2) (by omega)).trans hu
              have fk := how.frozenAt (k * 2)
              have hst := (how.stored (k * 2) (.int .i64 99)).1
              have hge := (how.lt gl rfl).1
              have HX := Lib.hid (And.intro hst (hbe.setCell (p := ⟨gl, k * 2, none⟩) hge (.int .i64 99)))
              clear how hbe hst hu hlx hcl9
              go_wp2_with fail
              go_roundw
              case rel => exact ⟨k + 1, _, by omega, by go_num, HX.out.1, HX.out.2⟩
              case measure => simp [intOf]; omega
            · have HX := Lib.hid hbe
              clear how hbe
              go_wp2_with fail
              go_meet
              exact HX.out
        case rest =>
          have hB4 := Lib.hid hcut
          clear hcut HO
          have hld : ∀ {X : World}, Below W1.heap.size W1 X → (loadSem 36 (.pointer (some ⟨w.heap.size, 0, none⟩))).run Try.prog X = .ok (.agg V) X := fun hb => by rw [← HV.out]; exact (HK.out.2.1.later hb).ld
          have hen : ∀ {X : World}, Below W1.heap.size W1 X → Calls Try.prog 38 #[.pointer (some ⟨g, 0, none⟩)] X fun e w' => ∃ b c, e = .returned (.slice (some ⟨b, 0, none⟩) (4 * ws.length) c) ∧ Lies w' (some ⟨b, 0, none⟩) (wbytes ws) ∧ X.heap.size ≤ b ∧ Below X.heap.size X w' := fun hb => encode_any (HK.out.2.2.later hb)
          have hby : ∀ {X : World}, Below W1.heap.size W1 X → Calls Try.prog 39 #[.agg V] X fun e w' => ∃ b c, e = .returned (.slice (some ⟨b, 0, none⟩) (4 * ws.length) c) ∧ Lies w' (some ⟨b, 0, none⟩) (wbytes ws) ∧ Below X.heap.size X w' := fun hb => by
            rw [← HV.out]
            exact rbytes_any (HK.out.2.1.later hb).rf HK.out.1.pur.same HK.out.1.pur.inv HK.out.1.pur.nice HK.out.1.ar.lo HK.out.1.ar.hi HK.out.1.ar.sml
          have HZ := Lib.hid (And.intro @hld (And.intro @hen @hby))
          have hB4d := Lib.hid (show Below W1.heap.size W1 wc.drew from below_drewN hB4.out 1)
          have l4 := HZ.out.1 hB4d.out
          have he4 := HZ.out.2.1 hB4d.out
          clear hld hen hby
          go_wp2_with fail
          go_region_with (first
            | (go_at_call 38; refine he4.mono ?_; rintro ea Xa ⟨ba, ca, rfl, hLa, _, hxa⟩; have hBa := Lib.hid (bel_later hB4d.out hxa); have HLa := Lib.hid hLa; have l5 := HZ.out.1 hBa.out; have hy5 := HZ.out.2.2 hBa.out; clear hLa hxa he4)
            | (go_at_call 39; refine hy5.mono ?_; rintro eb Xb ⟨bb, cb, rfl, hLb, hxb⟩; have hBb := Lib.hid (bel_later hBa.out hxb); have hq := bequal_any (some ⟨ba, 0, none⟩) (some ⟨bb, 0, none⟩) (4 * ws.length) ca (4 * ws.length) cb (wbytes ws) (wbytes ws) Xb (wbytes_len ws) (wbytes_len ws) (wbytes_bys ws) (wbytes_bys ws) (HLa.out.kept hxb) hLb; clear hLb hxb hy5)
            | (go_at_call 37; refine hq.mono ?_; rintro ec Xc ⟨rfl, rfl⟩; clear hq))
          all_goals
            go_wp2_with fail
            go_ret
            exact ⟨ret_bool (by simp), bel_later HK.out.2.1.hb hBb.out⟩
end
end Go.Proofs.Ytgnpoehcmlmajaa
