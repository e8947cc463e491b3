/-
  The document's arena: its words. Nothing here is a statement of the document.
-/
import Derived.Test.YtgnpoehcmlmajaaArpH
namespace Go.Proofs.Ytgnpoehcmlmajaa
open Go.RowKit Go.Shelf
set_option linter.unusedVariables false
section
attribute [local go_sem ↓] load_ra_rule store_ra_rule load_rb_rule store_rb_rule copy32_rule
variable {w W W' : World} {g z lo : Nat} {bv : Value} {ls : Nat → Value} {vs : List Value} {M : Mo}
set_option maxRecDepth 100000 in
set_option maxHeartbeats 4000000 in
theorem rwords_any (h : Rfa w lo bv ls vs M) {ws : List Nat} {bs : List Bool} (hS : Same ws M) (hI : Inv ws bs M.B M.L) (hN : Nice ws M.B) (hlo : 64 ≤ ws.length) (hhi : ws.length ≤ 16384) (hsm : ∀ n ∈ ws, n < 4294967296) : Calls Try.prog 65 #[.agg (M.vals bv ls)] w fun e w' => ∃ v, e = .returned v ∧ w'.ownsRow w.heap.size 53 1 v ws.length (wvl ws) ∧ Below w.heap.size w w' := by
  have hB := bx_new h
  obtain ⟨W1, hW1⟩ : ∃ W1, w.alloc (.cells (M.vals bv ls) 36) = W1 := ⟨_, rfl⟩
  rw [hW1] at hB
  have hs1 : W1.heap.size = w.heap.size + 1 := by rw [← hW1]; simp
  obtain ⟨hmk, _⟩ := mk32 W1 ws.length hhi
  obtain ⟨W2, hW2⟩ : ∃ W2, W1.alloc (.cells (wcs (List.replicate ws.length 0)) 53) = W2 := ⟨_, rfl⟩
  rw [hW2, hs1] at hmk
  have D2 : Wd w W2 bv ls M (Pre ws 0) := by
    rw [← hW2, ← Pre.zero]
    have b2 := Blk.new W1 53 (wcs (List.replicate ws.length 0))
    rw [hs1] at b2
    exact ⟨hB.hb.alloc (by omega) _, hB.bx.alloc _, b2⟩
  have c0 : W1.cell? ⟨w.heap.size, 0, none⟩ = some (.int .i64 (ws.length : Int)) := by rw [hB.c0, hS.n]
  have HK := Lib.hid (And.intro h (And.intro hS (And.intro hI (And.intro hN hsm))))
  -- the first word
  have c02 : W2.cell? ⟨w.heap.size, 0, none⟩ = some (.int .i64 (ws.length : Int)) := by rw [← hS.n]; exact D2.bx.cell 0
  have o0 := D2.cell (i := 0) (by rw [Pre.len ws (by omega)]; omega)
  have f0 := D2.ob.free 0
  have D3 := D2.set 0 ws.length
  have h0 := Pre.set ws (e := 0) (by omega)
  rw [hN.first] at h0
  rw [h0] at D3
  have hwn : IntKind.u32.wrap (ws.length : Int) = (ws.length : Int) := by
    unfold IntKind.wrap
    simp [IntKind.bits, IntKind.signed]
    omega
  have HD := Lib.hid D3
  clear D2 D3 hB h hS hI hN hsm h0
  generalize (Pre ws 0).getD 0 0 = p0 at *
  obtain ⟨V, hV⟩ : ∃ V, M.vals bv ls = V := ⟨_, rfl⟩
  rw [hV] at hW1 ⊢
  have HV := Lib.hid hV
  clear hV
  obtain ⟨n, hn⟩ : ∃ n, ws.length = n := ⟨_, rfl⟩
  have Hn := Lib.hid hn
  rw [hn] at hlo hhi hmk c0 c02 hwn HD ⊢
  clear hn hW2
  go_enter Try.func65, Try.ntmps65
  go_wp2_with fail
  obtain ⟨WA1, hq1⟩ : ∃ WA1, (W2.setCell ⟨w.heap.size + 1, 0, none⟩ (.int .u32 (n : Int))) = WA1 := ⟨_, rfl⟩
  rw [hq1] at HD ⊢
  have x1c : WA1.cell? ⟨w.heap.size, 8, none⟩ = some (.int .u64 (M.v : Int)) := HD.out.bx.cell 8
  obtain ⟨x1, hx1⟩ : ∃ x1, M.v = x1 := ⟨_, rfl⟩
  have hh1 := two_halves HK.out.2.2.2.2 1
  rw [← HK.out.2.1.v, hx1] at hh1
  have hxb1 : x1 < 18446744073709551616 := by
    have h1 := word_lt HK.out.2.2.2.2 1
    omega
  rw [hx1] at x1c
  have hlw1 : ws.length = n := Hn.out
  have o11 := HD.out.cell (i := 1) (by rw [Pre.len ws (by omega)]; omega)
  have o12 := HD.out.cell (i := 1 + 1) (by rw [Pre.len ws (by omega)]; omega)
  have f11 := HD.out.ob.free 1
  have f12 := HD.out.ob.free (1 + 1)
  have D1 := (HD.out.set 1 (x1 / 4294967296)).set (1 + 1) (x1 % 4294967296)
  rw [hh1.1, hh1.2, Pre.set ws (by omega), Pre.set ws (by omega), ← hh1.1, ← hh1.2, show ((x1 / 4294967296 : Nat) : Int) = (x1 : Int) / 4294967296 from by omega, show ((x1 % 4294967296 : Nat) : Int) = (x1 : Int) % 4294967296 from by omega] at D1
  have HD2 := Lib.hid D1.drew
  clear HD D1 hh1 hx1 hq1 hlw1
  generalize (Pre ws 1).getD 1 0 = p11 at *
  generalize (Pre ws 1).getD (1 + 1) 0 = p12 at *
  simp only [Nat.reduceAdd] at o12 f12 HD2
  go_wp2_with fail
  go_region
  have HD := HD2
  clear HD2 x1c o11 o12 f11 f12 hxb1
  obtain ⟨WA2, hq2⟩ : ∃ WA2, ((WA1.setCell ⟨w.heap.size + 1, 1, none⟩ (.int .u32 ((x1 : Int) / 4294967296))).setCell ⟨w.heap.size + 1, 2, none⟩ (.int .u32 ((x1 : Int) % 4294967296))).drew = WA2 := ⟨_, rfl⟩
  rw [hq2] at HD ⊢
  have x2c : WA2.cell? ⟨w.heap.size, 9, none⟩ = some (.int .u64 (M.e : Int)) := HD.out.bx.cell 9
  obtain ⟨x2, hx2⟩ : ∃ x2, M.e = x2 := ⟨_, rfl⟩
  have hh2 := two_halves HK.out.2.2.2.2 3
  rw [← HK.out.2.1.e, hx2] at hh2
  have hxb2 : x2 < 18446744073709551616 := by
    have h1 := word_lt HK.out.2.2.2.2 3
    omega
  rw [hx2] at x2c
  have hlw2 : ws.length = n := Hn.out
  have o21 := HD.out.cell (i := 3) (by rw [Pre.len ws (by omega)]; omega)
  have o22 := HD.out.cell (i := 3 + 1) (by rw [Pre.len ws (by omega)]; omega)
  have f21 := HD.out.ob.free 3
  have f22 := HD.out.ob.free (3 + 1)
  have D2 := (HD.out.set 3 (x2 / 4294967296)).set (3 + 1) (x2 % 4294967296)
  rw [hh2.1, hh2.2, Pre.set ws (by omega), Pre.set ws (by omega), ← hh2.1, ← hh2.2, show ((x2 / 4294967296 : Nat) : Int) = (x2 : Int) / 4294967296 from by omega, show ((x2 % 4294967296 : Nat) : Int) = (x2 : Int) % 4294967296 from by omega] at D2
  have HD2 := Lib.hid D2.drew
  clear HD D2 hh2 hx2 hq2 hlw2
  generalize (Pre ws 3).getD 3 0 = p21 at *
  generalize (Pre ws 3).getD (3 + 1) 0 = p22 at *
  simp only [Nat.reduceAdd] at o22 f22 HD2
  go_wp2_with fail
  go_region
  have HD := HD2
  clear HD2 x2c o21 o22 f21 f22 hxb2
  obtain ⟨WA3, hq3⟩ : ∃ WA3, ((WA2.setCell ⟨w.heap.size + 1, 3, none⟩ (.int .u32 ((x2 : Int) / 4294967296))).setCell ⟨w.heap.size + 1, 4, none⟩ (.int .u32 ((x2 : Int) % 4294967296))).drew = WA3 := ⟨_, rfl⟩
  rw [hq3] at HD ⊢
  obtain ⟨a4, ha4⟩ : ∃ a4, ws.getD 5 0 = a4 := ⟨_, rfl⟩
  obtain ⟨a6, ha6⟩ : ∃ a6, ws.getD 6 0 = a6 := ⟨_, rfl⟩
  have y4 : WA3.cell? ⟨w.heap.size, 10, none⟩ = some (.int .i64 (a4 : Int)) := by rw [← ha4, ← HK.out.2.1.four]; exact HD.out.bx.cell 10
  have y6 : WA3.cell? ⟨w.heap.size, 11, none⟩ = some (.int .i64 (a6 : Int)) := by rw [← ha6, ← HK.out.2.1.six]; exact HD.out.bx.cell 11
  have b4 : a4 < 4294967296 := by rw [← ha4]; exact word_lt HK.out.2.2.2.2 5
  have b6 : a6 < 4294967296 := by rw [← ha6]; exact word_lt HK.out.2.2.2.2 6
  have m4 : (a4 : Int) % 4294967296 = (a4 : Int) := by omega
  have m6 : (a6 : Int) % 4294967296 = (a6 : Int) := by omega
  have hlw3 : ws.length = n := Hn.out
  have o31 := HD.out.cell (i := 5) (by rw [Pre.len ws (by omega)]; omega)
  have o32 := HD.out.cell (i := 6) (by rw [Pre.len ws (by omega)]; omega)
  have f31 := HD.out.ob.free 5
  have f32 := HD.out.ob.free 6
  have D3 := (HD.out.set 5 a4).set 6 a6
  rw [← ha4, Pre.set ws (by omega), ← ha6, Pre.set ws (by omega), ha4, ha6] at D3
  have HD2 := Lib.hid D3.drew
  clear HD D3 ha4 ha6 hq3 hlw3
  generalize (Pre ws 5).getD 5 0 = p31 at *
  generalize (Pre ws 5).getD 6 0 = p32 at *
  simp only [Nat.reduceAdd] at HD2
  go_wp2_with fail
  go_region
  have HD := HD2
  clear m4 m6 b4 b6 HD2 y4 y6 o31 o32 f31 f32
  obtain ⟨WA4, hq4⟩ : ∃ WA4, ((WA3.setCell ⟨w.heap.size + 1, 5, none⟩ (.int .u32 (a4 : Int))).setCell ⟨w.heap.size + 1, 6, none⟩ (.int .u32 (a6 : Int))).drew = WA4 := ⟨_, rfl⟩
  rw [hq4] at HD ⊢
  have x4c : WA4.cell? ⟨w.heap.size, 12, none⟩ = some (.int .u64 (M.gd : Int)) := HD.out.bx.cell 12
  obtain ⟨x4, hx4⟩ : ∃ x4, M.gd = x4 := ⟨_, rfl⟩
  have hh4 := two_halves HK.out.2.2.2.2 7
  rw [← HK.out.2.1.gd, hx4] at hh4
  have hxb4 : x4 < 18446744073709551616 := by
    have h1 := word_lt HK.out.2.2.2.2 7
    omega
  rw [hx4] at x4c
  have hlw4 : ws.length = n := Hn.out
  have o41 := HD.out.cell (i := 7) (by rw [Pre.len ws (by omega)]; omega)
  have o42 := HD.out.cell (i := 7 + 1) (by rw [Pre.len ws (by omega)]; omega)
  have f41 := HD.out.ob.free 7
  have f42 := HD.out.ob.free (7 + 1)
  have D4 := (HD.out.set 7 (x4 / 4294967296)).set (7 + 1) (x4 % 4294967296)
  rw [hh4.1, hh4.2, Pre.set ws (by omega), Pre.set ws (by omega), ← hh4.1, ← hh4.2, show ((x4 / 4294967296 : Nat) : Int) = (x4 : Int) / 4294967296 from by omega, show ((x4 % 4294967296 : Nat) : Int) = (x4 : Int) % 4294967296 from by omega] at D4
  have HD2 := Lib.hid D4.drew
  clear HD D4 hh4 hx4 hq4 hlw4
  generalize (Pre ws 7).getD 7 0 = p41 at *
  generalize (Pre ws 7).getD (7 + 1) 0 = p42 at *
  simp only [Nat.reduceAdd] at o42 f42 HD2
  go_wp2_with fail
  go_region
  have HD := HD2
  clear HD2 x4c o41 o42 f41 f42 hxb4
  obtain ⟨WB, hqB⟩ : ∃ WB, ((WA4.setCell ⟨w.heap.size + 1, 7, none⟩ (.int .u32 ((x4 : Int) / 4294967296))).setCell ⟨w.heap.size + 1, 8, none⟩ (.int .u32 ((x4 : Int) % 4294967296))).drew = WB := ⟨_, rfl⟩
  rw [hqB] at HD ⊢
  clear hqB
  have l0 : WB.cell? ⟨w.heap.size, 2, none⟩ = some (ls 0) := HD.out.bx.cell 2
  have l1 : WB.cell? ⟨w.heap.size, 3, none⟩ = some (ls 1) := HD.out.bx.cell 3
  have l2 : WB.cell? ⟨w.heap.size, 4, none⟩ = some (ls 2) := HD.out.bx.cell 4
  have l3 : WB.cell? ⟨w.heap.size, 5, none⟩ = some (ls 3) := HD.out.bx.cell 5
  have l4 : WB.cell? ⟨w.heap.size, 6, none⟩ = some (ls 4) := HD.out.bx.cell 6
  have l5 : WB.cell? ⟨w.heap.size, 7, none⟩ = some (ls 5) := HD.out.bx.cell 7
  go_wp2_with fail
  clear l0 l1 l2 l3 l4 l5 hwn hmk c0 c02 o0 f0 hs1
  go_loopw [68] (fun i wr => ∃ k : Nat, k ≤ 6 ∧ i = .int .i64 k ∧ Wd w wr bv ls M (Pre ws (9 + k))) (fun i _ => 6 - (intOf i).toNat)
  case atStart => exact ⟨0, by omega, rfl, HD.out⟩
  case round =>
    obtain ⟨k, hk, rfl, hD⟩ := hrel
    clear HD
    have hlw : ws.length = n := Hn.out
    by_cases hlt : k < 6
    · have hki : (k : Int) < 6 := by omega
      have hix := fun w' => index_six ls k hlt w'
      have hI := (HK.out.1.lst k (by omega)).later hD.hb
      have hLs := HK.out.2.2.1.lst k (by omega)
      obtain ⟨al, ca, hIl, _, _, _⟩ := id hI
      cases hL : M.L k with
      | nil =>
        rw [hL] at hLs hIl
        have h0 : ws.getD (9 + k) 0 = 0 := hLs
        have hD2 := hD
        rw [Pre.nought ws (by omega) h0] at hD2
        have HE := Lib.hid hD2
        clear hD hD2 hI hLs h0
        rw [hIl] at hix
        clear hIl
        go_wp2_with fail
        go_roundw
        case rel => exact ⟨k + 1, by omega, by go_num, HE.out⟩
        case measure => simp [intOf]; omega
      | cons x r =>
        have hI' := hI
        rw [hIl] at hI'
        obtain ⟨a9, c9, h1, h2, _, h3⟩ := hI'
        obtain ⟨ga, oa, Ca, hal, hga, hbka, hcela⟩ : ∃ g o C, a9 = some ⟨g, o, none⟩ ∧ lo ≤ g ∧ Blk wr g 3 C ∧ ∀ (i : Nat) (u : Value), (ivl (M.L k))[i]? = some u → C[o + i]? = some u := by
          rcases h3 with h9 | h9
          · rw [hL] at h9; cases h9
          · exact h9
        have hal2 : al = some ⟨ga, oa, none⟩ := by injection h1 with h1 _ _; rw [h1, hal]
        rw [hal2, hL, List.length_cons] at hIl
        have ca0 : wr.cell? ⟨ga, oa, none⟩ = some (.int .i64 (x : Int)) := (hbka.cell oa).trans (by have := hcela 0 _ (by rw [hL]; rfl); rwa [Nat.add_zero] at this)
        rw [hL] at hLs
        have h0 : ws.getD (9 + k) 0 = x := hLs.1
        have hx : x < 4294967296 := by rw [← h0]; exact word_lt HK.out.2.2.2.2 _
        have hwx : IntKind.u32.wrap (x : Int) = (x : Int) := by
          unfold IntKind.wrap
          simp [IntKind.bits, IntKind.signed]
          omega
        have hxm : (x : Int) % 4294967296 = (x : Int) := by omega
        have ok := hD.cell (i := 9 + k) (by rw [Pre.len ws (by omega)]; omega)
        have fk := hD.ob.free (9 + k)
        have hD2 := hD.set (9 + k) x
        rw [← h0, Pre.set ws (by omega), h0] at hD2
        have HE := Lib.hid hD2
        generalize (Pre ws (9 + k)).getD (9 + k) 0 = pk at *
        rw [hIl] at hix
        have hrl : (0 : Int) < (r.length : Int) + 1 := by omega
        clear hD hD2 hI hLs h0 hIl h1 h2 h3 hbka hcela hal hal2 hL
        have h9t : (9 + (k : Int)).toNat = 9 + k := by omega
        have h9p : (0 : Int) ≤ 9 + (k : Int) := by omega
        have h9n : 9 + (k : Int) < (n : Int) := by omega
        go_wp2_with fail
        go_roundw
        case rel => exact ⟨k + 1, by omega, by go_num, HE.out⟩
        case measure => simp [intOf]; omega
    · obtain rfl : k = 6 := by omega
      have HE := Lib.hid hD
      have hl15 := lra hD.bx rfl
      have hed := redge_any (HK.out.1.later hD.hb)
      rw [HV.out] at hl15 hed
      rw [edge_eq HK.out.2.2.1] at hed
      obtain ⟨ed, hed9⟩ : ∃ ed, ws.getD 15 0 = ed := ⟨_, rfl⟩
      rw [hed9] at hed
      clear hD hlt
      go_wp2_with fail
      refine hed.mono ?_
      rintro e9 W15 ⟨rfl, hb15⟩
      have hD := HE.out.later hb15
      have hem : ed < 4294967296 := by rw [← hed9]; exact word_lt HK.out.2.2.2.2 15
      have hwx : IntKind.u32.wrap (ed : Int) = (ed : Int) := by
        unfold IntKind.wrap
        simp [IntKind.bits, IntKind.signed]
        omega
      have hxm : (ed : Int) % 4294967296 = (ed : Int) := by omega
      have o15 := hD.cell (i := 15) (by rw [Pre.len ws (by omega)]; omega)
      have f15 := hD.ob.free 15
      have hD2 := hD.set 15 ed
      rw [← hed9, Pre.set ws (by omega), hed9] at hD2
      have HD := Lib.hid hD2
      generalize (Pre ws (9 + 6)).getD 15 0 = pk at *
      obtain ⟨W16, hW16⟩ : ∃ W16, W15.setCell ⟨w.heap.size + 1, 15, none⟩ (.int .u32 (ed : Int)) = W16 := ⟨_, rfl⟩
      rw [hW16] at HD
      obtain ⟨a, c, hbv⟩ := owns_sl HK.out.1.row
      have c16 : W16.cell? ⟨w.heap.size, 1, none⟩ = some bv := HD.out.bx.cell 1
      rw [hbv] at c16
      have hfew := HK.out.1.few
      obtain ⟨nR, hnR⟩ : ∃ nR, M.R.length = nR := ⟨_, rfl⟩
      rw [hnR] at c16 hfew
      have HB := Lib.hid (And.intro hbv hnR)
      clear hD hD2 hed hl15 hb15 hbv hnR HE hed9
      go_wp2_with fail
      clear o15 f15 hwx hxm hW16 c16
      go_loopw [92] (fun i wr => ∃ k e : Nat, k ≤ nR ∧ i = .int .i64 k ∧ 16 ≤ e ∧ Chain ws e (M.B.drop k) ∧ Wd w wr bv ls M (Pre ws e)) (fun i _ => nR - (intOf i).toNat)
      case atStart => exact ⟨0, 16, Nat.zero_le _, rfl, Nat.le_refl _, HK.out.2.2.1.chain, HD.out⟩
      case round =>
        obtain ⟨k, e, hk, rfl, he16, hch, hD⟩ := hrel
        clear HD
        by_cases hlt : k < nR
        · obtain ⟨b, hb⟩ : ∃ b, M.R[k]? = some b := ⟨_, List.getElem?_eq_getElem (by rw [HB.out.2]; exact hlt)⟩
          have hdr : M.B.drop k = b.bl :: M.B.drop (k + 1) := by
            have h9 : M.B[k]? = some b.bl := by simp [Mo.B, hb]
            obtain ⟨hkB, heB⟩ := List.getElem?_eq_some_iff.1 h9
            rw [List.drop_eq_getElem_cons hkB, heB]
          rw [hdr] at hch
          obtain ⟨hx, hc5, hhd, hfit, hch2⟩ := hch
          have hx9 : b.x = e + 1 := hx
          have hc59 : b.c ≤ 5 := hc5
          have hhd9 : ws.getD e 0 = hdN b.c b.t := hhd
          have hfit9 : e + 1 + 2 ^ b.c ≤ n := by
            have h1 := HK.out.2.2.1.edge
            have h2 : e + 1 + 2 ^ b.c ≤ ws.getD 15 0 := hfit
            have h3 := Hn.out
            omega
          have hch9 : Chain ws (e + 1 + 2 ^ b.c) (M.B.drop (k + 1)) := hch2
          clear hx hc5 hhd hfit hch2 hdr
          have hR := HK.out.1.later hD.hb
          obtain ⟨v, hv⟩ := hR.v_get hb
          obtain ⟨gb, c', hbv', _⟩ := owns_cell hR.row (by rw [HB.out.2]; omega)
          rw [HB.out.1, HB.out.2] at hbv'
          cases hbv'
          have hrow := hR.row
          rw [HB.out.1] at hrow
          obtain ⟨_, hl⟩ := lrow hrow hb hv (by rw [HB.out.2]; exact hlt)
          have hki : (k : Int) < (nR : Int) := by omega
          have hcs : (b.cs v).size = 4 := rfl
          have hst := srb_new wr hcs (hR.cs_one hb hv)
          have hok := hR.ok b (List.mem_of_getElem? hb)
          have hp := pow5 hok.1
          have hwd := hR.wds k b v hb hv
          obtain ⟨gw, cw, hvw, hzc, hcm, hcl⟩ := owns_cell hwd (by omega)
          have hgw := hwd.lt gw (by rw [hvw]; rfl)
          have k4 : Below wr.heap.size wr (wr.alloc (.cells (b.cs v) 84)) := (Below.refl _ _).alloc (Nat.le_refl _) _
          have b4 := Blk.new wr 84 (b.cs v)
          have hD4 := hD.later k4
          obtain ⟨W4, hW4⟩ : ∃ W4, wr.alloc (.cells (b.cs v) 84) = W4 := ⟨_, rfl⟩
          rw [hW4] at k4 b4 hD4 hst
          have s4 : W4.heap.size = wr.heap.size + 1 := by rw [← hW4]; simp
          have e0 : W4.cell? ⟨wr.heap.size, 0, none⟩ = some (.int .i64 (b.x : Int)) := b4.cell 0
          have e1 : W4.cell? ⟨wr.heap.size, 1, none⟩ = some (.int .i64 (b.c : Int)) := b4.cell 1
          have e2 : W4.cell? ⟨wr.heap.size, 2, none⟩ = some (.bool b.t) := b4.cell 2
          have e3 : W4.cell? ⟨wr.heap.size, 3, none⟩ = some v := b4.cell 3
          rw [hvw] at e3
          have hsrc : ∀ j u, (wvl b.ws)[j]? = some u → W4.cell? ((⟨gw, 0, none⟩ : Addr).add j) = some u := fun j u hj => by
            rw [Addr.add_lit, Nat.zero_add]
            exact (World.cell?_of_block (k4.block gw hgw.2)).trans (hcl j u hj)
          have HX := Lib.hid (And.intro hb (And.intro hD4 (And.intro b4 (And.intro hsrc (And.intro hch9 (And.intro hhd9 (And.intro hok (And.intro k4 s4))))))))
          have b4' := b4
          obtain ⟨V4, hV4⟩ : ∃ V4, b.cs v = V4 := ⟨_, rfl⟩
          rw [hV4] at hl hst hcs hW4 b4'
          have hl4 := lrb b4' hcs
          clear hb hD hD4 hR hrow hv hwd hcl hgw k4 b4 b4' hsrc hch9 hok hV4 hcm hzc s4 hhd9
          have hxz : b.x + 2 ^ b.c ≤ n := by omega
          have hxn : (b.x : Int) < (n : Int) := by omega
          rcases hbt : b.t with _ | _
          · -- it is free
            rw [hbt] at e2
            have hmem : b.x ∈ M.L b.c := (HK.out.2.2.1.mem b.c hc59 b.x).2 ⟨b.bl, List.mem_map.2 ⟨b, List.mem_of_getElem? HX.out.1, rfl⟩, rfl, rfl, hbt⟩
            obtain ⟨l1, r, hLs, hxl⟩ := split_of hmem (HK.out.2.2.1.nodup b.c hc59)
            have hnx := lst_next l1 (by have := HK.out.2.2.1.lst b.c hc59; rw [hLs] at this; exact this)
            have hbd : ∀ y ∈ r, y < 4294967296 := fun y hy => by
              obtain ⟨d, hd, hdx, _, _⟩ := HK.out.2.2.1.free_of hc59 (show y ∈ M.L b.c by rw [hLs]; simp [hy])
              have h1 := HK.out.2.2.1.lt_edge hd
              have h2 := HK.out.2.2.1.edge
              omega
            obtain ⟨nx, hnx9⟩ : ∃ nx, r.headD 0 = nx := ⟨_, rfl⟩
            have hfree : ∀ i, e + 1 < i → i < e + 1 + 2 ^ b.c → ws.getD i 0 = 0 := fun i h1 h2 => HK.out.2.2.2.1.nought b.bl (List.mem_map.2 ⟨b, List.mem_of_getElem? HX.out.1, rfl⟩) hbt i (by show b.x < i; omega) (by show i < b.x + 2 ^ b.c; omega)
            obtain ⟨S, hS⟩ : ∃ S : World → Prop, S = fun w' => Below W4.heap.size W4 w' := ⟨_, rfl⟩
            have hSb : ∀ w', S w' → Below W4.heap.size W4 w' := fun w' h' => by rw [hS] at h'; exact h'
            have hSs : ∀ w', Below W4.heap.size W4 w' → S w' := fun w' h' => by rw [hS]; exact h'
            have q0 : ∀ w', S w' → w'.cell? ⟨wr.heap.size, 0, none⟩ = some (.int .i64 (b.x : Int)) := fun w' h' => (HX.out.2.2.1.kept (Kept.of_below [] (hSb w' h')) (by simp)).cell 0
            have ql : ∀ w', S w' → (loadSem 36 (.pointer (some ⟨w.heap.size, 0, none⟩))).run Try.prog w' = .ok (.agg V) w' := fun w' h' => by rw [← HV.out]; exact lra (HX.out.2.1.later (hSb w' h')).bx rfl
            have qb : ∀ w', S w' → (loadSem 84 (.pointer (some ⟨wr.heap.size, 0, none⟩))).run Try.prog w' = .ok (.agg (b.cs v)) w' := fun w' h' => lrb (HX.out.2.2.1.kept (Kept.of_below [] (hSb w' h')) (by simp)) rfl
            have qn : ∀ w', S w' → Calls Try.prog 79 #[.agg V, .agg (b.cs v)] w' fun e w'' => e = .returned (.int .u32 (nx : Int)) ∧ S w'' := fun w' h' => by
              rw [← HV.out, ← hnx9]
              exact (rnext_any (HK.out.1.later (HX.out.2.1.later (hSb w' h')).hb) b v hc59 hLs hxl hbd).mono fun e w'' ⟨h1, h2⟩ => ⟨h1, hSs _ (bel_later (hSb w' h') h2)⟩
            have hS0 : S W4.drew := hSs _ ⟨rfl, rfl, rfl, Nat.le_refl _, fun _ _ => rfl⟩
            have HS := Lib.hid (And.intro hSb (And.intro hfree (And.intro hnx hnx9)))
            clear hS hSb hSs hmem hLs hxl hnx hbd hnx9 hfree
            obtain ⟨V5, hV5⟩ : ∃ V5, b.cs v = V5 := ⟨_, rfl⟩
            rw [hV5] at qb qn
            clear hV5
            have HX9 := Lib.hid (And.intro hx9 (And.intro hfit9 hxz))
            clear hx9 hfit9 hxz
            go_wp2_with fail
            refine wp_region_linB S [7] [0, 1, 2, 3, 4, 5, 6, 7] (by kernel_rfl) (by kernel_rfl) hS0 ?_
            (repeat (first | (refine linB_off rfl rfl (by rfl) ?_; (try simp only [Act.put, List.getElem_toArray, List.getElem_cons_zero, List.getElem_cons_succ, List.setIfInBounds_toArray, List.set_cons_zero, List.set_cons_succ])) | (refine linB_op (v := ?_) rfl rfl (by rfl) (fun w9 hS9 => ?_) ?_; rotate_left; (focus ((have k0 := q0 w9 hS9; have k1 := ql w9 hS9; have k2 := qb w9 hS9; (try dsimp only at hS9); go_simp; (try go_bits)) <;> with_reducible rfl)); (try simp only [Act.put, List.getElem_toArray, List.getElem_cons_zero, List.getElem_cons_succ, List.setIfInBounds_toArray, List.set_cons_zero, List.set_cons_succ])) | (refine linB_fn (f := 79) rfl rfl (by rfl) rfl rfl (enters_of Try.func79 (by kernel_rfl) rfl) (fun w9 hS9 => qn w9 hS9) ?_ ?_; (focus (simp [Act.eval]; done)); (try simp only [Act.put, List.getElem_toArray, List.getElem_cons_zero, List.getElem_cons_succ, List.setIfInBounds_toArray, List.set_cons_zero, List.set_cons_succ]))))
            refine linB_store rfl rfl (by rfl) (fun w9 hS9 => ?_)
            have hx9 := HX9.out.1
            have hfit9 := HX9.out.2.1
            have F9 := HX.out.2.1.later (HS.out.1 w9 hS9)
            have hlw : ws.length = n := Hn.out
            have k0 := F9.cell (i := b.x) (by rw [Pre.len ws (by omega)]; omega)
            have k1 := F9.ob.free b.x
            generalize (Pre ws e).getD b.x 0 = pk at *
            clear hx9
            refine ⟨w9.setCell ⟨w.heap.size + 1, b.x, none⟩ (.int .u32 (nx : Int)), by go_simp, ?_⟩
            have hx9 := HX9.out.1
            have G9 := F9.set b.x nx
            have z0 : (w9.setCell ⟨w.heap.size + 1, b.x, none⟩ (.int .u32 (nx : Int))).cell? ⟨wr.heap.size, 0, none⟩ = some (.int .i64 (b.x : Int)) := by
              have h1 := (HX.out.2.2.1.kept (Kept.of_below [] (HS.out.1 w9 hS9)) (by simp)).far (p := ⟨w.heap.size + 1, b.x, none⟩) (by have := F9.ob.lt; have := HX.out.2.1.ob; exact (HX.out.2.2.1.ne HX.out.2.1.ob (by decide))) (.int .u32 (nx : Int))
              exact h1.cell 0
            have o5 := G9.cell (i := e) (by rw [List.length_set, Pre.len ws (by omega)]; omega)
            have f5 := G9.ob.free e
            have G8 := G9.set e (hdN b.c false)
            rw [hx9, blk_free (y := nx) (h := hdN b.c false) hp.1 (by omega) HS.out.2.1 (by rw [← hx9, HS.out.2.2.1, HS.out.2.2.2]) (by rw [HX.out.2.2.2.2.2.1, hbt]), ← hx9, show ((hdN b.c false : Nat) : Int) = 16 + 2 * (b.c : Int) by simp [hdN]] at G8
            have HG := Lib.hid G8
            have hxe : (b.x : Int) - 1 = (e : Int) := by omega
            generalize ((Pre ws e).set b.x nx).getD e 0 = pe at *
            obtain ⟨W9, hW9⟩ : ∃ W9, w9.setCell ⟨w.heap.size + 1, b.x, none⟩ (.int .u32 (nx : Int)) = W9 := ⟨_, rfl⟩
            rw [hW9] at z0 o5 f5 HG ⊢
            clear q0 ql qb qn k0 k1 F9 G9 G8 hS9 hW9 hx9 hlw hS0 e0 e1 e2 e3 hl4 hst hl
            have hen : (e : Int) < (n : Int) := by omega
            have he0 : (0 : Int) ≤ (e : Int) := by omega
            go_wp2_with fail
            go_roundw
            case rel => exact ⟨k + 1, e + 1 + 2 ^ b.c, by omega, by go_num, by omega, HX.out.2.2.2.2.1, by have h9 := HG.out; rw [HX9.out.1] at h9; exact h9⟩
            case measure => simp [intOf]; omega
          · -- it is taken
            rw [hbt] at e2
            have hlw : ws.length = n := Hn.out
            have hpl : (Pre ws e).length = n := by rw [Pre.len ws (by omega), hlw]
            have hwq : ∀ j, j < 2 ^ b.c → b.ws.getD j 0 = ws.getD (e + 1 + j) 0 := fun j hj => by
              rw [HK.out.2.1.words b (List.mem_of_getElem? HX.out.1) hbt j hj, hx9]
            have D5 := HX.out.2.1.drew
            have hcp := fun ty => copy32_run (w := W4.drew) (g := w.heap.size + 1) (x := b.x) (m := 2 ^ b.c) (n := n - b.x) (dc := n - b.x) (sc := cw) (a := ⟨gw, 0, none⟩) (O := Pre ws e) (l := b.ws) ty D5.ob HX.out.2.2.2.2.2.2.1.2.1 (by omega) (by omega) HX.out.2.2.2.1
            have D6 := D5.row ((Pre ws e).take b.x ++ b.ws ++ (Pre ws e).drop (b.x + 2 ^ b.c))
            obtain ⟨O6, hO6⟩ : ∃ O6, (Pre ws e).take b.x ++ b.ws ++ (Pre ws e).drop (b.x + 2 ^ b.c) = O6 := ⟨_, rfl⟩
            have hl6 : O6.length = n := by rw [← hO6]; simp [hpl, HX.out.2.2.2.2.2.2.1.2.1]; omega
            rw [hO6] at hcp D6
            have z0 : (W4.drew.setRow (w.heap.size + 1) (wcs O6)).cell? ⟨wr.heap.size, 0, none⟩ = some (.int .i64 (b.x : Int)) := (World.cell?_of_block (setRow_other W4.drew (w.heap.size + 1) _ (wcs O6) (HX.out.2.2.1.ne HX.out.2.1.ob (by decide)))).trans e0
            have o5 := D6.cell (i := e) (by rw [hl6]; omega)
            have f5 := D6.ob.free e
            have G8 := D6.set e (hdN b.c true)
            rw [← hO6, hx9, blk_taken (h := hdN b.c true) HX.out.2.2.2.2.2.2.1.2.1 (by omega) hwq (by rw [HX.out.2.2.2.2.2.1, hbt]), ← hx9, hO6, show ((hdN b.c true : Nat) : Int) = 16 + 2 * (b.c : Int) + 1 by simp [hdN]] at G8
            have HG := Lib.hid G8
            have HX9 := Lib.hid (And.intro hx9 (And.intro hfit9 hxz))
            have hxe : (b.x : Int) - 1 = (e : Int) := by omega
            have hen : (e : Int) < (n : Int) := by omega
            have hxne : ¬ (b.x = n) := by omega
            have hxle : b.x ≤ n := by omega
            generalize O6.getD e 0 = pe at *
            obtain ⟨R6, hR6⟩ : ∃ R6, wcs O6 = R6 := ⟨_, rfl⟩
            rw [hR6] at hcp z0 o5 f5 HG
            clear D5 D6 G8 hx9 hfit9 hxz hwq hpl hlw hO6 hl6 hR6
            generalize hzz : 2 ^ b.c = zz at *
            go_wp2_with fail
            go_region
            clear hcp e0 e1 e2 e3 hl4 hst hl
            go_wp2_with fail
            go_roundw
            case rel => exact ⟨k + 1, e + 1 + zz, by omega, by go_num, by omega, HX.out.2.2.2.2.1, by have h9 := HG.out; rw [HX9.out.1] at h9; exact h9⟩
            case measure => simp [intOf]; omega
        · obtain rfl : k = nR := by omega
          have hdr : M.B.drop k = [] := List.drop_of_length_le (by have := HB.out.2; simp [Mo.B]; omega)
          rw [hdr] at hch
          have hee : e = ws.getD 15 0 := hch
          have hlw : ws.length = n := Hn.out
          have hpe : Pre ws e = ws := pre_edge (by rw [hee]; exact HK.out.2.2.1.edge) (fun i h1 h2 => HK.out.2.2.2.1.behind i (by rw [← hee]; exact h1) h2)
          rw [hpe] at hD
          have hown : wr.ownsRow w.heap.size 53 1 (.slice (some ⟨w.heap.size + 1, 0, none⟩) n n) n (wvl ws) := by
            rw [← hlw]
            exact ⟨by rw [wvl_len]; omega, .inr ⟨w.heap.size + 1, ws.length, wcs ws, rfl, by omega, hD.ob, Nat.le_refl _, by unfold maxLen; omega, by simp [wcs], (by rw [Nat.mul_one]; show (List.map _ ws).take ws.length = _; exact List.take_of_length_le (by simp))⟩⟩
          have HE := Lib.hid (And.intro hown hD.hb)
          clear hD hown hpe hee hch hdr
          go_wp2_with fail
          go_ret
          exact ⟨_, rfl, HE.out⟩
end
end Go.Proofs.Ytgnpoehcmlmajaa
