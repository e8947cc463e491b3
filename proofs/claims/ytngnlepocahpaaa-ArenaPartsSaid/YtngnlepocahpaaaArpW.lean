/-
  The walk of ArenaParts: all words are blocks or behind them, and what is decoded is the arena again. Nothing here is a statement of the document.
-/
import Derived.Test.YtngnlepocahpaaaArpH
import Derived.Test.YtngnlepocahpaaaArnX
import Derived.Deep.DeepCutAuto
import Derived.Deep.CutBlock
namespace Go.Proofs.Ytngnlepocahpaaa
open Go.RowKit Go.Shelf
set_option linter.unusedVariables false

theorem place_200 (a : Int) : ∃ k : Nat, k < 200 ∧ (IntKind.u64.wrap a).tmod 200 = (k : Int) ∧ IntKind.u64.wrap a % 200 = (k : Int) := by
  have hw : 0 ≤ IntKind.u64.wrap a := by rw [IntKind.wrap_u64]; exact Int.emod_nonneg _ (by decide)
  generalize IntKind.u64.wrap a = t at *
  refine ⟨(t % 200).toNat, by omega, ?_, by omega⟩
  rw [Int.tmod_eq_emod_of_nonneg hw]; omega
theorem acell_lt {w : World} {a : Addr} {v : Value} (h : w.cell? a = some v) : a.block < w.heap.size := by
  refine Nat.lt_of_not_le fun h9 => ?_
  have : w.heap[a.block]? = none := Array.getElem?_eq_none h9
  simp [World.cell?, this] at h

set_option maxRecDepth 100000 in
set_option maxHeartbeats 8000000 in
theorem parts_walk (n : Int) (a : Option Addr) (cap : Nat) (l : List OpM) (w : World) (h : Ops w a l) (hl : l.length ≤ 9223372036854775807) :
    Calls Try.prog 5 #[.int .i64 n, .slice a l.length cap] w fun e w' => e = .returned (.bool true) ∧ Below w.heap.size w w' := by
  obtain ⟨m, hm, hm1, hm2⟩ := place_200 n
  obtain ⟨N, hN⟩ : ∃ N, 64 + m = N := ⟨_, rfl⟩
  have hN1 : (64 : Int) + (m : Int) = (N : Int) := by omega
  have hN2 : 64 ≤ N := by omega
  have hN3 : N ≤ 300 := by omega
  have HL := Lib.hid h
  clear h
  go_enter Try.func5, Try.ntmps5
  go_wp2_with fail
  refine (wakes6_any w).mono ?_
  rintro e W1 ⟨rfl, hb1⟩
  have H1 := Lib.hid hb1
  clear hb1
  go_wp2_with fail
  refine (new_yes N hN2 (by omega) W1).mono ?_
  rintro e W2 ⟨rfl, hA2, hb2⟩
  have hbw : Below w.heap.size w W2 := bel_later H1.out hb2
  have hpq : ∀ k ∈ [W1.heap.size, W1.heap.size + 1], w.heap.size ≤ k := by have := H1.out.size; simp; omega
  obtain ⟨g, hg⟩ : ∃ g, W1.heap.size + 2 = g := ⟨_, rfl⟩
  obtain ⟨p, hp⟩ : ∃ p, W1.heap.size = p := ⟨_, rfl⟩
  obtain ⟨q, hq⟩ : ∃ q, W1.heap.size + 1 = q := ⟨_, rfl⟩
  rw [hg, hq, hp] at hA2
  rw [hq, hp] at hpq
  rw [hg]
  clear hg hp hq H1 hb2
  have H0 : ∃ ws bs B L, Ar W2 g p q ws bs ∧ Inv ws bs B L ∧ Nice ws B ∧ ws.length = N ∧ Below w.heap.size w W2 := ⟨_, _, _, _, hA2, inv_new hN2, nice_new hN2, newWs_len N, hbw⟩
  have HPQ := Lib.hid hpq
  have H00 := Lib.hid H0
  clear hA2 hbw H0 hpq
  go_upto_block 0 with (fail)
  go_cut [] from 7 (fun wc => ∃ ws bs B L, Ar wc g p q ws bs ∧ Inv ws bs B L ∧ Nice ws B ∧ ws.length = N ∧ Below w.heap.size w wc)
  case first =>
    go_wp2_with fail
    go_loopw [34] (fun i wr => ∃ k : Nat, k ≤ l.length ∧ i = .int .i64 k ∧ ∃ ws bs B L, Ar wr g p q ws bs ∧ Inv ws bs B L ∧ Nice ws B ∧ ws.length = N ∧ Below w.heap.size w wr) (fun i _ => l.length - (intOf i).toNat)
    case atStart => exact ⟨0, Nat.zero_le _, rfl, H00.out⟩
    case round =>
      obtain ⟨k, hk, rfl, ws, bs, B, L, hA, hI, hNc, hlen, hbb⟩ := hrel
      clear H00
      by_cases hlt : k < l.length
      · skip
        obtain ⟨y, hy⟩ : ∃ y, l[k]? = some y := ⟨_, List.getElem?_eq_getElem hlt⟩
        obtain ⟨b0, o0, rfl, hc, ho⟩ := HL.out.at hy
        have hcc : ∀ j, j < 7 → wr.cell? ⟨b0, o0 + k * 7 + j, none⟩ = (y.cs)[j]? := by
          intro j hj
          have h9 := hc j hj
          rw [← h9]
          have h8 : ∃ v, w.cell? ⟨b0, o0 + k * 7 + j, none⟩ = some v := by
            rw [h9]
            have : j < y.cs.size := by simp [OpM.cs]; omega
            exact ⟨_, Array.getElem?_eq_getElem this⟩
          obtain ⟨v, hv⟩ := h8
          exact hbb.cell (p := ⟨b0, o0 + k * 7 + j, none⟩) (acell_lt hv)
        have c0 := hcc 0 (by omega)
        have c1 := hcc 1 (by omega)
        have c2 := hcc 2 (by omega)
        have c3 := hcc 3 (by omega)
        have c4 := hcc 4 (by omega)
        have c5 := hcc 5 (by omega)
        have c6 := hcc 6 (by omega)
        obtain ⟨W5, hW5⟩ : ∃ W5, wr.alloc (.cells y.cs 38) = W5 := ⟨_, rfl⟩
        have hb5 : Below wr.heap.size wr W5 := by rw [← hW5]; exact (Below.refl _ _).alloc (Nat.le_refl _) _
        have bx5 : Blk W5 wr.heap.size 38 y.cs := by rw [← hW5]; exact Blk.new wr _ _
        have hA5 := hA.later hb5
        have hbb5 := bel_later hbb hb5
        have hrn := fun (w6 : World) (h6 : Ar w6 g p q ws bs) => run_any h6 hI y ho
        have hro := root_any hA5
        unfold rootCs rtcs at hro
        obtain ⟨r1, hr1⟩ : ∃ r, twoN ws 1 = r := ⟨_, rfl⟩
        obtain ⟨r3, hr3⟩ : ∃ r, twoN ws 3 = r := ⟨_, rfl⟩
        obtain ⟨r5, hr5⟩ : ∃ r, ws.getD 5 0 = r := ⟨_, rfl⟩
        obtain ⟨r6, hr6⟩ : ∃ r, ws.getD 6 0 = r := ⟨_, rfl⟩
        obtain ⟨fc, hfc⟩ : ∃ r, twoN ws 7 = r := ⟨_, rfl⟩
        rw [hr1, hr3, hr5, hr6] at hro
        have HR := Lib.hid (And.intro hr1 (And.intro hr3 (And.intro hr5 (And.intro hr6 hfc))))
        clear hr1 hr3 hr5 hr6 hfc
        have HX := Lib.hid (And.intro hA (And.intro hA5 (And.intro hI (And.intro hNc (And.intro hlen (And.intro hbb (And.intro hbb5 (And.intro bx5 (And.intro hb5 hrn)))))))))
        clear hA hA5 hI hNc hlen hbb hbb5 hb5 hc hcc hy hrn
        have y0 := bx5.cell 0
        have y1 := bx5.cell 1
        have y2 := bx5.cell 2
        have y3 := bx5.cell 3
        have y4 := bx5.cell 4
        have y5 := bx5.cell 5
        have y6 := bx5.cell 6
        clear bx5 ho
        generalize y.sk B = sk at *
        obtain ⟨z0, z1, z2, z3, z4, z5, z6⟩ := y
        simp only [OpM.cs, List.getElem?_toArray, List.getElem?_cons_zero, List.getElem?_cons_succ, Nat.add_zero] at c0 c1 c2 c3 c4 c5 c6 y0 y1 y2 y3 y4 y5 y6 hW5
        have hki : (k : Int) < (l.length : Int) := by omega
        by_cases h60 : k = 60
        · subst h60
          go_wp2_with fail
          go_meet
          exact ⟨_, _, _, _, HX.out.2.1, HX.out.2.2.1, HX.out.2.2.2.1, HX.out.2.2.2.2.1, HX.out.2.2.2.2.2.2.1⟩
        · have h60i : ¬ (k : Int) = 60 := by omega
          go_wp2_with fail
          refine hro.mono ?_
          rintro e w6 ⟨rfl, hb6⟩
          clear hro
          have hA6 := HX.out.2.1.later hb6
          have hfe := fence_any hA6
          rw [HR.out.2.2.2.2] at hfe
          have H6 := Lib.hid (And.intro hA6 hb6)
          clear hA6 hb6
          go_wp2_with fail
          refine hfe.mono ?_
          rintro e w7 ⟨rfl, n7, hn7⟩
          clear hfe
          have hA7 : Ar w7 g p q ws bs := by rw [hn7]; exact H6.out.1.drewN n7
          have hb7 : Below W5.heap.size W5 w7 := by rw [hn7]; exact below_drewN H6.out.2 n7
          clear hn7
          obtain ⟨W8, hW8⟩ : ∃ W8, w7.alloc (.cells #[.int .u64 (r1 : Int), .int .u64 (r3 : Int), .int .i64 (r5 : Int), .int .i64 (r6 : Int)] 34) = W8 := ⟨_, rfl⟩
          have kb8 : Below w7.heap.size w7 W8 := by rw [← hW8]; exact (Below.refl _ _).alloc (Nat.le_refl _) _
          have bx8 : Blk W8 w7.heap.size 34 #[.int .u64 (r1 : Int), .int .u64 (r3 : Int), .int .i64 (r5 : Int), .int .i64 (r6 : Int)] := by rw [← hW8]; exact Blk.new w7 _ _
          have hb8 := bel_tr4 hb7 kb8
          have HS7 := Lib.hid (And.intro hb7.size (And.intro HX.out.2.1.wds.lt HX.out.2.1.bgs.lt))
          have bo8 : Blk W8 wr.heap.size 38 _ := HX.out.2.2.2.2.2.2.2.1.kept (Kept.of_below [] hb8) (by simp)
          have y0 := bo8.cell 0
          have y1 := bo8.cell 1
          have y2 := bo8.cell 2
          have y3 := bo8.cell 3
          have y4 := bo8.cell 4
          have y5 := bo8.cell 5
          have y6 := bo8.cell 6
          simp only [OpM.cs, List.getElem?_toArray, List.getElem?_cons_zero, List.getElem?_cons_succ] at y0 y1 y2 y3 y4 y5 y6
          have hA8 := hA7.later kb8
          have hru := HX.out.2.2.2.2.2.2.2.2.2 W8 hA8
          have H8 := Lib.hid (And.intro hA8 (And.intro bx8 hb8))
          have hbw8 := bel_later HX.out.2.2.2.2.2.2.1 hb8
          have HB8 := Lib.hid hbw8
          clear hA7 hb7 kb8 bx8 hb8 bo8 hA8 hbw8
          go_wp2_with fail
          refine hru.mono ?_
          rintro e w9 ⟨rfl, ws', bs', B', L', hA9, hI9, hs9, k9⟩
          have hb9 := bel_kept HB8.out k9 HPQ.out
          have hlen9 : ws'.length = N := hs9.len.trans HX.out.2.2.2.2.1
          have hpa := parted_any hA9 hI9.chain hI9.edge N hlen9
          have bx9 : Blk w9 w7.heap.size 34 _ := H8.out.2.1.kept k9 (by have := HS7.out; simp; omega)
          have hN9 := hs9.nice HX.out.2.2.2.1
          have hfe9 : fc ≤ twoN ws' 7 := by have := hs9.fence; rw [HR.out.2.2.2.2] at this; exact this
          have H9 := Lib.hid (And.intro hA9 (And.intro hI9 (And.intro hs9 (And.intro hb9 (And.intro hlen9 (And.intro bx9 (And.intro hN9 hfe9)))))))
          clear hA9 hI9 hs9 hb9 hlen9 bx9 hN9 hfe9 k9 hru
          have hTA : ∀ w', Below w9.heap.size w9 w' → Ar w' g p q ws' bs' := fun w' h => H9.out.1.later h
          obtain ⟨f9, hf9⟩ : ∃ r, twoN ws' 7 = r := ⟨_, rfl⟩
          obtain ⟨s1, hs1⟩ : ∃ r, twoN ws' 1 = r := ⟨_, rfl⟩
          obtain ⟨s3, hs3⟩ : ∃ r, twoN ws' 3 = r := ⟨_, rfl⟩
          obtain ⟨s5, hs5⟩ : ∃ r, ws'.getD 5 0 = r := ⟨_, rfl⟩
          obtain ⟨s6, hs6⟩ : ∃ r, ws'.getD 6 0 = r := ⟨_, rfl⟩
          have hcase : (s1 = r1 ∧ s3 = r3 ∧ s5 = r5 ∧ s6 = r6) ∨ (s1 = r1 + 1 ∧ fc ≤ s3) := by
            have hh := HR.out
            rcases H9.out.2.2.1.root with h9 | h9
            · refine .inl ⟨?_, ?_, ?_, ?_⟩
              · rw [← hs1, ← hh.1]; exact twoN_same (h9 1 (by omega) (by omega)) (h9 2 (by omega) (by omega))
              · rw [← hs3, ← hh.2.1]; exact twoN_same (h9 3 (by omega) (by omega)) (h9 4 (by omega) (by omega))
              · rw [← hs5, ← hh.2.2.1]; exact h9 5 (by omega) (by omega)
              · rw [← hs6, ← hh.2.2.2.1]; exact h9 6 (by omega) (by omega)
            · rw [hs1, hs3, hh.1, hh.2.2.2.2] at h9
              exact .inr h9
          have hs1b : s1 < 18446744073709551616 := by rw [← hs1]; exact twoN_lt H9.out.1 1
          have hf9l : fc ≤ f9 := by rw [← hf9]; exact H9.out.2.2.2.2.2.2.2
          obtain ⟨T, hT⟩ : ∃ T : World → Prop, T = fun w' => Below w9.heap.size w9 w' := ⟨_, rfl⟩
          have hT0 : T w9.drew := by rw [hT]; exact ⟨rfl, rfl, rfl, Nat.le_refl _, fun _ _ => rfl⟩
          have hpaS : ∀ w', T w' → Calls Try.prog 15 #[.pointer (some ⟨g, 0, none⟩), .int .i64 (N : Int)] w' fun e w2 => e = .returned (.bool true) ∧ T w2 := by
            rw [hT]; exact fun w' h' => (parted_any (hTA w' h') H9.out.2.1.chain H9.out.2.1.edge N H9.out.2.2.2.2.1).mono fun e w2 h => ⟨h.1, bel_tr4 h' h.2⟩
          have hfeS : ∀ w', T w' → Calls Try.prog 13 #[.pointer (some ⟨g, 0, none⟩)] w' fun e w2 => e = .returned (.int .u64 (f9 : Int)) ∧ T w2 := by
            rw [hT, ← hf9]; exact fun w' h' => (fence_any (hTA w' h')).mono fun e w2 ⟨h1, n, h2⟩ => ⟨h1, by rw [h2]; exact below_drewN h' n⟩
          have hroS : ∀ w', T w' → Calls Try.prog 12 #[.pointer (some ⟨g, 0, none⟩)] w' fun e w2 => e = .returned (.agg #[.int .u64 (s1 : Int), .int .u64 (s3 : Int), .int .i64 (s5 : Int), .int .i64 (s6 : Int)]) ∧ T w2 := by
            rw [hT, ← hs1, ← hs3, ← hs5, ← hs6]; exact fun w' h' => (root_any (hTA w' h')).mono fun e w2 ⟨h1, h2⟩ => ⟨h1, bel_tr4 h' h2⟩
          have x0 : ∀ w', T w' → w'.cell? ⟨w7.heap.size, 0, none⟩ = some (.int .u64 (r1 : Int)) := by
            rw [hT]; exact fun w' h' => (show Blk w' w7.heap.size 34 #[.int .u64 (r1 : Int), .int .u64 (r3 : Int), .int .i64 (r5 : Int), .int .i64 (r6 : Int)] from (h'.block _ H9.out.2.2.2.2.2.1.lt).trans H9.out.2.2.2.2.2.1).cell 0
          have df : decide ((f9 : Int) < (fc : Int)) = false := decide_eq_false (by omega)
          have df2 : decide (f9 < fc) = false := decide_eq_false (by omega)
          have dv2 : decide (s1 < r1) = false := decide_eq_false (by rcases hcase with h9 | h9 <;> omega)
          have dv : decide ((s1 : Int) < (r1 : Int)) = false := decide_eq_false (by rcases hcase with h9 | h9 <;> omega)
          have HT := Lib.hid (And.intro hT (And.intro hcase (And.intro hs1b hroS)))
          have hfd := fun w' => (show (Instr.field 34 (.agg #[.int .u64 (s1 : Int), .int .u64 (s3 : Int), .int .i64 (s5 : Int), .int .i64 (s6 : Int)]) 0).run Try.prog w' = .ok (.int .u64 (s1 : Int)) w' by kernel_rfl)
          clear hpa hTA hf9 hs1 hs3 hs5 hs6 hcase hs1b hf9l hT
          go_wp2_with fail
          refine wp_region_linB T [] [0, 1, 2, 3, 4, 5, 6, 7, 8, 9, 10, 11, 12, 13, 14, 15, 16, 17] (by kernel_rfl) (by kernel_rfl) hT0 ?_
          (repeat (first | (refine linB_off rfl rfl (by rfl) ?_; (try simp only [Act.put, List.getElem_toArray, List.getElem_cons_zero, List.getElem_cons_succ, List.setIfInBounds_toArray, List.set_cons_zero, List.set_cons_succ])) | (refine linB_op (v := ?_) rfl rfl (by rfl) (fun w9 hS9 => ?_) ?_; rotate_left; (focus ((have k0 := x0 w9 hS9; (try dsimp only at hS9); go_simp; (try go_bits)) <;> with_reducible rfl)); (try simp only [Act.put, List.getElem_toArray, List.getElem_cons_zero, List.getElem_cons_succ, List.setIfInBounds_toArray, List.set_cons_zero, List.set_cons_succ])) | (refine linB_fn (f := 15) rfl rfl (by rfl) rfl rfl (enters_of Try.func15 (by kernel_rfl) rfl) (fun w9 hS9 => hpaS w9 hS9) ?_ ?_; (focus (simp [Act.eval]; done)); (try simp only [Act.put, List.getElem_toArray, List.getElem_cons_zero, List.getElem_cons_succ, List.setIfInBounds_toArray, List.set_cons_zero, List.set_cons_succ])) | (refine linB_fn (f := 13) rfl rfl (by rfl) rfl rfl (enters_of Try.func13 (by kernel_rfl) rfl) (fun w9 hS9 => hfeS w9 hS9) ?_ ?_; (focus (simp [Act.eval]; done)); (try simp only [Act.put, List.getElem_toArray, List.getElem_cons_zero, List.getElem_cons_succ, List.setIfInBounds_toArray, List.set_cons_zero, List.set_cons_succ])) | (refine linB_fn (f := 12) rfl rfl (by rfl) rfl rfl (enters_of Try.func12 (by kernel_rfl) rfl) (fun w9 hS9 => hroS w9 hS9) ?_ ?_; (focus (simp [Act.eval]; done)); (try simp only [Act.put, List.getElem_toArray, List.getElem_cons_zero, List.getElem_cons_succ, List.setIfInBounds_toArray, List.set_cons_zero, List.set_cons_succ]))))
          refine linB_nil (fun w12 hT12 => ?_)
          have hro12 := hroS w12 hT12
          clear hpaS hfeS hroS hT0 x0
          go_wp2_with fail
          refine hro12.mono ?_
          rintro e w13 ⟨rfl, hT13⟩
          clear hro12
          have hb13 : Below w9.heap.size w9 w13 := by rw [HT.out.1] at hT13; exact hT13
          obtain ⟨W14, hW14⟩ : ∃ W14, w13.alloc (.cells #[.int .u64 (s1 : Int), .int .u64 (s3 : Int), .int .i64 (s5 : Int), .int .i64 (s6 : Int)] 34) = W14 := ⟨_, rfl⟩
          have kb14 : Below w13.heap.size w13 W14 := by rw [← hW14]; exact (Below.refl _ _).alloc (Nat.le_refl _) _
          have bx14 : Blk W14 w13.heap.size 34 #[.int .u64 (s1 : Int), .int .u64 (s3 : Int), .int .i64 (s5 : Int), .int .i64 (s6 : Int)] := by rw [← hW14]; exact Blk.new w13 _ _
          have hb14 := bel_tr4 hb13 kb14
          have bx9 : Blk W14 w7.heap.size 34 #[.int .u64 (r1 : Int), .int .u64 (r3 : Int), .int .i64 (r5 : Int), .int .i64 (r6 : Int)] := (hb14.block _ H9.out.2.2.2.2.2.1.lt).trans H9.out.2.2.2.2.2.1
          have n0 := bx14.cell 0
          have n1 := bx14.cell 1
          have n2 := bx14.cell 2
          have n3 := bx14.cell 3
          have o0' := bx9.cell 0
          have o1' := bx9.cell 1
          have o2' := bx9.cell 2
          have o3' := bx9.cell 3
          simp only [List.getElem?_toArray, List.getElem?_cons_zero, List.getElem?_cons_succ] at n0 n1 n2 n3 o0' o1' o2' o3'
          have HE := Lib.hid (And.intro (H9.out.1.later hb14) (And.intro H9.out.2.1 (And.intro H9.out.2.2.2.2.2.2.1 (And.intro H9.out.2.2.2.2.1 (bel_later H9.out.2.2.2.1 hb14)))))
          have hcs := HT.out.2.1
          have hsb := HT.out.2.2.1
          clear hb13 kb14 bx14 bx9 hb14 hT13
          rcases hcs with ⟨rfl, rfl, rfl, rfl⟩ | ⟨hs1, hs3⟩
          · go_wp2_with fail
            go_roundw
            case rel => first | exact ⟨k + 1, by omega, by go_num, _, _, _, _, HE.out⟩ | ((repeat apply Exists.intro); exact ⟨⟨k + 1, by omega, by go_num, _, _, _, _, HE.out⟩, rfl⟩)
            case measure => simp [intOf]; omega
          · have e1 : ¬ (s1 : Int) = (r1 : Int) := by omega
            have e2 : ¬ s1 = r1 := by omega
            have hwr : IntKind.u64.wrap ((r1 : Int) + 1) = (s1 : Int) := by
              rw [IntKind.wrap_u64]; omega
            have dq : decide ((s3 : Int) < (fc : Int)) = false := decide_eq_false (by omega)
            have dq2 : decide (s3 < fc) = false := decide_eq_false (by omega)
            have HS := Lib.hid (And.intro hs1 (And.intro hs3 hsb))
            clear hs1 hs3 hsb
            go_wp2_with fail
            go_roundw
            case rel => first | exact ⟨k + 1, by omega, by go_num, _, _, _, _, HE.out⟩ | ((repeat apply Exists.intro); exact ⟨⟨k + 1, by omega, by go_num, _, _, _, _, HE.out⟩, rfl⟩)
            case measure => simp [intOf]; omega
      · have e : k = l.length := by omega
        subst e
        have HE := Lib.hid (And.intro hA (And.intro hI (And.intro hNc (And.intro hlen hbb))))
        clear hA hI hNc hlen hbb
        go_wp2_with fail
        go_meet
        exact ⟨_, _, _, _, HE.out⟩
  case rest =>
    obtain ⟨ws, bs, B, L, hA, hI, hNc, hlen, hbb⟩ := hcut
    clear H00
    have hen := encode_cap hA
    have hdc := dec_of hA hI hNc
    have HD := Lib.hid (And.intro hA (And.intro hI (And.intro hdc (And.intro hlen hbb))))
    clear hA hI hNc hlen hbb hdc
    go_wp2_with fail
    refine hen.mono ?_
    rintro e w1 ⟨b1, c1, rfl, hL1, hg1, hb1, hc1⟩
    clear hen
    have hde := decode_any HD.out.2.2.1 b1 (4 * ws.length) c1 rfl hc1 w1 hL1
    have H1 := Lib.hid hb1
    clear hL1 hg1 hb1 hc1
    go_wp2_with fail
    refine hde.mono ?_
    rintro e w2 ⟨ga, pp, qq, rfl, hA2, hb2⟩
    clear hde
    have hb02 := bel_tr4 H1.out hb2
    have hen1 := encode_cap (HD.out.1.later hb02)
    have H2 := Lib.hid (And.intro hA2 hb02)
    clear hA2 hb2 hb02
    go_wp2_with fail
    refine hen1.mono ?_
    rintro e w3 ⟨b3, c3, rfl, hL3, hg3, hb3, hc3⟩
    clear hen1
    have hen2 := encode_cap (H2.out.1.later hb3)
    have H3 := Lib.hid (And.intro hL3 hb3)
    clear hL3 hg3 hb3 hc3
    go_wp2_with fail
    refine hen2.mono ?_
    rintro e w4 ⟨b4, c4, rfl, hL4, hg4, hb4, hc4⟩
    clear hen2
    have heq := bequal_any (some ⟨b3, 0, none⟩) (some ⟨b4, 0, none⟩) (4 * ws.length) c3 (4 * ws.length) c4 (wbytes ws) (wbytes ws) w4 (wbytes_len ws) (wbytes_len ws) (wbytes_bys ws) (wbytes_bys ws) (H3.out.1.kept hb4) hL4
    rw [show (wbytes ws == wbytes ws) = true from by simp] at heq
    have hb34 := bel_tr4 H3.out.2 hb4
    have hpa := parted_any (H2.out.1.later hb34) HD.out.2.2.1.chain HD.out.2.2.1.edge N HD.out.2.2.2.1
    have hfin := bel_later HD.out.2.2.2.2 (bel_tr4 H2.out.2 hb34)
    have H4 := Lib.hid hfin
    clear hL4 hg4 hb4 hc4 hb34 hfin
    go_wp2_with fail
    refine heq.mono ?_
    rintro e w5 ⟨rfl, rfl⟩
    clear heq
    go_wp2_with fail
    refine hpa.mono ?_
    rintro e w6 ⟨rfl, hb6⟩
    have hend := bel_later H4.out hb6
    have HE := Lib.hid hend
    clear hend hb6
    go_wp2_with fail
    go_ret
    exact ⟨rfl, HE.out⟩
end Go.Proofs.Ytngnlepocahpaaa
