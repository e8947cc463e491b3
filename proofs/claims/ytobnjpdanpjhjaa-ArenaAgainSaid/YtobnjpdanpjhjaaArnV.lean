/-
  The walk of ArenaKeeps: a block keeps what it holds. Nothing here is a statement of the document.
-/
import Derived.Test.YtobnjpdanpjhjaaArnU
import Derived.Deep.DeepCutAuto
import Derived.Deep.CutBlock
namespace Go.Proofs.Ytobnjpdanpjhjaa
open Go.RowKit Go.Shelf
set_option linter.unusedVariables false

theorem place_200 (a : Int) : ∃ k : Nat, k < 200 ∧ (IntKind.u64.wrap a).tmod 200 = (k : Int) ∧ IntKind.u64.wrap a % 200 = (k : Int) := by
  have hw : 0 ≤ IntKind.u64.wrap a := by rw [IntKind.wrap_u64]; exact Int.emod_nonneg _ (by decide)
  generalize IntKind.u64.wrap a = t at *
  refine ⟨(t % 200).toNat, by omega, ?_, by omega⟩
  rw [Int.tmod_eq_emod_of_nonneg hw]; omega
def b17 : Bl := ⟨17, 1, true⟩
theorem acell_lt {w : World} {a : Addr} {v : Value} (h : w.cell? a = some v) : a.block < w.heap.size := by
  refine Nat.lt_of_not_le fun h9 => ?_
  have : w.heap[a.block]? = none := Array.getElem?_eq_none h9
  simp [World.cell?, this] at h

set_option maxRecDepth 100000 in
set_option maxHeartbeats 8000000 in
theorem keeps_walk (n : Int) (a : Option Addr) (cap : Nat) (l : List OpM) (x : Nat) (w : World) (h : Ops w a l) (hl : l.length ≤ 9223372036854775807) (hx : x < 4294967296) :
    Calls Try.prog 7 #[.int .i64 n, .slice a l.length cap, .int .u32 (x : Int)] w fun e w' => e = .returned (.bool true) ∧ Below w.heap.size w w' := by
  obtain ⟨m, hm, hm1, hm2⟩ := place_200 n
  obtain ⟨N, hN⟩ : ∃ N, 64 + m = N := ⟨_, rfl⟩
  have hN1 : (64 : Int) + (m : Int) = (N : Int) := by omega
  have hN2 : 64 ≤ N := by omega
  have hN3 : N ≤ 300 := by omega
  have HL := Lib.hid h
  clear h
  go_enter Try.func7, Try.ntmps7
  go_wp2_with fail
  refine (wakes6_any w).mono ?_
  rintro e W1 ⟨rfl, hb1⟩
  have H1 := Lib.hid hb1
  clear hb1
  go_wp2_with fail
  refine (new_yes N hN2 (by omega) W1).mono ?_
  rintro e W2 ⟨rfl, hA2, hb2⟩
  have hbw : Below w.heap.size w W2 := bel_later H1.out hb2
  have hpq : ∀ k ∈ [W1.heap.size, W1.heap.size + 1], w.heap.size ≤ k := by have := H1.out.size; simp; omega
  obtain ⟨g, hg⟩ : ∃ g, W1.heap.size + 2 = g := ⟨_, rfl⟩
  obtain ⟨p, hp⟩ : ∃ p, W1.heap.size = p := ⟨_, rfl⟩
  obtain ⟨q, hq⟩ : ∃ q, W1.heap.size + 1 = q := ⟨_, rfl⟩
  rw [hg, hq, hp] at hA2
  rw [hq, hp] at hpq
  rw [hg]
  clear hg hp hq H1 hb2
  have hI2 := inv_new hN2
  have e15 := newWs_15 hN2
  have hlen := newWs_len N
  have hal := alloc_grow hA2 1 (by omega) (newWs_get hN2 (by omega) (by omega)) (by rw [e15]; omega) (by rw [e15, hlen]; omega)
  have hI3 := hI2.grow hA2.len (c := 1) (by omega) (by rw [e15, hlen]; omega)
  rw [e15] at hal hI3
  go_wp2_with fail
  refine hal.mono ?_
  rintro e W3 ⟨rfl, hA3, k3⟩
  have hb3 := bel_kept hbw k3 hpq
  clear hal k3 hA2 hbw
  have hbm : b17 ∈ ([] ++ [⟨16 + 1, 1, true⟩] : List Bl) := by simp [b17]
  generalize ([] ++ [⟨16 + 1, 1, true⟩] : List Bl) = B0 at *
  generalize (fun x => [] : Nat → List Nat) = L0 at *
  have hI4 := hI3.store hbm rfl (i := 1) (by decide) x
  have hst := store_yes hA3 (hI3.yes hbm rfl) (i := 1) (by decide) x hx
  have hget : ((growW (newWs N) 1).set (17 + 1) x).getD 18 0 = x := by
    rw [getD_set _ _ _ _ _ (by have := hA3.lo; omega), if_pos rfl]
  go_wp2_with fail
  refine hst.mono ?_
  rintro e W4 ⟨rfl, hA4, k4⟩
  have hb4 := bel_kept hb3 k4 (fun k hk => hpq k (by simp at hk ⊢; exact .inl hk))
  clear hst k4 hA3 hb3 hI3 hI2 e15 hlen
  have H0 : ∃ ws bs B L, Ar W4 g p q ws bs ∧ Inv ws bs B L ∧ b17 ∈ B ∧ ws.getD 18 0 = x ∧ Below w.heap.size w W4 := ⟨_, _, _, _, hA4, hI4, hbm, hget, hb4⟩
  have HPQ := Lib.hid hpq
  have H00 := Lib.hid H0
  clear hA4 hI4 hbm hget hb4 H0 hpq
  go_upto_block 0 with (fail)
  go_cut [] from 7 (fun wc => Below w.heap.size w wc)
  case first =>
    go_wp2_with fail
    go_loopw [49] (fun i wr => ∃ k : Nat, k ≤ l.length ∧ i = .int .i64 k ∧ ∃ ws bs B L, Ar wr g p q ws bs ∧ Inv ws bs B L ∧ b17 ∈ B ∧ ws.getD 18 0 = x ∧ Below w.heap.size w wr) (fun i _ => l.length - (intOf i).toNat)
    case atStart => exact ⟨0, Nat.zero_le _, rfl, H00.out⟩
    case round =>
      obtain ⟨k, hk, rfl, ws, bs, B, L, hA, hI, hB, h18, hbb⟩ := hrel
      clear H00
      by_cases hlt : k < l.length
      · obtain ⟨y, hy⟩ : ∃ y, l[k]? = some y := ⟨_, List.getElem?_eq_getElem hlt⟩
        obtain ⟨b0, o0, rfl, hc, ho⟩ := HL.out.at hy
        have hcc : ∀ j, j < 7 → wr.cell? ⟨b0, o0 + k * 7 + j, none⟩ = (y.cs)[j]? := by
          intro j hj
          have h9 := hc j hj
          rw [← h9]
          have h8 : ∃ v, w.cell? ⟨b0, o0 + k * 7 + j, none⟩ = some v := by
            rw [h9]
            have : j < y.cs.size := by simp [OpM.cs]; omega
            exact ⟨_, Array.getElem?_eq_getElem this⟩
          obtain ⟨v, hv⟩ := h8
          exact hbb.cell (p := ⟨b0, o0 + k * 7 + j, none⟩) (acell_lt hv)
        have c0 := hcc 0 (by omega)
        have c1 := hcc 1 (by omega)
        have c2 := hcc 2 (by omega)
        have c3 := hcc 3 (by omega)
        have c4 := hcc 4 (by omega)
        have c5 := hcc 5 (by omega)
        have c6 := hcc 6 (by omega)
        obtain ⟨W5, hW5⟩ : ∃ W5, wr.alloc (.cells y.cs 38) = W5 := ⟨_, rfl⟩
        have hb5 : Below wr.heap.size wr W5 := by rw [← hW5]; exact (Below.refl _ _).alloc (Nat.le_refl _) _
        have bx5 : Blk W5 wr.heap.size 38 y.cs := by rw [← hW5]; exact Blk.new wr _ _
        have hA5 := hA.later hb5
        have hbb5 := bel_later hbb hb5
        have hkk : IntKind.u64.wrap y.kind = (unN y.kind : Int) := by rw [IntKind.wrap_u64]; unfold unN; omega
        have hk8 : (IntKind.u64.wrap y.kind).tmod 8 = (y.k : Int) := by rw [hkk]; rfl
        have hk7 : y.k < 8 := Nat.mod_lt _ (by omega)
        have hsk : (¬ (y.k = 2 ∨ y.k = 4 ∨ y.k = 5) ∨ y.row B ≠ 17) → ¬ y.sk B 17 := fun h1 h2 => by
          rcases h1 with h1 | h1
          · exact h1 h2.1
          · exact h1 h2.2.symm
        have hrw := fun (w6 : World) (h6 : Ar w6 g p q ws bs) => row_any h6 hI y ho
        have hrn := fun (w6 : World) (h6 : Ar w6 g p q ws bs) => run_any h6 hI y ho
        clear hkk hc hcc hy
        have HX := Lib.hid (And.intro hA (And.intro hA5 (And.intro hI (And.intro hB (And.intro h18 (And.intro hbb (And.intro hbb5 (And.intro hsk (And.intro bx5 hb5)))))))))
        clear hA hA5 hI hB h18 hbb hbb5 hsk hb5
        generalize y.row B = r at *
        generalize y.sk B = sk at *
        generalize y.k = kn at *
        have y0 := bx5.cell 0
        have y1 := bx5.cell 1
        have y2 := bx5.cell 2
        have y3 := bx5.cell 3
        have y4 := bx5.cell 4
        have y5 := bx5.cell 5
        have y6 := bx5.cell 6
        clear bx5 ho
        obtain ⟨z0, z1, z2, z3, z4, z5, z6⟩ := y
        simp only [OpM.cs, List.getElem?_toArray, List.getElem?_cons_zero, List.getElem?_cons_succ, Nat.add_zero] at c0 c1 c2 c3 c4 c5 c6 y0 y1 y2 y3 y4 y5 y6 hW5 hrw hrn
        have hki : (k : Int) < (l.length : Int) := by omega
        by_cases h40 : k = 40
        · subst h40
          go_wp2_with fail
          go_meet
          exact HX.out.2.2.2.2.2.2.1
        · have h40i : ¬ (k : Int) = 40 := by omega
          rcases (show kn = 0 ∨ kn = 1 ∨ kn = 2 ∨ kn = 3 ∨ kn = 4 ∨ kn = 5 ∨ kn = 6 ∨ kn = 7 by omega) with rfl | rfl | rfl | rfl | rfl | rfl | rfl | rfl
          · go_wp2_with fail
            refine (hrn W5 HX.out.2.1).mono ?_
            rintro e w7 ⟨rfl, ws', bs', B', L', hA7, hI7, hs7, k7⟩
            have hb7 := bel_kept HX.out.2.2.2.2.2.2.1 k7 HPQ.out
            obtain ⟨hB7, h187⟩ := hs7.keep b17 HX.out.2.2.2.1 rfl (HX.out.2.2.2.2.2.2.2.1 (.inl (by simp)))
            have hx7 : ws'.getD 18 0 = x := by rw [← HX.out.2.2.2.2.1]; exact h187 1 (by decide)
            have hld := load_yes hA7 (hI7.yes hB7 rfl) (i := 1) (by decide)
            rw [show b17.x + 1 = 18 from rfl, hx7] at hld
            clear c0 c1 c2 c3 c4 c5 c6 y0 y1 y2 y3 y4 y5 y6
            go_wp2_with fail
            refine hld.mono ?_
            rintro e w8 ⟨rfl, n8, hn8⟩
            have hA8 : Ar w8 g p q ws' bs' := by rw [hn8]; exact hA7.drewN n8
            have hb8 : Below w.heap.size w w8 := by rw [hn8]; exact below_drewN hb7 n8
            have HF := Lib.hid (And.intro hA8 (And.intro hI7 (And.intro hB7 (And.intro hx7 hb8))))
            clear hld hA7 hI7 hB7 hx7 hb7 hA8 hb8 hn8 h187 hs7 k7
            go_wp2_with fail
            go_roundw
            case rel => first | exact ⟨k + 1, by omega, by go_num, _, _, _, _, HF.out⟩ | ((repeat apply Exists.intro); exact ⟨⟨k + 1, by omega, by go_num, _, _, _, _, HF.out⟩, rfl⟩)
            case measure => simp [intOf]; omega
          · go_wp2_with fail
            refine (hrn W5 HX.out.2.1).mono ?_
            rintro e w7 ⟨rfl, ws', bs', B', L', hA7, hI7, hs7, k7⟩
            have hb7 := bel_kept HX.out.2.2.2.2.2.2.1 k7 HPQ.out
            obtain ⟨hB7, h187⟩ := hs7.keep b17 HX.out.2.2.2.1 rfl (HX.out.2.2.2.2.2.2.2.1 (.inl (by simp)))
            have hx7 : ws'.getD 18 0 = x := by rw [← HX.out.2.2.2.2.1]; exact h187 1 (by decide)
            have hld := load_yes hA7 (hI7.yes hB7 rfl) (i := 1) (by decide)
            rw [show b17.x + 1 = 18 from rfl, hx7] at hld
            clear c0 c1 c2 c3 c4 c5 c6 y0 y1 y2 y3 y4 y5 y6
            go_wp2_with fail
            refine hld.mono ?_
            rintro e w8 ⟨rfl, n8, hn8⟩
            have hA8 : Ar w8 g p q ws' bs' := by rw [hn8]; exact hA7.drewN n8
            have hb8 : Below w.heap.size w w8 := by rw [hn8]; exact below_drewN hb7 n8
            have HF := Lib.hid (And.intro hA8 (And.intro hI7 (And.intro hB7 (And.intro hx7 hb8))))
            clear hld hA7 hI7 hB7 hx7 hb7 hA8 hb8 hn8 h187 hs7 k7
            go_wp2_with fail
            go_roundw
            case rel => first | exact ⟨k + 1, by omega, by go_num, _, _, _, _, HF.out⟩ | ((repeat apply Exists.intro); exact ⟨⟨k + 1, by omega, by go_num, _, _, _, _, HF.out⟩, rfl⟩)
            case measure => simp [intOf]; omega
          · go_wp2_with fail
            refine (hrw W5 HX.out.2.1).mono ?_
            rintro e w6 ⟨rfl, hb6⟩
            have hA6 := HX.out.2.1.later hb6
            have hbb6 := bel_later HX.out.2.2.2.2.2.2.1 hb6
            have bx6 := HX.out.2.2.2.2.2.2.2.2.1.kept (Kept.of_below [] hb6) (by simp)
            have y0 := bx6.cell 0
            have y1 := bx6.cell 1
            have y2 := bx6.cell 2
            have y3 := bx6.cell 3
            have y4 := bx6.cell 4
            have y5 := bx6.cell 5
            have y6 := bx6.cell 6
            simp only [OpM.cs, List.getElem?_toArray, List.getElem?_cons_zero, List.getElem?_cons_succ] at y0 y1 y2 y3 y4 y5 y6
            have H6 := Lib.hid (And.intro hA6 hbb6)
            clear hA6 hbb6 bx6 hb6 hW5
            by_cases hr : r = 17
            · subst hr
              have HF := Lib.hid (And.intro H6.out.1 (And.intro HX.out.2.2.1 (And.intro HX.out.2.2.2.1 (And.intro HX.out.2.2.2.2.1 H6.out.2))))
              clear c0 c1 c2 c3 c4 c5 c6 y0 y1 y2 y3 y4 y5 y6
              go_wp2_with fail
              go_roundw
              case rel => first | exact ⟨k + 1, by omega, by go_num, _, _, _, _, HF.out⟩ | ((repeat apply Exists.intro); exact ⟨⟨k + 1, by omega, by go_num, _, _, _, _, HF.out⟩, rfl⟩)
              case measure => simp [intOf]; omega
            · go_wp2_with fail
              refine (hrn w6 H6.out.1).mono ?_
              rintro e w7 ⟨rfl, ws', bs', B', L', hA7, hI7, hs7, k7⟩
              have hb7 := bel_kept H6.out.2 k7 HPQ.out
              obtain ⟨hB7, h187⟩ := hs7.keep b17 HX.out.2.2.2.1 rfl (HX.out.2.2.2.2.2.2.2.1 (.inr hr))
              have hx7 : ws'.getD 18 0 = x := by rw [← HX.out.2.2.2.2.1]; exact h187 1 (by decide)
              have hld := load_yes hA7 (hI7.yes hB7 rfl) (i := 1) (by decide)
              rw [show b17.x + 1 = 18 from rfl, hx7] at hld
              clear c0 c1 c2 c3 c4 c5 c6 y0 y1 y2 y3 y4 y5 y6
              go_wp2_with fail
              refine hld.mono ?_
              rintro e w8 ⟨rfl, n8, hn8⟩
              have hA8 : Ar w8 g p q ws' bs' := by rw [hn8]; exact hA7.drewN n8
              have hb8 : Below w.heap.size w w8 := by rw [hn8]; exact below_drewN hb7 n8
              have HF := Lib.hid (And.intro hA8 (And.intro hI7 (And.intro hB7 (And.intro hx7 hb8))))
              clear hld hA7 hI7 hB7 hx7 hb7 hA8 hb8 hn8 h187 hs7 k7
              go_wp2_with fail
              go_roundw
              case rel => first | exact ⟨k + 1, by omega, by go_num, _, _, _, _, HF.out⟩ | ((repeat apply Exists.intro); exact ⟨⟨k + 1, by omega, by go_num, _, _, _, _, HF.out⟩, rfl⟩)
              case measure => simp [intOf]; omega
          · go_wp2_with fail
            refine (hrn W5 HX.out.2.1).mono ?_
            rintro e w7 ⟨rfl, ws', bs', B', L', hA7, hI7, hs7, k7⟩
            have hb7 := bel_kept HX.out.2.2.2.2.2.2.1 k7 HPQ.out
            obtain ⟨hB7, h187⟩ := hs7.keep b17 HX.out.2.2.2.1 rfl (HX.out.2.2.2.2.2.2.2.1 (.inl (by simp)))
            have hx7 : ws'.getD 18 0 = x := by rw [← HX.out.2.2.2.2.1]; exact h187 1 (by decide)
            have hld := load_yes hA7 (hI7.yes hB7 rfl) (i := 1) (by decide)
            rw [show b17.x + 1 = 18 from rfl, hx7] at hld
            clear c0 c1 c2 c3 c4 c5 c6 y0 y1 y2 y3 y4 y5 y6
            go_wp2_with fail
            refine hld.mono ?_
            rintro e w8 ⟨rfl, n8, hn8⟩
            have hA8 : Ar w8 g p q ws' bs' := by rw [hn8]; exact hA7.drewN n8
            have hb8 : Below w.heap.size w w8 := by rw [hn8]; exact below_drewN hb7 n8
            have HF := Lib.hid (And.intro hA8 (And.intro hI7 (And.intro hB7 (And.intro hx7 hb8))))
            clear hld hA7 hI7 hB7 hx7 hb7 hA8 hb8 hn8 h187 hs7 k7
            go_wp2_with fail
            go_roundw
            case rel => first | exact ⟨k + 1, by omega, by go_num, _, _, _, _, HF.out⟩ | ((repeat apply Exists.intro); exact ⟨⟨k + 1, by omega, by go_num, _, _, _, _, HF.out⟩, rfl⟩)
            case measure => simp [intOf]; omega
          · go_wp2_with fail
            refine (hrw W5 HX.out.2.1).mono ?_
            rintro e w6 ⟨rfl, hb6⟩
            have hA6 := HX.out.2.1.later hb6
            have hbb6 := bel_later HX.out.2.2.2.2.2.2.1 hb6
            have bx6 := HX.out.2.2.2.2.2.2.2.2.1.kept (Kept.of_below [] hb6) (by simp)
            have y0 := bx6.cell 0
            have y1 := bx6.cell 1
            have y2 := bx6.cell 2
            have y3 := bx6.cell 3
            have y4 := bx6.cell 4
            have y5 := bx6.cell 5
            have y6 := bx6.cell 6
            simp only [OpM.cs, List.getElem?_toArray, List.getElem?_cons_zero, List.getElem?_cons_succ] at y0 y1 y2 y3 y4 y5 y6
            have H6 := Lib.hid (And.intro hA6 hbb6)
            clear hA6 hbb6 bx6 hb6 hW5
            by_cases hr : r = 17
            · subst hr
              have HF := Lib.hid (And.intro H6.out.1 (And.intro HX.out.2.2.1 (And.intro HX.out.2.2.2.1 (And.intro HX.out.2.2.2.2.1 H6.out.2))))
              clear c0 c1 c2 c3 c4 c5 c6 y0 y1 y2 y3 y4 y5 y6
              go_wp2_with fail
              go_roundw
              case rel => first | exact ⟨k + 1, by omega, by go_num, _, _, _, _, HF.out⟩ | ((repeat apply Exists.intro); exact ⟨⟨k + 1, by omega, by go_num, _, _, _, _, HF.out⟩, rfl⟩)
              case measure => simp [intOf]; omega
            · go_wp2_with fail
              refine (hrn w6 H6.out.1).mono ?_
              rintro e w7 ⟨rfl, ws', bs', B', L', hA7, hI7, hs7, k7⟩
              have hb7 := bel_kept H6.out.2 k7 HPQ.out
              obtain ⟨hB7, h187⟩ := hs7.keep b17 HX.out.2.2.2.1 rfl (HX.out.2.2.2.2.2.2.2.1 (.inr hr))
              have hx7 : ws'.getD 18 0 = x := by rw [← HX.out.2.2.2.2.1]; exact h187 1 (by decide)
              have hld := load_yes hA7 (hI7.yes hB7 rfl) (i := 1) (by decide)
              rw [show b17.x + 1 = 18 from rfl, hx7] at hld
              clear c0 c1 c2 c3 c4 c5 c6 y0 y1 y2 y3 y4 y5 y6
              go_wp2_with fail
              refine hld.mono ?_
              rintro e w8 ⟨rfl, n8, hn8⟩
              have hA8 : Ar w8 g p q ws' bs' := by rw [hn8]; exact hA7.drewN n8
              have hb8 : Below w.heap.size w w8 := by rw [hn8]; exact below_drewN hb7 n8
              have HF := Lib.hid (And.intro hA8 (And.intro hI7 (And.intro hB7 (And.intro hx7 hb8))))
              clear hld hA7 hI7 hB7 hx7 hb7 hA8 hb8 hn8 h187 hs7 k7
              go_wp2_with fail
              go_roundw
              case rel => first | exact ⟨k + 1, by omega, by go_num, _, _, _, _, HF.out⟩ | ((repeat apply Exists.intro); exact ⟨⟨k + 1, by omega, by go_num, _, _, _, _, HF.out⟩, rfl⟩)
              case measure => simp [intOf]; omega
          · go_wp2_with fail
            refine (hrw W5 HX.out.2.1).mono ?_
            rintro e w6 ⟨rfl, hb6⟩
            have hA6 := HX.out.2.1.later hb6
            have hbb6 := bel_later HX.out.2.2.2.2.2.2.1 hb6
            have bx6 := HX.out.2.2.2.2.2.2.2.2.1.kept (Kept.of_below [] hb6) (by simp)
            have y0 := bx6.cell 0
            have y1 := bx6.cell 1
            have y2 := bx6.cell 2
            have y3 := bx6.cell 3
            have y4 := bx6.cell 4
            have y5 := bx6.cell 5
            have y6 := bx6.cell 6
            simp only [OpM.cs, List.getElem?_toArray, List.getElem?_cons_zero, List.getElem?_cons_succ] at y0 y1 y2 y3 y4 y5 y6
            have H6 := Lib.hid (And.intro hA6 hbb6)
            clear hA6 hbb6 bx6 hb6 hW5
            by_cases hr : r = 17
            · subst hr
              have HF := Lib.hid (And.intro H6.out.1 (And.intro HX.out.2.2.1 (And.intro HX.out.2.2.2.1 (And.intro HX.out.2.2.2.2.1 H6.out.2))))
              clear c0 c1 c2 c3 c4 c5 c6 y0 y1 y2 y3 y4 y5 y6
              go_wp2_with fail
              go_roundw
              case rel => first | exact ⟨k + 1, by omega, by go_num, _, _, _, _, HF.out⟩ | ((repeat apply Exists.intro); exact ⟨⟨k + 1, by omega, by go_num, _, _, _, _, HF.out⟩, rfl⟩)
              case measure => simp [intOf]; omega
            · go_wp2_with fail
              refine (hrn w6 H6.out.1).mono ?_
              rintro e w7 ⟨rfl, ws', bs', B', L', hA7, hI7, hs7, k7⟩
              have hb7 := bel_kept H6.out.2 k7 HPQ.out
              obtain ⟨hB7, h187⟩ := hs7.keep b17 HX.out.2.2.2.1 rfl (HX.out.2.2.2.2.2.2.2.1 (.inr hr))
              have hx7 : ws'.getD 18 0 = x := by rw [← HX.out.2.2.2.2.1]; exact h187 1 (by decide)
              have hld := load_yes hA7 (hI7.yes hB7 rfl) (i := 1) (by decide)
              rw [show b17.x + 1 = 18 from rfl, hx7] at hld
              clear c0 c1 c2 c3 c4 c5 c6 y0 y1 y2 y3 y4 y5 y6
              go_wp2_with fail
              refine hld.mono ?_
              rintro e w8 ⟨rfl, n8, hn8⟩
              have hA8 : Ar w8 g p q ws' bs' := by rw [hn8]; exact hA7.drewN n8
              have hb8 : Below w.heap.size w w8 := by rw [hn8]; exact below_drewN hb7 n8
              have HF := Lib.hid (And.intro hA8 (And.intro hI7 (And.intro hB7 (And.intro hx7 hb8))))
              clear hld hA7 hI7 hB7 hx7 hb7 hA8 hb8 hn8 h187 hs7 k7
              go_wp2_with fail
              go_roundw
              case rel => first | exact ⟨k + 1, by omega, by go_num, _, _, _, _, HF.out⟩ | ((repeat apply Exists.intro); exact ⟨⟨k + 1, by omega, by go_num, _, _, _, _, HF.out⟩, rfl⟩)
              case measure => simp [intOf]; omega
          · go_wp2_with fail
            refine (hrn W5 HX.out.2.1).mono ?_
            rintro e w7 ⟨rfl, ws', bs', B', L', hA7, hI7, hs7, k7⟩
            have hb7 := bel_kept HX.out.2.2.2.2.2.2.1 k7 HPQ.out
            obtain ⟨hB7, h187⟩ := hs7.keep b17 HX.out.2.2.2.1 rfl (HX.out.2.2.2.2.2.2.2.1 (.inl (by simp)))
            have hx7 : ws'.getD 18 0 = x := by rw [← HX.out.2.2.2.2.1]; exact h187 1 (by decide)
            have hld := load_yes hA7 (hI7.yes hB7 rfl) (i := 1) (by decide)
            rw [show b17.x + 1 = 18 from rfl, hx7] at hld
            clear c0 c1 c2 c3 c4 c5 c6 y0 y1 y2 y3 y4 y5 y6
            go_wp2_with fail
            refine hld.mono ?_
            rintro e w8 ⟨rfl, n8, hn8⟩
            have hA8 : Ar w8 g p q ws' bs' := by rw [hn8]; exact hA7.drewN n8
            have hb8 : Below w.heap.size w w8 := by rw [hn8]; exact below_drewN hb7 n8
            have HF := Lib.hid (And.intro hA8 (And.intro hI7 (And.intro hB7 (And.intro hx7 hb8))))
            clear hld hA7 hI7 hB7 hx7 hb7 hA8 hb8 hn8 h187 hs7 k7
            go_wp2_with fail
            go_roundw
            case rel => first | exact ⟨k + 1, by omega, by go_num, _, _, _, _, HF.out⟩ | ((repeat apply Exists.intro); exact ⟨⟨k + 1, by omega, by go_num, _, _, _, _, HF.out⟩, rfl⟩)
            case measure => simp [intOf]; omega
          · go_wp2_with fail
            refine (hrn W5 HX.out.2.1).mono ?_
            rintro e w7 ⟨rfl, ws', bs', B', L', hA7, hI7, hs7, k7⟩
            have hb7 := bel_kept HX.out.2.2.2.2.2.2.1 k7 HPQ.out
            obtain ⟨hB7, h187⟩ := hs7.keep b17 HX.out.2.2.2.1 rfl (HX.out.2.2.2.2.2.2.2.1 (.inl (by simp)))
            have hx7 : ws'.getD 18 0 = x := by rw [← HX.out.2.2.2.2.1]; exact h187 1 (by decide)
            have hld := load_yes hA7 (hI7.yes hB7 rfl) (i := 1) (by decide)
            rw [show b17.x + 1 = 18 from rfl, hx7] at hld
            clear c0 c1 c2 c3 c4 c5 c6 y0 y1 y2 y3 y4 y5 y6
            go_wp2_with fail
            refine hld.mono ?_
            rintro e w8 ⟨rfl, n8, hn8⟩
            have hA8 : Ar w8 g p q ws' bs' := by rw [hn8]; exact hA7.drewN n8
            have hb8 : Below w.heap.size w w8 := by rw [hn8]; exact below_drewN hb7 n8
            have HF := Lib.hid (And.intro hA8 (And.intro hI7 (And.intro hB7 (And.intro hx7 hb8))))
            clear hld hA7 hI7 hB7 hx7 hb7 hA8 hb8 hn8 h187 hs7 k7
            go_wp2_with fail
            go_roundw
            case rel => first | exact ⟨k + 1, by omega, by go_num, _, _, _, _, HF.out⟩ | ((repeat apply Exists.intro); exact ⟨⟨k + 1, by omega, by go_num, _, _, _, _, HF.out⟩, rfl⟩)
            case measure => simp [intOf]; omega
      · obtain rfl : k = l.length := by omega
        have HPk := Lib.hid hbb
        clear hA hI hB h18 hbb
        go_wp2_with fail
        go_meet
        exact HPk.out
  case rest =>
    have HC := Lib.hid hcut
    clear hcut H00
    go_wp2_with fail
    go_ret
    exact ⟨rfl, HC.out⟩
end Go.Proofs.Ytobnjpdanpjhjaa
