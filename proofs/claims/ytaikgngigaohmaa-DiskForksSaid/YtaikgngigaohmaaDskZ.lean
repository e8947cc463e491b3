/-
  The buffer has no more than it may, no sector twice, and what was written last: the walk of the whole law. Nothing here is a statement of the document.
-/
import Derived.Test.YtaikgngigaohmaaDskW
import Derived.Test.YtaikgngigaohmaaDskY
import Derived.DataShut
namespace Go.Proofs.Ytaikgngigaohmaa
open Go.RowKit Go.Shelf
set_option linter.unusedVariables false

theorem Deeds.at {w : World} {a : Option Addr} {l : List (Deed × List Bool)} (h : Deeds w a l) {i : Nat} {y : Deed × List Bool} (hi : l[i]? = some y) : ∃ b o, a = some ⟨b, o, none⟩ ∧ (∀ j, j < 5 → w.cell? ⟨b, o + (i * 5 + j), none⟩ = (y.1.cs)[j]?) ∧ Truths w y.1.ad y.2 ∧ y.2.length = y.1.len ∧ y.1.len ≤ y.1.cap ∧ y.1.cap ≤ maxLen ∧ (Lit.int .i64 y.1.sector).wf = true ∧ y.1.num ≤ 9223372036854775807 := by
  rcases h with rfl | ⟨x, rfl, h⟩
  · simp at hi
  · obtain ⟨h1, h2⟩ := h i y hi
    have hl : 0 < l.length := by have := (List.getElem?_eq_some_iff.1 hi).1; omega
    have h0 := (h 0 _ (List.getElem?_eq_getElem hl)).1 0 (by omega)
    obtain ⟨b, o, q⟩ := x
    have hq : q = none := by
      have h9 : ((l[0]).1.cs)[0]? = some (.int .i64 (l[0]).1.kind) := rfl
      rw [h9] at h0
      simpa [Addr.add] using World.cell?_spot h0
    subst hq
    exact ⟨b, o, rfl, fun j hj => by have h9 := h1 j hj; rw [Addr.add_lit] at h9; exact h9, h2⟩

/-- A row of sectors of the call's own: how it is written, and its cells. -/
theorem pend_of {w w' : World} {v : Value} {R : List Rw} (h : w'.ownsRow w.heap.size 3 1 v R.length (secs R)) :
    ∃ a c, v = .slice a R.length c ∧ ∀ (j : Nat) (r : Rw), R[j]? = some r → ∃ g, a = some ⟨g, 0, none⟩ ∧ g < w'.heap.size ∧ w'.cell? ⟨g, j, none⟩ = some (.int .i64 (r.s : Int)) := by
  rcases h.2 with ⟨rfl, h0⟩ | ⟨g, cap, cur, rfl, hB, hg, hc, hm, hsz, ht⟩
  · exact ⟨none, 0, by rw [h0], fun j r hj => by rw [List.length_eq_zero_iff.1 h0] at hj; simp at hj⟩
  · refine ⟨_, _, rfl, fun j r hj => ⟨g, rfl, (Array.getElem?_eq_some_iff.1 hg).1, ?_⟩⟩
    have hb : Blk w' g 3 cur := hg
    have hjl : j < R.length := (List.getElem?_eq_some_iff.1 hj).1
    have h9 : (cur.toList.take (R.length * 1))[j]? = (secs R)[j]? := by rw [ht]
    rw [List.getElem?_take, if_pos (by omega), secs, List.getElem?_map, hj, Option.map_some] at h9
    rw [hb.cell, ← Array.getElem?_toList, h9]

set_option maxRecDepth 100000 in
set_option maxHeartbeats 4000000 in
theorem buffer_walk (a : Option Addr) (cap : Nat) (l : List (Deed × List Bool)) (w : World) (h : Deeds w a l) (hl : l.length ≤ 9223372036854775807) :
    Calls Try.prog 6 #[.slice a l.length cap] w fun e w' => e = .returned (.bool true) ∧ Below w.heap.size w w' := by
  have HL := Lib.hid h
  clear h
  go_enter Try.func6, Try.ntmps6
  go_wp2_with fail
  refine (wakes_any w).mono ?_
  rintro e W1 ⟨rfl, hb1⟩
  have H1 := Lib.hid hb1
  clear hb1
  go_wp2_with fail
  refine (new_any 14 (by omega) (by omega) W1).mono ?_
  rintro e W2 ⟨rfl, hD, hb2⟩
  have hbw : Below w.heap.size w W2 := H1.out.trans (hb2.mono H1.out.size)
  have hB0 : w.heap.size ≤ W1.heap.size := H1.out.size
  generalize W1.heap.size = B at *
  clear H1 hb2
  go_wp2_with fail
  go_loopw [24] (fun i wr => ∃ k : Nat, k ≤ l.length ∧ i = .int .i64 k ∧ (∃ bv D, Dsk wr B (B + 1) B bv D ∧ D.plate.length = 14) ∧ Below w.heap.size w wr) (fun i _ => l.length - (intOf i).toNat)
  case atStart => exact ⟨0, Nat.zero_le _, rfl, ⟨_, _, hD, by simp [newM]⟩, hbw⟩
  case round =>
    obtain ⟨k, hk, rfl, ⟨bv, D, hDk, hpl⟩, hb⟩ := hrel
    clear hD hbw
    by_cases hlt : k < l.length
    · obtain ⟨⟨x, ks⟩, hy⟩ : ∃ y, l[k]? = some y := ⟨_, List.getElem?_eq_getElem hlt⟩
      obtain ⟨b0, o0, rfl, hc, hT, hx1, hx2, hx3, hx4, hx5⟩ := HL.out.at hy
      have HX := Lib.hid (And.intro hT (And.intro hx1 (And.intro hx2 (And.intro hx3 (And.intro hx4 hx5)))))
      have hcc : ∀ j, j < 5 → wr.cell? ⟨b0, o0 + k * 5 + j, none⟩ = (x.cs)[j]? := by
        intro j hj
        have h9 := hc j hj
        rw [← Nat.add_assoc] at h9
        rw [← h9]
        have h8 : ∃ v, w.cell? ⟨b0, o0 + k * 5 + j, none⟩ = some v := by
          rw [h9]
          have : j < x.cs.size := by simp [Deed.cs]; omega
          exact ⟨_, Array.getElem?_eq_getElem this⟩
        obtain ⟨v, hv⟩ := h8
        exact hb.cell (p := ⟨b0, o0 + k * 5 + j, none⟩) (cell_lt hv)
      have c0 := hcc 0 (by omega)
      have c1 := hcc 1 (by omega)
      have c2 := hcc 2 (by omega)
      have c3 := hcc 3 (by omega)
      have c4 := hcc 4 (by omega)
      obtain ⟨z0, z1, z2, z3, z4, z5, z6⟩ := x
      simp only [Deed.cs, List.getElem?_toArray, List.getElem?_cons_zero, List.getElem?_cons_succ, Nat.add_zero] at c0 c1 c2 c3 c4
      clear hc hcc hT hx1 hx2 hx3 hx4 hx5 hy
      have hki : (k : Int) < (l.length : Int) := by omega
      obtain ⟨W3, hW3⟩ : ∃ W3, wr.alloc (.cells #[.int .i64 z0, .int .i64 z1, .int .i64 z2, .int .u8 (z3 : Int), .slice z4 z5 z6] 36) = W3 := ⟨_, rfl⟩
      have hb3 : Below wr.heap.size wr W3 := by rw [← hW3]; exact (Below.refl _ _).alloc (Nat.le_refl _) _
      have b6 : Blk W3 wr.heap.size 36 (Deed.cs ⟨z0, z1, z2, z3, z4, z5, z6⟩) := by rw [← hW3]; exact Blk.new wr _ _
      have hbb : Below w.heap.size w W3 := hb.trans (hb3.mono hb.size)
      have hBr : B ≤ wr.heap.size := by have := hDk.hpb; have := hDk.plate.lt; omega
      have n6 : wr.heap.size ∉ fp (B + 1) B bv := hDk.beside (Nat.le_refl _)
      have hD3 := hDk.later hb3
      have H3 := Lib.hid (And.intro hbb (And.intro b6 (And.intro hBr (And.intro n6 (And.intro hD3 (And.intro hb3 hpl))))))
      clear hDk hpl hb hb3 b6 hbb hBr n6 hD3
      go_wp2_with fail
      · go_ret
        exact ⟨rfl, H3.out.1⟩
      · clear hW3 c0 c1 c2 c3 c4
        refine (pending_any H3.out.2.2.2.2.1).mono ?_
        rintro e W4 ⟨v, rfl, hown4, hb4⟩
        obtain ⟨va, vc, rfl, _⟩ := pend_of hown4
        have b6 := H3.out.2.1.kept (Kept.of_below [] hb4) (by simp)
        have c0 := b6.cell 0
        have c1 := b6.cell 1
        have c2 := b6.cell 2
        have c3 := b6.cell 3
        have c4 := b6.cell 4
        simp only [Deed.cs, List.getElem?_toArray, List.getElem?_cons_zero, List.getElem?_cons_succ, Nat.add_zero] at c0 c1 c2 c3 c4
        have hD4 := H3.out.2.2.2.2.1.later hb4
        have hbb4 : Below w.heap.size w W4 := H3.out.1.trans (hb4.mono H3.out.1.size)
        have hBW4 : B ≤ W4.heap.size := Nat.le_trans H3.out.2.2.1 (Nat.le_trans H3.out.2.2.2.2.2.1.size hb4.size)
        have hdo := does_any hD4 hBW4 ⟨z0, z1, z2, z3, z4, z5, z6⟩ ks (HX.out.1.below hbb4) HX.out.2.1 HX.out.2.2.1 HX.out.2.2.2.1 HX.out.2.2.2.2.2
        have r1 := doesM_len D ⟨z0, z1, z2, z3, z4, z5, z6⟩ ks
        have r2 := doesM_fails D ⟨z0, z1, z2, z3, z4, z5, z6⟩ ks
        have r3 := doesM_clear D ⟨z0, z1, z2, z3, z4, z5, z6⟩ ks
        have r4 := doesM_put D ⟨z0, z1, z2, z3, z4, z5, z6⟩ ks
        generalize doesM D ⟨z0, z1, z2, z3, z4, z5, z6⟩ ks = R at hdo r1 r2 r3 r4
        obtain ⟨D5, rb, re⟩ := R
        have HR := Lib.hid (And.intro (r1.trans H3.out.2.2.2.2.2.2) (And.intro r2 (And.intro r3 r4)))
        have H4 := Lib.hid (And.intro hbb4 (And.intro b6 (And.intro hD4 (And.intro hBW4 hb4))))
        simp only [Deed.cs] at hdo
        clear hown4 hb4 b6 hD4 hbb4 hBW4 r1 r2 r3 r4
        go_wp2_with fail
        refine hdo.mono ?_
        rintro e W5 ⟨rfl, bv5, hD5, hG5⟩
        clear hdo c0 c1 c2 c3 c4
        have b6 := H4.out.2.1.kept hG5.kept H3.out.2.2.2.1
        have hbb5 : Below w.heap.size w W5 := H4.out.1.trans ((hG5.below H4.out.2.2.1 H4.out.2.2.2.1).mono hB0)
        obtain ⟨W6, hW6⟩ : ∃ W6, W5.alloc (.cells Bk.zero.cs 38) = W6 := ⟨_, rfl⟩
        have hb6 : Below W5.heap.size W5 W6 := by rw [← hW6]; exact (Below.refl _ _).alloc (Nat.le_refl _) _
        have b8 : Blk W6 W5.heap.size 38 Bk.zero.cs := by rw [← hW6]; exact Blk.new W5 _ _
        obtain ⟨W7, hW7⟩ : ∃ W7, W6.setRow W5.heap.size rb.cs = W7 := ⟨_, rfl⟩
        have hb7 : Below W5.heap.size W5 W7 := by rw [← hW7]; exact below_setRow hb6 (Nat.le_refl _) _
        have hD7 := hD5.later hb7
        have hfit : 0 + rb.cs.size ≤ Bk.zero.cs.size := by rw [Bk.size, Bk.size]; omega
        have ho := over_all (C := Bk.zero.cs) (vs := rb.cs) (by rw [Bk.size, Bk.size])
        have HO := Lib.hid ho
        have hbb7 : Below w.heap.size w W7 := hbb5.trans (hb7.mono hbb5.size)
        have b67 := b6.kept (Kept.of_below [] hb7) (by simp)
        have H7 := Lib.hid (And.intro hbb7 (And.intro b67 hD7))
        have HF := Lib.hid hfit
        clear hD5 hG5 b6 hbb5 hb6 hb7 hD7 ho hbb7 b67 hfit
        go_wp2_with (first | (with_reducible refine wpList_alloc_z rfl 38 rfl Bk.zero.cs 64 z_blk ?_; rw [hW6]) | (with_reducible refine wpList_store_blk rfl 38 (.tmp 8) (.tmp 37) rfl W5.heap.size 0 rb.cs Bk.zero.cs _ rfl rfl b8 HF.out (s_blk rb) rb.one ?_; rw [HO.out, hW7]))
        clear hW6 hW7 b8
        refine (pending_any H7.out.2.2).mono ?_
        rintro e W8 ⟨v8, rfl, hown8, hb8⟩
        obtain ⟨va8, vc8, rfl, hcell8⟩ := pend_of hown8
        have hok := H7.out.2.2.ok
        have hbb8 : Below w.heap.size w W8 := H7.out.1.trans (hb8.mono H7.out.1.size)
        have b68 := H7.out.2.1.kept (Kept.of_below [] hb8) (by simp)
        obtain ⟨W9, hW9⟩ : ∃ W9, W8.alloc (.map #[] 0) = W9 := ⟨_, rfl⟩
        have hb9 : Below W8.heap.size W8 W9 := by rw [← hW9]; exact (Below.refl _ _).alloc (Nat.le_refl _) _
        have hM9 : Met W9 W8.heap.size [] := by rw [← hW9]; exact Met.new W8
        have H9 := Lib.hid (And.intro hbb8 (And.intro b68 (And.intro (H7.out.2.2.later hb8) (And.intro hb9 (And.intro hM9 (And.intro hok hcell8))))))
        have hmk : (Instr.makeMap 55 none).run Try.prog W8 = .ok (.map (some W8.heap.size)) W9 := by rw [← hW9]; exact run_makeMap _ _
        clear hown8 hb8 hcell8 hok hbb8 b68 hW9 hb9 hM9
        go_wp2_with fail
        generalize wr.heap.size = q at *
        go_loopw [44] (fun i wi => ∃ j : Nat, j ≤ D5.rows.length ∧ i = .int .i64 j ∧ Met wi W8.heap.size ((D5.rows.take j).map (fun r => (r.s : Int))) ∧ Kept [W8.heap.size] W9 wi) (fun i _ => D5.rows.length - (intOf i).toNat)
        case atStart => exact ⟨0, Nat.zero_le _, rfl, H9.out.2.2.2.2.1, Kept.refl _ _⟩
        case round =>
          obtain ⟨j, hj, rfl, hM, hK⟩ := hrel
          clear hmk
          by_cases hjl : j < D5.rows.length
          · obtain ⟨r, hr⟩ : ∃ r, D5.rows[j]? = some r := ⟨_, List.getElem?_eq_getElem hjl⟩
            obtain ⟨g, rfl, hgl, hcg⟩ := H9.out.2.2.2.2.2.2 j r hr
            have hcg1 : wr.cell? ⟨g, j, none⟩ = some (.int .i64 (r.s : Int)) := by
              refine (World.cell?_of_block (w := W9) (hK.block g (Nat.lt_of_lt_of_le hgl H9.out.2.2.2.1.size) (by simp; omega))).trans ?_
              exact (H9.out.2.2.2.1.cell (p := ⟨g, j, none⟩) hgl).trans hcg
            have hmem : r ∈ D5.rows := List.mem_of_getElem? hr
            have hs14 : r.s < 14 := by have := H9.out.2.2.2.2.2.1.at_ r hmem; have := HR.out.1; omega
            have hlen8 := H9.out.2.2.2.2.2.1.held
            have hnm : (r.s : Int) ∉ (D5.rows.take j).map (fun r => (r.s : Int)) := by
              intro hm
              obtain ⟨r2, hr2, he2⟩ := List.mem_map.1 hm
              obtain ⟨i2, hi2, hri⟩ := List.mem_iff_getElem.1 hr2
              have hi2j : i2 < j := by simp only [List.length_take] at hi2; omega
              rw [List.getElem_take] at hri
              have hnd := H9.out.2.2.2.2.2.1.once
              refine (List.pairwise_iff_getElem.1 hnd) i2 j (by simp; omega) (by simpa using hjl) hi2j ?_
              have hrj : D5.rows[j] = r := by
                have h9 := List.getElem?_eq_getElem hjl
                rw [hr] at h9
                injection h9 with h9
                exact h9.symm
              rw [List.getElem_map, List.getElem_map, hri, hrj]
              omega
            have hwf : (Lit.int .i64 (r.s : Int)).wf = true := by
              rw [Lit.wf_int_iff]
              have e1 : IntKind.i64.min = -9223372036854775808 := by decide
              have e2 : IntKind.i64.max = 9223372036854775807 := by decide
              rw [e1, e2]
              omega
            have hlook := hM.look (r.s : Int) hwf
            rw [decide_eq_false hnm] at hlook
            obtain ⟨wn, hput, hM', hg'⟩ := hM.put (r.s : Int) hwf (by rw [List.length_map, List.length_take]; unfold maxLen; omega)
            have htk : (D5.rows.take (j + 1)).map (fun r => (r.s : Int)) = (D5.rows.take j).map (fun r => (r.s : Int)) ++ [(r.s : Int)] := by
              rw [List.take_add_one, hr]
              simp
            rw [← htk] at hM'
            have hK' : Kept [W8.heap.size] W9 wn := hK.grown hg' (by intro q9 hq9; injection hq9 with hq9; subst hq9; simp)
            have HM := Lib.hid (And.intro hM' hK')
            have g0 : decide ((r.s : Int) < 0) = false := by simp
            have g14 : decide ((14 : Int) ≤ (r.s : Int)) = false := by simp; omega
            generalize ((r.s : Nat) : Int) = sv at *
            have hji : (j : Int) < (D5.rows.length : Int) := by omega
            clear hM hK hM' hK' hnm hwf htk hcg hmem hs14 hr hg' hgl
            go_wp2
            go_roundw
            case rel => exact ⟨j + 1, by omega, by go_num, HM.out.1, HM.out.2⟩
            case measure => simp [intOf]; omega
          · obtain rfl : j = D5.rows.length := by omega
            rw [List.take_length] at hM
            have hbK : Below w.heap.size w wr := by
              have h1 : Below w.heap.size w W9 := H9.out.1.trans (H9.out.2.2.2.1.mono H9.out.1.size)
              exact h1.trans (hK.below (by simpa using H9.out.1.size) h1.size)
            have hbw : W8.heap.size ∉ fp (B + 1) B bv5 := H9.out.2.2.1.beside (Nat.le_refl _)
            have hDi : Dsk wr B (B + 1) B bv5 D5 := (H9.out.2.2.1.later H9.out.2.2.2.1).apart hK (by simpa using hbw)
            have b6i := (H9.out.2.1.kept (Kept.of_below [] H9.out.2.2.2.1) (by simp)).kept hK (by have := H9.out.2.1.lt; simp; omega)
            have H10 := Lib.hid (And.intro hM (And.intro hbK (And.intro b6i hDi)))
            have g8 : decide ((8 : Int) < (D5.rows.length : Int)) = false := by have := hDi.ok.held; simp; omega
            have hP : Below wr.heap.size wr wr := Below.refl _ _
            have c0 : wr.cell? ⟨q, 0, none⟩ = some (.int .i64 z0) := (b6i.cell 0).trans rfl
            have c1 : wr.cell? ⟨q, 1, none⟩ = some (.int .i64 z1) := (b6i.cell 1).trans rfl
            have c2 : wr.cell? ⟨q, 2, none⟩ = some (.int .i64 z2) := (b6i.cell 2).trans rfl
            have c3 : wr.cell? ⟨q, 3, none⟩ = some (.int .u8 (z3 : Int)) := (b6i.cell 3).trans rfl
            have c4 : wr.cell? ⟨q, 4, none⟩ = some (.slice z4 z5 z6) := (b6i.cell 4).trans rfl
            have hkd := fun W => kind_any ⟨z0, z1, z2, z3, z4, z5, z6⟩ W
            have hput := HR.out.2.2.2
            have hclr := HR.out.2.2.1
            have hfail := HR.out.2.1
            simp only [Deed.cs] at hkd
            generalize Deed.k ⟨z0, z1, z2, z3, z4, z5, z6⟩ = kk at hkd hput hclr
            clear hM hbK hbw hDi b6i hK hjl hj
            by_cases he : re = 0
            · subst he
              by_cases h5 : kk < 5
              · have hin : z1 ∈ D5.rows.map (fun r => (r.s : Int)) := by
                  obtain ⟨r, hr, hrs⟩ := hput h5 rfl
                  exact List.mem_map.2 ⟨r, hr, hrs⟩
                have hdin := decide_eq_true hin
                have g5 : decide ((kk : Int) < 5) = true := by simp; omega
                have g6 : ((kk : Int) == 6) = false := by simp; omega
                have g9 : ((kk : Int) == 9) = false := by simp; omega
                have HKd := Lib.hid hkd
                have HDin := Lib.hid hdin
                clear hkd hput hclr hfail hin hdin
                go_wp2_with (first | (go_at_call 22; refine (HKd.out _).mono ?_; rintro e w' ⟨rfl, hbk⟩; have hP := hP.trans (hbk.mono hP.size); have b6k := H10.out.2.2.1.kept (Kept.of_below [] hP) (by simp); have c0 : w'.cell? ⟨q, 0, none⟩ = some (.int .i64 z0) := (b6k.cell 0).trans rfl; have c1 : w'.cell? ⟨q, 1, none⟩ = some (.int .i64 z1) := (b6k.cell 1).trans rfl; have c2 : w'.cell? ⟨q, 2, none⟩ = some (.int .i64 z2) := (b6k.cell 2).trans rfl; have c3 : w'.cell? ⟨q, 3, none⟩ = some (.int .u8 (z3 : Int)) := (b6k.cell 3).trans rfl; have c4 : w'.cell? ⟨q, 4, none⟩ = some (.slice z4 z5 z6) := (b6k.cell 4).trans rfl; have hlk := (H10.out.1.below hP).look z1 HX.out.2.2.2.2.1; rw [HDin.out] at hlk; have hbk := True.intro))
                go_roundw
                case rel => exact ⟨k + 1, by omega, by go_num, ⟨bv5, D5, H10.out.2.2.2.later hP, HR.out.1⟩, H10.out.2.1.trans (hP.mono H10.out.2.1.size)⟩
                case measure => simp [intOf]; omega
              · by_cases h6 : kk = 6 ∨ kk = 9
                · have hr0 := hclr h6 rfl
                  have gr0 : ((D5.rows.length : Int) != 0) = false := by rw [hr0]; rfl
                  have g5 : decide ((kk : Int) < 5) = false := by simp; omega
                  have HKd := Lib.hid hkd
                  clear hkd hput hclr hfail hr0 h5
                  rcases h6 with rfl | rfl
                  · go_wp2_with (first | (go_at_call 22; refine (HKd.out _).mono ?_; rintro e w' ⟨rfl, hbk⟩; have hP := hP.trans (hbk.mono hP.size); have b6k := H10.out.2.2.1.kept (Kept.of_below [] hP) (by simp); have c0 : w'.cell? ⟨q, 0, none⟩ = some (.int .i64 z0) := (b6k.cell 0).trans rfl; have c1 : w'.cell? ⟨q, 1, none⟩ = some (.int .i64 z1) := (b6k.cell 1).trans rfl; have c2 : w'.cell? ⟨q, 2, none⟩ = some (.int .i64 z2) := (b6k.cell 2).trans rfl; have c3 : w'.cell? ⟨q, 3, none⟩ = some (.int .u8 (z3 : Int)) := (b6k.cell 3).trans rfl; have c4 : w'.cell? ⟨q, 4, none⟩ = some (.slice z4 z5 z6) := (b6k.cell 4).trans rfl; have hbk := True.intro))
                    go_roundw
                    case rel => exact ⟨k + 1, by omega, by go_num, ⟨bv5, D5, H10.out.2.2.2.later hP, HR.out.1⟩, H10.out.2.1.trans (hP.mono H10.out.2.1.size)⟩
                    case measure => simp [intOf]; omega
                  · go_wp2_with (first | (go_at_call 22; refine (HKd.out _).mono ?_; rintro e w' ⟨rfl, hbk⟩; have hP := hP.trans (hbk.mono hP.size); have b6k := H10.out.2.2.1.kept (Kept.of_below [] hP) (by simp); have c0 : w'.cell? ⟨q, 0, none⟩ = some (.int .i64 z0) := (b6k.cell 0).trans rfl; have c1 : w'.cell? ⟨q, 1, none⟩ = some (.int .i64 z1) := (b6k.cell 1).trans rfl; have c2 : w'.cell? ⟨q, 2, none⟩ = some (.int .i64 z2) := (b6k.cell 2).trans rfl; have c3 : w'.cell? ⟨q, 3, none⟩ = some (.int .u8 (z3 : Int)) := (b6k.cell 3).trans rfl; have c4 : w'.cell? ⟨q, 4, none⟩ = some (.slice z4 z5 z6) := (b6k.cell 4).trans rfl; have hbk := True.intro))
                    go_roundw
                    case rel => exact ⟨k + 1, by omega, by go_num, ⟨bv5, D5, H10.out.2.2.2.later hP, HR.out.1⟩, H10.out.2.1.trans (hP.mono H10.out.2.1.size)⟩
                    case measure => simp [intOf]; omega
                · have g5 : decide ((kk : Int) < 5) = false := by simp; omega
                  have g6 : ((kk : Int) == 6) = false := by simp; omega
                  have g9 : ((kk : Int) == 9) = false := by simp; omega
                  have HKd := Lib.hid hkd
                  clear hkd hput hclr hfail h5 h6
                  go_wp2_with (first | (go_at_call 22; refine (HKd.out _).mono ?_; rintro e w' ⟨rfl, hbk⟩; have hP := hP.trans (hbk.mono hP.size); have b6k := H10.out.2.2.1.kept (Kept.of_below [] hP) (by simp); have c0 : w'.cell? ⟨q, 0, none⟩ = some (.int .i64 z0) := (b6k.cell 0).trans rfl; have c1 : w'.cell? ⟨q, 1, none⟩ = some (.int .i64 z1) := (b6k.cell 1).trans rfl; have c2 : w'.cell? ⟨q, 2, none⟩ = some (.int .i64 z2) := (b6k.cell 2).trans rfl; have c3 : w'.cell? ⟨q, 3, none⟩ = some (.int .u8 (z3 : Int)) := (b6k.cell 3).trans rfl; have c4 : w'.cell? ⟨q, 4, none⟩ = some (.slice z4 z5 z6) := (b6k.cell 4).trans rfl; have hbk := True.intro))
                  go_roundw
                  case rel => exact ⟨k + 1, by omega, by go_num, ⟨bv5, D5, H10.out.2.2.2.later hP, HR.out.1⟩, H10.out.2.1.trans (hP.mono H10.out.2.1.size)⟩
                  case measure => simp [intOf]; omega
            · have hrows := hfail he
              have e0 : (re == 0) = false := by simpa using he
              have e1 : (re != 0) = true := by simpa using he
              have e2 : ((D5.rows.length : Int) != (D.rows.length : Int)) = false := by rw [hrows]; simp
              have HKd := Lib.hid hkd
              clear hkd hput hclr hfail hrows he
              go_wp2_with (first | (go_at_call 22; refine (HKd.out _).mono ?_; rintro e w' ⟨rfl, hbk⟩; have hP := hP.trans (hbk.mono hP.size); have b6k := H10.out.2.2.1.kept (Kept.of_below [] hP) (by simp); have c0 : w'.cell? ⟨q, 0, none⟩ = some (.int .i64 z0) := (b6k.cell 0).trans rfl; have c1 : w'.cell? ⟨q, 1, none⟩ = some (.int .i64 z1) := (b6k.cell 1).trans rfl; have c2 : w'.cell? ⟨q, 2, none⟩ = some (.int .i64 z2) := (b6k.cell 2).trans rfl; have c3 : w'.cell? ⟨q, 3, none⟩ = some (.int .u8 (z3 : Int)) := (b6k.cell 3).trans rfl; have c4 : w'.cell? ⟨q, 4, none⟩ = some (.slice z4 z5 z6) := (b6k.cell 4).trans rfl; have hbk := True.intro))
              go_roundw
              case rel => exact ⟨k + 1, by omega, by go_num, ⟨bv5, D5, H10.out.2.2.2.later hP, HR.out.1⟩, H10.out.2.1.trans (hP.mono H10.out.2.1.size)⟩
              case measure => simp [intOf]; omega
    · obtain rfl : k = l.length := by omega
      clear hlt hk hDk
      go_wp2
      go_ret
      exact ⟨rfl, hb⟩
end Go.Proofs.Ytaikgngigaohmaa
