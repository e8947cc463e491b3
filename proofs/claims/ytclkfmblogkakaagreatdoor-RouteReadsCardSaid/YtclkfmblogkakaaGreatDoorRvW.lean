/-
  The contracts of the reader's end, and of what is called when the reading leaves. Nothing here is a statement of the document.
-/
import Derived.Test.YtclkfmblogkakaaGreatDoorRvU
import Derived.Defers
import Derived.Recover
namespace Go.Proofs.YtclkfmblogkakaaGreatDoor
open Go.RowKit Go.Shelf
set_option linter.unusedVariables false
set_option maxRecDepth 100000
/-- What one call of the reader came to. -/
structure Got (w w' : World) (e : Ending) (r g : Nat) (wr : Int) (v : Value) (E : Int) (R : List Nat) : Prop where
  kept : Kept [r] w w'
  good : E = 0 → e = .returned v ∧ RdAt w' r g R wr
  bad : E ≠ 0 → e = .panicked (flt E)
theorem Got.of_ok {w w' : World} {e : Ending} {r g : Nat} {wr : Int} {v : Value} {R : List Nat} (k : Kept [r] w w') (h1 : e = .returned v) (h2 : RdAt w' r g R wr) : Got w w' e r g wr v 0 R := ⟨k, fun _ => ⟨h1, h2⟩, fun h => absurd rfl h⟩
theorem Got.of_bad {w w' : World} {e : Ending} {r g : Nat} {wr : Int} {v : Value} {E : Int} {R : List Nat} (k : Kept [r] w w') (hE : E ≠ 0) (h1 : e = .panicked (flt E)) : Got w w' e r g wr v E R := ⟨k, fun h => absurd h hE, fun _ => h1⟩
theorem build_upd_rule (ps : Array (Nat × Value)) : Instr.build 46 ps = buildSem 46 ps := rfl
theorem build_up5 (p : Px) (s f h : Int) (g : Bool) (w : World) : (buildSem 46 #[(0, .agg p.cs), (1, .int .i64 s), (2, .bool g), (3, .int .i64 f), (4, .int .i64 h)]).run Tryz.prog w = .ok (.agg (Up.mk p s g f h).cs) w := by
  unfold Up.cs
  show (buildSem 46 #[(0, .agg p.cs), (1, .int .i64 s), (2, .bool g), (3, .int .i64 f), (4, .int .i64 h)]).run Tryz.prog w = .ok (.agg (p.cs ++ #[.int .i64 s, .bool g, .int .i64 f, .int .i64 h])) w
  unfold Px.cs Ad.cs
  obtain ⟨a0, a1, a2, a3, a4, a5, a6, a7, a8, a9, a10, a11, a12, a13, a14, a15, hh⟩ := p.a.b.out
  rw [hh]
  kernel_rfl
attribute [local go_sem ↓] load_b16_rule store_b16_rule load_ad_rule store_ad_rule load_px_rule store_px_rule load_ro_rule store_ro_rule load_up_rule store_up_rule build_ro_rule build_upd_rule
theorem kept_rc {S : List Nat} {a b c : World} (h : Kept S a b) (k : Kept S b c) : Kept S a c := kept_trans h k
set_option maxHeartbeats 1600000 in
theorem rflag_any {w : World} {r g x : Nat} {R : List Nat} {wr : Int} {b : Bool} (h : RdAt w r g (x :: R) wr) (hx : x ≤ 1) (hb : b = decide (x = 1)) (hl : R.length ≤ 10000) :
    Calls Tryz.prog 44 #[.pointer (some ⟨r, 0, none⟩)] w fun e w' => e = .returned (.bool b) ∧ RdAt w' r g R wr ∧ Kept [r] w w' := by
  have HC := rnum_any h (by omega) hl
  clear h hl
  rcases (show x = 0 ∨ x = 1 by omega) with rfl | rfl
  · have hb2 : b = false := by rw [hb]; rfl
    clear hb
    go_enter Tryz.func44, Tryz.ntmps44
    go_wp2_with fail
    refine HC.mono ?_
    rintro e W1 ⟨rfl, hR1⟩
    have HS := Lib.hid hR1
    clear hR1 HC
    go_wp2
    go_ret
    exact ⟨by rw [hb2]; rfl, HS.out⟩
  · have hb2 : b = true := by rw [hb]; rfl
    clear hb
    go_enter Tryz.func44, Tryz.ntmps44
    go_wp2_with fail
    refine HC.mono ?_
    rintro e W1 ⟨rfl, hR1⟩
    have HS := Lib.hid hR1
    clear hR1 HC
    go_wp2
    go_ret
    exact ⟨by rw [hb2]; rfl, HS.out⟩
set_option maxHeartbeats 1600000 in
theorem rflag_wrong {w : World} {r g x : Nat} {R : List Nat} {wr : Int} (h : RdAt w r g (x :: R) wr) (hx : 1 < x) (hx2 : x < 256) (hl : R.length ≤ 10000) :
    Calls Tryz.prog 44 #[.pointer (some ⟨r, 0, none⟩)] w fun e w' => e = .panicked (flt wr) ∧ Kept [r] w w' := by
  have HC := rnum_any h hx2 hl
  clear h hl
  have hg : decide ((1 : Int) < (x : Int)) = true := by
    have h9 : (1 : Int) < (x : Int) := by omega
    simp [h9]
  go_enter Tryz.func44, Tryz.ntmps44
  go_wp2_with fail
  refine HC.mono ?_
  rintro e W1 ⟨rfl, hR1, hk1⟩
  obtain ⟨a, c, hb, _⟩ := hR1.st
  have C1 : W1.cell? ⟨r, 1, none⟩ = some (.int .i64 wr) := hb.cell 1
  have HS := Lib.hid hk1
  clear hR1 HC hk1 hb
  go_wp2
  exact ⟨rfl, rfl, HS.out⟩
set_option maxHeartbeats 1600000 in
theorem rflag_short {w : World} {r g : Nat} {wr : Int} (h : RdAt w r g [] wr) :
    Calls Tryz.prog 44 #[.pointer (some ⟨r, 0, none⟩)] w fun e w' => e = .panicked (flt 7) ∧ w = w' := by
  have HC := rnum_short h
  clear h
  go_enter Tryz.func44, Tryz.ntmps44
  go_wp2_with fail
  refine HC.mono ?_
  rintro e W1 ⟨rfl, rfl⟩
  clear HC
  go_wp2
  exact ⟨rfl, rfl, rfl⟩
set_option maxHeartbeats 3200000 in
theorem rroute_any {w : World} {r g : Nat} {R : List Nat} {wr : Int} {E : Int} {x : Ro} {R2 : List Nat} (hwr : wr = 211) (hq : roR R = (E, x, R2)) (hW : Wid w) (h : RdAt w r g R wr) (hB : Bys R) (hl : R.length ≤ 6000) :
    Calls Tryz.prog 15 #[.pointer (some ⟨r, 0, none⟩)] w fun e w' => Got w w' e r g wr (.agg x.cs) E R2 := by
  obtain ⟨W0, hW0⟩ : ∃ W0, w.alloc (.cells Ro.zero.cs 57) = W0 := ⟨_, rfl⟩
  have hb0 : Below w.heap.size w W0 := by rw [← hW0]; exact (Below.refl _ _).alloc (Nat.le_refl _) _
  have hbz : Blk W0 w.heap.size 57 Ro.zero.cs := by rw [← hW0]; exact Blk.new _ _ _
  have hrl := h.lt
  have h0 := h.later hb0
  have hW2 := hW.later hb0
  have hl2 : (R.drop (decPN R)).length ≤ 10000 := by rw [List.length_drop]; omega
  have hB2 : Bys (R.drop (decPN R)) := hB.drop8 _
  have hgr : R = [] ∨ g ≠ w.heap.size := by
    obtain ⟨a, c, hbw, hLw, hg, _⟩ := h.st
    rcases hLw with hL | ⟨g', o, h1, h2, _⟩
    · exact .inl hL
    · rcases hg with hg | ⟨o', hg⟩
      · exact .inl hg
      · rw [hg] at h1; cases h1; exact .inr (by omega)
  unfold roR at hq
  by_cases hE : decPE R = 0
  · rw [if_pos hE] at hq
    have hgs : g ≠ w.heap.size := by
      rcases hgr with h | h
      · rw [h] at hE; unfold decPE at hE; simp at hE
      · exact h
    have HP := rpre_ok hW2 h0 hB hl hE
    obtain ⟨X, hX⟩ : ∃ X, decPX R = X := ⟨_, rfl⟩
    obtain ⟨D, hD⟩ : ∃ D, R.drop (decPN R) = D := ⟨_, rfl⟩
    rw [hX, hD] at HP hq
    rw [hD] at hl2 hB2
    clear hX hD hE hB hl h0 hW2 hW h hgr
    rcases D with _ | ⟨s, _ | ⟨f, _ | ⟨h, T⟩⟩⟩
    · obtain ⟨rfl, rfl, rfl⟩ : 7 = E ∧ Ro.zero = x ∧ [] = R2 := by simpa [ro3] using hq
      clear hq hgs
      go_enter Tryz.func15, Tryz.ntmps15
      go_wp2_with (with_reducible refine wpList_alloc_z rfl 57 rfl Ro.zero.cs 21 z_ro ?_)
      refine HP.mono ?_
      rintro e W1 ⟨rfl, hR1, hk1⟩
      have HK := Lib.hid (kept_trans (kept_below hb0) hk1)
      have HB := Lib.hid (hbz.kept hk1 (by simp; omega))
      clear HP hb0 hbz hk1
      have HC := rnum_short hR1
      clear hR1
      go_wp2_with fail
      refine HC.mono ?_
      rintro e W2 ⟨rfl, rfl⟩
      clear HC
      go_wp2
      exact ⟨rfl, Got.of_bad HK.out (by decide) rfl⟩
    · obtain ⟨rfl, rfl, rfl⟩ : 7 = E ∧ Ro.zero = x ∧ [] = R2 := by simpa [ro3] using hq
      clear hq hgs
      go_enter Tryz.func15, Tryz.ntmps15
      go_wp2_with (with_reducible refine wpList_alloc_z rfl 57 rfl Ro.zero.cs 21 z_ro ?_)
      refine HP.mono ?_
      rintro e W1 ⟨rfl, hR1, hk1⟩
      have HK := Lib.hid (kept_trans (kept_below hb0) hk1)
      have HB := Lib.hid (hbz.kept hk1 (by simp; omega))
      clear HP hb0 hbz hk1
      have HC := rnum_any hR1 (by have := hB2 s (by simp); omega) (by simp only [List.length_cons, List.length_nil] at hl2 ⊢; omega)
      clear hR1
      go_wp2_with fail
      refine HC.mono ?_
      rintro e W2 ⟨rfl, hR2, hk2⟩
      have HK := Lib.hid (kept_trans HK.out hk2)
      have HB := Lib.hid (HB.out.kept hk2 (by simp; omega))
      clear HC hk2
      have HC := rnum_short hR2
      clear hR2
      go_wp2_with fail
      refine HC.mono ?_
      rintro e W3 ⟨rfl, rfl⟩
      clear HC
      go_wp2
      exact ⟨rfl, Got.of_bad HK.out (by decide) rfl⟩
    · obtain ⟨rfl, rfl, rfl⟩ : 7 = E ∧ Ro.zero = x ∧ [] = R2 := by simpa [ro3] using hq
      clear hq hgs
      go_enter Tryz.func15, Tryz.ntmps15
      go_wp2_with (with_reducible refine wpList_alloc_z rfl 57 rfl Ro.zero.cs 21 z_ro ?_)
      refine HP.mono ?_
      rintro e W1 ⟨rfl, hR1, hk1⟩
      have HK := Lib.hid (kept_trans (kept_below hb0) hk1)
      have HB := Lib.hid (hbz.kept hk1 (by simp; omega))
      clear HP hb0 hbz hk1
      have HC := rnum_any hR1 (by have := hB2 s (by simp); omega) (by simp only [List.length_cons, List.length_nil] at hl2 ⊢; omega)
      clear hR1
      go_wp2_with fail
      refine HC.mono ?_
      rintro e W2 ⟨rfl, hR2, hk2⟩
      have HK := Lib.hid (kept_trans HK.out hk2)
      have HB := Lib.hid (HB.out.kept hk2 (by simp; omega))
      clear HC hk2
      have HC := rnum_any hR2 (by have := hB2 f (by simp); omega) (by simp only [List.length_cons, List.length_nil] at hl2 ⊢; omega)
      clear hR2
      go_wp2_with fail
      refine HC.mono ?_
      rintro e W3 ⟨rfl, hR3, hk3⟩
      have HK := Lib.hid (kept_trans HK.out hk3)
      have HB := Lib.hid (HB.out.kept hk3 (by simp; omega))
      clear HC hk3
      have HC := rnum_short hR3
      clear hR3
      go_wp2_with fail
      refine HC.mono ?_
      rintro e W4 ⟨rfl, rfl⟩
      clear HC
      go_wp2
      exact ⟨rfl, Got.of_bad HK.out (by decide) rfl⟩
    · obtain ⟨rfl, rfl, rfl⟩ : 0 = E ∧ ⟨X, s, f, h⟩ = x ∧ T = R2 := by simpa [ro3] using hq
      clear hq
      go_enter Tryz.func15, Tryz.ntmps15
      go_wp2_with (with_reducible refine wpList_alloc_z rfl 57 rfl Ro.zero.cs 21 z_ro ?_)
      refine HP.mono ?_
      rintro e W1 ⟨rfl, hR1, hk1⟩
      have HK := Lib.hid (kept_trans (kept_below hb0) hk1)
      have HB := Lib.hid (hbz.kept hk1 (by simp; omega))
      clear HP hb0 hbz hk1
      have HC := rnum_any hR1 (by have := hB2 s (by simp); omega) (by simp only [List.length_cons, List.length_nil] at hl2 ⊢; omega)
      clear hR1
      go_wp2_with fail
      refine HC.mono ?_
      rintro e W2 ⟨rfl, hR2, hk2⟩
      have HK := Lib.hid (kept_trans HK.out hk2)
      have HB := Lib.hid (HB.out.kept hk2 (by simp; omega))
      clear HC hk2
      have HC := rnum_any hR2 (by have := hB2 f (by simp); omega) (by simp only [List.length_cons, List.length_nil] at hl2 ⊢; omega)
      clear hR2
      go_wp2_with fail
      refine HC.mono ?_
      rintro e W3 ⟨rfl, hR3, hk3⟩
      have HK := Lib.hid (kept_trans HK.out hk3)
      have HB := Lib.hid (HB.out.kept hk3 (by simp; omega))
      clear HC hk3
      have HC := rnum_any hR3 (by have := hB2 h (by simp); omega) (by simp only [List.length_cons, List.length_nil] at hl2 ⊢; omega)
      clear hR3
      go_wp2_with fail
      refine HC.mono ?_
      rintro e W4 ⟨rfl, hR4, hk4⟩
      have HK := Lib.hid (kept_trans HK.out hk4)
      have HB := Lib.hid (HB.out.kept hk4 (by simp; omega))
      clear HC hk4
      have SZ := st_ro (q := ⟨X, s, f, h⟩) HB.out
      have BU := build_ro4 X s f h
      have HR := Lib.hid hR4
      have hgw := Lib.hid hgs
      clear hR4 hgs
      go_wp2
      refine bodyPost_ret (results_cell_row rfl _ _ w.heap.size 57 _ (0, 0) _ rfl (HB.out.row _) Tryz.underlying57 rfl (s_ro _)) rfl ?_
      exact Got.of_ok (HK.out.setRow (.inr (Nat.le_refl _)) _) rfl (HR.out.row9 (by omega) (.inr hgw.out) _)
  · rw [if_neg hE] at hq
    have hq2 : E = (if decPE R = 7 then 7 else wr) ∧ E ≠ 0 := by
      by_cases h7 : decPE R = 7
      · rw [if_pos h7] at hq ⊢
        injection hq with h1 h2
        exact ⟨h1.symm, by rw [← h1]; decide⟩
      · rw [if_neg h7] at hq ⊢
        injection hq with h1 h2
        exact ⟨by rw [hwr]; exact h1.symm, by rw [← h1]; decide⟩
    have HP := rpre_bad hq2.1 hW2 h0 hB hl hE
    have HE := Lib.hid hq2.2
    clear hE hq2 hq hB hl h0 hW2 hW h hgr hl2 hB2
    go_enter Tryz.func15, Tryz.ntmps15
    go_wp2_with (with_reducible refine wpList_alloc_z rfl 57 rfl Ro.zero.cs 21 z_ro ?_)
    refine HP.mono ?_
    rintro e W1 ⟨rfl, hk1⟩
    have HK := Lib.hid (kept_below (S := [r]) (bel_trans hb0 hk1))
    clear HP hb0 hbz hk1
    go_wp2
    exact ⟨rfl, Got.of_bad HK.out HE.out rfl⟩
set_option maxHeartbeats 3200000 in
theorem rupdate_any {w : World} {r g : Nat} {R : List Nat} {wr : Int} {E : Int} {x : Up} {R2 : List Nat} (hwr : wr = 210) (hq : upR R = (E, x, R2)) (hW : Wid w) (h : RdAt w r g R wr) (hB : Bys R) (hl : R.length ≤ 6000) :
    Calls Tryz.prog 20 #[.pointer (some ⟨r, 0, none⟩)] w fun e w' => Got w w' e r g wr (.agg x.cs) E R2 := by
  obtain ⟨W0, hW0⟩ : ∃ W0, w.alloc (.cells Up.zero.cs 46) = W0 := ⟨_, rfl⟩
  have hb0 : Below w.heap.size w W0 := by rw [← hW0]; exact (Below.refl _ _).alloc (Nat.le_refl _) _
  have hbz : Blk W0 w.heap.size 46 Up.zero.cs := by rw [← hW0]; exact Blk.new _ _ _
  have hrl := h.lt
  have h0 := h.later hb0
  have hW2 := hW.later hb0
  have hl2 : (R.drop (decPN R)).length ≤ 10000 := by rw [List.length_drop]; omega
  have hB2 : Bys (R.drop (decPN R)) := hB.drop8 _
  have hgr : R = [] ∨ g ≠ w.heap.size := by
    obtain ⟨a, c, hbw, hLw, hg, _⟩ := h.st
    rcases hLw with hL | ⟨g', o, h1, h2, _⟩
    · exact .inl hL
    · rcases hg with hg | ⟨o', hg⟩
      · exact .inl hg
      · rw [hg] at h1; cases h1; exact .inr (by omega)
  unfold upR at hq
  by_cases hE : decPE R = 0
  · rw [if_pos hE] at hq
    have hgs : g ≠ w.heap.size := by
      rcases hgr with h | h
      · rw [h] at hE; unfold decPE at hE; simp at hE
      · exact h
    have HP := rpre_ok hW2 h0 hB hl hE
    obtain ⟨X, hX⟩ : ∃ X, decPX R = X := ⟨_, rfl⟩
    obtain ⟨D, hD⟩ : ∃ D, R.drop (decPN R) = D := ⟨_, rfl⟩
    rw [hX, hD] at HP hq
    rw [hD] at hl2 hB2
    clear hX hD hE hB hl h0 hW2 hW h hgr
    rcases D with _ | ⟨s, _ | ⟨b, T⟩⟩
    · obtain ⟨rfl, rfl, rfl⟩ : 7 = E ∧ Up.zero = x ∧ [] = R2 := by simpa [up4] using hq
      clear hq hgs
      go_enter Tryz.func20, Tryz.ntmps20
      go_wp2_with (with_reducible refine wpList_alloc_z rfl 46 rfl Up.zero.cs 22 z_up ?_)
      refine HP.mono ?_
      rintro e W1 ⟨rfl, hR1, hk1⟩
      have HK := Lib.hid (kept_trans (kept_below hb0) hk1)
      have HB := Lib.hid (hbz.kept hk1 (by simp; omega))
      clear HP hb0 hbz hk1
      have HC := rnum_short hR1
      clear hR1
      go_wp2_with fail
      refine HC.mono ?_
      rintro e W2 ⟨rfl, rfl⟩
      clear HC
      go_wp2
      exact ⟨rfl, Got.of_bad HK.out (by decide) rfl⟩
    · obtain ⟨rfl, rfl, rfl⟩ : 7 = E ∧ Up.zero = x ∧ [] = R2 := by simpa [up4] using hq
      clear hq hgs
      go_enter Tryz.func20, Tryz.ntmps20
      go_wp2_with (with_reducible refine wpList_alloc_z rfl 46 rfl Up.zero.cs 22 z_up ?_)
      refine HP.mono ?_
      rintro e W1 ⟨rfl, hR1, hk1⟩
      have HK := Lib.hid (kept_trans (kept_below hb0) hk1)
      have HB := Lib.hid (hbz.kept hk1 (by simp; omega))
      clear HP hb0 hbz hk1
      have HC := rnum_any hR1 (by have := hB2 s (by simp); omega) (by simp only [List.length_cons, List.length_nil] at hl2 ⊢; omega)
      clear hR1
      go_wp2_with fail
      refine HC.mono ?_
      rintro e W2 ⟨rfl, hR2, hk2⟩
      have HK := Lib.hid (kept_trans HK.out hk2)
      have HB := Lib.hid (HB.out.kept hk2 (by simp; omega))
      clear HC hk2
      have HC := rflag_short hR2
      clear hR2
      go_wp2_with fail
      refine HC.mono ?_
      rintro e W3 ⟨rfl, rfl⟩
      clear HC
      go_wp2
      exact ⟨rfl, Got.of_bad HK.out (by decide) rfl⟩
    · by_cases hgt : 1 < b
      · obtain ⟨rfl, rfl, rfl⟩ : 210 = E ∧ Up.zero = x ∧ [] = R2 := by
          rcases T with _ | ⟨f, _ | ⟨h, T⟩⟩ <;> simpa [up4, hgt] using hq
        clear hq hgs
        go_enter Tryz.func20, Tryz.ntmps20
        go_wp2_with (with_reducible refine wpList_alloc_z rfl 46 rfl Up.zero.cs 22 z_up ?_)
        refine HP.mono ?_
        rintro e W1 ⟨rfl, hR1, hk1⟩
        have HK := Lib.hid (kept_trans (kept_below hb0) hk1)
        have HB := Lib.hid (hbz.kept hk1 (by simp; omega))
        clear HP hb0 hbz hk1
        have HC := rnum_any hR1 (by have := hB2 s (by simp); omega) (by simp only [List.length_cons, List.length_nil] at hl2 ⊢; omega)
        clear hR1
        go_wp2_with fail
        refine HC.mono ?_
        rintro e W2 ⟨rfl, hR2, hk2⟩
        have HK := Lib.hid (kept_trans HK.out hk2)
        have HB := Lib.hid (HB.out.kept hk2 (by simp; omega))
        clear HC hk2
        have HC := rflag_wrong hR2 hgt (by have := hB2 b (by simp); omega) (by simp only [List.length_cons, List.length_nil] at hl2 ⊢; omega)
        clear hR2
        go_wp2_with fail
        refine HC.mono ?_
        rintro e W3 ⟨rfl, hk3⟩
        have HK := Lib.hid (kept_trans HK.out hk3)
        clear HC hk3
        go_wp2
        exact ⟨rfl, Got.of_bad HK.out (by decide) (by first | rfl | rw [hwr])⟩
      · rcases T with _ | ⟨f, _ | ⟨h, T⟩⟩
        · obtain ⟨rfl, rfl, rfl⟩ : 7 = E ∧ Up.zero = x ∧ [] = R2 := by simpa [up4, hgt] using hq
          clear hq hgs
          go_enter Tryz.func20, Tryz.ntmps20
          go_wp2_with (with_reducible refine wpList_alloc_z rfl 46 rfl Up.zero.cs 22 z_up ?_)
          refine HP.mono ?_
          rintro e W1 ⟨rfl, hR1, hk1⟩
          have HK := Lib.hid (kept_trans (kept_below hb0) hk1)
          have HB := Lib.hid (hbz.kept hk1 (by simp; omega))
          clear HP hb0 hbz hk1
          have HC := rnum_any hR1 (by have := hB2 s (by simp); omega) (by simp only [List.length_cons, List.length_nil] at hl2 ⊢; omega)
          clear hR1
          go_wp2_with fail
          refine HC.mono ?_
          rintro e W2 ⟨rfl, hR2, hk2⟩
          have HK := Lib.hid (kept_trans HK.out hk2)
          have HB := Lib.hid (HB.out.kept hk2 (by simp; omega))
          clear HC hk2
          have HC := rflag_any (b := decide (b = 1)) hR2 (by omega) rfl (by simp only [List.length_cons, List.length_nil] at hl2 ⊢; omega)
          clear hR2
          go_wp2_with fail
          refine HC.mono ?_
          rintro e W3 ⟨rfl, hR3, hk3⟩
          have HK := Lib.hid (kept_trans HK.out hk3)
          have HB := Lib.hid (HB.out.kept hk3 (by simp; omega))
          clear HC hk3
          have HC := rnum_short hR3
          clear hR3
          go_wp2_with fail
          refine HC.mono ?_
          rintro e W4 ⟨rfl, rfl⟩
          clear HC
          go_wp2
          exact ⟨rfl, Got.of_bad HK.out (by decide) rfl⟩
        · obtain ⟨rfl, rfl, rfl⟩ : 7 = E ∧ Up.zero = x ∧ [] = R2 := by simpa [up4, hgt] using hq
          clear hq hgs
          go_enter Tryz.func20, Tryz.ntmps20
          go_wp2_with (with_reducible refine wpList_alloc_z rfl 46 rfl Up.zero.cs 22 z_up ?_)
          refine HP.mono ?_
          rintro e W1 ⟨rfl, hR1, hk1⟩
          have HK := Lib.hid (kept_trans (kept_below hb0) hk1)
          have HB := Lib.hid (hbz.kept hk1 (by simp; omega))
          clear HP hb0 hbz hk1
          have HC := rnum_any hR1 (by have := hB2 s (by simp); omega) (by simp only [List.length_cons, List.length_nil] at hl2 ⊢; omega)
          clear hR1
          go_wp2_with fail
          refine HC.mono ?_
          rintro e W2 ⟨rfl, hR2, hk2⟩
          have HK := Lib.hid (kept_trans HK.out hk2)
          have HB := Lib.hid (HB.out.kept hk2 (by simp; omega))
          clear HC hk2
          have HC := rflag_any (b := decide (b = 1)) hR2 (by omega) rfl (by simp only [List.length_cons, List.length_nil] at hl2 ⊢; omega)
          clear hR2
          go_wp2_with fail
          refine HC.mono ?_
          rintro e W3 ⟨rfl, hR3, hk3⟩
          have HK := Lib.hid (kept_trans HK.out hk3)
          have HB := Lib.hid (HB.out.kept hk3 (by simp; omega))
          clear HC hk3
          have HC := rnum_any hR3 (by have := hB2 f (by simp); omega) (by simp only [List.length_cons, List.length_nil] at hl2 ⊢; omega)
          clear hR3
          go_wp2_with fail
          refine HC.mono ?_
          rintro e W4 ⟨rfl, hR4, hk4⟩
          have HK := Lib.hid (kept_trans HK.out hk4)
          have HB := Lib.hid (HB.out.kept hk4 (by simp; omega))
          clear HC hk4
          have HC := rnum_short hR4
          clear hR4
          go_wp2_with fail
          refine HC.mono ?_
          rintro e W5 ⟨rfl, rfl⟩
          clear HC
          go_wp2
          exact ⟨rfl, Got.of_bad HK.out (by decide) rfl⟩
        · obtain ⟨rfl, rfl, rfl⟩ : 0 = E ∧ ⟨X, s, decide (b = 1), f, h⟩ = x ∧ T = R2 := by simpa [up4, hgt] using hq
          clear hq
          go_enter Tryz.func20, Tryz.ntmps20
          go_wp2_with (with_reducible refine wpList_alloc_z rfl 46 rfl Up.zero.cs 22 z_up ?_)
          refine HP.mono ?_
          rintro e W1 ⟨rfl, hR1, hk1⟩
          have HK := Lib.hid (kept_trans (kept_below hb0) hk1)
          have HB := Lib.hid (hbz.kept hk1 (by simp; omega))
          clear HP hb0 hbz hk1
          have HC := rnum_any hR1 (by have := hB2 s (by simp); omega) (by simp only [List.length_cons, List.length_nil] at hl2 ⊢; omega)
          clear hR1
          go_wp2_with fail
          refine HC.mono ?_
          rintro e W2 ⟨rfl, hR2, hk2⟩
          have HK := Lib.hid (kept_trans HK.out hk2)
          have HB := Lib.hid (HB.out.kept hk2 (by simp; omega))
          clear HC hk2
          have HC := rflag_any (b := decide (b = 1)) hR2 (by omega) rfl (by simp only [List.length_cons, List.length_nil] at hl2 ⊢; omega)
          clear hR2
          go_wp2_with fail
          refine HC.mono ?_
          rintro e W3 ⟨rfl, hR3, hk3⟩
          have HK := Lib.hid (kept_trans HK.out hk3)
          have HB := Lib.hid (HB.out.kept hk3 (by simp; omega))
          clear HC hk3
          have HC := rnum_any hR3 (by have := hB2 f (by simp); omega) (by simp only [List.length_cons, List.length_nil] at hl2 ⊢; omega)
          clear hR3
          go_wp2_with fail
          refine HC.mono ?_
          rintro e W4 ⟨rfl, hR4, hk4⟩
          have HK := Lib.hid (kept_trans HK.out hk4)
          have HB := Lib.hid (HB.out.kept hk4 (by simp; omega))
          clear HC hk4
          have HC := rnum_any hR4 (by have := hB2 h (by simp); omega) (by simp only [List.length_cons, List.length_nil] at hl2 ⊢; omega)
          clear hR4
          go_wp2_with fail
          refine HC.mono ?_
          rintro e W5 ⟨rfl, hR5, hk5⟩
          have HK := Lib.hid (kept_trans HK.out hk5)
          have HB := Lib.hid (HB.out.kept hk5 (by simp; omega))
          clear HC hk5
          have SZ := st_up (q := ⟨X, s, decide (b = 1), f, h⟩) HB.out
          have BU := build_up5 X s f h (decide (b = 1))
          have HR := Lib.hid hR5
          have hgw := Lib.hid hgs
          clear hR5 hgs
          go_wp2
          refine bodyPost_ret (results_cell_row rfl _ _ w.heap.size 46 _ (0, 0) _ rfl (HB.out.row _) Tryz.underlying46 rfl (s_up _)) rfl ?_
          exact Got.of_ok (HK.out.setRow (.inr (Nat.le_refl _)) _) rfl (HR.out.row9 (by omega) (.inr hgw.out) _)
  · rw [if_neg hE] at hq
    have hq2 : E = (if decPE R = 7 then 7 else wr) ∧ E ≠ 0 := by
      by_cases h7 : decPE R = 7
      · rw [if_pos h7] at hq ⊢
        injection hq with h1 h2
        exact ⟨h1.symm, by rw [← h1]; decide⟩
      · rw [if_neg h7] at hq ⊢
        injection hq with h1 h2
        exact ⟨by rw [hwr]; exact h1.symm, by rw [← h1]; decide⟩
    have HP := rpre_bad hq2.1 hW2 h0 hB hl hE
    have HE := Lib.hid hq2.2
    clear hE hq2 hq hB hl h0 hW2 hW h hgr hl2 hB2
    go_enter Tryz.func20, Tryz.ntmps20
    go_wp2_with (with_reducible refine wpList_alloc_z rfl 46 rfl Up.zero.cs 22 z_up ?_)
    refine HP.mono ?_
    rintro e W1 ⟨rfl, hk1⟩
    have HK := Lib.hid (kept_below (S := [r]) (bel_trans hb0 hk1))
    clear HP hb0 hbz hk1
    go_wp2
    exact ⟨rfl, Got.of_bad HK.out HE.out rfl⟩
end Go.Proofs.YtclkfmblogkakaaGreatDoor
namespace Go.Proofs.YtclkfmblogkakaaGreatDoor
open Go.RowKit Go.Shelf
set_option linter.unusedVariables false
set_option maxRecDepth 100000
theorem ta_fault (c : Int) (w : World) : (Instr.typeAssert (.iface 81 (.int .i64 c)) 20 81 true).run Tryz.prog w = .ok (.tuple #[.int .i64 c, .bool true]) w := by kernel_rfl
theorem rend_ok {w : World} {r g : Nat} {wr : Int} (h : RdAt w r g [] wr) :
    Calls Tryz.prog 35 #[.pointer (some ⟨r, 0, none⟩)] w fun e w' => e = .returned (.tuple #[]) ∧ w = w' := by
  obtain ⟨a, c, hb, hL, hg, hc, hm⟩ := h.st
  have C0 : w.cell? ⟨r, 0, none⟩ = some (.slice a 0 c) := hb.cell 0
  clear hb hL h hc hg
  go_enter Tryz.func35, Tryz.ntmps35
  go_wp2
  go_end0
  exact ⟨rfl, rfl⟩
theorem rend_more {w : World} {r g x : Nat} {R : List Nat} {wr : Int} (h : RdAt w r g (x :: R) wr) :
    Calls Tryz.prog 35 #[.pointer (some ⟨r, 0, none⟩)] w fun e w' => e = .panicked (flt wr) ∧ w = w' := by
  obtain ⟨a, c, hb, hL, hg, hc, hm⟩ := h.st
  have C0 : w.cell? ⟨r, 0, none⟩ = some (.slice a (R.length + 1) c) := hb.cell 0
  have C1 : w.cell? ⟨r, 1, none⟩ = some (.int .i64 wr) := hb.cell 1
  obtain ⟨n, hn⟩ : ∃ n, R.length + 1 = n := ⟨_, rfl⟩
  rw [hn] at C0
  have hd : decide (0 < n) = true := by simp; omega
  clear hb hL h hc hg hn
  go_enter Tryz.func35, Tryz.ntmps35
  go_wp2
  exact ⟨rfl, rfl, rfl⟩
theorem rcl_panic {w : World} {G1 G2 : Nat} {c : Int} {v1 v2 : Value} (h1 : Blk w G1 24 #[v1]) (h2 : Blk w G2 27 #[v2]) (hne : G1 ≠ G2) :
    CallsD Tryz.prog 33 #[.pointer (some ⟨G1, 0, none⟩), .pointer (some ⟨G2, 0, none⟩)] (.panicking (flt c)) w fun e u' w' =>
      e = .returned (.tuple #[]) ∧ u' = .panicking [{ v := .iface 81 (.int .i64 c), recovered := true }] ∧ w' = (w.setCell ⟨G1, 0, none⟩ (.slice none 0 0)).setCell ⟨G2, 0, none⟩ (.int .i64 c) := by
  have C1 : w.cell? ⟨G1, 0, none⟩ = some v1 := h1.cell 0
  have F1 := h1.free 0
  have k1 : Kept [G1] w (w.setCell ⟨G1, 0, none⟩ (.slice none 0 0)) := (Kept.refl _ w).setCell (p := ⟨G1, 0, none⟩) (.inl (by simp)) _
  have h2' := h2.kept k1 (by simp; omega)
  have C2 : (w.setCell ⟨G1, 0, none⟩ (.slice none 0 0)).cell? ⟨G2, 0, none⟩ = some v2 := h2'.cell 0
  have F2 := h2'.free 0
  clear h1 h2 h2' k1 hne
  unfold flt
  refine callsD_of_wpS Tryz.func33 rfl fun c₀ cs hu => ?_
  apply wpS_seq
  apply wpS_region
  simp [wpOpsS, go_sem, recoverD, hu, Tryz.ntmps33, Exit.thenS]
  refine wpS_of_wp ?_
  rw [show (#[Value.pointer (some ⟨G1, 0, none⟩), Value.pointer (some ⟨G2, 0, none⟩)] ++ (Array.replicate 10 undef).setIfInBounds 3 (Value.iface 81 (.int .i64 c)) : Array Value) = #[.pointer (some ⟨G1, 0, none⟩), .pointer (some ⟨G2, 0, none⟩), undef, undef, undef, .iface 81 (.int .i64 c), undef, undef, undef, undef, undef, undef] from rfl]
  have hta := ta_fault c
  go_wp2
  simp [bodyPostS, results, Tryz.results33]
theorem rcl_idle {w : World} {G1 G2 : Nat} :
    CallsD Tryz.prog 33 #[.pointer (some ⟨G1, 0, none⟩), .pointer (some ⟨G2, 0, none⟩)] .returning w fun e u' w' =>
      e = .returned (.tuple #[]) ∧ u' = .returning ∧ w' = w := by
  refine callsD_of_wpS Tryz.func33 rfl fun c₀ cs hu => ?_
  apply wpS_seq
  apply wpS_region
  simp [wpOpsS, go_sem, recoverD, hu, Tryz.ntmps33, Exit.thenS]
  refine wpS_of_wp ?_
  go_wp2
  cases c₀
  simp_all [bodyPostS, results, Tryz.results33]
theorem ucl_panic {w : World} {G1 G2 : Nat} {c : Int} {v1 v2 : Value} (h1 : Blk w G1 30 #[v1]) (h2 : Blk w G2 27 #[v2]) (hne : G1 ≠ G2) :
    CallsD Tryz.prog 43 #[.pointer (some ⟨G1, 0, none⟩), .pointer (some ⟨G2, 0, none⟩)] (.panicking (flt c)) w fun e u' w' =>
      e = .returned (.tuple #[]) ∧ u' = .panicking [{ v := .iface 81 (.int .i64 c), recovered := true }] ∧ w' = (w.setCell ⟨G1, 0, none⟩ (.slice none 0 0)).setCell ⟨G2, 0, none⟩ (.int .i64 c) := by
  have C1 : w.cell? ⟨G1, 0, none⟩ = some v1 := h1.cell 0
  have F1 := h1.free 0
  have k1 : Kept [G1] w (w.setCell ⟨G1, 0, none⟩ (.slice none 0 0)) := (Kept.refl _ w).setCell (p := ⟨G1, 0, none⟩) (.inl (by simp)) _
  have h2' := h2.kept k1 (by simp; omega)
  have C2 : (w.setCell ⟨G1, 0, none⟩ (.slice none 0 0)).cell? ⟨G2, 0, none⟩ = some v2 := h2'.cell 0
  have F2 := h2'.free 0
  clear h1 h2 h2' k1 hne
  unfold flt
  refine callsD_of_wpS Tryz.func43 rfl fun c₀ cs hu => ?_
  apply wpS_seq
  apply wpS_region
  simp [wpOpsS, go_sem, recoverD, hu, Tryz.ntmps43, Exit.thenS]
  refine wpS_of_wp ?_
  rw [show (#[Value.pointer (some ⟨G1, 0, none⟩), Value.pointer (some ⟨G2, 0, none⟩)] ++ (Array.replicate 10 undef).setIfInBounds 3 (Value.iface 81 (.int .i64 c)) : Array Value) = #[.pointer (some ⟨G1, 0, none⟩), .pointer (some ⟨G2, 0, none⟩), undef, undef, undef, .iface 81 (.int .i64 c), undef, undef, undef, undef, undef, undef] from rfl]
  have hta := ta_fault c
  go_wp2
  simp [bodyPostS, results, Tryz.results43]
theorem ucl_idle {w : World} {G1 G2 : Nat} :
    CallsD Tryz.prog 43 #[.pointer (some ⟨G1, 0, none⟩), .pointer (some ⟨G2, 0, none⟩)] .returning w fun e u' w' =>
      e = .returned (.tuple #[]) ∧ u' = .returning ∧ w' = w := by
  refine callsD_of_wpS Tryz.func43 rfl fun c₀ cs hu => ?_
  apply wpS_seq
  apply wpS_region
  simp [wpOpsS, go_sem, recoverD, hu, Tryz.ntmps43, Exit.thenS]
  refine wpS_of_wp ?_
  go_wp2
  cases c₀
  simp_all [bodyPostS, results, Tryz.results43]
end Go.Proofs.YtclkfmblogkakaaGreatDoor
