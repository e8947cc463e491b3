/-
  A region that draws its order, and that a call in it leaves by a panic. Nothing here is a statement of the document.
-/
import Derived.Test.YtikdgbmdepplgaaGreatDoorRvU
import Derived.Defers
import Derived.Recover
import Derived.Test.YtikdgbmdepplgaaGreatDoorLinF
namespace Go.Proofs.YtikdgbmdepplgaaGreatDoor
open Go.RowKit Go.Shelf
set_option linter.unusedVariables false
set_option maxRecDepth 100000
/-- What one call of the reader came to. -/
structure Got (w w' : World) (e : Ending) (r g : Nat) (wr : Int) (v : Value) (E : Int) (R : List Nat) : Prop where
  kept : Kept [r] w w'
  good : E = 0 → e = .returned v ∧ RdAt w' r g R wr
  bad : E ≠ 0 → e = .panicked (flt E)
theorem Got.of_ok {w w' : World} {e : Ending} {r g : Nat} {wr : Int} {v : Value} {R : List Nat} (k : Kept [r] w w') (h1 : e = .returned v) (h2 : RdAt w' r g R wr) : Got w w' e r g wr v 0 R := ⟨k, fun _ => ⟨h1, h2⟩, fun h => absurd rfl h⟩
theorem Got.of_bad {w w' : World} {e : Ending} {r g : Nat} {wr : Int} {v : Value} {E : Int} {R : List Nat} (k : Kept [r] w w') (hE : E ≠ 0) (h1 : e = .panicked (flt E)) : Got w w' e r g wr v E R := ⟨k, fun h => absurd h hE, fun _ => h1⟩
theorem build_upd_rule (ps : Array (Nat × Value)) : Instr.build 48 ps = buildSem 48 ps := rfl
theorem build_up5 (p : Px) (s f h : Int) (g : Bool) (w : World) : (buildSem 48 #[(0, .agg p.cs), (1, .int .i64 s), (2, .bool g), (3, .int .i64 f), (4, .int .i64 h)]).run Tryz.prog w = .ok (.agg (Up.mk p s g f h).cs) w := by
  unfold Up.cs
  show (buildSem 48 #[(0, .agg p.cs), (1, .int .i64 s), (2, .bool g), (3, .int .i64 f), (4, .int .i64 h)]).run Tryz.prog w = .ok (.agg (p.cs ++ #[.int .i64 s, .bool g, .int .i64 f, .int .i64 h])) w
  unfold Px.cs Ad.cs
  obtain ⟨a0, a1, a2, a3, a4, a5, a6, a7, a8, a9, a10, a11, a12, a13, a14, a15, hh⟩ := p.a.b.out
  rw [hh]
  kernel_rfl
attribute [local go_sem ↓] load_b16_rule store_b16_rule load_ad_rule store_ad_rule load_px_rule store_px_rule load_ro_rule store_ro_rule load_up_rule store_up_rule build_ro_rule build_upd_rule
theorem kept_rc {S : List Nat} {a b c : World} (h : Kept S a b) (k : Kept S b c) : Kept S a c := kept_trans h k
set_option maxHeartbeats 1600000 in
theorem rflag_any {w : World} {r g x : Nat} {R : List Nat} {wr : Int} {b : Bool} (h : RdAt w r g (x :: R) wr) (hx : x ≤ 1) (hb : b = decide (x = 1)) (hl : R.length ≤ 10000) :
    Calls Tryz.prog 48 #[.pointer (some ⟨r, 0, none⟩)] w fun e w' => e = .returned (.bool b) ∧ RdAt w' r g R wr ∧ Kept [r] w w' := by
  have HC := rnum_any h (by omega) hl
  clear h hl
  rcases (show x = 0 ∨ x = 1 by omega) with rfl | rfl
  · have hb2 : b = false := by rw [hb]; rfl
    clear hb
    go_enter Tryz.func48, Tryz.ntmps48
    go_wp2_with fail
    refine HC.mono ?_
    rintro e W1 ⟨rfl, hR1⟩
    have HS := Lib.hid hR1
    clear hR1 HC
    go_wp2
    go_ret
    exact ⟨by rw [hb2]; rfl, HS.out⟩
  · have hb2 : b = true := by rw [hb]; rfl
    clear hb
    go_enter Tryz.func48, Tryz.ntmps48
    go_wp2_with fail
    refine HC.mono ?_
    rintro e W1 ⟨rfl, hR1⟩
    have HS := Lib.hid hR1
    clear hR1 HC
    go_wp2
    go_ret
    exact ⟨by rw [hb2]; rfl, HS.out⟩
set_option maxHeartbeats 1600000 in
theorem rflag_wrong {w : World} {r g x : Nat} {R : List Nat} {wr : Int} (h : RdAt w r g (x :: R) wr) (hx : 1 < x) (hx2 : x < 256) (hl : R.length ≤ 10000) :
    Calls Tryz.prog 48 #[.pointer (some ⟨r, 0, none⟩)] w fun e w' => e = .panicked (flt wr) ∧ Kept [r] w w' := by
  have HC := rnum_any h hx2 hl
  clear h hl
  have hg : decide ((1 : Int) < (x : Int)) = true := by
    have h9 : (1 : Int) < (x : Int) := by omega
    simp [h9]
  go_enter Tryz.func48, Tryz.ntmps48
  go_wp2_with fail
  refine HC.mono ?_
  rintro e W1 ⟨rfl, hR1, hk1⟩
  obtain ⟨a, c, hb, _⟩ := hR1.st
  have C1 : W1.cell? ⟨r, 1, none⟩ = some (.int .i64 wr) := hb.cell 1
  have HS := Lib.hid hk1
  clear hR1 HC hk1 hb
  go_wp2
  exact ⟨rfl, rfl, HS.out⟩
set_option maxHeartbeats 1600000 in
theorem rflag_short {w : World} {r g : Nat} {wr : Int} (h : RdAt w r g [] wr) :
    Calls Tryz.prog 48 #[.pointer (some ⟨r, 0, none⟩)] w fun e w' => e = .panicked (flt 7) ∧ w = w' := by
  have HC := rnum_short h
  clear h
  go_enter Tryz.func48, Tryz.ntmps48
  go_wp2_with fail
  refine HC.mono ?_
  rintro e W1 ⟨rfl, rfl⟩
  clear HC
  go_wp2
  exact ⟨rfl, rfl, rfl⟩
set_option maxHeartbeats 3200000 in
theorem rroute_any {w : World} {r g : Nat} {R : List Nat} {wr : Int} {E : Int} {x : Ro} {R2 : List Nat} (hwr : wr = 211) (hq : roR R = (E, x, R2)) (hW : Wid w) (h : RdAt w r g R wr) (hB : Bys R) (hl : R.length ≤ 6000) :
    Calls Tryz.prog 20 #[.pointer (some ⟨r, 0, none⟩)] w fun e w' => Got w w' e r g wr (.agg x.cs) E R2 := by
  obtain ⟨W0, hW0⟩ : ∃ W0, w.alloc (.cells Ro.zero.cs 50) = W0 := ⟨_, rfl⟩
  have hb0 : Below w.heap.size w W0 := by rw [← hW0]; exact (Below.refl _ _).alloc (Nat.le_refl _) _
  have hbz : Blk W0 w.heap.size 50 Ro.zero.cs := by rw [← hW0]; exact Blk.new _ _ _
  have hrl := h.lt
  have h0 := h.later hb0
  have hW2 := hW.later hb0
  have hl2 : (R.drop (decPN R)).length ≤ 10000 := by rw [List.length_drop]; omega
  have hB2 : Bys (R.drop (decPN R)) := hB.drop8 _
  have hgr : R = [] ∨ g ≠ w.heap.size := by
    obtain ⟨a, c, hbw, hLw, hg, _⟩ := h.st
    rcases hLw with hL | ⟨g', o, h1, h2, _⟩
    · exact .inl hL
    · rcases hg with hg | ⟨o', hg⟩
      · exact .inl hg
      · rw [hg] at h1; cases h1; exact .inr (by omega)
  unfold roR at hq
  by_cases hE : decPE R = 0
  · rw [if_pos hE] at hq
    have hgs : g ≠ w.heap.size := by
      rcases hgr with h | h
      · rw [h] at hE; unfold decPE at hE; simp at hE
      · exact h
    have HP := rpre_ok hW2 h0 hB hl hE
    obtain ⟨X, hX⟩ : ∃ X, decPX R = X := ⟨_, rfl⟩
    obtain ⟨D, hD⟩ : ∃ D, R.drop (decPN R) = D := ⟨_, rfl⟩
    rw [hX, hD] at HP hq
    rw [hD] at hl2 hB2
    clear hX hD hE hB hl h0 hW2 hW h hgr
    rcases D with _ | ⟨s, _ | ⟨f, _ | ⟨h, T⟩⟩⟩
    · obtain ⟨rfl, rfl, rfl⟩ : 7 = E ∧ Ro.zero = x ∧ [] = R2 := by simpa [ro3] using hq
      clear hq hgs
      go_enter Tryz.func20, Tryz.ntmps20
      go_wp2_with (with_reducible refine wpList_alloc_z rfl 50 rfl Ro.zero.cs 21 z_ro ?_)
      refine HP.mono ?_
      rintro e W1 ⟨rfl, hR1, hk1⟩
      have HK := Lib.hid (kept_trans (kept_below hb0) hk1)
      have HB := Lib.hid (hbz.kept hk1 (by simp; omega))
      clear HP hb0 hbz hk1
      have HC := rnum_short hR1
      clear hR1
      go_wp2_with fail
      refine HC.mono ?_
      rintro e W2 ⟨rfl, rfl⟩
      clear HC
      go_wp2
      exact ⟨rfl, Got.of_bad HK.out (by decide) rfl⟩
    · obtain ⟨rfl, rfl, rfl⟩ : 7 = E ∧ Ro.zero = x ∧ [] = R2 := by simpa [ro3] using hq
      clear hq hgs
      go_enter Tryz.func20, Tryz.ntmps20
      go_wp2_with (with_reducible refine wpList_alloc_z rfl 50 rfl Ro.zero.cs 21 z_ro ?_)
      refine HP.mono ?_
      rintro e W1 ⟨rfl, hR1, hk1⟩
      have HK := Lib.hid (kept_trans (kept_below hb0) hk1)
      have HB := Lib.hid (hbz.kept hk1 (by simp; omega))
      clear HP hb0 hbz hk1
      have HC := rnum_any hR1 (by have := hB2 s (by simp); omega) (by simp only [List.length_cons, List.length_nil] at hl2 ⊢; omega)
      clear hR1
      go_wp2_with fail
      refine HC.mono ?_
      rintro e W2 ⟨rfl, hR2, hk2⟩
      have HK := Lib.hid (kept_trans HK.out hk2)
      have HB := Lib.hid (HB.out.kept hk2 (by simp; omega))
      clear HC hk2
      have HC := rnum_short hR2
      clear hR2
      go_wp2_with fail
      refine HC.mono ?_
      rintro e W3 ⟨rfl, rfl⟩
      clear HC
      go_wp2
      exact ⟨rfl, Got.of_bad HK.out (by decide) rfl⟩
    · obtain ⟨rfl, rfl, rfl⟩ : 7 = E ∧ Ro.zero = x ∧ [] = R2 := by simpa [ro3] using hq
      clear hq hgs
      go_enter Tryz.func20, Tryz.ntmps20
      go_wp2_with (with_reducible refine wpList_alloc_z rfl 50 rfl Ro.zero.cs 21 z_ro ?_)
      refine HP.mono ?_
      rintro e W1 ⟨rfl, hR1, hk1⟩
      have HK := Lib.hid (kept_trans (kept_below hb0) hk1)
      have HB := Lib.hid (hbz.kept hk1 (by simp; omega))
      clear HP hb0 hbz hk1
      have HC := rnum_any hR1 (by have := hB2 s (by simp); omega) (by simp only [List.length_cons, List.length_nil] at hl2 ⊢; omega)
      clear hR1
      go_wp2_with fail
      refine HC.mono ?_
      rintro e W2 ⟨rfl, hR2, hk2⟩
      have HK := Lib.hid (kept_trans HK.out hk2)
      have HB := Lib.hid (HB.out.kept hk2 (by simp; omega))
      clear HC hk2
      have HC := rnum_any hR2 (by have := hB2 f (by simp); omega) (by simp only [List.length_cons, List.length_nil] at hl2 ⊢; omega)
      clear hR2
      go_wp2_with fail
      refine HC.mono ?_
      rintro e W3 ⟨rfl, hR3, hk3⟩
      have HK := Lib.hid (kept_trans HK.out hk3)
      have HB := Lib.hid (HB.out.kept hk3 (by simp; omega))
      clear HC hk3
      have HC := rnum_short hR3
      clear hR3
      go_wp2_with fail
      refine HC.mono ?_
      rintro e W4 ⟨rfl, rfl⟩
      clear HC
      go_wp2
      exact ⟨rfl, Got.of_bad HK.out (by decide) rfl⟩
    · obtain ⟨rfl, rfl, rfl⟩ : 0 = E ∧ ⟨X, s, f, h⟩ = x ∧ T = R2 := by simpa [ro3] using hq
      clear hq
      go_enter Tryz.func20, Tryz.ntmps20
      go_wp2_with (with_reducible refine wpList_alloc_z rfl 50 rfl Ro.zero.cs 21 z_ro ?_)
      refine HP.mono ?_
      rintro e W1 ⟨rfl, hR1, hk1⟩
      have HK := Lib.hid (kept_trans (kept_below hb0) hk1)
      have HB := Lib.hid (hbz.kept hk1 (by simp; omega))
      clear HP hb0 hbz hk1
      have HC := rnum_any hR1 (by have := hB2 s (by simp); omega) (by simp only [List.length_cons, List.length_nil] at hl2 ⊢; omega)
      clear hR1
      go_wp2_with fail
      refine HC.mono ?_
      rintro e W2 ⟨rfl, hR2, hk2⟩
      have HK := Lib.hid (kept_trans HK.out hk2)
      have HB := Lib.hid (HB.out.kept hk2 (by simp; omega))
      clear HC hk2
      have HC := rnum_any hR2 (by have := hB2 f (by simp); omega) (by simp only [List.length_cons, List.length_nil] at hl2 ⊢; omega)
      clear hR2
      go_wp2_with fail
      refine HC.mono ?_
      rintro e W3 ⟨rfl, hR3, hk3⟩
      have HK := Lib.hid (kept_trans HK.out hk3)
      have HB := Lib.hid (HB.out.kept hk3 (by simp; omega))
      clear HC hk3
      have HC := rnum_any hR3 (by have := hB2 h (by simp); omega) (by simp only [List.length_cons, List.length_nil] at hl2 ⊢; omega)
      clear hR3
      go_wp2_with fail
      refine HC.mono ?_
      rintro e W4 ⟨rfl, hR4, hk4⟩
      have HK := Lib.hid (kept_trans HK.out hk4)
      have HB := Lib.hid (HB.out.kept hk4 (by simp; omega))
      clear HC hk4
      have SZ := st_ro (q := ⟨X, s, f, h⟩) HB.out
      have BU := build_ro4 X s f h
      have HR := Lib.hid hR4
      have hgw := Lib.hid hgs
      clear hR4 hgs
      go_wp2
      refine bodyPost_ret (results_cell_row rfl _ _ w.heap.size 50 _ (0, 0) _ rfl (HB.out.row _) Tryz.underlying50 rfl (s_ro _)) rfl ?_
      exact Got.of_ok (HK.out.setRow (.inr (Nat.le_refl _)) _) rfl (HR.out.row9 (by omega) (.inr hgw.out) _)
  · rw [if_neg hE] at hq
    have hq2 : E = (if decPE R = 7 then 7 else wr) ∧ E ≠ 0 := by
      by_cases h7 : decPE R = 7
      · rw [if_pos h7] at hq ⊢
        injection hq with h1 h2
        exact ⟨h1.symm, by rw [← h1]; decide⟩
      · rw [if_neg h7] at hq ⊢
        injection hq with h1 h2
        exact ⟨by rw [hwr]; exact h1.symm, by rw [← h1]; decide⟩
    have HP := rpre_bad hq2.1 hW2 h0 hB hl hE
    have HE := Lib.hid hq2.2
    clear hE hq2 hq hB hl h0 hW2 hW h hgr hl2 hB2
    go_enter Tryz.func20, Tryz.ntmps20
    go_wp2_with (with_reducible refine wpList_alloc_z rfl 50 rfl Ro.zero.cs 21 z_ro ?_)
    refine HP.mono ?_
    rintro e W1 ⟨rfl, hk1⟩
    have HK := Lib.hid (kept_below (S := [r]) (bel_trans hb0 hk1))
    clear HP hb0 hbz hk1
    go_wp2
    exact ⟨rfl, Got.of_bad HK.out HE.out rfl⟩
set_option maxHeartbeats 3200000 in
theorem rupdate_any {w : World} {r g : Nat} {R : List Nat} {wr : Int} {E : Int} {x : Up} {R2 : List Nat} (hwr : wr = 210) (hq : upR R = (E, x, R2)) (hW : Wid w) (h : RdAt w r g R wr) (hB : Bys R) (hl : R.length ≤ 6000) :
    Calls Tryz.prog 27 #[.pointer (some ⟨r, 0, none⟩)] w fun e w' => Got w w' e r g wr (.agg x.cs) E R2 := by
  obtain ⟨W0, hW0⟩ : ∃ W0, w.alloc (.cells Up.zero.cs 48) = W0 := ⟨_, rfl⟩
  have hb0 : Below w.heap.size w W0 := by rw [← hW0]; exact (Below.refl _ _).alloc (Nat.le_refl _) _
  have hbz : Blk W0 w.heap.size 48 Up.zero.cs := by rw [← hW0]; exact Blk.new _ _ _
  have hrl := h.lt
  have h0 := h.later hb0
  have hW2 := hW.later hb0
  have hl2 : (R.drop (decPN R)).length ≤ 10000 := by rw [List.length_drop]; omega
  have hB2 : Bys (R.drop (decPN R)) := hB.drop8 _
  have hgr : R = [] ∨ g ≠ w.heap.size := by
    obtain ⟨a, c, hbw, hLw, hg, _⟩ := h.st
    rcases hLw with hL | ⟨g', o, h1, h2, _⟩
    · exact .inl hL
    · rcases hg with hg | ⟨o', hg⟩
      · exact .inl hg
      · rw [hg] at h1; cases h1; exact .inr (by omega)
  unfold upR at hq
  by_cases hE : decPE R = 0
  · rw [if_pos hE] at hq
    have hgs : g ≠ w.heap.size := by
      rcases hgr with h | h
      · rw [h] at hE; unfold decPE at hE; simp at hE
      · exact h
    have HP := rpre_ok hW2 h0 hB hl hE
    obtain ⟨X, hX⟩ : ∃ X, decPX R = X := ⟨_, rfl⟩
    obtain ⟨D, hD⟩ : ∃ D, R.drop (decPN R) = D := ⟨_, rfl⟩
    rw [hX, hD] at HP hq
    rw [hD] at hl2 hB2
    clear hX hD hE hB hl h0 hW2 hW h hgr
    rcases D with _ | ⟨s, _ | ⟨b, T⟩⟩
    · obtain ⟨rfl, rfl, rfl⟩ : 7 = E ∧ Up.zero = x ∧ [] = R2 := by simpa [up4] using hq
      clear hq hgs
      go_enter Tryz.func27, Tryz.ntmps27
      go_wp2_with (with_reducible refine wpList_alloc_z rfl 48 rfl Up.zero.cs 22 z_up ?_)
      refine HP.mono ?_
      rintro e W1 ⟨rfl, hR1, hk1⟩
      have HK := Lib.hid (kept_trans (kept_below hb0) hk1)
      have HB := Lib.hid (hbz.kept hk1 (by simp; omega))
      clear HP hb0 hbz hk1
      have HC := rnum_short hR1
      clear hR1
      go_wp2_with fail
      refine HC.mono ?_
      rintro e W2 ⟨rfl, rfl⟩
      clear HC
      go_wp2
      exact ⟨rfl, Got.of_bad HK.out (by decide) rfl⟩
    · obtain ⟨rfl, rfl, rfl⟩ : 7 = E ∧ Up.zero = x ∧ [] = R2 := by simpa [up4] using hq
      clear hq hgs
      go_enter Tryz.func27, Tryz.ntmps27
      go_wp2_with (with_reducible refine wpList_alloc_z rfl 48 rfl Up.zero.cs 22 z_up ?_)
      refine HP.mono ?_
      rintro e W1 ⟨rfl, hR1, hk1⟩
      have HK := Lib.hid (kept_trans (kept_below hb0) hk1)
      have HB := Lib.hid (hbz.kept hk1 (by simp; omega))
      clear HP hb0 hbz hk1
      have HC := rnum_any hR1 (by have := hB2 s (by simp); omega) (by simp only [List.length_cons, List.length_nil] at hl2 ⊢; omega)
      clear hR1
      go_wp2_with fail
      refine HC.mono ?_
      rintro e W2 ⟨rfl, hR2, hk2⟩
      have HK := Lib.hid (kept_trans HK.out hk2)
      have HB := Lib.hid (HB.out.kept hk2 (by simp; omega))
      clear HC hk2
      have HC := rflag_short hR2
      clear hR2
      go_wp2_with fail
      refine HC.mono ?_
      rintro e W3 ⟨rfl, rfl⟩
      clear HC
      go_wp2
      exact ⟨rfl, Got.of_bad HK.out (by decide) rfl⟩
    · by_cases hgt : 1 < b
      · obtain ⟨rfl, rfl, rfl⟩ : 210 = E ∧ Up.zero = x ∧ [] = R2 := by
          rcases T with _ | ⟨f, _ | ⟨h, T⟩⟩ <;> simpa [up4, hgt] using hq
        clear hq hgs
        go_enter Tryz.func27, Tryz.ntmps27
        go_wp2_with (with_reducible refine wpList_alloc_z rfl 48 rfl Up.zero.cs 22 z_up ?_)
        refine HP.mono ?_
        rintro e W1 ⟨rfl, hR1, hk1⟩
        have HK := Lib.hid (kept_trans (kept_below hb0) hk1)
        have HB := Lib.hid (hbz.kept hk1 (by simp; omega))
        clear HP hb0 hbz hk1
        have HC := rnum_any hR1 (by have := hB2 s (by simp); omega) (by simp only [List.length_cons, List.length_nil] at hl2 ⊢; omega)
        clear hR1
        go_wp2_with fail
        refine HC.mono ?_
        rintro e W2 ⟨rfl, hR2, hk2⟩
        have HK := Lib.hid (kept_trans HK.out hk2)
        have HB := Lib.hid (HB.out.kept hk2 (by simp; omega))
        clear HC hk2
        have HC := rflag_wrong hR2 hgt (by have := hB2 b (by simp); omega) (by simp only [List.length_cons, List.length_nil] at hl2 ⊢; omega)
        clear hR2
        go_wp2_with fail
        refine HC.mono ?_
        rintro e W3 ⟨rfl, hk3⟩
        have HK := Lib.hid (kept_trans HK.out hk3)
        clear HC hk3
        go_wp2
        exact ⟨rfl, Got.of_bad HK.out (by decide) (by first | rfl | rw [hwr])⟩
      · rcases T with _ | ⟨f, _ | ⟨h, T⟩⟩
        · obtain ⟨rfl, rfl, rfl⟩ : 7 = E ∧ Up.zero = x ∧ [] = R2 := by simpa [up4, hgt] using hq
          clear hq hgs
          go_enter Tryz.func27, Tryz.ntmps27
          go_wp2_with (with_reducible refine wpList_alloc_z rfl 48 rfl Up.zero.cs 22 z_up ?_)
          refine HP.mono ?_
          rintro e W1 ⟨rfl, hR1, hk1⟩
          have HK := Lib.hid (kept_trans (kept_below hb0) hk1)
          have HB := Lib.hid (hbz.kept hk1 (by simp; omega))
          clear HP hb0 hbz hk1
          have HC := rnum_any hR1 (by have := hB2 s (by simp); omega) (by simp only [List.length_cons, List.length_nil] at hl2 ⊢; omega)
          clear hR1
          go_wp2_with fail
          refine HC.mono ?_
          rintro e W2 ⟨rfl, hR2, hk2⟩
          have HK := Lib.hid (kept_trans HK.out hk2)
          have HB := Lib.hid (HB.out.kept hk2 (by simp; omega))
          clear HC hk2
          have HC := rflag_any (b := decide (b = 1)) hR2 (by omega) rfl (by simp only [List.length_cons, List.length_nil] at hl2 ⊢; omega)
          clear hR2
          go_wp2_with fail
          refine HC.mono ?_
          rintro e W3 ⟨rfl, hR3, hk3⟩
          have HK := Lib.hid (kept_trans HK.out hk3)
          have HB := Lib.hid (HB.out.kept hk3 (by simp; omega))
          clear HC hk3
          have HC := rnum_short hR3
          clear hR3
          go_wp2_with fail
          refine HC.mono ?_
          rintro e W4 ⟨rfl, rfl⟩
          clear HC
          go_wp2
          exact ⟨rfl, Got.of_bad HK.out (by decide) rfl⟩
        · obtain ⟨rfl, rfl, rfl⟩ : 7 = E ∧ Up.zero = x ∧ [] = R2 := by simpa [up4, hgt] using hq
          clear hq hgs
          go_enter Tryz.func27, Tryz.ntmps27
          go_wp2_with (with_reducible refine wpList_alloc_z rfl 48 rfl Up.zero.cs 22 z_up ?_)
          refine HP.mono ?_
          rintro e W1 ⟨rfl, hR1, hk1⟩
          have HK := Lib.hid (kept_trans (kept_below hb0) hk1)
          have HB := Lib.hid (hbz.kept hk1 (by simp; omega))
          clear HP hb0 hbz hk1
          have HC := rnum_any hR1 (by have := hB2 s (by simp); omega) (by simp only [List.length_cons, List.length_nil] at hl2 ⊢; omega)
          clear hR1
          go_wp2_with fail
          refine HC.mono ?_
          rintro e W2 ⟨rfl, hR2, hk2⟩
          have HK := Lib.hid (kept_trans HK.out hk2)
          have HB := Lib.hid (HB.out.kept hk2 (by simp; omega))
          clear HC hk2
          have HC := rflag_any (b := decide (b = 1)) hR2 (by omega) rfl (by simp only [List.length_cons, List.length_nil] at hl2 ⊢; omega)
          clear hR2
          go_wp2_with fail
          refine HC.mono ?_
          rintro e W3 ⟨rfl, hR3, hk3⟩
          have HK := Lib.hid (kept_trans HK.out hk3)
          have HB := Lib.hid (HB.out.kept hk3 (by simp; omega))
          clear HC hk3
          have HC := rnum_any hR3 (by have := hB2 f (by simp); omega) (by simp only [List.length_cons, List.length_nil] at hl2 ⊢; omega)
          clear hR3
          go_wp2_with fail
          refine HC.mono ?_
          rintro e W4 ⟨rfl, hR4, hk4⟩
          have HK := Lib.hid (kept_trans HK.out hk4)
          have HB := Lib.hid (HB.out.kept hk4 (by simp; omega))
          clear HC hk4
          have HC := rnum_short hR4
          clear hR4
          go_wp2_with fail
          refine HC.mono ?_
          rintro e W5 ⟨rfl, rfl⟩
          clear HC
          go_wp2
          exact ⟨rfl, Got.of_bad HK.out (by decide) rfl⟩
        · obtain ⟨rfl, rfl, rfl⟩ : 0 = E ∧ ⟨X, s, decide (b = 1), f, h⟩ = x ∧ T = R2 := by simpa [up4, hgt] using hq
          clear hq
          go_enter Tryz.func27, Tryz.ntmps27
          go_wp2_with (with_reducible refine wpList_alloc_z rfl 48 rfl Up.zero.cs 22 z_up ?_)
          refine HP.mono ?_
          rintro e W1 ⟨rfl, hR1, hk1⟩
          have HK := Lib.hid (kept_trans (kept_below hb0) hk1)
          have HB := Lib.hid (hbz.kept hk1 (by simp; omega))
          clear HP hb0 hbz hk1
          have HC := rnum_any hR1 (by have := hB2 s (by simp); omega) (by simp only [List.length_cons, List.length_nil] at hl2 ⊢; omega)
          clear hR1
          go_wp2_with fail
          refine HC.mono ?_
          rintro e W2 ⟨rfl, hR2, hk2⟩
          have HK := Lib.hid (kept_trans HK.out hk2)
          have HB := Lib.hid (HB.out.kept hk2 (by simp; omega))
          clear HC hk2
          have HC := rflag_any (b := decide (b = 1)) hR2 (by omega) rfl (by simp only [List.length_cons, List.length_nil] at hl2 ⊢; omega)
          clear hR2
          go_wp2_with fail
          refine HC.mono ?_
          rintro e W3 ⟨rfl, hR3, hk3⟩
          have HK := Lib.hid (kept_trans HK.out hk3)
          have HB := Lib.hid (HB.out.kept hk3 (by simp; omega))
          clear HC hk3
          have HC := rnum_any hR3 (by have := hB2 f (by simp); omega) (by simp only [List.length_cons, List.length_nil] at hl2 ⊢; omega)
          clear hR3
          go_wp2_with fail
          refine HC.mono ?_
          rintro e W4 ⟨rfl, hR4, hk4⟩
          have HK := Lib.hid (kept_trans HK.out hk4)
          have HB := Lib.hid (HB.out.kept hk4 (by simp; omega))
          clear HC hk4
          have HC := rnum_any hR4 (by have := hB2 h (by simp); omega) (by simp only [List.length_cons, List.length_nil] at hl2 ⊢; omega)
          clear hR4
          go_wp2_with fail
          refine HC.mono ?_
          rintro e W5 ⟨rfl, hR5, hk5⟩
          have HK := Lib.hid (kept_trans HK.out hk5)
          have HB := Lib.hid (HB.out.kept hk5 (by simp; omega))
          clear HC hk5
          have SZ := st_up (q := ⟨X, s, decide (b = 1), f, h⟩) HB.out
          have BU := build_up5 X s f h (decide (b = 1))
          have HR := Lib.hid hR5
          have hgw := Lib.hid hgs
          clear hR5 hgs
          go_wp2
          refine bodyPost_ret (results_cell_row rfl _ _ w.heap.size 48 _ (0, 0) _ rfl (HB.out.row _) Tryz.underlying48 rfl (s_up _)) rfl ?_
          exact Got.of_ok (HK.out.setRow (.inr (Nat.le_refl _)) _) rfl (HR.out.row9 (by omega) (.inr hgw.out) _)
  · rw [if_neg hE] at hq
    have hq2 : E = (if decPE R = 7 then 7 else wr) ∧ E ≠ 0 := by
      by_cases h7 : decPE R = 7
      · rw [if_pos h7] at hq ⊢
        injection hq with h1 h2
        exact ⟨h1.symm, by rw [← h1]; decide⟩
      · rw [if_neg h7] at hq ⊢
        injection hq with h1 h2
        exact ⟨by rw [hwr]; exact h1.symm, by rw [← h1]; decide⟩
    have HP := rpre_bad hq2.1 hW2 h0 hB hl hE
    have HE := Lib.hid hq2.2
    clear hE hq2 hq hB hl h0 hW2 hW h hgr hl2 hB2
    go_enter Tryz.func27, Tryz.ntmps27
    go_wp2_with (with_reducible refine wpList_alloc_z rfl 48 rfl Up.zero.cs 22 z_up ?_)
    refine HP.mono ?_
    rintro e W1 ⟨rfl, hk1⟩
    have HK := Lib.hid (kept_below (S := [r]) (bel_trans hb0 hk1))
    clear HP hb0 hbz hk1
    go_wp2
    exact ⟨rfl, Got.of_bad HK.out HE.out rfl⟩
end Go.Proofs.YtikdgbmdepplgaaGreatDoor
namespace Go.Proofs.YtikdgbmdepplgaaGreatDoor
open Go.RowKit Go.Shelf
set_option linter.unusedVariables false
set_option maxRecDepth 100000
theorem ta_fault (c : Int) (w : World) : (Instr.typeAssert (.iface 91 (.int .i64 c)) 20 91 true).run Tryz.prog w = .ok (.tuple #[.int .i64 c, .bool true]) w := by kernel_rfl
theorem rend_ok {w : World} {r g : Nat} {wr : Int} (h : RdAt w r g [] wr) :
    Calls Tryz.prog 44 #[.pointer (some ⟨r, 0, none⟩)] w fun e w' => e = .returned (.tuple #[]) ∧ w = w' := by
  obtain ⟨a, c, hb, hL, hg, hc, hm⟩ := h.st
  have C0 : w.cell? ⟨r, 0, none⟩ = some (.slice a 0 c) := hb.cell 0
  clear hb hL h hc hg
  go_enter Tryz.func44, Tryz.ntmps44
  go_wp2
  go_end0
  exact ⟨rfl, rfl⟩
theorem rend_more {w : World} {r g x : Nat} {R : List Nat} {wr : Int} (h : RdAt w r g (x :: R) wr) :
    Calls Tryz.prog 44 #[.pointer (some ⟨r, 0, none⟩)] w fun e w' => e = .panicked (flt wr) ∧ w = w' := by
  obtain ⟨a, c, hb, hL, hg, hc, hm⟩ := h.st
  have C0 : w.cell? ⟨r, 0, none⟩ = some (.slice a (R.length + 1) c) := hb.cell 0
  have C1 : w.cell? ⟨r, 1, none⟩ = some (.int .i64 wr) := hb.cell 1
  obtain ⟨n, hn⟩ : ∃ n, R.length + 1 = n := ⟨_, rfl⟩
  rw [hn] at C0
  have hd : decide (0 < n) = true := by simp; omega
  clear hb hL h hc hg hn
  go_enter Tryz.func44, Tryz.ntmps44
  go_wp2
  exact ⟨rfl, rfl, rfl⟩
theorem rcl_panic {w : World} {G1 G2 : Nat} {c : Int} {v1 v2 : Value} (h1 : Blk w G1 22 #[v1]) (h2 : Blk w G2 31 #[v2]) (hne : G1 ≠ G2) :
    CallsD Tryz.prog 42 #[.pointer (some ⟨G1, 0, none⟩), .pointer (some ⟨G2, 0, none⟩)] (.panicking (flt c)) w fun e u' w' =>
      e = .returned (.tuple #[]) ∧ u' = .panicking [{ v := .iface 91 (.int .i64 c), recovered := true }] ∧ w' = (w.setCell ⟨G1, 0, none⟩ (.slice none 0 0)).setCell ⟨G2, 0, none⟩ (.int .i64 c) := by
  have C1 : w.cell? ⟨G1, 0, none⟩ = some v1 := h1.cell 0
  have F1 := h1.free 0
  have k1 : Kept [G1] w (w.setCell ⟨G1, 0, none⟩ (.slice none 0 0)) := (Kept.refl _ w).setCell (p := ⟨G1, 0, none⟩) (.inl (by simp)) _
  have h2' := h2.kept k1 (by simp; omega)
  have C2 : (w.setCell ⟨G1, 0, none⟩ (.slice none 0 0)).cell? ⟨G2, 0, none⟩ = some v2 := h2'.cell 0
  have F2 := h2'.free 0
  clear h1 h2 h2' k1 hne
  unfold flt
  refine callsD_of_wpS Tryz.func42 rfl fun c₀ cs hu => ?_
  apply wpS_seq
  apply wpS_region
  simp [wpOpsS, go_sem, recoverD, hu, Tryz.ntmps42, Exit.thenS]
  refine wpS_of_wp ?_
  rw [show (#[Value.pointer (some ⟨G1, 0, none⟩), Value.pointer (some ⟨G2, 0, none⟩)] ++ (Array.replicate 10 undef).setIfInBounds 3 (Value.iface 91 (.int .i64 c)) : Array Value) = #[.pointer (some ⟨G1, 0, none⟩), .pointer (some ⟨G2, 0, none⟩), undef, undef, undef, .iface 91 (.int .i64 c), undef, undef, undef, undef, undef, undef] from rfl]
  have hta := ta_fault c
  go_wp2
  simp [bodyPostS, results, Tryz.results42]
theorem rcl_idle {w : World} {G1 G2 : Nat} :
    CallsD Tryz.prog 42 #[.pointer (some ⟨G1, 0, none⟩), .pointer (some ⟨G2, 0, none⟩)] .returning w fun e u' w' =>
      e = .returned (.tuple #[]) ∧ u' = .returning ∧ w' = w := by
  refine callsD_of_wpS Tryz.func42 rfl fun c₀ cs hu => ?_
  apply wpS_seq
  apply wpS_region
  simp [wpOpsS, go_sem, recoverD, hu, Tryz.ntmps42, Exit.thenS]
  refine wpS_of_wp ?_
  go_wp2
  cases c₀
  simp_all [bodyPostS, results, Tryz.results42]
theorem ucl_panic {w : World} {G1 G2 : Nat} {c : Int} {v1 v2 : Value} (h1 : Blk w G1 25 #[v1]) (h2 : Blk w G2 31 #[v2]) (hne : G1 ≠ G2) :
    CallsD Tryz.prog 47 #[.pointer (some ⟨G1, 0, none⟩), .pointer (some ⟨G2, 0, none⟩)] (.panicking (flt c)) w fun e u' w' =>
      e = .returned (.tuple #[]) ∧ u' = .panicking [{ v := .iface 91 (.int .i64 c), recovered := true }] ∧ w' = (w.setCell ⟨G1, 0, none⟩ (.slice none 0 0)).setCell ⟨G2, 0, none⟩ (.int .i64 c) := by
  have C1 : w.cell? ⟨G1, 0, none⟩ = some v1 := h1.cell 0
  have F1 := h1.free 0
  have k1 : Kept [G1] w (w.setCell ⟨G1, 0, none⟩ (.slice none 0 0)) := (Kept.refl _ w).setCell (p := ⟨G1, 0, none⟩) (.inl (by simp)) _
  have h2' := h2.kept k1 (by simp; omega)
  have C2 : (w.setCell ⟨G1, 0, none⟩ (.slice none 0 0)).cell? ⟨G2, 0, none⟩ = some v2 := h2'.cell 0
  have F2 := h2'.free 0
  clear h1 h2 h2' k1 hne
  unfold flt
  refine callsD_of_wpS Tryz.func47 rfl fun c₀ cs hu => ?_
  apply wpS_seq
  apply wpS_region
  simp [wpOpsS, go_sem, recoverD, hu, Tryz.ntmps47, Exit.thenS]
  refine wpS_of_wp ?_
  rw [show (#[Value.pointer (some ⟨G1, 0, none⟩), Value.pointer (some ⟨G2, 0, none⟩)] ++ (Array.replicate 10 undef).setIfInBounds 3 (Value.iface 91 (.int .i64 c)) : Array Value) = #[.pointer (some ⟨G1, 0, none⟩), .pointer (some ⟨G2, 0, none⟩), undef, undef, undef, .iface 91 (.int .i64 c), undef, undef, undef, undef, undef, undef] from rfl]
  have hta := ta_fault c
  go_wp2
  simp [bodyPostS, results, Tryz.results47]
theorem ucl_idle {w : World} {G1 G2 : Nat} :
    CallsD Tryz.prog 47 #[.pointer (some ⟨G1, 0, none⟩), .pointer (some ⟨G2, 0, none⟩)] .returning w fun e u' w' =>
      e = .returned (.tuple #[]) ∧ u' = .returning ∧ w' = w := by
  refine callsD_of_wpS Tryz.func47 rfl fun c₀ cs hu => ?_
  apply wpS_seq
  apply wpS_region
  simp [wpOpsS, go_sem, recoverD, hu, Tryz.ntmps47, Exit.thenS]
  refine wpS_of_wp ?_
  go_wp2
  cases c₀
  simp_all [bodyPostS, results, Tryz.results47]
end Go.Proofs.YtikdgbmdepplgaaGreatDoor
namespace Go.Proofs.YtikdgbmdepplgaaGreatDoor
open Go.RowKit
section
variable {P : Program} {ops : Array Oper} {Q : Exit → Act → World → Prop}
/-- Those of safe may come ahead of the call, and nothing else. -/
def dieOk (ops : Array Oper) (die : Nat) (safe : List Nat) : Bool :=
  (decide (die < ops.size) && !safe.contains die) && (List.range ops.size).all fun j => match ops[j]? with
    | none => false
    | some o => o.after.all (fun e => !Region.binds .any e || decide (e.on < j)) && (safe.contains j || j == die || o.after.any (fun e => Region.binds .any e && !safe.contains e.on))
theorem dieOk_spec {die : Nat} {safe : List Nat} (hok : dieOk ops die safe = true) : die < ops.size ∧ die ∉ safe ∧ ∀ j o, ops[j]? = some o → (∀ e ∈ o.after, Region.binds .any e = true → e.on < j) ∧ (j ∈ safe ∨ j = die ∨ ∃ e ∈ o.after, Region.binds .any e = true ∧ e.on ∉ safe) := by
  simp only [dieOk, Bool.and_eq_true, decide_eq_true_eq, Bool.not_eq_true'] at hok
  refine ⟨hok.1.1, fun hm => ?_, fun j o hj => ?_⟩
  · have := hok.1.2
    rw [List.contains_iff_mem.2 hm] at this
    cases this
  · have h1 := List.all_eq_true.1 hok.2 j (List.mem_range.2 (Array.getElem?_eq_some_iff.1 hj).1)
    simp only [hj, Bool.and_eq_true, Array.all_eq_true_iff_forall_mem, Bool.or_eq_true, Bool.not_eq_true', decide_eq_true_eq, beq_iff_eq] at h1
    refine ⟨fun e he hb => (h1.1 e he).resolve_left (by rw [hb]; simp), ?_⟩
    rcases h1.2 with (h2 | h2) | h2
    · exact .inl (List.contains_iff_mem.1 h2)
    · exact .inr (.inl h2)
    · obtain ⟨e, he, hb⟩ := Array.any_eq_true'.1 h2
      simp only [Bool.and_eq_true, Bool.not_eq_true'] at hb
      exact .inr (.inr ⟨e, he, hb.1, fun hm => by rw [List.contains_iff_mem.2 hm] at hb; cases hb.2⟩)
theorem die_any {die : Nat} {safe : List Nat} (hok : dieOk ops die safe = true) (Inv : Array Bool → Act → Prop) (w : World)
    (hstep : ∀ listed a i, i ∈ safe → listed.size = ops.size → Inv listed a → wpOp P ops Q i (fun a' w' => Inv (listed.setIfInBounds i true) a' ∧ w' = w) a w)
    (hdie : ∀ listed a, (∀ i, waits ops die i = true → listed.getD i false = true) → Inv listed a → wpOp P ops Q die (fun _ _ => False) a w) :
    ∀ (fuel : Nat) (listed : Array Bool) (a : Act), listed.size = ops.size → (∀ j, listed.getD j false = true → j ∈ safe) → (safe.filter fun i => !listed.getD i true).length < fuel → Inv listed a → wpAny P .any ops Q fuel listed a w := by
  obtain ⟨hlt, hds, hj0⟩ := dieOk_spec hok
  intro fuel
  induction fuel with
  | zero => intro _ _ _ _ h _; omega
  | succ fuel ih =>
    intro listed a hsz hsafe hlen hI
    refine ⟨fun hr => ?_, fun i hi => ?_⟩
    · exfalso
      have key : ∀ j, listed.getD j true = true := by
        intro j
        induction j using Nat.strongRecOn with
        | ind j ih =>
          cases hb : listed.getD j true with
          | true => rfl
          | false =>
            have hj : j < ops.size := by
              rcases Nat.lt_or_ge j listed.size with h' | h'
              · omega
              · simp [Array.getElem?_eq_none h'] at hb
            have hoj : ops[j]? = some ops[j] := Array.getElem?_eq_getElem hj
            have hm : j ∈ Region.ready .any ops listed := mem_ready.2 ⟨hb, _, hoj, fun e he hbd => by
              have hlt := (hj0 j _ hoj).1 e he hbd
              have h9 := ih e.on hlt
              have h8 : e.on < listed.size := by omega
              simp [h8] at h9 ⊢
              exact h9⟩
            rw [hr] at hm
            cases hm
      have h1 := key die
      refine hds (hsafe die ?_)
      have h8 : die < listed.size := by omega
      simp [h8] at h1 ⊢
      exact h1
    · obtain ⟨hun, o, ho, hall⟩ := mem_ready.1 hi
      rcases (hj0 i o ho).2 with hs | rfl | ⟨e, he, hb, hn⟩
      · refine wpOp_mono (fun a' w' h => ?_) (hstep listed a i hs hsz hI)
        obtain ⟨h1, rfl⟩ := h
        refine ih _ _ (by simp [hsz]) (fun j hj => ?_) ?_ h1
        · by_cases hji : i = j
          · rw [← hji]; exact hs
          · rw [getD_set_ne false hji] at hj; exact hsafe j hj
        · have hlt9 : (safe.filter fun k => !(listed.setIfInBounds i true).getD k true).length < (safe.filter fun k => !listed.getD k true).length := by
            have e1 : (safe.filter fun k => !(listed.setIfInBounds i true).getD k true) = (safe.filter fun k => !listed.getD k true).filter (fun k => decide (k ≠ i)) := by
              rw [List.filter_filter]
              refine List.filter_congr fun k _ => ?_
              by_cases hki : i = k
              · subst hki
                have h8 : i < listed.size := by have := (Array.getElem?_eq_some_iff.1 ho).1; omega
                simp [h8]
              · rw [getD_set_ne true hki]
                simp [Ne.symm hki]
            rw [e1]
            exact List.length_filter_lt_length_iff_exists.2 ⟨i, List.mem_filter.2 ⟨hs, by rw [hun]; rfl⟩, by simp⟩
          omega
      · refine wpOp_mono (fun _ _ h => h.elim) (hdie listed a (fun k hk => ?_) hI)
        obtain ⟨e, he, hb, rfl⟩ := waits_spec ho hk
        exact hall e he hb
      · exact absurd (hsafe _ (hall e he hb)) hn
theorem wp_region_die {id : Nat} {a : Act} {w : World} (die : Nat) (safe : List Nat) (hm : P.follows .mixedOrders = true) (hok : dieOk ops die safe = true) (Inv : Array Bool → Act → Prop) (hlen : safe.length < ops.size) (hI : Inv (Array.replicate ops.size false) a)
    (hstep : ∀ listed a i, i ∈ safe → listed.size = ops.size → Inv listed a → wpOp P ops Q i (fun a' w' => Inv (listed.setIfInBounds i true) a' ∧ w' = w.drew) a w.drew)
    (hdie : ∀ listed a, (∀ i, waits ops die i = true → listed.getD i false = true) → Inv listed a → wpOp P ops Q die (fun _ _ => False) a w.drew) : (Code.region id ops true).wp P Q a w := by
  refine wp_region_any hm ?_
  refine die_any hok Inv w.drew hstep hdie _ _ _ (by simp) (fun j h => ?_) (Nat.lt_of_le_of_lt (List.length_filter_le _ _) hlen) hI
  simp only [Array.getD_eq_getD_getElem?, Array.getElem?_replicate] at h
  split at h <;> simp at h
/-- A call of a function value that panics. -/
theorem die_fv {i : Nat} {o : Oper} {a : Act} {w : World} {f : Nat} {c : Call} {s : Operand} {args : Array Value} (hi : ops[i]? = some o) (hw : Region.wanted o (yielded ops a.tmps) = true) (ho : o.op = .call c) (hc : c.callee = .value s) (hs : a.eval s = .func (.func f) #[] #[]) (hen : ∀ args w, (callFunc f args).run P w = .ok (.enter f args) w) (ha : c.args.map a.eval = args)
    (h : Calls P f args w fun e w' => ∃ ch, e = .panicked ch ∧ Q (.panic ch) a w') : wpOp P ops Q i (fun _ _ => False) a w := by
  unfold wpOp
  simp only [hi, hw, if_true]
  refine .inl ?_
  unfold Oper.wp
  have h1 : (execOp a.eval o).run P w = .ok (.enter f args) w := by
    simp only [execOp, ho, resolve, hc, ha, hs, Deferred.ofValue, invoke, Sem.run_bind, Sem.run_pure, Result.andThen_ok]
    have e1 := hen (#[] ++ args ++ #[]) w
    simp only [Array.empty_append, Array.append_empty] at e1 ⊢
    exact e1
  rw [h1]
  refine Calls.mono h ?_
  rintro e w' ⟨ch, rfl, h⟩
  exact h
/-- An operation that only reads. -/
theorem die_op {i : Nat} {o : Oper} {a : Act} {w : World} {v : Value} {K : Act → World → Prop} (hi : ops[i]? = some o) (hw : Region.wanted o (yielded ops a.tmps) = true) (hy : (execOp a.eval o).run P w = .ok (.value v) w) (h : K (a.put o.dst v) w) : wpOp P ops Q i K a w := by
  unfold wpOp
  simp only [hi, hw, if_true]
  refine .inl ?_
  unfold Oper.wp
  rw [hy]
  exact h
theorem put_ne {a : Act} {d j : Nat} {v : Value} (h : d ≠ j) : (a.put (some d) v).tmps[j]?.getD undef = a.tmps[j]?.getD undef := by simp [Act.put, Array.getElem?_setIfInBounds, h]
theorem put_eq {a : Act} {d : Nat} {v : Value} (h : d < a.tmps.size) : (a.put (some d) v).tmps[d]?.getD undef = v := by simp [Act.put, h]
theorem put_size {a : Act} {d : Option Nat} {v : Value} : (a.put d v).tmps.size = a.tmps.size := by cases d <;> simp [Act.put]
theorem put_defers {a : Act} {d : Option Nat} {v : Value} : (a.put d v).defers = a.defers := by cases d <;> rfl
end
end Go.Proofs.YtikdgbmdepplgaaGreatDoor
