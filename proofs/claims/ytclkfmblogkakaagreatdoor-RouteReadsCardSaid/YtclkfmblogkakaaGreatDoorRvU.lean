/-
  The contracts of the reader's prefix, flag, route and update. Nothing here is a statement of the document.
-/
import Derived.Test.YtclkfmblogkakaaGreatDoorRtB
import Derived.Test.YtclkfmblogkakaaGreatDoorPfxV
import Derived.Test.YtclkfmblogkakaaGreatDoorPfxM
import Derived.WalkLawsBesides
import Derived.Test.YtclkfmblogkakaaGreatDoorRtP
namespace Go.Proofs.YtclkfmblogkakaaGreatDoor
open Go.RowKit Go.Shelf
set_option linter.unusedVariables false
set_option maxRecDepth 100000
/-- What leaves a reader. -/
def flt (c : Int) : List PanicEntry := [{ v := .iface 81 (.int .i64 c), recovered := false }]
/-- Block r is a reader with these bytes to come, in block g. -/
structure RdAt (w : World) (r g : Nat) (R : List Nat) (wr : Int) : Prop where
  st : ∃ a c, Blk w r 83 #[.slice a R.length c, .int .i64 wr] ∧ Lies w a R ∧ (R = [] ∨ ∃ o, a = some ⟨g, o, none⟩) ∧ R.length ≤ c ∧ c ≤ maxLen
theorem RdAt.lt {w : World} {r g : Nat} {R : List Nat} {wr : Int} (h : RdAt w r g R wr) : r < w.heap.size := by
  obtain ⟨a, c, h1, _⟩ := h.st
  exact h1.lt
theorem RdAt.later {w w' : World} {r g : Nat} {R : List Nat} {wr : Int} (h : RdAt w r g R wr) (k : Below w.heap.size w w') : RdAt w' r g R wr := by
  obtain ⟨a, c, h1, h2, h3⟩ := h.st
  exact ⟨a, c, h1.later k, h2.kept k, h3⟩
theorem kept_trans {S : List Nat} {a b c : World} (h : Kept S a b) (k : Kept S b c) : Kept S a c :=
  ⟨k.os.trans h.os, k.tape.trans h.tape, k.output.trans h.output, Nat.le_trans h.size k.size, fun i hi hn => (k.block i (Nat.lt_of_lt_of_le hi h.size) hn).trans (h.block i hi hn)⟩
theorem kept_below {S : List Nat} {a b : World} (h : Below a.heap.size a b) : Kept S a b := kept_step (Kept.refl S a) h
/-- Bytes lie in no reader. -/
theorem Lies.off {w : World} {a x : Option Addr} {n c r : Nat} {wr : Int} {R : List Nat} (h : Lies w a R) (b : Blk w r 83 #[.slice x n c, .int .i64 wr]) : R = [] ∨ ∀ y, a = some y → y.block ≠ r := by
  rcases h with h | ⟨g, o, h1, h2, h3⟩
  · exact .inl h
  · by_cases hL : R.length = 0
    · exact .inl (List.eq_nil_of_length_eq_zero hL)
    · refine .inr fun y hy e => ?_
      rw [h1] at hy
      injection hy with hy
      subst hy
      have e2 : g = r := e
      subst e2
      have h4 := h3 0 (by omega)
      have h5 := b.cell (o + 0)
      rw [h4] at h5
      rcases o with _ | _ | o
      · simp at h5
      · simp at h5
      · simp at h5
theorem Lies.set {w : World} {a : Option Addr} {r : Nat} {R : List Nat} (h : Lies w a R) (k : R = [] ∨ ∀ y, a = some y → y.block ≠ r) (i : Nat) (v : Value) : Lies (w.setCell ⟨r, i, none⟩ v) a R := by
  rcases k with k | k
  · exact .inl k
  · rcases h with h | ⟨g, o, h1, h2, h3⟩
    · exact .inl h
    · have kk : Kept [r] w (w.setCell ⟨r, i, none⟩ v) := (Kept.refl [r] w).setCell (p := ⟨r, i, none⟩) (.inl (by simp)) _
      exact .inr ⟨g, o, h1, Nat.lt_of_lt_of_le h2 kk.size, fun j hj => (World.cell?_of_block (w := w) (kk.block g h2 (by have := k _ h1; simpa using this))).trans (h3 j hj)⟩
/-- A block besides is set: a reader says what it said. -/
theorem RdAt.row9 {w : World} {r g G : Nat} {R : List Nat} {wr : Int} (h : RdAt w r g R wr) (hr : r ≠ G) (hg : R = [] ∨ g ≠ G) (V : Array Value) : RdAt (w.setRow G V) r g R wr := by
  obtain ⟨a, c, h1, h2, h3, h4⟩ := h.st
  have k : Kept [G] w (w.setRow G V) := (Kept.refl [G] w).setRow (.inl (by simp)) _
  refine ⟨a, c, h1.kept k (by simp; exact hr), ?_, h3, h4⟩
  rcases h2 with h2 | ⟨g', o, e1, e2, e3⟩
  · exact .inl h2
  · rcases hg with hg | hg
    · exact .inl hg
    · rcases h3 with h3 | ⟨o', h3⟩
      · exact .inl h3
      · rw [h3] at e1
        cases e1
        exact .inr ⟨g, o, h3, Nat.lt_of_lt_of_le e2 k.size, fun j hj => (World.cell?_of_block (w := w) (k.block g e2 (by simp; exact hg))).trans (e3 j hj)⟩
/-- The bytes to come are fewer. -/
theorem RdAt.step {w : World} {r g : Nat} {R : List Nat} {wr : Int} {a : Option Addr} {n c : Nat} (hb : Blk w r 83 #[.slice a n c, .int .i64 wr]) {a' : Option Addr} {c' : Nat} (hL : Lies w a' R) (hg : R = [] ∨ ∃ o, a' = some ⟨g, o, none⟩) (hc : R.length ≤ c') (hm : c' ≤ maxLen) :
    RdAt (w.setCell ⟨r, 0, none⟩ (.slice a' R.length c')) r g R wr ∧ Kept [r] w (w.setCell ⟨r, 0, none⟩ (.slice a' R.length c')) := by
  refine ⟨⟨a', c', ?_, hL.set (hL.off hb) 0 _, hg, hc, hm⟩, (Kept.refl [r] w).setCell (p := ⟨r, 0, none⟩) (.inl (by simp)) _⟩
  have := hb.set 0 (.slice a' R.length c')
  simpa using this
theorem Lies.tail {w : World} {g o x : Nat} {R : List Nat} (h : Lies w (some ⟨g, o, none⟩) (x :: R)) : Lies w (some ⟨g, o + 1, none⟩) R ∧ w.cell? ⟨g, o, none⟩ = some (.int .u8 (x : Int)) := by
  rcases h with h | ⟨g', o', h1, h2, h3⟩
  · cases h
  · cases h1
    refine ⟨.inr ⟨g, o + 1, rfl, h2, fun i hi => ?_⟩, by simpa using h3 0 (by simp)⟩
    have := h3 (i + 1) (by simp; omega)
    rw [show o + (i + 1) = o + 1 + i by omega] at this
    simpa using this
theorem wrap_b256 {x : Nat} (h : x < 256) : wrap64 (x : Int) = (x : Int) := by unfold wrap64; omega
set_option maxHeartbeats 1600000 in
theorem rnum_any {w : World} {r g0 x : Nat} {R : List Nat} {wr : Int} (h : RdAt w r g0 (x :: R) wr) (hx : x < 256) (hl : R.length ≤ 10000) :
    Calls Tryz.prog 34 #[.pointer (some ⟨r, 0, none⟩)] w fun e w' => e = .returned (.int .i64 (x : Int)) ∧ RdAt w' r g0 R wr ∧ Kept [r] w w' := by
  obtain ⟨a, c, hb, hL, hg, hc, hm⟩ := h.st
  obtain ⟨o, rfl⟩ : ∃ o, a = some ⟨g0, o, none⟩ := by
    rcases hg with hg | hg
    · cases hg
    · exact hg
  obtain ⟨hT, hcx⟩ := hL.tail
  have C0 : w.cell? ⟨r, 0, none⟩ = some (.slice (some ⟨g0, o, none⟩) (R.length + 1) c) := hb.cell 0
  have F0 := hb.free 0
  have wx := wrap_b256 hx
  have hcl : R.length + 1 ≤ c := by simpa using hc
  by_cases h1 : c = 1
  · subst h1
    have hR : R = [] := List.eq_nil_of_length_eq_zero (by omega)
    subst hR
    have hst := RdAt.step (g := g0) (R := []) hb (a' := some ⟨g0, o, none⟩) (.inl rfl) (.inl rfl) (c' := 0) (by simp) (by unfold maxLen; omega)
    have HS := Lib.hid hst
    clear hst hT hb hL h hc hx hg hm hl hcl
    simp only [List.length_nil, Nat.zero_add] at C0
    go_enter Tryz.func34, Tryz.ntmps34
    go_wp2
    go_ret
    exact ⟨by first | rfl | simp [wx], HS.out⟩
  · have hst := RdAt.step (g := g0) hb hT (.inr ⟨_, rfl⟩) (c' := c - 1) (by omega) (by omega)
    have HS := Lib.hid hst
    clear hst hT hb hL h hc hx hg
    go_enter Tryz.func34, Tryz.ntmps34
    go_wp2
    go_ret
    exact ⟨by first | rfl | simp [wx], HS.out⟩
theorem rnum_short {w : World} {r g : Nat} {wr : Int} (h : RdAt w r g [] wr) :
    Calls Tryz.prog 34 #[.pointer (some ⟨r, 0, none⟩)] w fun e w' => e = .panicked (flt 7) ∧ w = w' := by
  obtain ⟨a, c, hb, hL, hg, hc, hm⟩ := h.st
  have C0 : w.cell? ⟨r, 0, none⟩ = some (.slice a 0 c) := hb.cell 0
  clear hb hL h hc hg
  go_enter Tryz.func34, Tryz.ntmps34
  go_wp2
  exact ⟨rfl, rfl, rfl⟩
end Go.Proofs.YtclkfmblogkakaaGreatDoor
namespace Go.Proofs.YtclkfmblogkakaaGreatDoor
open Go.RowKit Go.Shelf
set_option linter.unusedVariables false
set_option maxRecDepth 100000
attribute [local go_sem ↓] load_b16_rule store_b16_rule load_ad_rule store_ad_rule load_px_rule store_px_rule eq_b16_rule eq_ad_rule eq_px_rule load_ro_rule store_ro_rule
set_option maxHeartbeats 4000000 in
theorem rfits_any (x : Ro) (w : World) : Calls Tryz.prog 40 #[.agg x.cs] w fun e w' => e = .returned (.bool (decide (okRo x))) ∧ Below w.heap.size w w' := by
  obtain ⟨W1, hW1⟩ : ∃ W1, w.alloc (.cells x.cs 57) = W1 := ⟨_, rfl⟩
  have hb1 : Below w.heap.size w W1 := by rw [← hW1]; exact (Below.refl _ _).alloc (Nat.le_refl _) _
  have b1 : Blk W1 w.heap.size 57 x.cs := by rw [← hW1]; exact Blk.new _ _ _
  have LP := ro_p b1 W1 (Below.refl _ _)
  have LS := ro_s b1
  have LF := ro_f b1
  have LH := ro_h b1
  have HC := refright_any x.p W1
  have HB := Lib.hid hb1
  clear hb1 b1
  by_cases h0 : okP x.p
  · by_cases h1 : 1 ≤ x.s
    · by_cases h2 : x.s ≤ 4
      · by_cases h3 : 0 ≤ x.f
        · by_cases h4 : x.f ≤ 255
          · by_cases h5 : 1 ≤ x.h
            · by_cases h6 : x.h ≤ 255
              · have HV := Lib.hid (decide_eq_true (show okRo x from ⟨h0, ⟨h1, h2⟩, ⟨h3, h4⟩, h5, h6⟩))
                rw [decide_eq_true h0] at HC
                go_enter Tryz.func40, Tryz.ntmps40
                go_wp2_with fail
                refine HC.mono ?_
                rintro e W2 ⟨rfl, hb2⟩
                have LS2 := LS W2 hb2
                have LF2 := LF W2 hb2
                have LH2 := LH W2 hb2
                clear LS LF LH
                go_wp2_with fail
                go_ret
                exact ⟨by rw [HV.out]; first | rfl | (simp; omega), bel_trans HB.out hb2⟩
              · have HV := Lib.hid (decide_eq_false (fun h : okRo x => h6 h.2.2.2.2))
                rw [decide_eq_true h0] at HC
                go_enter Tryz.func40, Tryz.ntmps40
                go_wp2_with fail
                refine HC.mono ?_
                rintro e W2 ⟨rfl, hb2⟩
                have LS2 := LS W2 hb2
                have LF2 := LF W2 hb2
                have LH2 := LH W2 hb2
                clear LS LF LH
                go_wp2_with fail
                go_ret
                exact ⟨by rw [HV.out]; first | rfl | (simp; omega), bel_trans HB.out hb2⟩
            · have HV := Lib.hid (decide_eq_false (fun h : okRo x => h5 h.2.2.2.1))
              rw [decide_eq_true h0] at HC
              go_enter Tryz.func40, Tryz.ntmps40
              go_wp2_with fail
              refine HC.mono ?_
              rintro e W2 ⟨rfl, hb2⟩
              have LS2 := LS W2 hb2
              have LF2 := LF W2 hb2
              have LH2 := LH W2 hb2
              clear LS LF LH
              go_wp2_with fail
              go_ret
              exact ⟨by rw [HV.out]; first | rfl | (simp; omega), bel_trans HB.out hb2⟩
          · have HV := Lib.hid (decide_eq_false (fun h : okRo x => h4 h.2.2.1.2))
            rw [decide_eq_true h0] at HC
            go_enter Tryz.func40, Tryz.ntmps40
            go_wp2_with fail
            refine HC.mono ?_
            rintro e W2 ⟨rfl, hb2⟩
            have LS2 := LS W2 hb2
            have LF2 := LF W2 hb2
            have LH2 := LH W2 hb2
            clear LS LF LH
            go_wp2_with fail
            go_ret
            exact ⟨by rw [HV.out]; first | rfl | (simp; omega), bel_trans HB.out hb2⟩
        · have HV := Lib.hid (decide_eq_false (fun h : okRo x => h3 h.2.2.1.1))
          rw [decide_eq_true h0] at HC
          go_enter Tryz.func40, Tryz.ntmps40
          go_wp2_with fail
          refine HC.mono ?_
          rintro e W2 ⟨rfl, hb2⟩
          have LS2 := LS W2 hb2
          have LF2 := LF W2 hb2
          have LH2 := LH W2 hb2
          clear LS LF LH
          go_wp2_with fail
          go_ret
          exact ⟨by rw [HV.out]; first | rfl | (simp; omega), bel_trans HB.out hb2⟩
      · have HV := Lib.hid (decide_eq_false (fun h : okRo x => h2 h.2.1.2))
        rw [decide_eq_true h0] at HC
        go_enter Tryz.func40, Tryz.ntmps40
        go_wp2_with fail
        refine HC.mono ?_
        rintro e W2 ⟨rfl, hb2⟩
        have LS2 := LS W2 hb2
        have LF2 := LF W2 hb2
        have LH2 := LH W2 hb2
        clear LS LF LH
        go_wp2_with fail
        go_ret
        exact ⟨by rw [HV.out]; first | rfl | (simp; omega), bel_trans HB.out hb2⟩
    · have HV := Lib.hid (decide_eq_false (fun h : okRo x => h1 h.2.1.1))
      rw [decide_eq_true h0] at HC
      go_enter Tryz.func40, Tryz.ntmps40
      go_wp2_with fail
      refine HC.mono ?_
      rintro e W2 ⟨rfl, hb2⟩
      have LS2 := LS W2 hb2
      have LF2 := LF W2 hb2
      have LH2 := LH W2 hb2
      clear LS LF LH
      go_wp2_with fail
      go_ret
      exact ⟨by rw [HV.out]; first | rfl | (simp; omega), bel_trans HB.out hb2⟩
  · have HV := Lib.hid (decide_eq_false (fun h : okRo x => h0 h.1))
    rw [decide_eq_false h0] at HC
    go_enter Tryz.func40, Tryz.ntmps40
    go_wp2_with fail
    refine HC.mono ?_
    rintro e W2 ⟨rfl, hb2⟩
    have LS2 := LS W2 hb2
    have LF2 := LF W2 hb2
    have LH2 := LH W2 hb2
    clear LS LF LH
    go_wp2_with fail
    go_ret
    exact ⟨by rw [HV.out]; first | rfl | (simp; omega), bel_trans HB.out hb2⟩
set_option maxHeartbeats 4000000 in
theorem rahead_any (x y : Ro) (w : World) : Calls Tryz.prog 41 #[.agg x.cs, .agg y.cs] w fun e w' => e = .returned (.bool (decide (cmpR x y < 0))) ∧ Below w.heap.size w w' := by
  obtain ⟨W1, hW1⟩ : ∃ W1, (w.alloc (.cells x.cs 57)).alloc (.cells y.cs 57) = W1 := ⟨_, rfl⟩
  have hb1 : Below w.heap.size w W1 := by rw [← hW1]; exact ((Below.refl _ _).alloc (Nat.le_refl _) _).alloc (by simp) _
  have b1 : Blk W1 w.heap.size 57 x.cs := by rw [← hW1]; exact (Blk.new _ _ _).alloc _
  have b2 : Blk W1 (w.heap.size + 1) 57 y.cs := by rw [← hW1]; exact blk_new2 _ _ _ _
  have LP := ro_p b1 W1 (Below.refl _ _)
  have LQ := ro_p b2 W1 (Below.refl _ _)
  have LS := ro_s b1
  have LT := ro_s b2
  have HC := refcompare_any x.p y.p W1
  have HB := Lib.hid (And.intro hb1 (cmpR_eq x y))
  clear hb1 b1 b2
  generalize cmpP x.p y.p = v at *
  go_enter Tryz.func41, Tryz.ntmps41
  go_wp2_with fail
  refine HC.mono ?_
  rintro e W2 ⟨rfl, hb2⟩
  have LS2 := LS W2 hb2
  have LT2 := LT W2 hb2
  clear LS LT HC
  by_cases h1 : v < 0
  · have HV := Lib.hid (show decide (cmpR x y < 0) = true by rw [HB.out.2, if_neg (by omega)]; exact decide_eq_true h1)
    go_wp2_with fail
    go_ret
    exact ⟨by rw [HV.out]; first | rfl | (simp; omega), bel_trans HB.out.1 hb2⟩
  · by_cases h2 : v = 0
    · subst h2
      by_cases h3 : x.s < y.s
      · have HV := Lib.hid (show decide (cmpR x y < 0) = true by rw [HB.out.2, if_pos rfl]; rcases cmpI_cases x.s y.s with h | h | h <;> first | (rw [h.2]; decide) | omega)
        go_wp2_with fail
        go_ret
        exact ⟨by rw [HV.out]; first | rfl | (simp; omega), bel_trans HB.out.1 hb2⟩
      · have HV := Lib.hid (show decide (cmpR x y < 0) = false by rw [HB.out.2, if_pos rfl]; rcases cmpI_cases x.s y.s with h | h | h <;> first | (rw [h.2]; decide) | omega)
        go_wp2_with fail
        go_ret
        exact ⟨by rw [HV.out]; first | rfl | (simp; omega), bel_trans HB.out.1 hb2⟩
    · have h4 : (v == 0) = false := by simpa using h2
      have HV := Lib.hid (show decide (cmpR x y < 0) = false by rw [HB.out.2, if_neg h2]; exact decide_eq_false h1)
      go_wp2_with fail
      go_ret
      exact ⟨by rw [HV.out]; first | rfl | (simp; omega), bel_trans HB.out.1 hb2⟩
end Go.Proofs.YtclkfmblogkakaaGreatDoor
namespace Go.Proofs.YtclkfmblogkakaaGreatDoor
open Go.RowKit Go.Shelf
set_option linter.unusedVariables false
set_option maxRecDepth 100000
/-- How many of the first ones are of a prefix that none ahead of them has. -/
noncomputable def disN (L : List Ro) : Nat → Nat
  | 0 => 0
  | m + 1 => open Classical in if ∃ i, i < m ∧ (rog L i).p = (rog L m).p then disN L m else disN L m + 1
theorem disN_old {L : List Ro} {m : Nat} (h : ∃ i, i < m ∧ (rog L i).p = (rog L m).p) : disN L (m + 1) = disN L m := by rw [disN, if_pos h]
theorem disN_new {L : List Ro} {m : Nat} (h : ¬ ∃ i, i < m ∧ (rog L i).p = (rog L m).p) : disN L (m + 1) = disN L m + 1 := by rw [disN, if_neg h]
theorem disN_le (L : List Ro) : ∀ m, disN L m ≤ m
  | 0 => Nat.le_refl _
  | m + 1 => by
    have := disN_le L m
    rw [disN]
    split <;> omega
/-- Strictly in order. -/
def Up2 (L : List Ro) : Prop := ∀ j, j + 1 < L.length → cmpR (rog L j) (rog L (j + 1)) < 0
theorem Up2.lt {L : List Ro} (h : Up2 L) {i : Nat} : ∀ {j}, i < j → j < L.length → cmpR (rog L i) (rog L j) < 0
  | 0, h1, _ => absurd h1 (Nat.not_lt_zero _)
  | j + 1, h1, h2 => by
    by_cases e : i = j
    · rw [e]; exact h j h2
    · exact cm_r.lt _ _ _ (h.lt (j := j) (by omega) (by omega)) (h j h2)
theorem cmpR_le {x y : Ro} (h : cmpR x y < 0) : cmpP x.p y.p ≤ 0 := by
  rw [cmpR_eq] at h
  by_cases e : cmpP x.p y.p = 0
  · omega
  · rw [if_neg e] at h; omega
theorem Up2.one {L : List Ro} (h : Up2 L) {i j : Nat} (hij : i < j) (hj : j < L.length) (e : (rog L i).p = (rog L j).p) : (rog L j).p = (rog L (j - 1)).p := by
  by_cases k : i = j - 1
  · rw [← k]; exact e.symm
  · have h1 := cmpR_le (h.lt (i := i) (j := j - 1) (by omega) (by omega))
    have h2 := cmpR_le (h (j - 1) (by omega))
    rw [show j - 1 + 1 = j by omega] at h2
    rw [e] at h1
    have h3 := cmpP_neg (rog L j).p (rog L (j - 1)).p
    exact (cmpP_zero _ _).1 (by omega)
theorem Up2.count {L : List Ro} (h : Up2 L) : ∀ m, m ≤ L.length → disN L m = (fstN L m).length
  | 0, _ => rfl
  | m + 1, hm => by
    have ih := h.count m (by omega)
    by_cases k : m = 0 ∨ (rog L m).p ≠ (rog L (m - 1)).p
    · rw [fstN_new k, List.length_append, ← ih, disN_new]
      · rfl
      · rintro ⟨i, h1, h2⟩
        rcases k with k | k
        · omega
        · exact k (h.one h1 (by omega) h2)
    · have k1 : m ≠ 0 := fun e => k (.inl e)
      have k2 : (rog L m).p = (rog L (m - 1)).p := Classical.not_not.1 fun e => k (.inr e)
      rw [fstN_old k1 k2, ← ih, disN_old ⟨m - 1, by omega, k2.symm⟩]
theorem Up2.many {L : List Ro} (h : Up2 L) (ho : ∀ j, j < L.length → okRo (rog L j)) : ∀ m, m + 1 ≤ L.length → ((m + 1 : Nat) : Int) ≤ 4 * ((fstN L (m + 1)).length - 1 : Int) + (rog L m).s
  | 0, hm => by
    rw [fstN_new (.inl rfl)]
    have := (ho 0 (by omega)).2.1.1
    show (1 : Int) ≤ 4 * ((([] ++ [rog L 0] : List Ro).length : Int) - 1) + _
    simp
    omega
  | m + 1, hm => by
    have ih := h.many ho m (by omega)
    have h1 := (ho m (by omega)).2.1
    have h2 := (ho (m + 1) (by omega)).2.1
    by_cases k : (rog L (m + 1)).p = (rog L m).p
    · rw [fstN_old (m := m + 1) (by omega) k]
      have h3 := h m (by omega)
      rw [cmpR_eq, k, if_pos ((cmpP_zero _ _).2 rfl)] at h3
      have h4 : (rog L m).s < (rog L (m + 1)).s := by
        rcases cmpI_cases (rog L m).s (rog L (m + 1)).s with g | g | g <;> omega
      omega
    · rw [fstN_new (m := m + 1) (.inr k), List.length_append]
      simp
      omega
theorem okRib_len {L : List Ro} (h : okRib L) : L.length ≤ 160 := by
  by_cases e : L.length = 0
  · omega
  · have h1 := Up2.many h.2.1 h.1 (L.length - 1) (by omega)
    rw [show L.length - 1 + 1 = L.length by omega] at h1
    have h2 := (h.1 (L.length - 1) (by omega)).2.1.2
    have h3 := h.2.2
    unfold fstL at h3
    omega
theorem okRib_iff (L : List Ro) : okRib L ↔ L.length ≤ 160 ∧ (∀ j, j < L.length → okRo (rog L j)) ∧ Up2 L ∧ disN L L.length ≤ 40 := by
  constructor
  · intro h
    exact ⟨okRib_len h, h.1, h.2.1, by rw [Up2.count h.2.1 _ (Nat.le_refl _)]; exact h.2.2⟩
  · rintro ⟨_, h1, h2, h3⟩
    exact ⟨h1, h2, by rw [Up2.count h2 _ (Nat.le_refl _)] at h3; exact h3⟩
attribute [local go_sem ↓] load_b16_rule store_b16_rule load_ad_rule store_ad_rule load_px_rule store_px_rule eq_b16_rule eq_ad_rule eq_px_rule load_ro_rule store_ro_rule
set_option maxHeartbeats 4000000 in
theorem rprefixes_any (a : Option Addr) (n c : Nat) (L : List Ro) (w : World) (hn : L.length = n) (hs : n ≤ 1000000) (hR : RoAt w a L) :
    Calls Tryz.prog 42 #[.slice a n c] w fun e w' => e = .returned (.int .i64 (disN L n : Nat)) ∧ Below w.heap.size w w' := by
  have HR := Lib.hid (And.intro (fun (w' : World) (h : Below w.heap.size w w') => hR.later h) hn)
  clear hR hn
  go_enter Tryz.func42, Tryz.ntmps42
  go_wp2_with fail
  go_loopw [3, 4] (fun q i wr => ∃ k : Nat, k ≤ n ∧ i = .int .i64 (k : Int) ∧ q = .int .i64 (disN L k : Nat) ∧ Below w.heap.size w wr) (fun _ i _ => n - (intOf i).toNat)
  case atStart => exact ⟨0, Nat.zero_le _, rfl, rfl, Below.refl _ _⟩
  case round =>
    obtain ⟨k, hk, rfl, rfl, hkb⟩ := hrel
    obtain ⟨wo, hwo⟩ : ∃ wo, wo = wr := ⟨_, rfl⟩
    subst hwo
    have hdl : disN L k ≤ 1000000 := Nat.le_trans (disN_le L k) (by omega)
    by_cases hlt : k < n
    · have hkl : k < L.length := by have := HR.out.2; omega
      have HK := Lib.hid hkb
      clear hkb
      go_wp2_with fail
      go_loopw [5, 6] (fun f i wr => ∃ j : Nat, j ≤ k ∧ i = .int .i64 (j : Int) ∧ (∃ b : Bool, f = .bool b ∧ (b = true ↔ ∀ m, m < j → (rog L m).p ≠ (rog L k).p)) ∧ Below wo.heap.size wo wr) (fun _ i _ => k - (intOf i).toNat)
      case atStart => exact ⟨0, Nat.zero_le _, rfl, ⟨true, rfl, by simp⟩, Below.refl _ _⟩
      case round =>
        obtain ⟨j, hj, rfl, ⟨b, rfl, hb⟩, hjb⟩ := hrel
        have hb14 : Below w.heap.size w wr := bel_trans HK.out hjb
        by_cases hjk : j < k
        · obtain ⟨g, o, hao, hrow⟩ := (HR.out.1 wr hb14).spot hkl
          have L1 : ∀ w', Below wr.heap.size wr w' → (loadSem 43 (.pointer (some ⟨g, o + k * 21, none⟩))).run Tryz.prog w' = .ok (.agg (rog L k).p.cs) w' := fun w' h => (hrow.later h).loadp hkl
          have L2 : ∀ w', Below wr.heap.size wr w' → (loadSem 43 (.pointer (some ⟨g, o + j * 21, none⟩))).run Tryz.prog w' = .ok (.agg (rog L j).p.cs) w' := fun w' h => (hrow.later h).loadp (by omega)
          have h02 : Below wr.heap.size wr wr := Below.refl _ _
          have EQ := eqP (rog L j).p (rog L k).p
          have i1 : (j : Int) < (n : Int) := by omega
          have HJ := Lib.hid (And.intro hb hjb)
          clear hrow hb hjb hb14
          subst hao
          by_cases he : (rog L j).p = (rog L k).p
          · rw [decide_eq_true he] at EQ
            have HE := Lib.hid he
            clear he
            go_upto_region 9 with fail
            refine wp_region_lin (fun w' => Below wr.heap.size wr w') (by kernel_rfl) (by kernel_rfl) (bel_drew (by assumption)) ?_
            (repeat (first | (refine lin_off (by rfl) ?_; (try simp only [Act.put, List.setIfInBounds_toArray, List.set_cons_zero, List.set_cons_succ])) | (refine lin_op (v := ?_) (by rfl) (fun w9 hS9 => ?_) ?_; rotate_left; (focus (((try dsimp only at hS9); go_simp; (try go_bits)) <;> with_reducible rfl)); (try simp only [Act.put, List.setIfInBounds_toArray, List.set_cons_zero, List.set_cons_succ]))))
            refine lin_nil (fun w7 hb7 => ?_)
            go_wp2
            go_roundw
            case rel => exact ⟨j + 1, by omega, by go_num, ⟨false, rfl, ⟨fun h => (by cases h), fun h => absurd HE.out (h j (by omega))⟩⟩, bel_trans HJ.out.2 hb7⟩
            case measure => simp [intOf]; omega
          · rw [decide_eq_false he] at EQ
            go_upto_region 9 with fail
            refine wp_region_lin (fun w' => Below wr.heap.size wr w') (by kernel_rfl) (by kernel_rfl) (bel_drew (by assumption)) ?_
            (repeat (first | (refine lin_off (by rfl) ?_; (try simp only [Act.put, List.setIfInBounds_toArray, List.set_cons_zero, List.set_cons_succ])) | (refine lin_op (v := ?_) (by rfl) (fun w9 hS9 => ?_) ?_; rotate_left; (focus (((try dsimp only at hS9); go_simp; (try go_bits)) <;> with_reducible rfl)); (try simp only [Act.put, List.setIfInBounds_toArray, List.set_cons_zero, List.set_cons_succ]))))
            refine lin_nil (fun w7 hb7 => ?_)
            go_wp2
            go_roundw
            case rel => exact ⟨j + 1, by omega, by go_num, ⟨b, rfl, HJ.out.1.trans ⟨fun h m hm => by
              by_cases e : m = j
              · rw [e]; exact he
              · exact h m (by omega), fun h m hm => h m (by omega)⟩⟩, bel_trans HJ.out.2 hb7⟩
            case measure => simp [intOf]; omega
        · have hjk2 : j = k := by omega
          have i1 : ¬ ((j : Int) < (k : Int)) := by omega
          have HJ := Lib.hid (And.intro hb (And.intro hb14 hjk2))
          clear hb hjb hb14 hjk2
          cases b
          · have hd : disN L (k + 1) = disN L k := disN_old (Classical.byContradiction fun h => by
              have := HJ.out.1.2 (fun m hm e => h ⟨m, by rw [← HJ.out.2.2]; exact hm, e⟩)
              cases this)
            have HD := Lib.hid hd
            clear hd
            go_wp2
            go_roundw
            case rel => exact ⟨k + 1, by omega, by go_num, by rw [HD.out], HJ.out.2.1⟩
            case measure => simp [intOf]; omega
          · have hd : disN L (k + 1) = disN L k + 1 := disN_new (by
              rintro ⟨m, h1, h2⟩
              exact HJ.out.1.1 rfl m (by rw [HJ.out.2.2]; exact h1) h2)
            have HD := Lib.hid hd
            clear hd
            go_wp2
            go_roundw
            case rel => exact ⟨k + 1, by omega, by go_num, by rw [HD.out]; go_num, HJ.out.2.1⟩
            case measure => simp [intOf]; omega
    · have hkn : k = n := by omega
      have i1 : ¬ ((k : Int) < (n : Int)) := by omega
      have HK := Lib.hid (And.intro hkb hkn)
      clear hkb hkn
      go_wp2
      go_ret
      exact ⟨by rw [← HK.out.2]; rfl, HK.out.1⟩
end Go.Proofs.YtclkfmblogkakaaGreatDoor
namespace Go.Proofs.YtclkfmblogkakaaGreatDoor
open Go.RowKit Go.Shelf
set_option linter.unusedVariables false
set_option maxRecDepth 100000
/-- One after the other, of what one by one is taken: the error (0: none), and what was taken. -/
def takeN {T : Type} (one : List Nat → Int × T × List Nat) (wr : Int) : Nat → List Nat → List T → Int × List T
  | 0, L, A => if L = [] then (0, A) else (wr, [])
  | k + 1, L, A => if (one L).1 = 0 then takeN one wr k (one L).2.2 (A ++ [(one L).2.1]) else ((one L).1, [])
def takeA {T : Type} (one : List Nat → Int × T × List Nat) (wr : Int) : List Nat → Int × List T
  | [] => (7, [])
  | k :: R => takeN one wr k R []
/-- The three numbers of a candidate. -/
def ro3 (p : Px) : List Nat → Int × Ro × List Nat
  | s :: f :: h :: R => (0, ⟨p, s, f, h⟩, R)
  | _ => (7, Ro.zero, [])
noncomputable def roR (L : List Nat) : Int × Ro × List Nat := if decPE L = 0 then ro3 (decPX L) (L.drop (decPN L)) else if decPE L = 7 then (7, Ro.zero, []) else (211, Ro.zero, [])
/-- The four numbers of an update. -/
def up4 (p : Px) : List Nat → Int × Up × List Nat
  | s :: g :: f :: h :: R => if 1 < g then (210, Up.zero, []) else (0, ⟨p, s, decide (g = 1), f, h⟩, R)
  | _ :: g :: _ => if 1 < g then (210, Up.zero, []) else (7, Up.zero, [])
  | _ => (7, Up.zero, [])
noncomputable def upR (L : List Nat) : Int × Up × List Nat := if decPE L = 0 then up4 (decPX L) (L.drop (decPN L)) else if decPE L = 7 then (7, Up.zero, []) else (210, Up.zero, [])
noncomputable def decRo (L : List Nat) : Int × List Ro := if (takeA roR 211 L).1 = 0 then (if okRib (takeA roR 211 L).2 then (0, (takeA roR 211 L).2) else (211, [])) else ((takeA roR 211 L).1, [])
noncomputable def decUp (L : List Nat) : Int × List Up := if (takeA upR 210 L).1 = 0 then (if okBat (takeA upR 210 L).2 then (0, (takeA upR 210 L).2) else (210, [])) else ((takeA upR 210 L).1, [])
theorem takeN_bad {T : Type} {one : List Nat → Int × T × List Nat} {wr : Int} (hwr : wr ≠ 0) : ∀ (k : Nat) (L : List Nat) (A : List T), (takeN one wr k L A).1 ≠ 0 → (takeN one wr k L A).2 = []
  | 0, L, A, h => by
    rw [takeN] at h ⊢
    split at h
    · exact absurd rfl h
    · rename_i h2; rw [if_neg h2]
  | k + 1, L, A, h => by
    rw [takeN] at h ⊢
    split at h
    · rename_i h2; rw [if_pos h2]; exact takeN_bad hwr k _ _ h
    · rename_i h2; rw [if_neg h2]
theorem ro3_len {p : Px} {L : List Nat} (h : (ro3 p L).1 = 0) : ∃ s f h, L = s :: f :: h :: (ro3 p L).2.2 ∧ (ro3 p L).2.1 = ⟨p, s, f, h⟩ := by
  match L with
  | s :: f :: h :: R => exact ⟨s, f, h, rfl, rfl⟩
  | [] => cases h
  | [_] => cases h
  | [_, _] => cases h
theorem up4_len {p : Px} {L : List Nat} (h : (up4 p L).1 = 0) : ∃ s g f h, L = s :: g :: f :: h :: (up4 p L).2.2 ∧ g ≤ 1 ∧ (up4 p L).2.1 = ⟨p, s, decide (g = 1), f, h⟩ := by
  rcases L with _ | ⟨s, _ | ⟨g, _ | ⟨f, _ | ⟨k, R⟩⟩⟩⟩
  · cases h
  · cases h
  · simp only [up4] at h; split at h <;> cases h
  · simp only [up4] at h; split at h <;> cases h
  · simp only [up4] at h ⊢
    by_cases hg : 1 < g
    · rw [if_pos hg] at h; cases h
    · rw [if_neg hg]; exact ⟨s, g, f, k, rfl, by omega, rfl⟩
theorem roR_len {L : List Nat} (hB : Bys L) (h : (roR L).1 = 0) : (roR L).2.2.length ≤ L.length ∧ Bys (roR L).2.2 := by
  unfold roR at h ⊢
  by_cases h1 : decPE L = 0
  · rw [if_pos h1] at h ⊢
    obtain ⟨s, f, h', e, _⟩ := ro3_len h
    have h2 : (L.drop (decPN L)).length ≤ L.length := by simp
    refine ⟨?_, fun x hx => hB x (List.mem_of_mem_drop (i := decPN L) ?_)⟩
    · rw [e] at h2; simp at h2; omega
    · rw [e]; simp [hx]
  · rw [if_neg h1] at h
    split at h
    · cases h
    · cases h
theorem upR_len {L : List Nat} (hB : Bys L) (h : (upR L).1 = 0) : (upR L).2.2.length ≤ L.length ∧ Bys (upR L).2.2 := by
  unfold upR at h ⊢
  by_cases h1 : decPE L = 0
  · rw [if_pos h1] at h ⊢
    obtain ⟨s, g, f, h', e, _⟩ := up4_len h
    have h2 : (L.drop (decPN L)).length ≤ L.length := by simp
    refine ⟨?_, fun x hx => hB x (List.mem_of_mem_drop (i := decPN L) ?_)⟩
    · rw [e] at h2; simp at h2; omega
    · rw [e]; simp [hx]
  · rw [if_neg h1] at h
    split at h
    · cases h
    · cases h
end Go.Proofs.YtclkfmblogkakaaGreatDoor
namespace Go.Proofs.YtclkfmblogkakaaGreatDoor
open Go.RowKit Go.Shelf
set_option linter.unusedVariables false
set_option maxRecDepth 100000
theorem Lies.dropN {w : World} {g o : Nat} {R : List Nat} (h : Lies w (some ⟨g, o, none⟩) R) (n : Nat) : Lies w (some ⟨g, o + n, none⟩) (R.drop n) := by
  rcases h with h | ⟨g', o', h1, h2, h3⟩
  · left; rw [h]; simp
  · cases h1
    refine .inr ⟨g, o + n, rfl, h2, fun i hi => ?_⟩
    have hi2 : n + i < R.length := by simp at hi; omega
    have := h3 (n + i) hi2
    rw [Nat.add_assoc, this]
    simp
theorem Bys.drop8 {L : List Nat} (h : Bys L) (n : Nat) : Bys (L.drop n) := fun x hx => h x (List.mem_of_mem_drop hx)
theorem px_box9 (w : World) (q : Px) : ∃ W, (storeSem 43 (.pointer (some ⟨w.heap.size, 0, none⟩)) (.agg q.cs)).run Tryz.prog (w.alloc (.cells Px.zero.cs 43)) = .ok () W ∧ Blk W w.heap.size 43 q.cs ∧ Below w.heap.size w W := by
  have hb := Blk.new w 43 Px.zero.cs
  have := storeRes_of (P := Tryz.prog) (ty := 43) (o := 0) (vs := q.cs) hb (by rw [Px.size, Px.size]; omega) (s_px q) q.one
  rw [over_all (by rw [Px.size, Px.size])] at this
  exact ⟨_, this, Blk.row hb _, below_setRow ((Below.refl _ _).alloc (Nat.le_refl _) _) (Nat.le_refl _) _⟩
theorem st_pxz {w : World} {g : Nat} {q r : Px} (hb : Blk w g 43 r.cs) : (storeSem 43 (.pointer (some ⟨g, 0, none⟩)) (.agg q.cs)).run Tryz.prog w = .ok () (w.setRow g q.cs) := by
  have := storeRes_of (P := Tryz.prog) (ty := 43) (o := 0) (vs := q.cs) hb (by rw [Px.size, Px.size]; omega) (s_px q) q.one
  rwa [over_all (by rw [Px.size, Px.size])] at this
attribute [local go_sem ↓] load_b16_rule store_b16_rule load_ad_rule store_ad_rule load_px_rule store_px_rule load_ro_rule store_ro_rule load_up_rule store_up_rule build_ro_rule
set_option maxHeartbeats 1600000 in
theorem rpre_bad {w : World} {r g : Nat} {R : List Nat} {wr q : Int} (hq : q = if decPE R = 7 then 7 else wr) (hW : Wid w) (h : RdAt w r g R wr) (hB : Bys R) (hl : R.length ≤ 6000) (hE : decPE R ≠ 0) :
    Calls Tryz.prog 36 #[.pointer (some ⟨r, 0, none⟩)] w fun e w' => e = .panicked (flt q) ∧ Below w.heap.size w w' := by
  obtain ⟨W0, hW0⟩ : ∃ W0, w.alloc (.cells Px.zero.cs 43) = W0 := ⟨_, rfl⟩
  have hb0 : Below w.heap.size w W0 := by rw [← hW0]; exact (Below.refl _ _).alloc (Nat.le_refl _) _
  obtain ⟨a, c, hb, hL, hg, hc, hm⟩ := (h.later hb0).st
  have C0 : W0.cell? ⟨r, 0, none⟩ = some (.slice a R.length c) := hb.cell 0
  have HD := decode_any a c R W0 (hW.later hb0) hB hl hc (by unfold maxLen at hm; omega) hL
  generalize hN : decPN R = N at HD
  generalize hX : decPX R = X at HD
  obtain ⟨E, hE'⟩ : ∃ E, decPE R = E := ⟨_, rfl⟩
  rw [hE'] at HD hE
  have hD := fun w1 => px_box9 w1 X
  have d0 : (E == 0) = false := by simpa using hE
  have HR := Lib.hid (And.intro hb0 (And.intro hb (And.intro hE' hq)))
  clear hq hb0 hb hL h hW hN hX hc hE hE' hB hg
  go_enter Tryz.func36, Tryz.ntmps36
  go_wp2_with (with_reducible refine wpList_alloc_z rfl 43 rfl Px.zero.cs 18 z_px ?_)
  refine HD.mono ?_
  rintro e W1 ⟨rfl, hb1⟩
  obtain ⟨W2, STP, hbp, hb2⟩ := hD W1
  have C1 : W2.cell? ⟨r, 1, none⟩ = some (.int .i64 wr) := ((HR.out.2.1.later hb1).later hb2).cell 1
  have HX := Lib.hid (bel_trans HR.out.1 (bel_trans hb1 hb2))
  clear hD HD hb1 hb2 C0 hbp
  by_cases h7 : E = 7
  · have d1 : (E == 7) = true := by rw [h7]; rfl
    obtain rfl : q = 7 := by rw [HR.out.2.2.2, HR.out.2.2.1, if_pos h7]
    clear h7
    go_wp2_with (with_reducible refine wpList_alloc_z rfl 43 rfl Px.zero.cs 18 z_px ?_)
    exact ⟨rfl, rfl, HX.out⟩
  · have d1 : (E == 7) = false := by simpa using h7
    obtain rfl : q = wr := by rw [HR.out.2.2.2, HR.out.2.2.1, if_neg h7]
    clear h7
    go_wp2_with (with_reducible refine wpList_alloc_z rfl 43 rfl Px.zero.cs 18 z_px ?_)
    exact ⟨rfl, rfl, HX.out⟩
set_option maxHeartbeats 1600000 in
theorem rpre_ok {w : World} {r g : Nat} {R : List Nat} {wr : Int} (hW : Wid w) (h : RdAt w r g R wr) (hB : Bys R) (hl : R.length ≤ 6000) (hE : decPE R = 0) :
    Calls Tryz.prog 36 #[.pointer (some ⟨r, 0, none⟩)] w fun e w' => e = .returned (.agg (decPX R).cs) ∧ RdAt w' r g (R.drop (decPN R)) wr ∧ Kept [r] w w' := by
  have hNl : decPN R ≤ R.length := (enc_dec hB hE).2.2
  have hR0 : R ≠ [] := fun e => by rw [e] at hE; unfold decPE at hE; simp at hE
  obtain ⟨W0, hW0⟩ : ∃ W0, w.alloc (.cells Px.zero.cs 43) = W0 := ⟨_, rfl⟩
  have hb0 : Below w.heap.size w W0 := by rw [← hW0]; exact (Below.refl _ _).alloc (Nat.le_refl _) _
  have hbz : Blk W0 w.heap.size 43 Px.zero.cs := by rw [← hW0]; exact Blk.new _ _ _
  obtain ⟨a, c, hbw, hLw, hg, hc, hm⟩ := h.st
  obtain ⟨o, rfl, hglt⟩ : ∃ o, a = some ⟨g, o, none⟩ ∧ g < w.heap.size := by
    rcases hLw with hL | ⟨g', o, h1, h2, _⟩
    · exact absurd hL hR0
    · rcases hg with hg | ⟨o', hg⟩
      · exact absurd hg hR0
      · rw [hg] at h1; cases h1; exact ⟨_, hg, h2⟩
  have hrl := h.lt
  have hb := hbw.later hb0
  have hL := hLw.kept hb0
  have HGW := Lib.hid (show g ≠ w.heap.size by omega)
  clear hbw hLw hglt hg
  have C0 : W0.cell? ⟨r, 0, none⟩ = some (.slice (some ⟨g, o, none⟩) R.length c) := hb.cell 0
  have HD := decode_any (some ⟨g, o, none⟩) c R W0 (hW.later hb0) hB hl hc (by unfold maxLen at hm; omega) hL
  rw [hE] at HD
  obtain ⟨N, hN⟩ : ∃ N, decPN R = N := ⟨_, rfl⟩
  rw [hN] at HD hNl ⊢
  obtain ⟨X, hX⟩ : ∃ X, decPX R = X := ⟨_, rfl⟩
  rw [hX] at HD ⊢
  have hD := fun w1 => px_box9 w1 X
  obtain ⟨n, hn⟩ : ∃ n, R.length = n := ⟨_, rfl⟩
  rw [hn] at C0 HD hNl hl hc hb
  have HR := Lib.hid (And.intro hb0 (And.intro hb (And.intro hbz (And.intro hL (And.intro hn hrl)))))
  have hm2 : c ≤ 9223372036854775807 := by unfold maxLen at hm; omega
  have HM := Lib.hid hm
  clear hb0 hb hbz hL h hW hN hX hE hB hR0 hn hrl hm
  go_enter Tryz.func36, Tryz.ntmps36
  go_wp2_with (with_reducible refine wpList_alloc_z rfl 43 rfl Px.zero.cs 18 z_px ?_)
  refine HD.mono ?_
  rintro e W1 ⟨rfl, hb1⟩
  obtain ⟨W2, STP, hbp, hb2⟩ := hD W1
  have hb02 := bel_trans hb1 hb2
  have b2 := HR.out.2.1.later hb02
  have C2 : W2.cell? ⟨r, 0, none⟩ = some (.slice (some ⟨g, o, none⟩) n c) := b2.cell 0
  have F2 := b2.free 0
  have hlen : (R.drop N).length = n - N := by rw [List.length_drop, HR.out.2.2.2.2.1]
  by_cases hcN : c = N
  · have hnil : R.drop N = [] := List.eq_nil_of_length_eq_zero (by rw [hlen]; omega)
    have hst := RdAt.step b2 (R := R.drop N) (.inl hnil) (g := g) (a' := some ⟨g, o, none⟩) (.inl hnil) (c' := 0) (by rw [hlen]; omega) (by unfold maxLen; omega)
    rw [hlen] at hst
    obtain ⟨W3, hW3⟩ : ∃ W3, W2.setCell ⟨r, 0, none⟩ (.slice (some ⟨g, o, none⟩) (n - N) 0) = W3 := ⟨_, rfl⟩
    rw [hW3] at hst
    have hrl := HR.out.2.2.2.2.2
    have hs0 : w.heap.size < W0.heap.size := HR.out.2.2.1.lt
    have hbp3 := hbp.kept hst.2 (by simp; have := hb1.size; omega)
    have hbz3 := (HR.out.2.2.1.later hb02).kept hst.2 (by simp; omega)
    have LP3 := px_p hbp3 W3 (Below.refl _ _)
    have SP3 := st_pxz (q := X) hbz3
    have hk03 : Kept [r] w W3 := kept_trans (kept_below (bel_trans HR.out.1 hb02)) hst.2
    have hgw := HGW.out
    have HZ := Lib.hid (And.intro hst.1 (And.intro hk03 (And.intro hbz3 (And.intro hrl hgw))))
    clear hnil hst hbp3 hbz3 hk03 hb1 hb2 hb02 b2 hD HD C0 hlen hrl hs0 hbp hgw
    go_wp2_with (with_reducible refine wpList_alloc_z rfl 43 rfl Px.zero.cs 18 z_px ?_)
    refine bodyPost_ret (results_cell_row rfl _ _ w.heap.size 43 _ (0, 0) _ rfl (HZ.out.2.2.1.row _) Tryz.underlying43 rfl (s_px _)) rfl ?_
    refine ⟨rfl, ?_, HZ.out.2.1.setRow (.inr (Nat.le_refl _)) _⟩
    exact HZ.out.1.row9 (by have := HZ.out.2.2.2.1; omega) (.inr HZ.out.2.2.2.2) _
  · have hst := RdAt.step b2 (((HR.out.2.2.2.1.kept hb02)).dropN N) (g := g) (.inr ⟨_, rfl⟩) (c' := c - N) (by rw [hlen]; omega) (by have := HM.out; omega)
    rw [hlen] at hst
    obtain ⟨W3, hW3⟩ : ∃ W3, W2.setCell ⟨r, 0, none⟩ (.slice (some ⟨g, o + N, none⟩) (n - N) (c - N)) = W3 := ⟨_, rfl⟩
    rw [hW3] at hst
    have hrl := HR.out.2.2.2.2.2
    have hs0 : w.heap.size < W0.heap.size := HR.out.2.2.1.lt
    have hbp3 := hbp.kept hst.2 (by simp; have := hb1.size; omega)
    have hbz3 := (HR.out.2.2.1.later hb02).kept hst.2 (by simp; omega)
    have LP3 := px_p hbp3 W3 (Below.refl _ _)
    have SP3 := st_pxz (q := X) hbz3
    have hk03 : Kept [r] w W3 := kept_trans (kept_below (bel_trans HR.out.1 hb02)) hst.2
    have hgw := HGW.out
    have HZ := Lib.hid (And.intro hst.1 (And.intro hk03 (And.intro hbz3 (And.intro hrl hgw))))
    clear hst hbp3 hbz3 hk03 hb1 hb2 hb02 b2 hD HD C0 hlen hrl hs0 hbp hgw
    go_wp2_with (with_reducible refine wpList_alloc_z rfl 43 rfl Px.zero.cs 18 z_px ?_)
    refine bodyPost_ret (results_cell_row rfl _ _ w.heap.size 43 _ (0, 0) _ rfl (HZ.out.2.2.1.row _) Tryz.underlying43 rfl (s_px _)) rfl ?_
    refine ⟨rfl, ?_, HZ.out.2.1.setRow (.inr (Nat.le_refl _)) _⟩
    exact HZ.out.1.row9 (by have := HZ.out.2.2.2.1; omega) (.inr HZ.out.2.2.2.2) _
end Go.Proofs.YtclkfmblogkakaaGreatDoor
