/-
  The contracts of the law's eight and wakes. Nothing here is a statement of the document.
-/
import Derived.Test.YtdbdmnahgkkjiaaDoorTbG
namespace Go.Proofs.YtdbdmnahgkkjiaaDoor
open Go.RowKit Go.Shelf
set_option linter.unusedVariables false
set_option maxRecDepth 100000

theorem s_tab1 {a : Option Addr} {n c : Nat} : (Tryd.prog.info? 24).map (·.size) = some (#[Value.slice a n c]).size := (zero_of_info z_tab).2
theorem store_tab_rule (v x : Value) : Instr.storeAt 24 v x = storeSem 24 v x := rfl
theorem st_tab {w : World} {g : Nat} {a a2 : Option Addr} {n c n2 c2 : Nat} (h : Blk w g 24 #[.slice a n c]) : (storeSem 24 (.pointer (some ⟨g, 0, none⟩)) (.agg #[.slice a2 n2 c2])).run Tryd.prog w = .ok () (w.setRow g #[.slice a2 n2 c2]) := by
  have := storeRes_of (P := Tryd.prog) (ty := 24) (o := 0) (vs := #[.slice a2 n2 c2]) h (by simp) s_tab1 (by simp [Value.oneCell'])
  rwa [over_all (by simp)] at this
/-- A table that lies: where, and with how much room. -/
structure Tbl (w : World) (a : Option Addr) (c : Nat) (L : List Rt) : Prop where
  at' : RowsAt w a L
  le : L.length ≤ c
  cap : c ≤ maxLen
  nil : a = none → c = 0
theorem Tbl.none (w : World) : Tbl w none 0 [] := ⟨.inl rfl, by simp, by unfold maxLen; omega, fun _ => rfl⟩
theorem Tbl.later {w w' : World} {a : Option Addr} {c : Nat} {L : List Rt} (h : Tbl w a c L) (k : Below w.heap.size w w') : Tbl w' a c L := ⟨h.at'.later k, h.le, h.cap, h.nil⟩
theorem RowsAt.kept {S : List Nat} {w w' : World} {a : Option Addr} {L : List Rt} (h : RowsAt w a L) (k : Kept S w w') (hS : ∀ x, a = some x → x.block ∉ S) : RowsAt w' a L := by
  rcases h with h | ⟨g, o, h1, h2⟩
  · exact .inl h
  · exact .inr ⟨g, o, h1, Nat.lt_of_lt_of_le h2.lt k.size, fun i hi j hj => (World.cell?_of_block (w := w) (k.block g h2.lt (hS _ h1))).trans (h2.row i hi j hj)⟩
theorem Tbl.kept {S : List Nat} {w w' : World} {a : Option Addr} {c : Nat} {L : List Rt} (h : Tbl w a c L) (k : Kept S w w') (hS : ∀ x, a = some x → x.block ∉ S) : Tbl w' a c L := ⟨h.at'.kept k hS, h.le, h.cap, h.nil⟩
theorem OwnT.later {w w' : World} {B : Nat} {v : Value} {L : List Rt} (h : OwnT w B v L) (k : Below w.heap.size w w') : OwnT w' B v L := by
  refine ⟨h.1, ?_⟩
  rcases h.2 with h | ⟨g, cap, cur, h1, h2, h3, h4⟩
  · exact .inl h
  · exact .inr ⟨g, cap, cur, h1, h2, (k.block _ (Array.getElem?_eq_some_iff.1 h3).1).trans h3, h4⟩
theorem OwnT.tbl {w : World} {B : Nat} {v : Value} {L : List Rt} (h : OwnT w B v L) : ∃ a c, v = .slice a L.length c ∧ Tbl w a c L := by
  obtain ⟨a, c, h1, h2, h3, h4, _⟩ := h.lies
  refine ⟨a, c, h1, h4, h2, h3, fun h0 => ?_⟩
  subst h0
  rcases h.2 with ⟨h5, _⟩ | ⟨g, cap, cur, h5, _⟩
  · rw [h1] at h5; injection h5
  · rw [h1] at h5; injection h5 with h6; cases h6
theorem OwnT.tbl2 {w : World} {B : Nat} {a : Option Addr} {n c : Nat} {L : List Rt} (h : OwnT w B (.slice a n c) L) : Tbl w a c L ∧ n = L.length ∧ ∀ x, a = some x → B ≤ x.block := by
  obtain ⟨a2, c2, h1, h2⟩ := h.tbl
  obtain ⟨a3, c3, h3, _, _, _, h4⟩ := h.lies
  injection h1 with e1 e2 e3
  injection h3 with f1 f2 f3
  subst e1 e3 f1
  exact ⟨h2, e2, h4⟩
theorem rtcs_set : ∀ (L : List Rt) (i : Nat) (h : Int), i < L.length → (rtcs L).set (i * 19 + 18) (.int .i64 h) = rtcs (L.set i ⟨(rt L i).p, h⟩)
  | [], i, h, hi => by simp at hi
  | r :: L, 0, h, _ => by
    rw [rtcs_cons, List.set_cons_zero, rtcs_cons, List.set_append, if_pos (by simp [r.size])]
    have e : rt (r :: L) 0 = r := rfl
    have h18 : (r.p.cs).toList.length = 18 := by simp [r.p.size]
    rw [e]
    congr 1
    simp only [Rt.cs, Array.toList_append]
    rw [List.set_append, if_neg (by rw [h18]; omega), h18]
    rfl
  | r :: L, i + 1, h, hi => by
    have h19 : r.cs.toList.length = 19 := by simp [r.size]
    rw [rtcs_cons, List.set_cons_succ, rtcs_cons, List.set_append, if_neg (by rw [h19]; omega), h19, show (i + 1) * 19 + 18 - 19 = i * 19 + 18 by omega, rtcs_set L i h (by simpa using hi)]
    rfl
/-- A hop is set. -/
theorem OwnT.hop {w : World} {B : Nat} {L : List Rt} {g c i : Nat} (h : OwnT w B (.slice (some ⟨g, 0, none⟩) L.length c) L) (hi : i < L.length) (x : Int) : OwnT (w.setCell ⟨g, i * 19 + 18, none⟩ (.int .i64 x)) B (.slice (some ⟨g, 0, none⟩) L.length c) (L.set i ⟨(rt L i).p, x⟩) ∧ Below B w (w.setCell ⟨g, i * 19 + 18, none⟩ (.int .i64 x)) ∧ (∃ u, w.cell? ⟨g, i * 19 + 18, none⟩ = some u) ∧ w.frozen? ⟨g, i * 19 + 18, none⟩ = false := by
  rcases h.2 with ⟨h9, _⟩ | ⟨g', cap, cur, h9, hb, hg, hc, hm, hs, ht⟩
  · cases h9
  · cases h9
    have hb2 : Blk w g 48 cur := hg
    have hlt : i * 19 + 18 < cur.size := by rw [hs]; omega
    have hset := hb2.set (i * 19 + 18) (.int .i64 x)
    refine ⟨⟨rtcs_len _, .inr ⟨g, c, _, by simp, hb, hset, by simpa using hc, hm, by simpa using hs, ?_⟩⟩, ?_, ⟨_, by rw [hb2.cell, Array.getElem?_eq_getElem hlt]⟩, hb2.free _⟩
    · rw [← rtcs_set L i x hi, ← ht]
      simp only [List.length_set, Array.toList_setIfInBounds]
      rw [List.take_set]
    · exact ((Kept.refl [g] w).setCell (p := ⟨g, i * 19 + 18, none⟩) (.inl (by simp)) _).below (by simpa using hb) (Nat.le_of_lt (Nat.lt_of_le_of_lt hb hb2.lt))
theorem tbuild1_run (r : Rt) (w : World) : (tbuildSem 1 #[(0, .agg r.cs)]).run Tryd.prog w = .ok (.slice (some ⟨w.heap.size, 0, none⟩) 1 1) (w.alloc (.cells r.cs 48)) := by
  unfold Rt.cs Px.cs Ad.cs
  obtain ⟨a0, a1, a2, a3, a4, a5, a6, a7, a8, a9, a10, a11, a12, a13, a14, a15, hh⟩ := r.p.a.b.out
  rw [hh]
  kernel_rfl
attribute [local go_sem ↓] load_b16_rule store_b16_rule load_ad_rule store_ad_rule load_px_rule store_px_rule eq_b16_rule eq_ad_rule eq_px_rule load_rt_rule store_rt_rule build_ad_rule build_px_rule build_b16_rule build_rt_rule load_tab_rule build_tab_rule store_tab_rule tbuild_rule tapp_rule tcopy_rule

set_option maxHeartbeats 4000000 in
theorem set_any (a : Option Addr) (n c : Nat) (L : List Rt) (p : Px) (hop : Int) (w : World) (hW : Wid w) (hn : L.length = n) (hT : Tbl w a c L) :
    Calls Tryd.prog 18 #[.agg #[.slice a n c], .agg p.cs, .int .i64 hop] w fun e w' => ∃ a' c', e = .returned (.tuple #[.agg #[.slice a' (setM L p hop).length c'], .int .i64 (setE L p hop)]) ∧ Tbl w' a' c' (setM L p hop) ∧ (∀ x, a' = some x → w.heap.size ≤ x.block) ∧ Below w.heap.size w w' := by
  have hR := hT.at'
  have hm : n ≤ 9223372036854775807 := by have := hT.le; have := hT.cap; unfold maxLen at this; omega
  obtain ⟨W0, hW0⟩ : ∃ W0, (w.alloc (.cells #[.slice a n c] 24)).alloc (.cells p.cs 38) = W0 := ⟨_, rfl⟩
  obtain ⟨W1, hW1⟩ : ∃ W1, W0.alloc (.cells #[.slice none 0 0] 24) = W1 := ⟨_, rfl⟩
  have sz0 : W0.heap.size = w.heap.size + 2 := by rw [← hW0]; simp
  have hb0 : Below w.heap.size w W0 := by rw [← hW0]; exact (((Below.refl w.heap.size w).alloc (Nat.le_refl _) _).alloc (by simp) _)
  have hb01 : Below W0.heap.size W0 W1 := by rw [← hW1]; exact (Below.refl _ _).alloc (Nat.le_refl _) _
  have hb1 : Below w.heap.size w W1 := bel_trans hb0 hb01
  have b3 : Blk W1 W0.heap.size 24 #[.slice none 0 0] := by rw [← hW1]; exact Blk.new _ _ _
  have b1 : Blk W1 w.heap.size 24 #[.slice a n c] := by
    have h9 := (Blk.new w 24 #[.slice a n c]).alloc (.cells p.cs 38)
    rw [hW0] at h9
    exact h9.later hb01
  have b2 : Blk W1 (w.heap.size + 1) 38 p.cs := by
    have h9 := Blk.new (w.alloc (.cells #[.slice a n c] 24)) 38 p.cs
    rw [World.size_alloc, hW0] at h9
    exact h9.later hb01
  have LT := tab_t b1
  have CT := tab_c b1
  have LX := px_p b2
  have HR : ∀ w', Below W1.heap.size W1 w' → RowsAt w' a L := fun w' h => (hR.later hb1).later h
  have HW : ∀ w', Below W1.heap.size W1 w' → Wid w' := fun w' h => (hW.later hb1).later h
  have h0 : Below W1.heap.size W1 W1 := Below.refl _ _
  have HB := Lib.hid (And.intro hb1 (And.intro b3 sz0))
  have HCK := fun w' h => tcheck_any a n c L w' (HW w' h) hn hm (HR w' h)
  have HCP := fun w' h => check_any p w' (HW w' h)
  have HIH := ishop_any hop
  have BZ := build_tab0
  have ST0 := fun w' (h : Below W1.heap.size W1 w') => st_tab (a2 := none) (n2 := 0) (c2 := 0) (b3.later h)
  by_cases h1 : okT L
  · rw [eT_ok h1] at HCK
    by_cases h2 : okP p
    · rw [eP_ok h2] at HCP
      by_cases h3 : 1 ≤ hop ∧ hop ≤ 255
      · rw [decide_eq_true h3] at HIH
        have hokR : okR ⟨p, hop⟩ := ⟨h2, h3⟩
        have hn40 := h1.1
        have HCL := fun w' (h : Below W1.heap.size W1 w') => tclone_any a n c L w' hn (by omega) (HR w' h) hT.nil
        have HLI := fun w' h => last_is a n c L p w' hn hm (HR w' h)
        have e3 : lastM (isQ p) L n = ixM L p := by unfold ixM; rw [hn]
        rw [e3] at HLI
        have HX := Lib.hid (And.intro h1 (And.intro hokR (And.intro hn (And.intro hW (And.intro hb1 (And.intro hT.nil b3))))))
        have HLA := fun w' h => last_ahead a n c L p w' hn hm (HR w' h)
        clear hR hW b1 b2 h1 h2 h3 hokR sz0 hb0 hb01
        go_enter Tryd.func18, Tryd.ntmps18
        go_wp2_with (first | (with_reducible refine wpList_alloc_z rfl 24 rfl #[.slice none 0 0] 1 z_tab ?_) | (go_at_call 25; refine (HCK _ (by assumption)).mono ?_; rintro e w2 ⟨rfl, hb2⟩; have hk2 : Below W1.heap.size W1 w2 := (by first | exact bel_trans (by assumption) hb2 | (subst hb2; assumption)); clear hb2) | (go_at_call 37; refine (HCP _ (by assumption)).mono ?_; rintro e w2 ⟨rfl, hb2⟩; have hk2 : Below W1.heap.size W1 w2 := (by first | exact bel_trans (by assumption) hb2 | (subst hb2; assumption)); clear hb2) | (go_at_call 38; refine (HIH _).mono ?_; rintro e w2 ⟨rfl, hb2⟩; have hk2 : Below W1.heap.size W1 w2 := (by first | exact bel_trans (by assumption) hb2 | (subst hb2; assumption)); clear hb2))
        refine (HCL _ (by assumption)).mono ?_
        rintro e w2 ⟨v, rfl, hown0, hbc0⟩
        obtain ⟨wp, hkp, hbc, hown⟩ : ∃ wp, Below W1.heap.size W1 wp ∧ Below wp.heap.size wp w2 ∧ OwnT w2 wp.heap.size v L := ⟨_, by assumption, hbc0, hown0⟩
        have hk2 : Below W1.heap.size W1 w2 := bel_trans hkp hbc
        have hsp : W1.heap.size ≤ wp.heap.size ∧ wp.heap.size ≤ w2.heap.size := ⟨hkp.size, hbc.size⟩
        have HSP := Lib.hid hsp
        clear hown0 hbc0 hkp hsp
        obtain ⟨a2, c2, rfl, ht2⟩ := hown.tbl
        rw [hn]
        rcases ix_spec L p with ⟨i, i1, i2, i3, i4⟩ | ⟨i1, i2⟩
        · obtain ⟨g2, o2, rfl, hr2⟩ := ht2.at'.spot i1
          obtain rfl : o2 = 0 := by
            rcases hown.2 with ⟨h9, _⟩ | ⟨g', cap, cur, h9, _⟩
            · cases h9
            · cases h9; rfl
          rw [i2] at HLI
          have di : ((i : Int) != -1) = true := by simp
          have hin : i < n := by omega
          have HY := Lib.hid (And.intro hown (And.intro hk2 (And.intro i2 (And.intro i3 i1))))
          have h02 : Below W1.heap.size W1 w2 := hk2
          clear hown hbc i1 i2 i3 i4 HCL HCP HCK HIH hr2 ht2 ST0 BZ HR HW hb1 b3 e3 HLA
          go_wp2_with fail
          refine (HLI _ hk2).mono ?_
          rintro e w3 ⟨rfl, hb3⟩
          have hk3 : Below W1.heap.size W1 w3 := bel_trans hk2 hb3
          have hown3 := HY.out.1.later hb3
          obtain ⟨q1, q2, ⟨u, q3⟩, q4⟩ := hown3.hop HY.out.2.2.2.2 hop
          rw [HY.out.2.2.2.1] at q1
          obtain ⟨w4, hw4⟩ : ∃ w4, w3.setCell ⟨g2, i * 19 + 18, none⟩ (.int .i64 hop) = w4 := ⟨_, rfl⟩
          rw [hw4] at q1 q2
          have hk4 : Below W1.heap.size W1 w4 := hk3.trans (q2.mono HSP.out.1)
          have BT := build_tab1 (some ⟨g2, 0, none⟩) n c2
          have b4 := HX.out.2.2.2.2.2.2.later hk4
          have ST4 := st_tab (a2 := some ⟨g2, 0, none⟩) (n2 := n) (c2 := c2) b4
          have HZ := Lib.hid (And.intro q1 (And.intro hk4 b4))
          clear q1 q2 hk4 b4 hown3 hb3 HLI LT LX CT
          go_wp2
          refine bodyPost_ret (results_blk rfl _ _ W0.heap.size _ _ rfl (HZ.out.2.2.row _) Tryd.underlying24 rfl s_tab1) rfl ?_
          have e0 : setE L p hop = 0 := by unfold setE; rw [if_neg (by simpa using HX.out.1), if_neg (by simpa using HX.out.2.1), if_neg (fun h => by have := h.1; rw [HY.out.2.2.1] at this; omega)]
          have e1 : setM L p hop = L.set i ⟨p, hop⟩ := by
            unfold setM setL
            rw [if_pos e0, if_neg (by rw [HY.out.2.2.1]; omega), HY.out.2.2.1, Int.toNat_natCast]
          have hl9 : (L.set i ⟨p, hop⟩).length = n := by rw [List.length_set]; exact hn
          have q1 := HZ.out.1
          obtain ⟨t9, _, hbk⟩ := q1.tbl2
          have hW0 := HB.out.2.1.lt
          have hsp1 := HSP.out.1
          exact ⟨some ⟨g2, 0, none⟩, c2, by rw [e0, e1, hl9]; rfl, by rw [e1]; exact t9.kept ((Kept.refl [W0.heap.size] w4).setRow (.inl (by simp)) _) (fun x hx => by have := hbk x hx; simp; omega), (fun x hx => by have := hbk x hx; have := HB.out.2.2; omega), below_setRow (bel_trans HB.out.1 HZ.out.2.1) (by have := HB.out.2.2; omega) _⟩
        · rw [i1] at HLI
          have di : ((-1 : Int) != -1) = false := by simp
          have HY := Lib.hid (And.intro hown (And.intro hk2 (And.intro hbc (And.intro i1 i2))))
          clear hown hbc i1 i2 HCL HCP HCK HIH ht2 HW hb1 b3 e3
          go_wp2_with fail
          refine (HLI _ hk2).mono ?_
          rintro e w3 ⟨rfl, hb3⟩
          have hk3 : Below W1.heap.size W1 w3 := bel_trans hk2 hb3
          by_cases hf : n = 40
          · have df : ((n : Int) == 40) = true := by rw [hf]; rfl
            have HF := Lib.hid hf
            clear hk2 hb3 HLI HLA hf HR
            go_wp2
            refine bodyPost_ret (results_blk rfl _ _ W0.heap.size _ _ rfl ((HB.out.2.1.later (by assumption)).row _) Tryd.underlying24 rfl s_tab1) rfl ?_
            have e0 : setE L p hop = 6 := by unfold setE; rw [if_neg (by simpa using HX.out.1), if_neg (by simpa using HX.out.2.1), if_pos ⟨HY.out.2.2.2.1, by rw [HX.out.2.2.1]; exact HF.out⟩]
            have e1 : setM L p hop = [] := if_neg (by rw [e0]; omega)
            exact ⟨none, 0, by rw [e0, e1]; rfl, by rw [e1]; exact Tbl.none _, (fun x hx => by cases hx), below_setRow (bel_trans HB.out.1 (by assumption)) (by have := HB.out.2.2; omega) _⟩
          · have df : ((n : Int) == 40) = false := by simp; omega
            have HF := Lib.hid hf
            clear hf HLI
            go_wp2_with fail
            refine (HLA _ hk3).mono ?_
            rintro e w4 ⟨rfl, hb4⟩
            have hk4 : Below W1.heap.size W1 w4 := bel_trans hk3 hb4
            obtain ⟨z, hz⟩ : ∃ z, lastM (aheadQ p) L n = z := ⟨_, rfl⟩
            obtain ⟨bh, hbh⟩ : ∃ bh, bhM L p = bh := ⟨_, rfl⟩
            have hz1 : z + 1 = (bh : Int) := by have := (bh_spec L p).2.1; rw [hn, hz, hbh] at this; exact this
            have hble : bh ≤ L.length := by rw [← hbh]; exact (bh_spec L p).1
            have HBH := Lib.hid (And.intro hbh hble)
            have wz : wrap64 (bh : Int) = (bh : Int) := wrap_nat (by have := HX.out.1.1; omega)
            rw [hz]
            clear hz hbh hble
            have LX4 := LX w4 hk4
            have BR := build_rt p hop
            obtain ⟨w5, hw5⟩ : ∃ w5, w4.alloc (.cells (Rt.mk p hop).cs 48) = w5 := ⟨_, rfl⟩
            have BS : (tbuildSem 1 #[(0, .agg (Rt.mk p hop).cs)]).run Tryd.prog w4 = .ok (.slice (some ⟨w4.heap.size, 0, none⟩) 1 1) w5 := by rw [← hw5]; exact tbuild1_run _ _
            have HW4 := Lib.hid (And.intro hk4 (And.intro hb3 hb4))
            clear hk2 hk3 hk4 hb3 hb4 HLA HR
            go_wp2_with fail
            have hk5 : Below w4.heap.size w4 w5 := by rw [← hw5]; exact (Below.refl _ _).alloc (Nat.le_refl _) _
            have q5 : Blk w5 w4.heap.size 48 (Rt.mk p hop).cs := by rw [← hw5]; exact Blk.new _ _ _
            have hown5 := ((HY.out.1.later HW4.out.2.1).later HW4.out.2.2).later hk5
            have hsz2 := HSP.out.2
            have hsz3 := HW4.out.2.1.size
            have hsz4 := HW4.out.2.2.size
            have hsz5 := hk5.size
            rw [← hn]
            refine (insert_any hown5 HBH.out.2 (Rt.mk p hop) q5 (fun e => by
              have h9 := HY.out.1
              rcases h9.2 with ⟨h8, _⟩ | ⟨g', cap, cur, h8, _, hg', _⟩
              · injection h8 with h7
                rw [h7] at e; cases e
              · injection h8 with h7
                rw [h7] at e
                injection e with e
                have := (Array.getElem?_eq_some_iff.1 hg').1
                simp at e
                omega) (by have := HX.out.1.1; omega) (by omega)).mono ?_
            rintro e w6 ⟨v6, rfl, hown6, hb6⟩
            obtain ⟨a3, c3, rfl, t6⟩ := hown6.tbl
            obtain ⟨_, _, hbk⟩ := hown6.tbl2
            have hk6 : Below W1.heap.size W1 w6 := (bel_trans HW4.out.1 hk5).trans (hb6.mono HSP.out.1)
            obtain ⟨m, hmm⟩ : ∃ m, (insL L bh (Rt.mk p hop)).length = m := ⟨_, rfl⟩
            rw [hmm]
            have BT := build_tab1 a3 m c3
            have ST6 := st_tab (a2 := a3) (n2 := m) (c2 := c3) (HX.out.2.2.2.2.2.2.later hk6)
            have HZ := Lib.hid (And.intro t6 (And.intro hk6 (And.intro hbk hmm)))
            clear hown5 hown6 t6 hk6 hk5 q5 hb6 hbk hmm hsz2 hsz3 hsz4 hsz5
            go_wp2
            refine bodyPost_ret (results_blk rfl _ _ W0.heap.size _ _ rfl ((HB.out.2.1.later HZ.out.2.1).row _) Tryd.underlying24 rfl s_tab1) rfl ?_
            have e0 : setE L p hop = 0 := by unfold setE; rw [if_neg (by simpa using HX.out.1), if_neg (by simpa using HX.out.2.1), if_neg (fun h => HF.out (by rw [← hn]; exact h.2))]
            have e1 : setM L p hop = insL L bh (Rt.mk p hop) := by
              unfold setM setL
              rw [if_pos e0, if_pos HY.out.2.2.2.1]
              unfold insM insL
              rw [HBH.out.1]
            have hW0 := HB.out.2.1.lt
            have hsp1 := HSP.out.1
            exact ⟨a3, c3, by rw [e0, e1, HZ.out.2.2.2]; rfl, by rw [e1]; exact HZ.out.1.kept ((Kept.refl [W0.heap.size] w6).setRow (.inl (by simp)) _) (fun x hx => by have := HZ.out.2.2.1 x hx; simp; omega), (fun x hx => by have := HZ.out.2.2.1 x hx; have := HB.out.2.2; omega), below_setRow (bel_trans HB.out.1 HZ.out.2.1) (by have := HB.out.2.2; omega) _⟩
      · rw [decide_eq_false h3] at HIH
        have e0 : setE L p hop = 2 := by unfold setE; rw [if_neg (by simpa using h1), if_pos (fun h => h3 h.2)]
        have e1 : setM L p hop = [] := if_neg (by rw [e0]; omega)
        have HE := Lib.hid (And.intro e0 e1)
        clear e0 e1 h1 h2 h3 hR hW HR HW hb1 b1 b2 b3 hb0 hb01 sz0
        go_enter Tryd.func18, Tryd.ntmps18
        go_wp2_with (first | (with_reducible refine wpList_alloc_z rfl 24 rfl #[.slice none 0 0] 1 z_tab ?_) | (go_at_call 25; refine (HCK _ (by assumption)).mono ?_; rintro e w2 ⟨rfl, hb2⟩; have hk2 : Below W1.heap.size W1 w2 := (by first | exact bel_trans (by assumption) hb2 | (subst hb2; assumption)); clear hb2) | (go_at_call 37; refine (HCP _ (by assumption)).mono ?_; rintro e w2 ⟨rfl, hb2⟩; have hk2 : Below W1.heap.size W1 w2 := (by first | exact bel_trans (by assumption) hb2 | (subst hb2; assumption)); clear hb2) | (go_at_call 38; refine (HIH _).mono ?_; rintro e w2 ⟨rfl, hb2⟩; have hk2 : Below W1.heap.size W1 w2 := (by first | exact bel_trans (by assumption) hb2 | (subst hb2; assumption)); clear hb2) | (refine wp_region_lin (fun w' => Below W1.heap.size W1 w') (by kernel_rfl) (by kernel_rfl) (bel_drew (by assumption)) ?_; (repeat (first | (refine lin_off (by rfl) ?_; (try simp only [Act.put, List.setIfInBounds_toArray, List.set_cons_zero, List.set_cons_succ])) | (refine lin_op (v := ?_) (by rfl) (fun w9 hS9 => ?_) ?_; rotate_left; (focus (((try dsimp only at hS9); go_simp; (try go_bits)) <;> with_reducible rfl)); (try simp only [Act.put, List.setIfInBounds_toArray, List.set_cons_zero, List.set_cons_succ])) | (refine lin_fn (f := 25) (by rfl) rfl rfl (enters_of Tryd.func25 (by kernel_rfl) rfl) (fun w9 hS9 => (HCK w9 hS9).mono (fun e w' h => ⟨h.1, (by first | exact bel_trans hS9 h.2 | (rw [← h.2]; exact hS9))⟩)) ?_ ?_; (focus (simp [Act.eval]; done)); (try simp only [Act.put, List.setIfInBounds_toArray, List.set_cons_zero, List.set_cons_succ])) | (refine lin_fn (f := 37) (by rfl) rfl rfl (enters_of Tryd.func37 (by kernel_rfl) rfl) (fun w9 hS9 => (HCP w9 hS9).mono (fun e w' h => ⟨h.1, (by first | exact bel_trans hS9 h.2 | (rw [← h.2]; exact hS9))⟩)) ?_ ?_; (focus (simp [Act.eval]; done)); (try simp only [Act.put, List.setIfInBounds_toArray, List.set_cons_zero, List.set_cons_succ])) | (refine lin_fn (f := 38) (by rfl) rfl rfl (enters_of Tryd.func38 (by kernel_rfl) rfl) (fun w9 hS9 => (HIH w9).mono (fun e w' h => ⟨h.1, (by first | exact bel_trans hS9 h.2 | (rw [← h.2]; exact hS9))⟩)) ?_ ?_; (focus (simp [Act.eval]; done)); (try simp only [Act.put, List.setIfInBounds_toArray, List.set_cons_zero, List.set_cons_succ])))); refine lin_nil (fun w8 hS8 => ?_)))
        all_goals refine bodyPost_ret (results_blk rfl _ _ W0.heap.size _ _ rfl ((HB.out.2.1.later (by assumption)).row _) Tryd.underlying24 rfl s_tab1) rfl ?_
        all_goals exact ⟨none, 0, by rw [HE.out.1, HE.out.2]; rfl, by rw [HE.out.2]; exact Tbl.none _, (fun x hx => by cases hx), below_setRow (bel_trans HB.out.1 (by assumption)) (by have := HB.out.2.2; omega) _⟩
    · rw [eP_no h2] at HCP
      have e0 : setE L p hop = 2 := by unfold setE; rw [if_neg (by simpa using h1), if_pos (fun h => h2 h.1)]
      have e1 : setM L p hop = [] := if_neg (by rw [e0]; omega)
      have HE := Lib.hid (And.intro e0 e1)
      clear e0 e1 h1 h2 hR hW HR HW hb1 b1 b2 b3 hb0 hb01 sz0
      go_enter Tryd.func18, Tryd.ntmps18
      go_wp2_with (first | (with_reducible refine wpList_alloc_z rfl 24 rfl #[.slice none 0 0] 1 z_tab ?_) | (go_at_call 25; refine (HCK _ (by assumption)).mono ?_; rintro e w2 ⟨rfl, hb2⟩; have hk2 : Below W1.heap.size W1 w2 := (by first | exact bel_trans (by assumption) hb2 | (subst hb2; assumption)); clear hb2) | (go_at_call 37; refine (HCP _ (by assumption)).mono ?_; rintro e w2 ⟨rfl, hb2⟩; have hk2 : Below W1.heap.size W1 w2 := (by first | exact bel_trans (by assumption) hb2 | (subst hb2; assumption)); clear hb2) | (go_at_call 38; refine (HIH _).mono ?_; rintro e w2 ⟨rfl, hb2⟩; have hk2 : Below W1.heap.size W1 w2 := (by first | exact bel_trans (by assumption) hb2 | (subst hb2; assumption)); clear hb2) | (refine wp_region_lin (fun w' => Below W1.heap.size W1 w') (by kernel_rfl) (by kernel_rfl) (bel_drew (by assumption)) ?_; (repeat (first | (refine lin_off (by rfl) ?_; (try simp only [Act.put, List.setIfInBounds_toArray, List.set_cons_zero, List.set_cons_succ])) | (refine lin_op (v := ?_) (by rfl) (fun w9 hS9 => ?_) ?_; rotate_left; (focus (((try dsimp only at hS9); go_simp; (try go_bits)) <;> with_reducible rfl)); (try simp only [Act.put, List.setIfInBounds_toArray, List.set_cons_zero, List.set_cons_succ])) | (refine lin_fn (f := 25) (by rfl) rfl rfl (enters_of Tryd.func25 (by kernel_rfl) rfl) (fun w9 hS9 => (HCK w9 hS9).mono (fun e w' h => ⟨h.1, (by first | exact bel_trans hS9 h.2 | (rw [← h.2]; exact hS9))⟩)) ?_ ?_; (focus (simp [Act.eval]; done)); (try simp only [Act.put, List.setIfInBounds_toArray, List.set_cons_zero, List.set_cons_succ])) | (refine lin_fn (f := 37) (by rfl) rfl rfl (enters_of Tryd.func37 (by kernel_rfl) rfl) (fun w9 hS9 => (HCP w9 hS9).mono (fun e w' h => ⟨h.1, (by first | exact bel_trans hS9 h.2 | (rw [← h.2]; exact hS9))⟩)) ?_ ?_; (focus (simp [Act.eval]; done)); (try simp only [Act.put, List.setIfInBounds_toArray, List.set_cons_zero, List.set_cons_succ])) | (refine lin_fn (f := 38) (by rfl) rfl rfl (enters_of Tryd.func38 (by kernel_rfl) rfl) (fun w9 hS9 => (HIH w9).mono (fun e w' h => ⟨h.1, (by first | exact bel_trans hS9 h.2 | (rw [← h.2]; exact hS9))⟩)) ?_ ?_; (focus (simp [Act.eval]; done)); (try simp only [Act.put, List.setIfInBounds_toArray, List.set_cons_zero, List.set_cons_succ])))); refine lin_nil (fun w8 hS8 => ?_)))
      all_goals refine bodyPost_ret (results_blk rfl _ _ W0.heap.size _ _ rfl ((HB.out.2.1.later (by assumption)).row _) Tryd.underlying24 rfl s_tab1) rfl ?_
      all_goals exact ⟨none, 0, by rw [HE.out.1, HE.out.2]; rfl, by rw [HE.out.2]; exact Tbl.none _, (fun x hx => by cases hx), below_setRow (bel_trans HB.out.1 (by assumption)) (by have := HB.out.2.2; omega) _⟩
  · rw [eT_no h1] at HCK
    have e0 : setE L p hop = 190 := by unfold setE; rw [if_pos h1]
    have e1 : setM L p hop = [] := if_neg (by rw [e0]; omega)
    have HE := Lib.hid (And.intro e0 e1)
    clear e0 e1 h1 hR hW HR HW hb1 b1 b2 b3 hb0 hb01 sz0 HCP HIH
    go_enter Tryd.func18, Tryd.ntmps18
    go_wp2_with (first | (with_reducible refine wpList_alloc_z rfl 24 rfl #[.slice none 0 0] 1 z_tab ?_) | (go_at_call 25; refine (HCK _ (by assumption)).mono ?_; rintro e w2 ⟨rfl, hb2⟩; have hk2 : Below W1.heap.size W1 w2 := (by first | exact bel_trans (by assumption) hb2 | (subst hb2; assumption)); clear hb2) | (refine wp_region_lin (fun w' => Below W1.heap.size W1 w') (by kernel_rfl) (by kernel_rfl) (bel_drew (by assumption)) ?_; (repeat (first | (refine lin_off (by rfl) ?_; (try simp only [Act.put, List.setIfInBounds_toArray, List.set_cons_zero, List.set_cons_succ])) | (refine lin_op (v := ?_) (by rfl) (fun w9 hS9 => ?_) ?_; rotate_left; (focus (((try dsimp only at hS9); go_simp; (try go_bits)) <;> with_reducible rfl)); (try simp only [Act.put, List.setIfInBounds_toArray, List.set_cons_zero, List.set_cons_succ])) | (refine lin_fn (f := 25) (by rfl) rfl rfl (enters_of Tryd.func25 (by kernel_rfl) rfl) (fun w9 hS9 => (HCK w9 hS9).mono (fun e w' h => ⟨h.1, (by first | exact bel_trans hS9 h.2 | (rw [← h.2]; exact hS9))⟩)) ?_ ?_; (focus (simp [Act.eval]; done)); (try simp only [Act.put, List.setIfInBounds_toArray, List.set_cons_zero, List.set_cons_succ])))); refine lin_nil (fun w8 hS8 => ?_)))
    all_goals refine bodyPost_ret (results_blk rfl _ _ W0.heap.size _ _ rfl ((HB.out.2.1.later (by assumption)).row _) Tryd.underlying24 rfl s_tab1) rfl ?_
    all_goals exact ⟨none, 0, by rw [HE.out.1, HE.out.2]; rfl, by rw [HE.out.2]; exact Tbl.none _, (fun x hx => by cases hx), below_setRow (bel_trans HB.out.1 (by assumption)) (by have := HB.out.2.2; omega) _⟩
end Go.Proofs.YtdbdmnahgkkjiaaDoor
namespace Go.Proofs.YtdbdmnahgkkjiaaDoor
open Go.RowKit Go.Shelf
set_option linter.unusedVariables false
set_option maxRecDepth 100000

def q16B : B16 := ⟨[10, 1, 0, 0, 0, 0, 0, 0, 0, 0, 0, 0, 0, 0, 0, 0], rfl, by unfold Bys; decide⟩
def tw2B : B16 := ⟨[10, 2, 0, 0, 0, 0, 0, 0, 0, 0, 0, 0, 0, 0, 0, 0], rfl, by unfold Bys; decide⟩
def q16 : Px := ⟨⟨4, q16B⟩, 16⟩
def tw2 : Ad := ⟨4, tw2B⟩
theorem q16_kept : keptB q16B 16 = q16B := B16.same rfl
theorem q16_clear : clear q16B 16 := (kept_iff _ _).1 q16_kept
theorem q16_okP : okP q16 := ⟨⟨by decide, clear_mono q16_clear (by decide)⟩, by decide, by decide, q16_clear⟩
theorem tw2_kept : keptB tw2B 16 = tw2B := B16.same rfl
theorem tw2_okA : okA tw2 := ⟨by decide, clear_mono ((kept_iff _ _).1 tw2_kept) (by decide)⟩
theorem q16_has : hasM q16 tenA := ⟨q16_okP, ten_okA, rfl, (B16.same rfl : keptB tenB 16 = q16B).symm⟩
theorem ten_has2 : hasM tenP tw2 := ⟨ten_okP, tw2_okA, rfl, (B16.same rfl : keptB tw2B 8 = ten8).symm⟩
theorem q16_not : ¬ hasM q16 tw2 := fun h => by
  have h1 : q16B = keptB tw2B 16 := h.2.2.2
  rw [tw2_kept] at h1
  have := congrArg B16.l h1
  revert this
  decide
noncomputable def T1 : List Rt := setM [] tenP 1
noncomputable def T2 : List Rt := setM T1 q16 2
theorem T1_E : setE [] tenP 1 = 0 := by
  unfold setE
  rw [if_neg (by simp [okT]), if_neg (by simp only [Classical.not_not]; exact ⟨ten_okP, by decide, by decide⟩), if_neg (fun h => by have := h.2; simp at this)]
theorem T1_len : T1.length ≤ 1 := by
  unfold T1 setM
  rw [if_pos T1_E, setL_len]
  split <;> simp
theorem T2_E : setE T1 q16 2 = 0 := by
  unfold setE
  rw [if_neg (by simp only [Classical.not_not]; exact setM_okT _ _ _), if_neg (by simp only [Classical.not_not]; exact ⟨q16_okP, by decide, by decide⟩), if_neg (fun h => by have := h.2; have := T1_len; omega)]
theorem T1_mem (x : Rt) : x ∈ T1 ↔ x = ⟨tenP, 1⟩ := by
  unfold T1 setM
  rw [if_pos T1_E, setL_mem List.Pairwise.nil]
  simp
theorem T2_mem (x : Rt) : x ∈ T2 ↔ x = ⟨q16, 2⟩ ∨ (x = ⟨tenP, 1⟩ ∧ x.p ≠ q16) := by
  unfold T2
  unfold setM
  rw [if_pos T2_E, setL_mem (show T1.Pairwise ltR from (setM_okT [] tenP 1).2.2), T1_mem]
theorem T2_okT : okT T2 := setM_okT _ _ _
theorem ten_ne : tenP ≠ q16 := fun h => by
  have h1 := congrArg Px.n h
  revert h1
  decide
theorem T2_a : lgE T2 tenA = 0 ∧ lgR T2 tenA = ⟨q16, 2⟩ ∧ lgB T2 tenA = true := by
  have e : lgE T2 tenA = 0 := by unfold lgE; rw [if_neg (by simpa using T2_okT), if_neg (by simpa using ten_okA)]
  have h : Long T2 tenA ⟨q16, 2⟩ := ⟨(T2_mem _).2 (.inl rfl), q16_has, fun y hy _ => by
    rcases (T2_mem y).1 hy with h | ⟨h, _⟩
    · rw [h]; exact Int.le_refl _
    · rw [h]; decide⟩
  obtain ⟨h1, h2⟩ := long_is T2_okT.2.2 h
  exact ⟨e, by unfold lgR; rw [if_pos e, h2], by unfold lgB; rw [if_pos e, h1]⟩
theorem T2_b : lgE T2 tw2 = 0 ∧ lgR T2 tw2 = ⟨tenP, 1⟩ ∧ lgB T2 tw2 = true := by
  have e : lgE T2 tw2 = 0 := by unfold lgE; rw [if_neg (by simpa using T2_okT), if_neg (by simpa using tw2_okA)]
  have h : Long T2 tw2 ⟨tenP, 1⟩ := ⟨(T2_mem _).2 (.inr ⟨rfl, ten_ne⟩), ten_has2, fun y hy hh => by
    rcases (T2_mem y).1 hy with h | ⟨h, _⟩
    · rw [h] at hh; exact absurd hh q16_not
    · rw [h]; exact Int.le_refl _⟩
  obtain ⟨h1, h2⟩ := long_is T2_okT.2.2 h
  exact ⟨e, by unfold lgR; rw [if_pos e, h2], by unfold lgB; rw [if_pos e, h1]⟩
theorem build_b1 (w : World) : (buildSem 34 #[(0, .int .u8 10)]).run Tryd.prog w = .ok (.agg ten8.cs) w := by kernel_rfl
theorem build_b2 (w : World) : (buildSem 34 #[(0, .int .u8 10), (1, .int .u8 1)]).run Tryd.prog w = .ok (.agg q16B.cs) w := by kernel_rfl
theorem build_b3 (w : World) : (buildSem 34 #[(0, .int .u8 10), (1, .int .u8 2)]).run Tryd.prog w = .ok (.agg tw2B.cs) w := by kernel_rfl
attribute [local go_sem ↓] load_b16_rule store_b16_rule load_ad_rule store_ad_rule load_px_rule store_px_rule eq_b16_rule eq_ad_rule eq_px_rule load_rt_rule store_rt_rule build_ad_rule build_px_rule build_b16_rule build_rt_rule load_tab_rule build_tab_rule store_tab_rule tbuild_rule tapp_rule tcopy_rule

set_option maxHeartbeats 1600000 in
theorem eight_any (w : World) : Calls Tryd.prog 22 #[] w fun e w' => e = .returned (.agg tenP.cs) ∧ Below w.heap.size w w' := by
  have B1 := build_b1
  have B2 := build_ad 4 ten8
  have B3 := build_px ⟨4, ten8⟩ 8
  have S := st_px (q := tenP) (Blk.new w 38 Px.zero.cs)
  rw [World.setRow_alloc_new] at S
  have hb := Blk.new w 38 tenP.cs
  have HX := Lib.hid (And.intro hb (show Below w.heap.size w (w.alloc (.cells tenP.cs 38)) from (Below.refl _ _).alloc (Nat.le_refl _) _))
  have e : (Px.mk ⟨4, ten8⟩ 8).cs = tenP.cs := rfl
  rw [e] at B3
  clear hb e
  go_enter Tryd.func22, Tryd.ntmps22
  go_wp2_with (with_reducible refine wpList_alloc_z rfl 38 rfl Px.zero.cs 18 z_px ?_)
  refine bodyPost_ret (results_cell_row rfl _ _ w.heap.size 38 _ (0, 0) _ rfl HX.out.1 Tryd.underlying38 rfl (s_px _)) rfl ?_
  exact ⟨rfl, HX.out.2⟩

set_option maxHeartbeats 4000000 in
theorem wakes9_any (w : World) (hW : Wid w) : Calls Tryd.prog 6 #[] w fun e w' => e = .returned (.bool true) ∧ Below w.heap.size w w' := by
  have BZ := build_tab0
  go_enter Tryd.func6, Tryd.ntmps6
  go_wp2_with fail
  refine (eight_any w).mono ?_
  rintro e w1 ⟨rfl, hb1⟩
  have hs1 := set_any none 0 0 [] tenP 1 w1 (hW.later hb1) rfl (Tbl.none _)
  rw [T1_E, show setM [] tenP 1 = T1 from rfl] at hs1
  go_wp2_with fail
  refine hs1.mono ?_
  rintro e w2 ⟨a2, c2, rfl, t2, _, hb2⟩
  obtain ⟨n2, hn2⟩ : ∃ n2, T1.length = n2 := ⟨_, rfl⟩
  rw [hn2]
  have hb02 := bel_trans hb1 hb2
  have ST2 := st_tab (a2 := a2) (n2 := n2) (c2 := c2) (Blk.new w2 24 #[.slice none 0 0])
  rw [World.setRow_alloc_new] at ST2
  obtain ⟨w3, hw3⟩ : ∃ w3, w2.alloc (.cells #[.slice a2 n2 c2] 24) = w3 := ⟨_, rfl⟩
  rw [hw3] at ST2
  have b3 : Blk w3 w2.heap.size 24 #[.slice a2 n2 c2] := by rw [← hw3]; exact Blk.new _ _ _
  have k23 : Below w2.heap.size w2 w3 := by rw [← hw3]; exact (Below.refl _ _).alloc (Nat.le_refl _) _
  have hb03 := bel_trans hb02 k23
  have L3 := tab_t b3 w3 (Below.refl _ _)
  have B2 := build_b2
  have B4 := build_ad 4 q16B
  have B5 := build_px ⟨4, q16B⟩ 16
  have hs2 := set_any a2 n2 c2 T1 q16 2 w3 (hW.later hb03) hn2 (t2.later k23)
  rw [T2_E, show setM T1 q16 2 = T2 from rfl] at hs2
  have e4 : (Px.mk ⟨4, q16B⟩ 16).cs = q16.cs := rfl
  rw [e4] at B5
  have H3 := Lib.hid (And.intro b3 (And.intro hb03 (And.intro hb02.size b3.lt)))
  clear hs1 hb1 hb2 b3 k23 hb03 e4 t2 hw3 hb02
  go_wp2_with (with_reducible refine wpList_alloc_z rfl 24 rfl #[.slice none 0 0] 1 z_tab ?_)
  refine hs2.mono ?_
  rintro e w4 ⟨a4, c4, rfl, t4, hf4, hb4⟩
  obtain ⟨n4, hn4⟩ : ∃ n4, T2.length = n4 := ⟨_, rfl⟩
  rw [hn4]
  have b4 := H3.out.1.later hb4
  have ST4 := st_tab (a2 := a4) (n2 := n4) (c2 := c4) b4
  obtain ⟨w5, hw5⟩ : ∃ w5, w4.setRow w2.heap.size #[.slice a4 n4 c4] = w5 := ⟨_, rfl⟩
  rw [hw5] at ST4
  have b5 : Blk w5 w2.heap.size 24 #[.slice a4 n4 c4] := by rw [← hw5]; exact b4.row _
  have t5 : Tbl w5 a4 c4 T2 := by rw [← hw5]; exact t4.kept ((Kept.refl [w2.heap.size] w4).setRow (.inl (by simp)) _) (fun x hx => by have := hf4 x hx; have := H3.out.2.2.2; simp; omega)
  have hb05 : Below w.heap.size w w5 := by rw [← hw5]; exact below_setRow (bel_trans H3.out.2.1 hb4) H3.out.2.2.1 _
  have L5 := tab_t b5 w5 (Below.refl _ _)
  have B6 := build_ten
  have B7 := build_ad 4 tenB
  have HL := longest_any a4 n4 c4 T2 tenA w5 (hW.later hb05) hn4 (by have := t5.le; have := t5.cap; unfold maxLen at this; omega) t5.at'
  rw [T2_a.1, T2_a.2.1, T2_a.2.2] at HL
  have e5 : (Ad.mk 4 tenB).cs = tenA.cs := rfl
  rw [e5] at B7
  have H5 := Lib.hid (And.intro b5 (And.intro t5 hb05))
  clear hs2 b4 hb4 hw5 b5 t5 hb05 e5 t4 hf4 B2 B4 B5 L3
  go_wp2_with fail
  refine HL.mono ?_
  rintro e w6 ⟨rfl, hb6⟩
  have S6 := st_rt (q := ⟨q16, 2⟩) (Blk.new w6 48 Rt.zero.cs)
  rw [World.setRow_alloc_new] at S6
  obtain ⟨w7, hw7⟩ : ∃ w7, w6.alloc (.cells (Rt.mk q16 2).cs 48) = w7 := ⟨_, rfl⟩
  rw [hw7] at S6
  have b7 : Blk w7 w6.heap.size 48 (Rt.mk q16 2).cs := by rw [← hw7]; exact Blk.new _ _ _
  have k67 : Below w6.heap.size w6 w7 := by rw [← hw7]; exact (Below.refl _ _).alloc (Nat.le_refl _) _
  have k57 := bel_trans hb6 k67
  have hb07 := bel_trans H5.out.2.2 k57
  have L7 := tab_t H5.out.1 w7 k57
  have B8 := build_b3
  have B9 := build_ad 4 tw2B
  have e9 : (Ad.mk 4 tw2B).cs = tw2.cs := rfl
  rw [e9] at B9
  have t7 := H5.out.2.1.later k57
  have HL7 := longest_any a4 n4 c4 T2 tw2 w7 (hW.later hb07) hn4 (by have := t7.le; have := t7.cap; unfold maxLen at this; omega) t7.at'
  rw [T2_b.1, T2_b.2.1, T2_b.2.2] at HL7
  have H7 := Lib.hid (And.intro b7 hb07)
  clear hb6 hw7 b7 k67 k57 hb07 e9 t7 HL B6 B7 L5
  go_wp2_with (with_reducible refine wpList_alloc_z rfl 48 rfl Rt.zero.cs 19 z_rt ?_)
  refine HL7.mono ?_
  rintro e w8 ⟨rfl, hb8⟩
  have S8 := st_rt (q := ⟨tenP, 1⟩) (Blk.new w8 48 Rt.zero.cs)
  rw [World.setRow_alloc_new] at S8
  obtain ⟨w9, hw9⟩ : ∃ w9, w8.alloc (.cells (Rt.mk tenP 1).cs 48) = w9 := ⟨_, rfl⟩
  rw [hw9] at S8
  have b9 : Blk w9 w8.heap.size 48 (Rt.mk tenP 1).cs := by rw [← hw9]; exact Blk.new _ _ _
  have k89 : Below w8.heap.size w8 w9 := by rw [← hw9]; exact (Below.refl _ _).alloc (Nat.le_refl _) _
  have k79 := bel_trans hb8 k89
  have H9 := Lib.hid (bel_trans H7.out.2 k79)
  have C1 := rt_h H7.out.1 w9 k79
  have C2 := rt_h b9 w9 (Below.refl _ _)
  clear hb8 hw9 b9 k89 k79 HL7 B8 B9 L7
  go_wp2_with (with_reducible refine wpList_alloc_z rfl 48 rfl Rt.zero.cs 19 z_rt ?_)
  go_ret
  exact ⟨rfl, H9.out⟩
end Go.Proofs.YtdbdmnahgkkjiaaDoor
