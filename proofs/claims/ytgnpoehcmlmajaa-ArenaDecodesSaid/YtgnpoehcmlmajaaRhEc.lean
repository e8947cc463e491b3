/-
  The document's Decode: its lists and its last test, where the first root number is not 0. Nothing here is a statement of the document.
-/
import Derived.Test.YtgnpoehcmlmajaaRhEh
import Derived.Deep.DeepCutAuto
import Derived.Deep.CutBlock
namespace Go.Proofs.Ytgnpoehcmlmajaa
open Go.RowKit Go.Shelf
set_option linter.unusedVariables false
section
attribute [local go_sem ↓] load_ra_rule store_ra_rule load_rb_rule store_rb_rule build_rbs_rule
set_option maxRecDepth 100000 in
set_option maxHeartbeats 8000000 in
theorem rdec_mainc {l ws : List Nat} {b len cap : Nat} (h5x : Four2 ws) (h : Byt l ws len) (hs : Sz ws) (hcap : len ≤ cap) (h16 : 16 ≤ ws.getD 15 0) (he : ws.getD 15 0 ≤ ws.length) {B : List Bl} (hC : Chain ws 16 B) (w : World) (hL : Lies w (some ⟨b, 0, none⟩) l) :
    Calls Try.prog 10 #[.slice (some ⟨b, 0, none⟩) len cap] w fun e w' => RdAns ws w w' e := by
  obtain ⟨k0, ki, kz0, kz1, kz2⟩ := info_parts i_int8
  have h64 := hs.lo
  have hhi := hs.hi
  have h4 := h.four
  have d1 : decide (((len : Nat) : Int) < 64) = false := decide_eq_false (by omega)
  have h1 : ¬ (len : Int) < 64 := by omega
  obtain ⟨W1, hW1⟩ : ∃ W1, w.alloc (.cells zeroRa 36) = W1 := ⟨_, rfl⟩
  have hb1 : Below w.heap.size w W1 := by rw [← hW1]; exact (Below.refl _ _).alloc (Nat.le_refl _) _
  have z1 : Blk W1 w.heap.size 36 zeroRa := by rw [← hW1]; exact Blk.new _ _ _
  have hw := h.word hs hcap (hL.kept hb1) (i := 0) (by omega)
  have hv := h.word hs hcap (hL.kept hb1) (i := 15) (by omega)
  have hbk := rblocks_any b len cap ws.length l ws W1 h.ln rfl h.four hcap hs.hi h.bys h.words (hL.kept hb1) (tile_chain.2 hC) (.inl rfl) he h16
  rw [hs.first] at hw
  have hno : ∀ (w' : World) (e : Ending), BlA ws (ws.getD 15 0) B W1 w' e → ∃ v vs R, e = .returned (.tuple #[v, .bool true]) ∧ Blks w' W1.heap.size v vs R ∧ R.map bl3 = B ∧ (∀ r ∈ R, r.ws = wat ws r.x (2 ^ r.c)) := fun w' e h => by unfold BlA at h; rwa [if_pos rfl] at h
  have hLk := fun (X : World) (k : Below W1.heap.size W1 X) => hL.kept (bel_later hb1 k)
  have HB := Lib.hid (And.intro hb1 (And.intro z1 (And.intro hno (And.intro hLk (And.intro h hs)))))
  have HK := Lib.hid hbk
  have HC := Lib.hid (And.intro hC he)
  clear hb1 z1 hL hC hbk hno hLk
  unfold zeroRa at hW1
  have hy2 := word_sm hs.sml 15
  clear hs h
  generalize hee : ws.getD 15 0 = ed at *
  have HEE := Lib.hid hee
  clear hee
  have HY := Lib.hid (rfl : ws.length = ws.length)
  generalize hyy : ws.length = y at *
  have HYY := Lib.hid hyy
  clear hyy HY
  have HI := Lib.hid h4
  have hle : len ≤ 65536 := by omega
  have hl64 : 64 ≤ len := by omega
  have hi9 : ¬ (len : Int) < 4 * (y : Int) := by omega
  clear h4
  have hi2 : ((0 : Nat) : Int) = 0 := rfl
  have hi3 : ((15 : Nat) : Int) = 15 := rfl
  rw [hi2] at hw
  rw [hi3] at hv
  have c2 : ¬ (16384 : Int) < (y : Int) := by omega
  go_enter Try.func10, Try.ntmps10
  go_wp2_with fail
  refine hw.mono ?_
  rintro e _ ⟨rfl, rfl⟩
  go_wp2_with fail
  refine hw.mono ?_
  rintro e _ ⟨rfl, rfl⟩
  go_wp2_with fail
  refine hv.mono ?_
  rintro e _ ⟨rfl, rfl⟩
  clear hw hv
  have hi8 : (len : Int) = 4 * (y : Int) := by have := HI.out; omega
  have e1 : ¬ (y : Int) < 64 := by omega
  have e3 : ¬ (ed : Int) < 16 := by omega
  have e4 : ¬ (y : Int) < (ed : Int) := by omega
  go_wp2_with fail
  refine HK.out.mono ?_
  rintro e W2 ⟨hA, hb2⟩
  obtain ⟨v, vs, R, rfl, hbl, hRB, hRw⟩ := HB.out.2.2.1 _ _ hA
  obtain ⟨av, cv, hv9⟩ := owns_sl hbl.row
  subst hv9
  obtain ⟨nR, hnR⟩ : ∃ nR, R.length = nR := ⟨_, rfl⟩
  have hlt := HB.out.2.2.2.1 _ hb2
  have t1 := HB.out.2.2.2.2.1.two HB.out.2.2.2.2.2 hcap hlt (i := 1) (by have := HB.out.2.2.2.2.2.lo; omega)
  have t3 := HB.out.2.2.2.2.1.two HB.out.2.2.2.2.2 hcap hlt (i := 3) (by have := HB.out.2.2.2.2.2.lo; omega)
  have t7 := HB.out.2.2.2.2.1.two HB.out.2.2.2.2.2 hcap hlt (i := 7) (by have := HB.out.2.2.2.2.2.lo; omega)
  have t5 := HB.out.2.2.2.2.1.word HB.out.2.2.2.2.2 hcap hlt (i := 5) (by have := HB.out.2.2.2.2.2.lo; omega)
  have t6 := HB.out.2.2.2.2.1.word HB.out.2.2.2.2.2 hcap hlt (i := 6) (by have := HB.out.2.2.2.2.2.lo; omega)
  rw [show ((1 : Nat) : Int) = 1 from rfl] at t1
  rw [show ((3 : Nat) : Int) = 3 from rfl] at t3
  rw [show ((7 : Nat) : Int) = 7 from rfl] at t7
  rw [show ((5 : Nat) : Int) = 5 from rfl] at t5
  rw [show ((6 : Nat) : Int) = 6 from rfl] at t6
  have s5 := word_sm HB.out.2.2.2.2.2.sml 5
  have s6 := word_sm HB.out.2.2.2.2.2.sml 6
  have hR2 := rfa_of hbl hRB hRw HC.out.1 (by rw [HEE.out, HYY.out]; exact HC.out.2) HB.out.2.2.2.2.2.hi (L := fun _ => []) (ls := fun _ => .slice none 0 0) (fun c _ => Ints.nil _ _ _ _ (fun _ => rfl)) (fun c _ => Nat.zero_le _)
  have hst := sra_new W2 (V := (Mo.of ws R fun _ => []).vals (.slice av R.length cv) (fun _ => .slice none 0 0)) rfl hR2.vals_one
  have H2 := Lib.hid (And.intro hb2 (And.intro hbl (And.intro hRB (And.intro hRw hlt))))
  clear hb2 hbl hRB hRw hlt hR2 hA
  have hV9 : (Mo.of ws R fun _ => []).vals (.slice av R.length cv) (fun _ => .slice none 0 0) = #[.int .i64 ((ws.length : Nat) : Int), .slice av R.length cv, .slice none 0 0, .slice none 0 0, .slice none 0 0, .slice none 0 0, .slice none 0 0, .slice none 0 0, .int .u64 ((twoN ws 1 : Nat) : Int), .int .u64 ((twoN ws 3 : Nat) : Int), .int .i64 ((ws.getD 5 0 : Nat) : Int), .int .i64 ((ws.getD 6 0 : Nat) : Int), .int .u64 ((twoN ws 7 : Nat) : Int)] := rfl
  obtain ⟨W3, hW3⟩ : ∃ W3, W2.alloc (.cells ((Mo.of ws R fun _ => []).vals (.slice av R.length cv) (fun _ => .slice none 0 0)) 36) = W3 := ⟨_, rfl⟩
  rw [hW3, hV9, HYY.out, hnR] at hst
  rw [hnR]
  have HNR := Lib.hid hnR
  clear hnR
  have H3 := Lib.hid hW3
  clear hW3 hV9
  generalize twoN ws 1 = q1 at *
  generalize twoN ws 3 = q3 at *
  generalize twoN ws 7 = q7 at *
  generalize ws.getD 5 0 = q5 at *
  generalize ws.getD 6 0 = q6 at *
  go_wp2_with fail
  refine t1.mono ?_
  rintro e _ ⟨rfl, rfl⟩
  go_wp2_with fail
  refine t3.mono ?_
  rintro e _ ⟨rfl, rfl⟩
  go_wp2_with fail
  refine t5.mono ?_
  rintro e _ ⟨rfl, rfl⟩
  go_wp2_with fail
  refine t6.mono ?_
  rintro e _ ⟨rfl, rfl⟩
  go_wp2_with fail
  refine t7.mono ?_
  rintro e _ ⟨rfl, rfl⟩
  clear t1 t3 t5 t6 t7
  clear hW1 HI HK hle hl64 d1 h1
  go_upto_block 0 with (fail)
  have hLO : LO w W1 W3 w.heap.size W2.heap.size (.slice av nR cv) vs R B ws 0 (fun _ => []) (fun _ => .slice none 0 0) := by
    have k3 : Below W2.heap.size W2 W3 := by rw [← H3.out]; exact (Below.refl _ _).alloc (Nat.le_refl _) _
    rw [← HNR.out]
    refine ⟨by rw [← H3.out]; exact Blk.new _ _ _, H2.out.2.1.later k3, fun d hd => by omega, fun d _ => rfl, (HB.out.2.1.kept (Kept.of_below [] H2.out.1) (by simp)).kept (Kept.of_below [] k3) (by simp), bel_later H2.out.1 k3, fun d hd => by omega, by simp [catL]⟩
  have hga : W1.heap.size ≤ W2.heap.size := H2.out.1.size
  have HLO := Lib.hid hLO
  obtain ⟨ga, hgaE⟩ : ∃ ga, W2.heap.size = ga := ⟨_, rfl⟩
  rw [hgaE] at HLO hga ⊢
  have HGA := Lib.hid hga
  clear hLO hga hst hgaE H3
  go_wp2_with fail
  go_loopw [9, 81] (fun met i wr => ∃ (c : Nat) (L : Nat → List Nat) (ls : Nat → Value), c ≤ 6 ∧ i = .int .i64 c ∧ met = .int .i64 (((catL L c).length : Nat) : Int) ∧ LO w W1 wr w.heap.size ga (.slice av nR cv) vs R B ws c L ls) (fun _ i _ => 6 - (intOf i).toNat)
  case atStart => exact ⟨0, _, _, Nat.zero_le _, rfl, by simp [catL], HLO.out⟩
  case round =>
    obtain ⟨c, L, ls, hc6, rfl, rfl, hO⟩ := hrel
    clear HLO
    by_cases hc : c < 6
    · have hci : (c : Int) < 6 := by omega
      have hw9 := HB.out.2.2.2.2.1.word HB.out.2.2.2.2.2 hcap (HB.out.2.2.2.1 wr hO.hb) (i := 9 + c) (by have := HB.out.2.2.2.2.2.lo; omega)
      rw [show ((9 + c : Nat) : Int) = 9 + (c : Int) by omega] at hw9
      have s9 := word_sm HB.out.2.2.2.2.2.sml (9 + c)
      obtain ⟨m0, hm0⟩ : ∃ m0, (catL L c).length = m0 := ⟨_, rfl⟩
      rw [hm0]
      rename World => wc
      have hN0 : LN wc wc ga (.slice av nR cv) R B ws c m0 L ls [] (.slice none 0 0) (ws.getD (9 + c) 0) := by
        refine ⟨?_, World.ownsRow_nil _ _ _ _, Kept.refl _ _, rfl, by simp, ?_, s9⟩
        · have e : upd ls c (.slice none 0 0) = ls := by
            funext d; unfold upd; split
            · rename_i h; subst h; exact (hO.nl d (Nat.le_refl _)).symm
            · rfl
          rw [e]; exact hO.bx
        · have := hO.cnt; simp; omega
      have HO := Lib.hid (And.intro hO (And.intro hm0 hN0))
      clear hO hm0 hN0
      generalize ws.getD (9 + c) 0 = p9 at *
      go_wp2_with fail
      refine hw9.mono ?_
      rintro e _ ⟨rfl, rfl⟩
      clear hw9
      go_wp2_with fail
      go_loopw [9, 11] (fun met i wr => ∃ (l : List Nat) (lv : Value) (pn : Nat), met = .int .i64 ((m0 + l.length : Nat) : Int) ∧ i = .int .i64 (pn : Int) ∧ LN wc wr ga (.slice av nR cv) R B ws c m0 L ls l lv pn) (fun met _ _ => nR + 1 - (intOf met).toNat)
      case atStart => exact ⟨[], _, p9, by simp, rfl, HO.out.2.2⟩
      case round =>
        obtain ⟨l, lv, pn, rfl, rfl, hN⟩ := hrel
        by_cases hp0 : pn = 0
        · subst hp0
          have HN := Lib.hid hN
          clear hN
          go_wp2_with fail
          have hg0 : w.heap.size < W1.heap.size := HB.out.2.1.lt
          exact ⟨⟨c + 1, upd L c l, upd ls c lv, by omega, by go_num, by rw [catL_upd, List.length_append, HO.out.2.1], HN.out.out HO.out.1 HO.out.2.1 HGA.out hg0⟩, by simp [intOf]; omega⟩
        · have hpi : ¬ (pn : Int) = 0 := by omega
          have hcl : ∀ d, d < c → (L d).length ≤ 20000 := by
            have h1 := HO.out.1.cnt
            have h2 : R.length ≤ 20000 := by
              have := chain_len HC.out.1
              have h9 : R.length = B.length := by rw [← H2.out.2.2.1]; simp
              have := HEE.out
              omega
            intro d hd
            have := len_cat L c d hd
            omega
          have hRl : R.length ≤ 20000 := by
            have := chain_len HC.out.1
            have h9 : R.length = B.length := by rw [← H2.out.2.2.1]; simp
            have := HEE.out
            omega
          have hrf := hN.rfa HO.out.1 HGA.out H2.out.2.2.1 H2.out.2.2.2.1 HC.out.1 (by rw [HEE.out, HYY.out]; exact HC.out.2) HB.out.2.2.2.2.2.hi hcl hRl
          have hat := rat_any hrf (pn : Int)
          have hl := lra hN.bx rfl
          have sm := hN.sm
          obtain ⟨V, hV⟩ : ∃ V, (Mo.of ws R L).vals (.slice av nR cv) (upd ls c lv) = V := ⟨_, rfl⟩
          have hVe : (Mo.of ws R (upd (fun d => if d < c then L d else []) c l)).vals (.slice av nR cv) (upd ls c lv) = V := hV
          rw [hVe] at hat
          rw [hV] at hl
          have HN := Lib.hid (And.intro hN (And.intro hrf (And.intro hV hVe)))
          clear hN hrf hV hVe hcl hRl
          go_wp2_with fail
          refine hat.mono ?_
          rintro e w4 ⟨r, rfl, hA, hb4⟩
          clear hat hl
          have hN4 := HN.out.1.later hb4
          have hg0 : w.heap.size < W1.heap.size := HB.out.2.1.lt
          have hga1 := HGA.out
          have z4 := HO.out.1.z.kept hN4.kp (by simp; omega)
          have hbw : Below w.heap.size w w4 := HB.out.1.trans ((HO.out.1.hb.trans (hN4.kp.below (by simpa using hga1) HO.out.1.hb.size)).mono (by omega))
          have hst := sra z4 (V' := zeroRa) rfl rfl zeroRa_one
          have HZ4 := Lib.hid (And.intro (z4.row zeroRa) (And.intro (below_setRow hbw (Nat.le_refl _) zeroRa) (And.intro hN4 (HN.out.2.1.later hb4))))
          clear z4 hbw hN4 hb4
          unfold zeroRa at hst
          rcases hA with ⟨i, rb, hb, hx, rfl⟩ | ⟨hno, rfl⟩
          · have hb : R[i]? = some rb := hb
            obtain ⟨v, hv⟩ := HZ4.out.2.2.2.v_get hb
            have hil := (List.getElem?_eq_some_iff.1 hb).1
            have hbl4 : Blks w4 W1.heap.size (.slice av nR cv) vs R := HZ4.out.2.2.2.blks
            obtain ⟨gb, c9, hbv, _⟩ := owns_cell hbl4.row (by omega)
            have hbe : av = some ⟨gb, 0, none⟩ := by
              have := hbv
              simp only [Value.slice.injEq] at this
              exact this.1
            subst hbe
            have hrow := hbl4.row
            rw [HNR.out] at hrow hil
            clear hbv hbl4
            obtain ⟨hcs, _⟩ := lrow hrow hb hv hil
            have e1 : w4.cell? ⟨gb, i * 4 + 1, none⟩ = some (.int .i64 (rb.c : Int)) := hcs 1 (by omega)
            have e2 : w4.cell? ⟨gb, i * 4 + 2, none⟩ = some (.bool rb.t) := hcs 2 (by omega)
            have e3 : w4.cell? ⟨gb, i * 4 + 3, none⟩ = some v := hcs 3 (by omega)
            have cb : w4.cell? ⟨ga, 1, none⟩ = some (.slice (some ⟨gb, 0, none⟩) nR cv) := HZ4.out.2.2.1.bx.cell 1
            have hili : (i : Int) < (nR : Int) := by omega
            have hm20 : m0 + l.length ≤ 20000 := by
              have h1 := HN.out.1.ct
              have := chain_len HC.out.1
              have h9 : R.length = B.length := by rw [← H2.out.2.2.1]; simp
              have := HEE.out
              omega
            have hi0 : ¬ (i : Int) < 0 := by omega
            clear hrow hcs
            have hxp : rb.x = pn := by omega
            have hbB : bl3 rb ∈ B := by rw [← H2.out.2.2.1]; exact List.mem_map_of_mem (List.mem_of_getElem? hb)
            have hgs := good_same HC.out.1 hbB (c := c) (x := pn) hxp
            have hgs : GoodB B c pn ↔ rb.c = c ∧ rb.t = false := hgs
            have HG := Lib.hid (And.intro hgs (And.intro hxp (And.intro hb hv)))
            clear hgs hxp hbB hb hv hx
            by_cases hmet : m0 + l.length = nR
            · have hmi : ((m0 + l.length : Nat) : Int) = (nR : Int) := by omega
              have hnd := no_dec2 (L := L) HC.out.1 (c := c) (by omega) (fun d hd => (HO.out.1.lst d hd).1) HN.out.1.lx hp0 (by
                have h9 : R.length = B.length := by rw [← H2.out.2.2.1]; simp
                have := HNR.out
                have := HO.out.2.1
                omega)
              have HND := Lib.hid hnd
              clear hnd
              go_wp2_with fail
              exact rd_no rfl HZ4.out.1 rfl HZ4.out.2.1 HND.out
            · have hmi : ¬ ((m0 + l.length : Nat) : Int) = (nR : Int) := by omega
              have hmi2 : ((m0 : Int) + (l.length : Int) == (nR : Int)) = false := by simp; omega
              have hi00 : decide ((i : Int) < 0) = false := by simp
              by_cases hgd : GoodB B c pn
              · obtain ⟨hcc, htt⟩ := HG.out.1.1 hgd
                rw [hcc] at e1
                rw [htt] at e2
                obtain ⟨al, cl, hlv⟩ := owns_sl HN.out.1.own
                subst hlv
                have hown := HZ4.out.2.2.1.own
                have hbx := HZ4.out.2.2.1.bx
                have cl4 : w4.cell? ⟨ga, 2 + c, none⟩ = some (.slice al l.length cl) := (hbx.cell (2 + c)).trans (by rw [Mo.vals_l _ _ _ (by omega)]; unfold upd; rw [if_pos rfl])
                obtain ⟨gw, cw, hvw, hcz, hcm, hcw⟩ := owns_cell (HZ4.out.2.2.2.wds i rb v HG.out.2.2.1 HG.out.2.2.2) (by have := Nat.pos_of_ne_zero (show 2 ^ rb.c ≠ 0 by simp); omega)
                have hsz4 : wc.heap.size ≤ w4.heap.size := HZ4.out.2.2.1.kp.size
                have hown5 := hown.alloc (.cells #[.int .i64 (pn : Int)] 3)
                have hbx5 := hbx.alloc (.cells #[.int .i64 (pn : Int)] 3)
                have hn5 : ∀ j u, [Value.int .i64 (pn : Int)][j]? = some u → (w4.alloc (.cells #[.int .i64 (pn : Int)] 3)).cell? ((⟨w4.heap.size, 0, none⟩ : Addr).add j) = some u := fun j u hj => by
                  rw [Addr.add_lit, Nat.zero_add, (Blk.new w4 3 _).cell]
                  simpa using hj
                have H5 := Lib.hid (And.intro hown5 (And.intro hbx5 (And.intro hvw hcw)))
                clear hbx5 hown hbx hcw hgd
                go_wp2_with (at_builtin; refine wpList_append_own _ rfl _ _ 30 rfl wc.heap.size 3 k0 (.int .i64 0) 1 8 Try.underlying30 ki kz0 kz1 kz2 rfl (by decide) _ _ _ rfl hown5 ⟨w4.heap.size, 0, none⟩ 1 1 [Value.int .i64 (pn : Int)] rfl rfl hn5 (by simp [Value.oneCell']) (by unfold maxLen; omega) (by omega) (by simp; omega) ?_)
                intro lv6 w6 how6 hgr6 _
                obtain ⟨a6, c6, hlv6⟩ := owns_sl how6
                subst hlv6
                have bx6 := (hgr6.block _ H5.out.2.1.lt (own_ne_blk H5.out.1 H5.out.2.1 (by decide))).trans H5.out.2.1
                have c66 : w6.cell? ⟨ga, 2 + c, none⟩ = some (.slice al l.length cl) := (Blk.cell bx6 (2 + c)).trans (by rw [Mo.vals_l _ _ _ (by omega)]; unfold upd; rw [if_pos rfl])
                have f66 := Blk.free bx6 (2 + c)
                have hN4 := HZ4.out.2.2.1
                have hkp7 : Kept [ga] wc (w6.setCell ⟨ga, 2 + c, none⟩ (.slice a6 (l.length + 1) c6)) := ((hN4.kp.alloc (.cells #[.int .i64 (pn : Int)] 3)).grown hgr6 (fun k hk => .inr (H5.out.1.lt k hk).1)).setCell (p := ⟨ga, 2 + c, none⟩) (.inl (by simp)) _
                have hbx7 : Blk (w6.setCell ⟨ga, 2 + c, none⟩ (.slice a6 (l.length + 1) c6)) ga 36 ((Mo.of ws R L).vals (.slice (some ⟨gb, 0, none⟩) nR cv) (upd ls c (.slice a6 (l.length + 1) c6))) := by
                  have h9 := Blk.set bx6 (2 + c) (.slice a6 (l.length + 1) c6)
                  rw [Mo.vals_setL _ _ _ (by omega) L, upd_upd] at h9
                  exact h9
                have hon7 : (w6.setCell ⟨ga, 2 + c, none⟩ (.slice a6 (l.length + 1) c6)).ownsRow wc.heap.size 3 1 (.slice a6 (l.length + 1) c6) (l ++ [pn]).length (ivl (l ++ [pn])) := by
                  have h9 := ownk how6 ((Kept.refl [ga] w6).setCell (p := ⟨ga, 2 + c, none⟩) (.inl (by simp)) (.slice a6 (l.length + 1) c6)) (fun k hk h8 => by
                    have h1 := (how6.lt k hk).1
                    have h2 := HO.out.1.bx.lt
                    simp at h8; omega)
                  rw [List.length_append, List.length_singleton, show ivl (l ++ [pn]) = ivl l ++ [.int .i64 (pn : Int)] by simp [ivl]]
                  exact h9
                have hg17 : GoodB B c pn := HG.out.1.2 ⟨hcc, htt⟩
                have h17 : 17 ≤ pn := by
                  obtain ⟨b9, hb9, rfl, _, _⟩ := hg17
                  have := (chain_mem HC.out.1 (Nat.le_refl _) hb9).2.1
                  omega
                have hN7 : LN wc (w6.setCell ⟨ga, 2 + c, none⟩ (.slice a6 (l.length + 1) c6)) ga (.slice (some ⟨gb, 0, none⟩) nR cv) R B ws c m0 L ls (l ++ [pn]) (.slice a6 (l.length + 1) c6) (ws.getD pn 0) :=
                  ⟨hbx7, hon7, hkp7, lstx_snoc hN4.lx h17, fun x hx => by
                    rcases List.mem_append.1 hx with h9 | h9
                    · exact hN4.gd x h9
                    · obtain rfl : x = pn := by simpa using h9
                      exact hg17, by have := hN4.ct; have := HNR.out; rw [List.length_append, List.length_singleton]; omega, word_sm HB.out.2.2.2.2.2.sml pn⟩
                have hbl7 := HO.out.1.bl.box HO.out.1.bx hkp7
                have hrow7 := hbl7.row
                rw [HNR.out] at hrow7
                obtain ⟨hcs7, _⟩ := lrow hrow7 HG.out.2.2.1 HG.out.2.2.2 hil
                have d3 : (w6.setCell ⟨ga, 2 + c, none⟩ (.slice a6 (l.length + 1) c6)).cell? ⟨gb, i * 4 + 3, none⟩ = some v := hcs7 3 (by omega)
                rw [H5.out.2.2.1] at d3
                have d1 : (w6.setCell ⟨ga, 2 + c, none⟩ (.slice a6 (l.length + 1) c6)).cell? ⟨ga, 1, none⟩ = some (.slice (some ⟨gb, 0, none⟩) nR cv) := hbx7.cell 1
                have hpc : 1 ≤ 2 ^ rb.c := (pow5 (by rw [hcc]; omega)).1
                have hpw : 2 ^ rb.c ≤ 32 := (pow5 (by rw [hcc]; omega)).2
                have d0 : (w6.setCell ⟨ga, 2 + c, none⟩ (.slice a6 (l.length + 1) c6)).cell? ⟨gw, 0, none⟩ = some (.int .u32 ((ws.getD pn 0 : Nat) : Int)) := by
                  have hwd := hbl7.wds i rb v HG.out.2.2.1 HG.out.2.2.2
                  obtain ⟨g9, c99, hv9, _, _, hc9⟩ := owns_cell hwd (by omega)
                  rw [H5.out.2.2.1] at hv9
                  cases hv9
                  refine hc9 0 _ ?_
                  rw [H2.out.2.2.2.1 rb (List.mem_of_getElem? HG.out.2.2.1), HG.out.2.1]
                  have hle9 : pn + 2 ^ rb.c ≤ ws.length := by
                    have h1 := (chain_mem HC.out.1 (Nat.le_refl _) (show bl3 rb ∈ B by rw [← H2.out.2.2.1]; exact List.mem_map_of_mem (List.mem_of_getElem? HG.out.2.2.1))).2.2.2
                    have h1 : rb.x + 2 ^ rb.c ≤ ws.getD 15 0 := h1
                    have := HEE.out; have := HYY.out; have := HG.out.2.1; omega
                  unfold wvl wat
                  rw [List.getElem?_map, List.getElem?_take, if_pos (by omega), List.getElem?_drop, Nat.add_zero]
                  have hlt9 : pn < ws.length := by omega
                  simp [hlt9]
                have H7 := Lib.hid hN7
                have sp := word_sm HB.out.2.2.2.2.2.sml pn
                obtain ⟨z9, hz9⟩ : ∃ z9, 2 ^ rb.c = z9 := ⟨_, rfl⟩
                rw [hz9] at d3 hpc hpw
                obtain ⟨q9, hq9⟩ : ∃ q9, ws.getD pn 0 = q9 := ⟨_, rfl⟩
                rw [hq9] at d0 sp
                have HQ := Lib.hid hq9
                clear hN7 hbx7 hon7 hkp7 hbl7 hrow7 hcs7 hN4 hg17 bx6 how6 hgr6 hown5 hn5 hq9 hz9 h17 hcz hcm e1 e2 e3 cb cl4
                have hpci : (0 : Int) < (z9 : Int) := by omega
                have hct := H7.out.ct
                rw [List.length_append, List.length_singleton, HNR.out] at hct
                go_wp2_with fail
                exact ⟨⟨l ++ [pn], _, q9, congrArg (Value.int .i64) (by rw [List.length_append, List.length_singleton]; omega), rfl, by rw [← HQ.out]; exact H7.out⟩, by simp [intOf]; omega⟩
              · have hnd := no_dec1 HC.out.1 (by omega) HN.out.1.lx hp0 hgd
                have HND := Lib.hid hnd
                clear hnd
                cases htt : rb.t with
                | true =>
                  rw [htt] at e2
                  clear htt
                  go_wp2_with fail
                  exact rd_no rfl HZ4.out.1 rfl HZ4.out.2.1 HND.out
                | false =>
                  rw [htt] at e2
                  have hcc : ¬ (rb.c : Int) = (c : Int) := fun e => hgd (HG.out.1.2 ⟨by omega, htt⟩)
                  have hcb : ((rb.c : Int) != (c : Int)) = true := by simpa using hcc
                  clear htt hgd
                  go_wp2_with fail
                  exact rd_no rfl HZ4.out.1 rfl HZ4.out.2.1 HND.out
          · have hnd := no_dec1 HC.out.1 (by omega) HN.out.1.lx hp0 (good_none H2.out.2.2.1 hno)
            have HND := Lib.hid hnd
            clear hnd hno
            go_wp2_with fail
            exact rd_no rfl HZ4.out.1 rfl HZ4.out.2.1 HND.out
    · obtain rfl : c = 6 := by omega
      have hRl : R.length ≤ 20000 := by
        have := chain_len HC.out.1
        have h9 : R.length = B.length := by rw [← H2.out.2.2.1]; simp
        have := HEE.out
        omega
      have hrf : Rfa wr W1.heap.size (.slice av nR cv) ls vs (Mo.of ws R L) := rfa_of hO.bl H2.out.2.2.1 H2.out.2.2.2.1 HC.out.1 (by rw [HEE.out, HYY.out]; exact HC.out.2) HB.out.2.2.2.2.2.hi (fun d hd => (hO.li d (by omega)).mono (by have := HGA.out; omega)) (fun d hd => by have := len_cat L 6 d (by omega); have := hO.cnt; omega)
      have hkd : Below wr.heap.size wr wr.drew := below_drewN (Below.refl _ _) 1
      have hpc := rpieces_any (hrf.later hkd) false
      have hMB : (Mo.of ws R L).B = B := H2.out.2.2.1
      rw [hMB] at hpc
      have hl := lra (hO.bx.kept (Kept.of_below [] hkd) (by simp)) rfl
      obtain ⟨V, hV⟩ : ∃ V, (Mo.of ws R L).vals (.slice av nR cv) ls = V := ⟨_, rfl⟩
      rw [hV] at hl hpc
      obtain ⟨m6, hm6⟩ : ∃ m6, (catL L 6).length = m6 := ⟨_, rfl⟩
      obtain ⟨nF, hnF⟩ : ∃ nF, (ofT false B).length = nF := ⟨_, rfl⟩
      rw [hm6]
      rw [hnF] at hpc
      have HO := Lib.hid (And.intro hO (And.intro hrf (And.intro hV (And.intro hm6 (And.intro hnF hMB)))))
      clear hO hrf hV hm6 hnF hMB
      have hg0 : w.heap.size < W1.heap.size := HB.out.2.1.lt
      have hbw : Below w.heap.size w wr := HB.out.1.trans (HO.out.1.hb.mono (by omega))
      by_cases hmet : m6 = nF
      · have hmi : ((m6 : Int) != (nF : Int)) = false := by simp; omega
        have hLst : ∀ c, c ≤ 5 → Lst ws (ws.getD (9 + c) 0) (L c) ∧ ∀ x ∈ L c, GoodB B c x := fun c hc => HO.out.1.lst c (by omega)
        have hew : ws.getD 15 0 ≤ ws.length := by rw [HEE.out, HYY.out]; exact HC.out.2
        have hI := inv_of HC.out.1 hew (fl_of HC.out.1 hew hLst) (free_of HC.out.1 hLst (by rw [HO.out.2.2.2.1, HO.out.2.2.2.2.1]; exact hmet))
        have hS0 : Below wr.heap.size wr wr.drew := below_drewN (Below.refl _ _) 1
        have L8 : ∀ w', Below wr.heap.size wr w' → (loadSem 36 (.pointer (some ⟨ga, 0, none⟩))).run Try.prog w' = .ok (.agg V) w' := fun w' k => by rw [← HO.out.2.2.1]; exact lra (HO.out.1.bx.kept (Kept.of_below [] k) (by simp)) rfl
        have L10 : ∀ w', Below wr.heap.size wr w' → w'.cell? ⟨ga, 10, none⟩ = some (.int .i64 ((ws.getD 5 0 : Nat) : Int)) := fun w' k => (HO.out.1.bx.kept (Kept.of_below [] k) (by simp)).cell 10
        have L11 : ∀ w', Below wr.heap.size wr w' → w'.cell? ⟨ga, 11, none⟩ = some (.int .i64 ((ws.getD 6 0 : Nat) : Int)) := fun w' k => (HO.out.1.bx.kept (Kept.of_below [] k) (by simp)).cell 11
        have s5 := word_sm HB.out.2.2.2.2.2.sml 5
        have s6 := word_sm HB.out.2.2.2.2.2.sml 6
        have hTK : ∀ w', Below wr.heap.size wr w' → ∀ x : Int, Calls Try.prog 36 #[.agg V, .int .i64 x] w' fun e w'' => ∃ r : Int, e = .returned (.int .i64 r) ∧ TkIs R x r ∧ Below w'.heap.size w' w'' := fun w' k x => by
          have := rtk_any (HO.out.2.1.later k) x
          rw [HO.out.2.2.1] at this
          exact this
        have hF := fl_of HC.out.1 hew hLst
        have hfree := free_of HC.out.1 hLst (by rw [HO.out.2.2.2.1, HO.out.2.2.2.2.1]; exact hmet)
        have HF := Lib.hid (And.intro hF (And.intro hfree hew))
        clear hl hkd hew hLst hF hfree
        rcases lead_or hI (ws.getD 5 0) with h4 | ⟨h40, h4⟩
        · have hr5 : ws.getD 5 0 ≠ 0 → ∀ r, TkIs R ((ws.getD 5 0 : Nat) : Int) r → 0 ≤ r := fun h0 r h => tk_yes hI H2.out.2.2.1 h0 h4 h
          rcases lead_or hI (ws.getD 6 0) with h6 | ⟨h60, h6⟩
          · have hr6 : ws.getD 6 0 ≠ 0 → ∀ r, TkIs R ((ws.getD 6 0 : Nat) : Int) r → 0 ≤ r := fun h0 r h => tk_yes hI H2.out.2.2.1 h0 h6 h
            have h16w : 16 ≤ ws.getD 15 0 := by rw [HEE.out]; omega
            have hS : Same ws (Mo.of ws R L) := same_of (R := R) (fun r hr => H2.out.2.2.2.1 r hr) _ ⟨rfl, rfl, rfl, rfl, rfl, rfl, rfl⟩
            have hla := rd_last HB.out.2.2.2.2.2 HB.out.2.2.2.2.1 h16w HF.out.2.2 hI HF.out.1 HF.out.2.1 h4 h6 (M := Mo.of ws R L) HO.out.2.2.2.2.2 rfl hS
            have hby : ∀ w', Below wr.heap.size wr w' → Calls Try.prog 39 #[.agg V] w' fun e w'' => ∃ b c, e = .returned (.slice (some ⟨b, 0, none⟩) len c) ∧ Lies w'' (some ⟨b, 0, none⟩) (wbytes (canon ws B)) ∧ Below w'.heap.size w' w'' := fun w' k => by
              have := rd_bytes HB.out.2.2.2.2.2 h16w hI h4 h6 (M := Mo.of ws R L) HO.out.2.2.2.2.2 rfl hS (HO.out.2.1.later k)
              rw [HO.out.2.2.1, ← HB.out.2.2.2.2.1.four] at this
              exact this
            obtain ⟨s0, hs0⟩ : ∃ s0, strOf l = s0 := ⟨_, rfl⟩
            obtain ⟨s8, hs8⟩ : ∃ s8, strOf (wbytes (canon ws B)) = s8 := ⟨_, rfl⟩
            have L0 : ∀ w', Below wr.heap.size wr w' → (convert 44 9 (.slice (some ⟨b, 0, none⟩) len cap)).run Try.prog w' = .ok (.string s0) w' := fun w' k => by
              rw [← hs0]
              exact conv_bytes cap (HB.out.2.2.2.1 w' (bel_later HO.out.1.hb k)) HB.out.2.2.2.2.1.ln
            have L9 : ∀ w' b' c', Lies w' (some ⟨b', 0, none⟩) (wbytes (canon ws B)) → (convert 44 9 (.slice (some ⟨b', 0, none⟩) len c')).run Try.prog w' = .ok (.string s8) w' := fun w' b' c' h => by
              rw [← hs8]
              exact conv_bytes c' h (by rw [wbytes_len, canon_len]; exact HB.out.2.2.2.2.1.four.symm)
            obtain ⟨eb, heb⟩ : ∃ eb, (s8.toList == s0.toList) = eb := ⟨_, rfl⟩
            have heb2 : (s8.toList != s0.toList) = !eb := by rw [← heb]; rfl
            have hq : eb = (wbytes (canon ws B) == l) := by
              rw [← heb, ← hs8, ← hs0]
              exact strOf_beq (wbytes_bys _) HB.out.2.2.2.2.1.bys
            have hla : (eb = true → Dec ws B L ∧ Pur ws (begK B ws.length B.length) (Mo.of ws R L)) ∧ (eb = false → ¬ ∃ B L, Dec ws B L) :=
              ⟨fun h => hla.1 (by rw [h] at hq; simpa using hq.symm), fun h => hla.2 (by rw [h] at hq; simpa using hq.symm)⟩
            clear hq hs0 hs8
            clear h16w hS h4 h6 hI
            by_cases h50 : ws.getD 5 0 = 0
            · exact absurd h50 (show ws.getD 5 0 ≠ 0 from h5x.1)
            · have h5b : (((ws.getD 5 0 : Nat) : Int) != 0) = true := by simpa using h50
              by_cases h60 : ws.getD 6 0 = 0
              · exact absurd h60 (show ws.getD 6 0 ≠ 0 from h5x.2)
              · have h6b : (((ws.getD 6 0 : Nat) : Int) != 0) = true := by simpa using h60
                have HND := Lib.hid (And.intro hla (And.intro hbw (And.intro (hr5 h50) (hr6 h60))))
                clear hla hbw hr5 hr6 h50 h60
                generalize ws.getD 6 0 = r6 at *
                generalize ws.getD 5 0 = r5 at *
                go_wp2_with fail
                refine wp_region_linY (fun w' => Below wr.heap.size wr w') [2, 15, 29, 35, 36] [0, 1, 2, 3, 4, 5, 6, 7, 8, 9, 10, 11, 12, 13, 14, 15, 16, 17, 18, 19, 20, 21, 22, 23, 24, 25, 26, 27, 28, 29, 30, 31, 32, 33, 34, 37, 38, 35, 36, 39, 40] (by kernel_rfl) (by kernel_rfl) hS0 ?_
                (repeat (first | (refine linX_off rfl rfl (by rfl) ?_; (try simp only [Act.put, List.getElem_toArray, List.getElem_cons_zero, List.getElem_cons_succ, List.setIfInBounds_toArray, List.set_cons_zero, List.set_cons_succ])) | (refine linX_op (v := ?_) rfl rfl (by rfl) (fun w9 hS9 => ?_) ?_; rotate_left; (focus (((have k8 := L8 w9 hS9; have k0 := L0 w9 hS9; have k10 := L10 w9 hS9; have k11 := L11 w9 hS9; (try dsimp only at hS9); go_simp; (try go_bits)) <;> with_reducible rfl))); (try simp only [Act.put, List.getElem_toArray, List.getElem_cons_zero, List.getElem_cons_succ, List.setIfInBounds_toArray, List.set_cons_zero, List.set_cons_succ]))))
                refine linX_call (f := 33) (args := #[.agg V, .bool false]) rfl rfl (by rfl) rfl rfl (enters_of Try.func33 (by kernel_rfl) rfl) ?_ ?_
                · simp [Act.eval]
                refine hpc.mono ?_
                rintro e w5 ⟨v5, rfl, how5, hb5⟩
                obtain ⟨a5, c5, hv5⟩ := owns_sl how5
                subst hv5
                have hb5' : Below wr.heap.size wr w5 := hS0.trans hb5
                refine ⟨_, rfl, hb5', ?_⟩
                (try simp only [Act.put, List.getElem_toArray, List.getElem_cons_zero, List.getElem_cons_succ, List.setIfInBounds_toArray, List.set_cons_zero, List.set_cons_succ])
                (repeat (first | (refine linX_off rfl rfl (by rfl) ?_; (try simp only [Act.put, List.getElem_toArray, List.getElem_cons_zero, List.getElem_cons_succ, List.setIfInBounds_toArray, List.set_cons_zero, List.set_cons_succ])) | (refine linX_op (v := ?_) rfl rfl (by rfl) (fun w9 hS9 => ?_) ?_; rotate_left; (focus (((have k8 := L8 w9 hS9; have k0 := L0 w9 hS9; have k10 := L10 w9 hS9; have k11 := L11 w9 hS9; (try dsimp only at hS9); go_simp; (try go_bits)) <;> with_reducible rfl))); (try simp only [Act.put, List.getElem_toArray, List.getElem_cons_zero, List.getElem_cons_succ, List.setIfInBounds_toArray, List.set_cons_zero, List.set_cons_succ]))))
                refine linX_call (f := 36) (args := #[.agg V, .int .i64 (r5 : Int)]) rfl rfl (by rfl) rfl rfl (enters_of Try.func36 (by kernel_rfl) rfl) ?_ ?_
                · simp [Act.eval]
                refine (hTK w5 hb5' _).mono ?_
                rintro e w6 ⟨r6x, rfl, hr6, hb6⟩
                have hb6' := bel_later hb5' hb6
                have hr6 := HND.out.2.2.1 r6x hr6
                have hr6n : ¬ r6x < 0 := by omega
                have hr6d : decide (r6x < 0) = false := decide_eq_false hr6n
                refine ⟨_, rfl, hb6', ?_⟩
                (try simp only [Act.put, List.getElem_toArray, List.getElem_cons_zero, List.getElem_cons_succ, List.setIfInBounds_toArray, List.set_cons_zero, List.set_cons_succ])
                (repeat (first | (refine linX_off rfl rfl (by rfl) ?_; (try simp only [Act.put, List.getElem_toArray, List.getElem_cons_zero, List.getElem_cons_succ, List.setIfInBounds_toArray, List.set_cons_zero, List.set_cons_succ])) | (refine linX_op (v := ?_) rfl rfl (by rfl) (fun w9 hS9 => ?_) ?_; rotate_left; (focus (((have k8 := L8 w9 hS9; have k0 := L0 w9 hS9; have k10 := L10 w9 hS9; have k11 := L11 w9 hS9; (try dsimp only at hS9); go_simp; (try go_bits)) <;> with_reducible rfl))); (try simp only [Act.put, List.getElem_toArray, List.getElem_cons_zero, List.getElem_cons_succ, List.setIfInBounds_toArray, List.set_cons_zero, List.set_cons_succ]))))
                refine linX_call (f := 36) (args := #[.agg V, .int .i64 (r6 : Int)]) rfl rfl (by rfl) rfl rfl (enters_of Try.func36 (by kernel_rfl) rfl) ?_ ?_
                · simp [Act.eval]
                refine (hTK w6 hb6' _).mono ?_
                rintro e w7 ⟨r7x, rfl, hr7, hb7⟩
                have hb7' := bel_later hb6' hb7
                have hr7 := HND.out.2.2.2 r7x hr7
                have hr7n : ¬ r7x < 0 := by omega
                have hr7d : decide (r7x < 0) = false := decide_eq_false hr7n
                refine ⟨_, rfl, hb7', ?_⟩
                (try simp only [Act.put, List.getElem_toArray, List.getElem_cons_zero, List.getElem_cons_succ, List.setIfInBounds_toArray, List.set_cons_zero, List.set_cons_succ])
                (repeat (first | (refine linX_off rfl rfl (by rfl) ?_; (try simp only [Act.put, List.getElem_toArray, List.getElem_cons_zero, List.getElem_cons_succ, List.setIfInBounds_toArray, List.set_cons_zero, List.set_cons_succ])) | (refine linX_op (v := ?_) rfl rfl (by rfl) (fun w9 hS9 => ?_) ?_; rotate_left; (focus (((have k8 := L8 w9 hS9; have k0 := L0 w9 hS9; have k10 := L10 w9 hS9; have k11 := L11 w9 hS9; (try dsimp only at hS9); go_simp; (try go_bits)) <;> with_reducible rfl))); (try simp only [Act.put, List.getElem_toArray, List.getElem_cons_zero, List.getElem_cons_succ, List.setIfInBounds_toArray, List.set_cons_zero, List.set_cons_succ]))))
                refine linX_call (f := 39) (args := #[.agg V]) rfl rfl (by rfl) rfl rfl (enters_of Try.func39 (by kernel_rfl) rfl) ?_ ?_
                · simp [Act.eval]
                refine (hby w7 hb7').mono ?_
                rintro e w8 ⟨b8, c8, rfl, hL8, hb8⟩
                have hb8' := bel_later hb7' hb8
                have k8c := L9 w8 b8 c8 hL8
                refine ⟨_, rfl, hb8', ?_⟩
                (try simp only [Act.put, List.getElem_toArray, List.getElem_cons_zero, List.getElem_cons_succ, List.setIfInBounds_toArray, List.set_cons_zero, List.set_cons_succ])
                refine linX_do (v := .string s8) (w' := w8) rfl rfl (by rfl) ?_ hb8' ?_
                · (focus ((go_simp; (try go_bits)) <;> with_reducible rfl))
                (try simp only [Act.put, List.getElem_toArray, List.getElem_cons_zero, List.getElem_cons_succ, List.setIfInBounds_toArray, List.set_cons_zero, List.set_cons_succ])
                (repeat (first | (refine linX_off rfl rfl (by rfl) ?_; (try simp only [Act.put, List.getElem_toArray, List.getElem_cons_zero, List.getElem_cons_succ, List.setIfInBounds_toArray, List.set_cons_zero, List.set_cons_succ])) | (refine linX_op (v := ?_) rfl rfl (by rfl) (fun w9 hS9 => ?_) ?_; rotate_left; (focus (((have k8 := L8 w9 hS9; have k0 := L0 w9 hS9; have k10 := L10 w9 hS9; have k11 := L11 w9 hS9; (try dsimp only at hS9); go_simp; (try go_bits)) <;> with_reducible rfl))); (try simp only [Act.put, List.getElem_toArray, List.getElem_cons_zero, List.getElem_cons_succ, List.setIfInBounds_toArray, List.set_cons_zero, List.set_cons_succ]))))
                refine linX_nil ?_
                have z5 := HO.out.1.z.kept (Kept.of_below [] hb8') (by simp)
                have hld := L8 w8 hb8'
                have hVs : V.size = 13 := by rw [← HO.out.2.2.1]; rfl
                have hV1 : V.all (·.oneCell') = true := by rw [← HO.out.2.2.1]; exact HO.out.2.1.vals_one
                have hst0 := sra z5 (V' := zeroRa) rfl rfl zeroRa_one
                have hst := sra z5 (V' := V) rfl hVs hV1
                have HZ0 := Lib.hid (And.intro (z5.row zeroRa) (below_setRow (bel_later HND.out.2.1 hb8') (Nat.le_refl _) zeroRa))
                have HZ := Lib.hid (And.intro (z5.row V) (And.intro (below_setRow (bel_later HND.out.2.1 hb8') (Nat.le_refl _) V) (And.intro hb8' z5)))
                clear z5 hpc L8 L10 L11 L0 L9 hS0 hby hVs hV1 k8c hL8 hb8
                unfold zeroRa at hst0
                cases eb with
                | false =>
                  clear hst hld
                  go_wp2_with fail
                  exact rd_no rfl HZ0.out.1 rfl HZ0.out.2 (HND.out.1.2 (by simp))
                | true =>
                  clear hst0
                  go_wp2_with fail
                  have hfin := HND.out.1.1 (by simp)
                  refine rd_yes rfl (bv := .slice av nR cv) (ls := ls) (vs := vs) (M := Mo.of ws R L) (by rw [HO.out.2.2.1]; exact HZ.out.1) rfl HZ.out.2.1 hfin.1 (lo := W1.heap.size) ?_ ?_ ?_ hfin.2
                  · refine (HO.out.2.1.later HZ.out.2.2.1).kept ((Kept.refl [w.heap.size] w8).setRow (.inl (by simp)) V) ?_
                    intro s hs9
                    have : s = w.heap.size := by simpa using hs9
                    omega
                  · omega
                  · have h8 := HO.out.1.hb.size
                    have h9 := HZ.out.2.2.1.size
                    have h7 := ((Kept.refl [w.heap.size] w8).setRow (g := w.heap.size) (.inl (by simp)) V).size
                    omega
          · have hnd := no_dec4 HC.out.1 (.inr rfl) h60 h6
            have hr6 : ∀ r, TkIs R ((ws.getD 6 0 : Nat) : Int) r → r = -1 := fun r h => tk_no hI H2.out.2.2.1 h6 h
            have h6b : (((ws.getD 6 0 : Nat) : Int) != 0) = true := by simpa using h60
            by_cases h50 : ws.getD 5 0 = 0
            · exact absurd h50 (show ws.getD 5 0 ≠ 0 from h5x.1)
            · have h5b : (((ws.getD 5 0 : Nat) : Int) != 0) = true := by simpa using h50
              have HND := Lib.hid (And.intro hnd (And.intro hbw (And.intro (hr5 h50) hr6)))
              clear hnd hbw hr5 hr6 h4 h6 hI h50 h60
              generalize ws.getD 6 0 = r6 at *
              generalize ws.getD 5 0 = r5 at *
              go_wp2_with fail
              refine wp_region_linY (fun w' => Below wr.heap.size wr w') [2, 15, 29] [0, 1, 2, 3, 4, 5, 6, 7, 8, 9, 10, 11, 12, 13, 14, 15, 16, 17, 18, 19, 20, 21, 22, 23, 24, 25, 26, 27, 28, 29, 30, 31, 32, 33, 34, 35, 36, 37, 38, 39, 40] (by kernel_rfl) (by kernel_rfl) hS0 ?_
              (repeat (first | (refine linX_off rfl rfl (by rfl) ?_; (try simp only [Act.put, List.getElem_toArray, List.getElem_cons_zero, List.getElem_cons_succ, List.setIfInBounds_toArray, List.set_cons_zero, List.set_cons_succ])) | (refine linX_op (v := ?_) rfl rfl (by rfl) (fun w9 hS9 => ?_) ?_; rotate_left; (focus (((have k8 := L8 w9 hS9; have k10 := L10 w9 hS9; have k11 := L11 w9 hS9; (try dsimp only at hS9); go_simp; (try go_bits)) <;> with_reducible rfl))); (try simp only [Act.put, List.getElem_toArray, List.getElem_cons_zero, List.getElem_cons_succ, List.setIfInBounds_toArray, List.set_cons_zero, List.set_cons_succ]))))
              refine linX_call (f := 33) (args := #[.agg V, .bool false]) rfl rfl (by rfl) rfl rfl (enters_of Try.func33 (by kernel_rfl) rfl) ?_ ?_
              · simp [Act.eval]
              refine hpc.mono ?_
              rintro e w5 ⟨v5, rfl, how5, hb5⟩
              obtain ⟨a5, c5, hv5⟩ := owns_sl how5
              subst hv5
              have hb5' : Below wr.heap.size wr w5 := hS0.trans hb5
              refine ⟨_, rfl, hb5', ?_⟩
              (try simp only [Act.put, List.getElem_toArray, List.getElem_cons_zero, List.getElem_cons_succ, List.setIfInBounds_toArray, List.set_cons_zero, List.set_cons_succ])
              (repeat (first | (refine linX_off rfl rfl (by rfl) ?_; (try simp only [Act.put, List.getElem_toArray, List.getElem_cons_zero, List.getElem_cons_succ, List.setIfInBounds_toArray, List.set_cons_zero, List.set_cons_succ])) | (refine linX_op (v := ?_) rfl rfl (by rfl) (fun w9 hS9 => ?_) ?_; rotate_left; (focus (((have k8 := L8 w9 hS9; have k10 := L10 w9 hS9; have k11 := L11 w9 hS9; (try dsimp only at hS9); go_simp; (try go_bits)) <;> with_reducible rfl))); (try simp only [Act.put, List.getElem_toArray, List.getElem_cons_zero, List.getElem_cons_succ, List.setIfInBounds_toArray, List.set_cons_zero, List.set_cons_succ]))))
              refine linX_call (f := 36) (args := #[.agg V, .int .i64 (r5 : Int)]) rfl rfl (by rfl) rfl rfl (enters_of Try.func36 (by kernel_rfl) rfl) ?_ ?_
              · simp [Act.eval]
              refine (hTK w5 hb5' _).mono ?_
              rintro e w6 ⟨r6x, rfl, hr6, hb6⟩
              have hb6' := bel_later hb5' hb6
              have hr6 := HND.out.2.2.1 r6x hr6
              have hr6n : ¬ r6x < 0 := by omega
              have hr6d : decide (r6x < 0) = false := decide_eq_false hr6n
              refine ⟨_, rfl, hb6', ?_⟩
              (try simp only [Act.put, List.getElem_toArray, List.getElem_cons_zero, List.getElem_cons_succ, List.setIfInBounds_toArray, List.set_cons_zero, List.set_cons_succ])
              (repeat (first | (refine linX_off rfl rfl (by rfl) ?_; (try simp only [Act.put, List.getElem_toArray, List.getElem_cons_zero, List.getElem_cons_succ, List.setIfInBounds_toArray, List.set_cons_zero, List.set_cons_succ])) | (refine linX_op (v := ?_) rfl rfl (by rfl) (fun w9 hS9 => ?_) ?_; rotate_left; (focus (((have k8 := L8 w9 hS9; have k10 := L10 w9 hS9; have k11 := L11 w9 hS9; (try dsimp only at hS9); go_simp; (try go_bits)) <;> with_reducible rfl))); (try simp only [Act.put, List.getElem_toArray, List.getElem_cons_zero, List.getElem_cons_succ, List.setIfInBounds_toArray, List.set_cons_zero, List.set_cons_succ]))))
              refine linX_call (f := 36) (args := #[.agg V, .int .i64 (r6 : Int)]) rfl rfl (by rfl) rfl rfl (enters_of Try.func36 (by kernel_rfl) rfl) ?_ ?_
              · simp [Act.eval]
              refine (hTK w6 hb6' _).mono ?_
              rintro e w7 ⟨r7x, rfl, hr7, hb7⟩
              have hb7' := bel_later hb6' hb7
              have hr7 := HND.out.2.2.2 r7x hr7
              subst hr7
              refine ⟨_, rfl, hb7', ?_⟩
              (try simp only [Act.put, List.getElem_toArray, List.getElem_cons_zero, List.getElem_cons_succ, List.setIfInBounds_toArray, List.set_cons_zero, List.set_cons_succ])
              (repeat (first | (refine linX_off rfl rfl (by rfl) ?_; (try simp only [Act.put, List.getElem_toArray, List.getElem_cons_zero, List.getElem_cons_succ, List.setIfInBounds_toArray, List.set_cons_zero, List.set_cons_succ])) | (refine linX_op (v := ?_) rfl rfl (by rfl) (fun w9 hS9 => ?_) ?_; rotate_left; (focus (((have k8 := L8 w9 hS9; have k10 := L10 w9 hS9; have k11 := L11 w9 hS9; (try dsimp only at hS9); go_simp; (try go_bits)) <;> with_reducible rfl))); (try simp only [Act.put, List.getElem_toArray, List.getElem_cons_zero, List.getElem_cons_succ, List.setIfInBounds_toArray, List.set_cons_zero, List.set_cons_succ]))))
              refine linX_nil ?_
              have z5 := HO.out.1.z.kept (Kept.of_below [] hb7') (by simp)
              have hst := sra z5 (V' := zeroRa) rfl rfl zeroRa_one
              have HZ := Lib.hid (And.intro (z5.row zeroRa) (below_setRow (bel_later HND.out.2.1 hb7') (Nat.le_refl _) zeroRa))
              clear z5 hpc L8 L10 L11 hS0
              unfold zeroRa at hst
              go_wp2_with fail
              exact rd_no rfl HZ.out.1 rfl HZ.out.2 HND.out.1
        · have hnd := no_dec4 HC.out.1 (.inl rfl) h40 h4
          have hr : ∀ r, TkIs R ((ws.getD 5 0 : Nat) : Int) r → r = -1 := fun r h => tk_no hI H2.out.2.2.1 h4 h
          have HND := Lib.hid (And.intro hnd (And.intro hbw hr))
          have h4b : (((ws.getD 5 0 : Nat) : Int) != 0) = true := by simpa using h40
          clear hnd hbw hr h4 hI
          generalize ws.getD 5 0 = r5 at *
          go_wp2_with fail
          refine wp_region_linY (fun w' => Below wr.heap.size wr w') [2, 15] [0, 1, 2, 3, 4, 5, 6, 7, 8, 9, 10, 11, 12, 13, 14, 15, 16, 17, 18, 19, 20, 21, 22, 23, 24, 25, 26, 27, 28, 29, 30, 31, 32, 33, 34, 35, 36, 37, 38, 39, 40] (by kernel_rfl) (by kernel_rfl) hS0 ?_
          (repeat (first | (refine linX_off rfl rfl (by rfl) ?_; (try simp only [Act.put, List.getElem_toArray, List.getElem_cons_zero, List.getElem_cons_succ, List.setIfInBounds_toArray, List.set_cons_zero, List.set_cons_succ])) | (refine linX_op (v := ?_) rfl rfl (by rfl) (fun w9 hS9 => ?_) ?_; rotate_left; (focus (((have k8 := L8 w9 hS9; have k10 := L10 w9 hS9; have k11 := L11 w9 hS9; (try dsimp only at hS9); go_simp; (try go_bits)) <;> with_reducible rfl))); (try simp only [Act.put, List.getElem_toArray, List.getElem_cons_zero, List.getElem_cons_succ, List.setIfInBounds_toArray, List.set_cons_zero, List.set_cons_succ]))))
          refine linX_call (f := 33) (args := #[.agg V, .bool false]) rfl rfl (by rfl) rfl rfl (enters_of Try.func33 (by kernel_rfl) rfl) ?_ ?_
          · simp [Act.eval]
          refine hpc.mono ?_
          rintro e w5 ⟨v5, rfl, how5, hb5⟩
          obtain ⟨a5, c5, hv5⟩ := owns_sl how5
          subst hv5
          have hb5' : Below wr.heap.size wr w5 := hS0.trans hb5
          refine ⟨_, rfl, hb5', ?_⟩
          (try simp only [Act.put, List.getElem_toArray, List.getElem_cons_zero, List.getElem_cons_succ, List.setIfInBounds_toArray, List.set_cons_zero, List.set_cons_succ])
          (repeat (first | (refine linX_off rfl rfl (by rfl) ?_; (try simp only [Act.put, List.getElem_toArray, List.getElem_cons_zero, List.getElem_cons_succ, List.setIfInBounds_toArray, List.set_cons_zero, List.set_cons_succ])) | (refine linX_op (v := ?_) rfl rfl (by rfl) (fun w9 hS9 => ?_) ?_; rotate_left; (focus (((have k8 := L8 w9 hS9; have k10 := L10 w9 hS9; have k11 := L11 w9 hS9; (try dsimp only at hS9); go_simp; (try go_bits)) <;> with_reducible rfl))); (try simp only [Act.put, List.getElem_toArray, List.getElem_cons_zero, List.getElem_cons_succ, List.setIfInBounds_toArray, List.set_cons_zero, List.set_cons_succ]))))
          refine linX_call (f := 36) (args := #[.agg V, .int .i64 (r5 : Int)]) rfl rfl (by rfl) rfl rfl (enters_of Try.func36 (by kernel_rfl) rfl) ?_ ?_
          · simp [Act.eval]
          refine (hTK w5 hb5' _).mono ?_
          rintro e w6 ⟨r6, rfl, hr6, hb6⟩
          have hb6' := bel_later hb5' hb6
          have hr6 := HND.out.2.2 r6 hr6
          subst hr6
          refine ⟨_, rfl, hb6', ?_⟩
          (try simp only [Act.put, List.getElem_toArray, List.getElem_cons_zero, List.getElem_cons_succ, List.setIfInBounds_toArray, List.set_cons_zero, List.set_cons_succ])
          (repeat (first | (refine linX_off rfl rfl (by rfl) ?_; (try simp only [Act.put, List.getElem_toArray, List.getElem_cons_zero, List.getElem_cons_succ, List.setIfInBounds_toArray, List.set_cons_zero, List.set_cons_succ])) | (refine linX_op (v := ?_) rfl rfl (by rfl) (fun w9 hS9 => ?_) ?_; rotate_left; (focus (((have k8 := L8 w9 hS9; have k10 := L10 w9 hS9; have k11 := L11 w9 hS9; (try dsimp only at hS9); go_simp; (try go_bits)) <;> with_reducible rfl))); (try simp only [Act.put, List.getElem_toArray, List.getElem_cons_zero, List.getElem_cons_succ, List.setIfInBounds_toArray, List.set_cons_zero, List.set_cons_succ]))))
          refine linX_nil ?_
          have z5 := HO.out.1.z.kept (Kept.of_below [] hb6') (by simp)
          have hst := sra z5 (V' := zeroRa) rfl rfl zeroRa_one
          have HZ := Lib.hid (And.intro (z5.row zeroRa) (below_setRow (bel_later HND.out.2.1 hb6') (Nat.le_refl _) zeroRa))
          clear z5 hb5' hb5 how5 hpc L8 L10 L11 hS0 hb6 hb6'
          unfold zeroRa at hst
          go_wp2_with fail
          exact rd_no rfl HZ.out.1 rfl HZ.out.2 HND.out.1
      · have hmi : ((m6 : Int) != (nF : Int)) = true := by simp; omega
        have hnd := no_dec3 HC.out.1 (L := L) (fun d hd => HO.out.1.lst d (by omega)) (by rw [HO.out.2.2.2.1, HO.out.2.2.2.2.1]; exact hmet)
        have HND := Lib.hid (And.intro hnd hbw)
        clear hnd hbw
        go_wp2_with fail
        have hS0 : Below wr.heap.size wr wr.drew := below_drewN (Below.refl _ _) 1
        have L8 : ∀ w', Below wr.heap.size wr w' → (loadSem 36 (.pointer (some ⟨ga, 0, none⟩))).run Try.prog w' = .ok (.agg V) w' := fun w' k => by rw [← HO.out.2.2.1]; exact lra (HO.out.1.bx.kept (Kept.of_below [] k) (by simp)) rfl
        have L10 : ∀ w', Below wr.heap.size wr w' → w'.cell? ⟨ga, 10, none⟩ = some (.int .i64 ((ws.getD 5 0 : Nat) : Int)) := fun w' k => (HO.out.1.bx.kept (Kept.of_below [] k) (by simp)).cell 10
        have L11 : ∀ w', Below wr.heap.size wr w' → w'.cell? ⟨ga, 11, none⟩ = some (.int .i64 ((ws.getD 6 0 : Nat) : Int)) := fun w' k => (HO.out.1.bx.kept (Kept.of_below [] k) (by simp)).cell 11
        clear hl hkd
        refine wp_region_linY (fun w' => Below wr.heap.size wr w') [2] [0, 1, 2, 3, 4, 5, 6, 7, 8, 9, 10, 11, 12, 13, 14, 15, 16, 17, 18, 19, 20, 21, 22, 23, 24, 25, 26, 27, 28, 29, 30, 31, 32, 33, 34, 35, 36, 37, 38, 39, 40] (by kernel_rfl) (by kernel_rfl) hS0 ?_
        (repeat (first | (refine linX_off rfl rfl (by rfl) ?_; (try simp only [Act.put, List.getElem_toArray, List.getElem_cons_zero, List.getElem_cons_succ, List.setIfInBounds_toArray, List.set_cons_zero, List.set_cons_succ])) | (refine linX_op (v := ?_) rfl rfl (by rfl) (fun w9 hS9 => ?_) ?_; rotate_left; (focus (((have k8 := L8 w9 hS9; have k10 := L10 w9 hS9; have k11 := L11 w9 hS9; (try dsimp only at hS9); go_simp; (try go_bits)) <;> with_reducible rfl))); (try simp only [Act.put, List.getElem_toArray, List.getElem_cons_zero, List.getElem_cons_succ, List.setIfInBounds_toArray, List.set_cons_zero, List.set_cons_succ]))))
        refine linX_call (f := 33) (args := #[.agg V, .bool false]) rfl rfl (by rfl) rfl rfl (enters_of Try.func33 (by kernel_rfl) rfl) ?_ ?_
        · simp [Act.eval]
        refine hpc.mono ?_
        rintro e w5 ⟨v5, rfl, how5, hb5⟩
        obtain ⟨a5, c5, hv5⟩ := owns_sl how5
        subst hv5
        have hb5' : Below wr.heap.size wr w5 := hS0.trans hb5
        refine ⟨_, rfl, hb5', ?_⟩
        (try simp only [Act.put, List.getElem_toArray, List.getElem_cons_zero, List.getElem_cons_succ, List.setIfInBounds_toArray, List.set_cons_zero, List.set_cons_succ])
        (repeat (first | (refine linX_off rfl rfl (by rfl) ?_; (try simp only [Act.put, List.getElem_toArray, List.getElem_cons_zero, List.getElem_cons_succ, List.setIfInBounds_toArray, List.set_cons_zero, List.set_cons_succ])) | (refine linX_op (v := ?_) rfl rfl (by rfl) (fun w9 hS9 => ?_) ?_; rotate_left; (focus (((have k8 := L8 w9 hS9; have k10 := L10 w9 hS9; have k11 := L11 w9 hS9; (try dsimp only at hS9); go_simp; (try go_bits)) <;> with_reducible rfl))); (try simp only [Act.put, List.getElem_toArray, List.getElem_cons_zero, List.getElem_cons_succ, List.setIfInBounds_toArray, List.set_cons_zero, List.set_cons_succ]))))
        refine linX_nil ?_
        have z5 := HO.out.1.z.kept (Kept.of_below [] hb5') (by simp)
        have hst := sra z5 (V' := zeroRa) rfl rfl zeroRa_one
        have HZ := Lib.hid (And.intro (z5.row zeroRa) (below_setRow (bel_later HND.out.2 hb5') (Nat.le_refl _) zeroRa))
        clear z5 hb5' hb5 how5 hpc L8 L10 L11 hS0
        unfold zeroRa at hst
        go_wp2_with fail
        exact rd_no rfl HZ.out.1 rfl HZ.out.2 HND.out.1
end
end Go.Proofs.Ytgnpoehcmlmajaa
