/-
  The walk of DiskSafe. Nothing here is a statement of the document.
-/
import Derived.Test.YtaikgngigaohmaaDoorDskSq
import Derived.Deep.DeepCutAuto
import Derived.Deep.CutBlock
namespace Go.Proofs.YtaikgngigaohmaaDoor
open Go.RowKit Go.Shelf
set_option linter.unusedVariables false

/-- The package's own list of eight yes. -/
def AllYes (w : World) : Prop := ∃ (ga : Option Addr) (gc : Nat), w.cell? ⟨0, 0, none⟩ = some (.slice ga 8 gc) ∧ Bools w ga (List.replicate 8 true)
theorem AllYes.later {w w' : World} (h : AllYes w) (hb : Below w.heap.size w w') : AllYes w' := by
  obtain ⟨ga, gc, h1, h2⟩ := h
  exact ⟨ga, gc, (hb.cell (p := ⟨0, 0, none⟩) (cell_lt h1)).trans h1, h2.later hb⟩

theorem Deeds.later {w w' : World} {a : Option Addr} {l : List (Deed × List Bool)} (h : Deeds w a l) (hb : Below w.heap.size w w') : Deeds w' a l := by
  rcases h with h | ⟨x, h1, h2⟩
  · exact .inl h
  · refine .inr ⟨x, h1, fun i y hy => ?_⟩
    obtain ⟨g1, g2, g3⟩ := h2 i y hy
    refine ⟨fun j hj => ?_, g2.below hb, g3⟩
    have h9 := g1 j hj
    have h8 : ∃ v, w.cell? (x.add (i * 5 + j)) = some v := by
      rw [h9]
      have : j < y.1.cs.size := by simp [Deed.cs]; omega
      exact ⟨_, Array.getElem?_eq_getElem this⟩
    obtain ⟨v, hv⟩ := h8
    rw [← h9]
    exact hb.cell (cell_lt hv)

/-! ### Fourteen bools -/
theorem load_bls_rule (v : Value) : Instr.loadAt 35 v = loadSem 35 v := rfl
theorem store_bls_rule (v x : Value) : Instr.storeAt 35 v x = storeSem 35 v x := rfl
def bls (l : List Bool) : Array Value := (l.map Value.bool).toArray
def no14 : List Bool := List.replicate 14 false
theorem bls_size (l : List Bool) : (bls l).size = l.length := by simp [bls]
theorem bls_at {l : List Bool} {i : Nat} (h : i < l.length) : (bls l)[i]? = some (.bool (l.getD i false)) := by simp [bls, h]
theorem bls_set (l : List Bool) (i : Nat) (b : Bool) : (bls l).setIfInBounds i (.bool b) = bls (l.set i b) := by simp [bls]
theorem bls_one (l : List Bool) : (bls l).all (·.oneCell') = true := by
  rw [Array.all_eq_true_iff_forall_mem]
  intro v hv
  obtain ⟨b, _, rfl⟩ := List.mem_map.1 (by simpa [bls] using hv : v ∈ l.map Value.bool)
  rfl
theorem z_bls : (Tryd.prog.info? 35).map (fun i => (i.zero, i.size)) = some (some (.agg (bls no14)), 14) := by kernel_rfl
theorem build_bls (w : World) : (Instr.build 35 #[]).run Tryd.prog w = .ok (.agg (bls no14)) w := by kernel_rfl
theorem sbls {W : World} {g : Nat} {l l' : List Bool} (h : Blk W g 35 (bls l)) (h14 : l.length = 14) (h14' : l'.length = 14) : (storeSem 35 (.pointer (some ⟨g, 0, none⟩)) (.agg (bls l'))).run Tryd.prog W = .ok () (W.setRow g (bls l')) := by
  have := storeRes_of (P := Tryd.prog) (ty := 35) (o := 0) (vs := bls l') h (by rw [bls_size, bls_size]; omega) (by rw [bls_size, h14']; exact (zero_of_info z_bls).2) (bls_one l')
  rwa [over_all (by rw [bls_size, bls_size]; omega)] at this

/-- While more deeds are done. -/
structure Goon (w W : World) (B gw gr : Nat) (bv : Value) (D : Dk) (P : List Bk) (wr : List Bool) : Prop where
  hb : Below w.heap.size w W
  dsk : Dsk W B (B + 1) B bv D
  len : D.plate.length = 14
  was : Blk W gw 32 (arr P)
  wri : Blk W gr 35 (bls wr)
  wlen : wr.length = 14
  lone : ∀ i, i < 14 → wr.getD i false = false → Lone D i (P.getD i Bk.zero)
  hB : w.heap.size ≤ B
  hw : w.heap.size ≤ gw
  hr : w.heap.size ≤ gr

theorem Goon.size {w W : World} {B gw gr : Nat} {bv : Value} {D : Dk} {P : List Bk} {wr : List Bool} (h : Goon w W B gw gr bv D P wr) : B ≤ W.heap.size := by
  have := h.dsk.plate.lt; omega
theorem Goon.later {w W W' : World} {B gw gr : Nat} {bv : Value} {D : Dk} {P : List Bk} {wr : List Bool} (h : Goon w W B gw gr bv D P wr) (hb : Below W.heap.size W W') : Goon w W' B gw gr bv D P wr :=
  ⟨h.hb.trans (hb.mono h.hb.size), h.dsk.later hb, h.len, h.was.kept (Kept.of_below [] hb) (by simp), h.wri.kept (Kept.of_below [] hb) (by simp), h.wlen, h.lone, h.hB, h.hw, h.hr⟩
theorem Goon.goes {w W W' : World} {B gw gr : Nat} {bv bv' : Value} {D D' : Dk} {P : List Bk} {wr : List Bool} (h : Goon w W B gw gr bv D P wr) (hd : Dsk W' B (B + 1) B bv' D') (hg : Goes W W' (B + 1) B bv bv') :
    Below w.heap.size w W' ∧ Blk W' gw 32 (arr P) ∧ Blk W' gr 35 (bls wr) :=
  ⟨h.hb.trans ((hg.below h.dsk h.size).mono h.hB), h.was.kept hg.kept (h.dsk.sep h.was (by decide) (by decide) (by decide)), h.wri.kept hg.kept (h.dsk.sep h.wri (by decide) (by decide) (by decide))⟩

/-- Nothing is to fail any more. -/
theorem arm_off {w : World} {B p pb : Nat} {bv : Value} {D : Dk} (h : Dsk w B p pb bv D) (hd : D.dead = false) :
    Calls Tryd.prog 13 #[.pointer (some ⟨p, 0, none⟩), .int .i64 (-1)] w fun e w' => e = .returned (.int .i64 0) ∧ ∃ D', Dsk w' B p pb bv D' ∧ D'.dead = false ∧ D'.fuse = none ∧ D'.plate = D.plate ∧ D'.rows = D.rows ∧ Goes w w' p pb bv bv := by
  refine (arm_any h (-1) (by omega)).mono ?_
  rintro e w' ⟨rfl, h1, h2⟩
  have ha : armM D (-1) = ({ D with fuse := none }, 0) := by
    unfold armM
    rw [if_neg (by simp [hd])]
    rfl
  rw [ha] at h1 ⊢
  exact ⟨rfl, _, h1, hd, rfl, rfl, rfl, h2⟩
theorem fail_off {w : World} {B p pb : Nat} {bv : Value} {D : Dk} (h : Dsk w B p pb bv D) (hd : D.dead = false) (hf : D.fuse = none) :
    Calls Tryd.prog 14 #[.pointer (some ⟨p, 0, none⟩), .int .i64 (-1)] w fun e w' => e = .returned (.int .i64 0) ∧ ∃ D', Dsk w' B p pb bv D' ∧ D'.dead = false ∧ D'.fuse = none ∧ D'.flaw = none ∧ D'.plate = D.plate ∧ D'.rows = D.rows ∧ Goes w w' p pb bv bv := by
  refine (fail_any h (-1) (by omega)).mono ?_
  rintro e w' ⟨rfl, h1, h2⟩
  have ha : flawedM D (-1) = ({ D with flaw := none }, 0) := by
    unfold flawedM
    rw [if_neg (by simp [hd])]
    rfl
  rw [ha] at h1 ⊢
  exact ⟨rfl, _, h1, hd, hf, rfl, rfl, rfl, h2⟩
theorem sync_on {w : World} {B p pb : Nat} {bv : Value} {D : Dk} (h : Dsk w B p pb bv D) (hd : D.dead = false) (hf : D.fuse = none) (hl : D.flaw = none) :
    Calls Tryd.prog 15 #[.pointer (some ⟨p, 0, none⟩)] w fun e w' => e = .returned (.int .i64 0) ∧ ∃ bv' D', Dsk w' B p pb bv' D' ∧ D'.plate = downsL D.plate D.rows ∧ Goes w w' p pb bv bv' := by
  refine (sync_any h).mono ?_
  rintro e w' ⟨rfl, bv', h1, h2⟩
  have ha : syncM D = (countM (drainM (fuseM (flawM D)) D.rows.length), 0) := by
    unfold syncM
    rw [if_neg (by simp [hd]), if_neg (by simp [hf]), if_neg (by simp [hl])]
  rw [ha] at h1 ⊢
  refine ⟨rfl, _, _, h1, ?_, h2⟩
  show (downsM (fuseM (flawM D)) (D.rows.take D.rows.length)).plate = _
  rw [downsM_plate, List.take_length]
  rfl

attribute [local go_sem ↓] load_blk_rule store_blk_rule load_arr_rule store_arr_rule load_bls_rule store_bls_rule eq_rule eq_arr_rule
set_option maxRecDepth 100000 in
set_option maxHeartbeats 8000000 in
theorem safe_walk (aA : Option Addr) (capA : Nat) (lA : List (Deed × List Bool)) (aB : Option Addr) (capB : Nat) (lB : List (Deed × List Bool)) (aK : Option Addr) (capK : Nat) (ks : List Bool) (w : World) (hG : AllYes w) (hA : Deeds w aA lA) (hlA : lA.length ≤ 9223372036854775807) (hBd : Deeds w aB lB) (hlB : lB.length ≤ 9223372036854775807) (hks : Bools w aK ks) (hkl : ks.length ≤ capK) (hcK : capK ≤ 9223372036854775807) :
    Calls Tryd.prog 3 #[.slice aA lA.length capA, .slice aB lB.length capB, .slice aK ks.length capK] w fun e w' => e = .returned (.bool true) ∧ Below w.heap.size w w' := by
  have HLA := Lib.hid hA
  have HLB := Lib.hid hBd
  have HK := Lib.hid (And.intro hks (And.intro hkl hcK))
  obtain ⟨ga, gc, hg1, hg2⟩ := hG
  have HG := Lib.hid (And.intro hg1 hg2)
  clear hA hBd hks hg1 hg2
  go_enter Tryd.func3, Tryd.ntmps3
  go_wp2_with fail
  refine (wakes_any w).mono ?_
  rintro e W1 ⟨rfl, hb1⟩
  have hbs := hb1.size
  have hpl := played_any aA capA lA W1 (HLA.out.later hb1) hlA
  have H1 := Lib.hid hb1
  clear hb1
  go_wp2_with fail
  refine hpl.mono ?_
  rintro e W2 ⟨bv, D, rfl, hD, h14, hb2⟩
  have hg := (H1.out.trans (hb2.mono hbs)).cell (p := ⟨0, 0, none⟩) (cell_lt HG.out.1)
  rw [HG.out.1] at hg
  have hks8 := HG.out.2.later (H1.out.trans (hb2.mono hbs))
  have hge := dsk_ge hD
  have hcr := crash_any2 hD ga gc (List.replicate 8 true) hks8 (fun _ b off ha hm => by
    have h1 := hge b hm
    rcases HG.out.2 with h9 | ⟨b', off', h2, h3, _⟩
    · cases h9
    · rw [ha] at h2
      cases h2
      omega) (by simp)
  rw [List.length_replicate] at hcr
  have hbw2 := H1.out.trans (hb2.mono hbs)
  have hsz2 : W1.heap.size ≤ W2.heap.size := hb2.size
  generalize W1.heap.size = B at *
  have H2 := Lib.hid (And.intro hD hbw2)
  clear H1 hpl hks8 hge hD hb2 hbw2
  go_wp2_with fail
  clear hg
  refine hcr.mono ?_
  rintro e W3 ⟨rfl, hD3, hG3⟩
  have hc14 : (crashM D (List.replicate 8 true)).plate.length = 14 := by rw [crashM_len]; exact h14
  have hrows : (crashM D (List.replicate 8 true)).rows = [] := crashM_rows _ _
  have hbw3 := H2.out.2.trans ((hG3.below H2.out.1 hsz2).mono hbs)
  clear hcr hG3 H2 h14
  generalize crashM D (List.replicate 8 true) = D3 at *
  clear D
  have hP0 := crash_none D3
  have hsh := shown_any hD3 hc14 none 0 [] (.inl rfl) (by simp)
  rw [hP0, List.length_nil] at hsh
  clear hP0
  have H3 := Lib.hid (And.intro hD3 (And.intro hbw3 hrows))
  clear hD3 hbw3 hrows
  go_wp2_with fail
  refine hsh.mono ?_
  rintro e W4 ⟨rfl, hb4⟩
  obtain ⟨P, hP⟩ : ∃ P, D3.plate = P := ⟨_, rfl⟩
  have hP14 : P.length = 14 := by rw [← hP]; exact hc14
  rw [hP]
  have hbw4 := H3.out.2.1.trans (hb4.mono H3.out.2.1.size)
  obtain ⟨W5, hW5⟩ : ∃ W5, (W4.alloc (.cells (arr z14) 32)).setRow W4.heap.size (arr P) = W5 := ⟨_, rfl⟩
  have S5 : (storeSem 32 (.pointer (some ⟨W4.heap.size, 0, none⟩)) (.agg (arr P))).run Tryd.prog (W4.alloc (.cells (arr z14) 32)) = .ok () W5 := by rw [← hW5]; exact sarr (Blk.new W4 _ _) z14_len hP14
  have b5 : Blk W5 W4.heap.size 32 (arr P) := by rw [← hW5]; exact (Blk.new W4 _ _).row _
  have hb45 : Below W4.heap.size W4 W5 := by rw [← hW5]; exact below_setRow ((Below.refl _ _).alloc (Nat.le_refl _) _) (Nat.le_refl _) _
  obtain ⟨W6, hW6⟩ : ∃ W6, (W5.alloc (.cells (bls no14) 35)).setRow W5.heap.size (bls no14) = W6 := ⟨_, rfl⟩
  have S6 : (storeSem 35 (.pointer (some ⟨W5.heap.size, 0, none⟩)) (.agg #[.bool false, .bool false, .bool false, .bool false, .bool false, .bool false, .bool false, .bool false, .bool false, .bool false, .bool false, .bool false, .bool false, .bool false])).run Tryd.prog (W5.alloc (.cells (bls no14) 35)) = .ok () W6 := by rw [← hW6]; exact sbls (l' := no14) (Blk.new W5 _ _) rfl rfl
  have b6 : Blk W6 W5.heap.size 35 (bls no14) := by rw [← hW6]; exact (Blk.new W5 _ _).row _
  have hb56 : Below W5.heap.size W5 W6 := by rw [← hW6]; exact below_setRow ((Below.refl _ _).alloc (Nat.le_refl _) _) (Nat.le_refl _) _
  have hbw5 := hbw4.trans (hb45.mono hbw4.size)
  have hgo : Goon w W6 B W4.heap.size W5.heap.size _ D3 P no14 := ⟨hbw5.trans (hb56.mono hbw5.size), ((H3.out.1.later hb4).later hb45).later hb56, hc14, b5.kept (Kept.of_below [] hb56) (by simp), b6, rfl, fun i hi _ => ⟨by rw [hP], fun r hr => by rw [H3.out.2.2] at hr; cases hr⟩, hbs, hbw4.size, hbw5.size⟩
  have HGo := Lib.hid hgo
  have hgw := hbw4.size
  have hgr := hbw5.size
  clear hgo b5 hb45 b6 hb56 hbw5 hbw4 hb4 hP H3 hsh
  have hwf : W4.heap.size < W6.heap.size := HGo.out.was.lt
  generalize hgw' : W4.heap.size = gw at *
  generalize hgr' : W5.heap.size = gr at *
  go_upto_block 0 with (first | (with_reducible refine wpList_alloc_z rfl 32 rfl (arr z14) 896 z_arr' ?_; rw [hgw']) | (with_reducible refine wpList_alloc_z rfl 35 rfl (bls no14) 14 z_bls ?_; rw [hgr']))
  clear S5 S6 hW5 hW6
  go_cut [] from 11 (fun wc => ∃ bv D wl, Goon w wc B gw gr bv D P wl)
  case first =>
    go_wp2_with fail
    go_loopw [44] (fun i wr => ∃ k : Nat, k ≤ lB.length ∧ i = .int .i64 k ∧ ∃ bv D wl, Goon w wr B gw gr bv D P wl) (fun i _ => lB.length - (intOf i).toNat)
    case atStart => exact ⟨0, Nat.zero_le _, rfl, _, _, _, HGo.out⟩
    case round =>
      obtain ⟨k, hk, rfl, bv, D, wl, hPk⟩ := hrel
      clear HGo
      by_cases hlt : k < lB.length
      · obtain ⟨⟨x, kx⟩, hy⟩ : ∃ y, lB[k]? = some y := ⟨_, List.getElem?_eq_getElem hlt⟩
        obtain ⟨b0, o0, rfl, hc, hT, hx1, hx2, hx3, hx4, hx5⟩ := HLB.out.at hy
        have HX := Lib.hid (And.intro hT (And.intro hx1 (And.intro hx2 (And.intro hx3 hx5))))
        have hcc : ∀ j, j < 5 → wr.cell? ⟨b0, o0 + k * 5 + j, none⟩ = (x.cs)[j]? := by
          intro j hj
          have h9 := hc j hj
          rw [← Nat.add_assoc] at h9
          rw [← h9]
          have h8 : ∃ v, w.cell? ⟨b0, o0 + k * 5 + j, none⟩ = some v := by
            rw [h9]
            have : j < x.cs.size := by simp [Deed.cs]; omega
            exact ⟨_, Array.getElem?_eq_getElem this⟩
          obtain ⟨v, hv⟩ := h8
          exact hPk.hb.cell (p := ⟨b0, o0 + k * 5 + j, none⟩) (cell_lt hv)
        have c0 := hcc 0 (by omega)
        have c1 := hcc 1 (by omega)
        have c2 := hcc 2 (by omega)
        have c3 := hcc 3 (by omega)
        have c4 := hcc 4 (by omega)
        obtain ⟨z0, z1, z2, z3, z4, z5, z6⟩ := x
        simp only [Deed.cs, List.getElem?_toArray, List.getElem?_cons_zero, List.getElem?_cons_succ, Nat.add_zero] at c0 c1 c2 c3 c4
        clear hc hcc hT hx1 hx2 hx3 hx4 hx5 hy
        have hki : (k : Int) < (lB.length : Int) := by omega
        obtain ⟨W5, hW5⟩ : ∃ W5, wr.alloc (.cells #[.int .i64 z0, .int .i64 z1, .int .i64 z2, .int .u8 (z3 : Int), .slice z4 z5 z6] 37) = W5 := ⟨_, rfl⟩
        have hb5 : Below wr.heap.size wr W5 := by rw [← hW5]; exact (Below.refl _ _).alloc (Nat.le_refl _) _
        have bx5 : Blk W5 wr.heap.size 37 (Deed.cs ⟨z0, z1, z2, z3, z4, z5, z6⟩) := by rw [← hW5]; exact Blk.new wr _ _
        have hP5 := hPk.later hb5
        have y0 := bx5.cell 0
        have y1 := bx5.cell 1
        have y2 := bx5.cell 2
        have y3 := bx5.cell 3
        have y4 := bx5.cell 4
        simp only [Deed.cs, List.getElem?_toArray, List.getElem?_cons_zero, List.getElem?_cons_succ] at y0 y1 y2 y3 y4
        have HH := Lib.hid (And.intro hPk (And.intro hP5 bx5))
        have nx5 : wr.heap.size ∉ fp (B + 1) B bv := hPk.dsk.beside (Nat.le_refl _)
        have hgrlt : gr < wr.heap.size := hPk.wri.lt
        have NX := Lib.hid nx5
        clear hPk hP5 hb5 bx5 nx5
        go_wp2_with fail
        · go_meet
          exact ⟨_, _, _, HH.out.2.1⟩
        · clear hW5 c0 c1 c2 c3 c4 y0 y1 y2 y3 y4
          have hlen := doesM_len D ⟨z0, z1, z2, z3, z4, z5, z6⟩ kx
          have hlo := fun i (hi : i < 14) (h : wl.getD i false = false) => does_lone (D := D) (i := i) (by rw [HH.out.1.len]; exact hi) (HH.out.1.lone i hi h) ⟨z0, z1, z2, z3, z4, z5, z6⟩ kx
          have hwr := does_writes (D := D) (x := ⟨z0, z1, z2, z3, z4, z5, z6⟩) (ks := kx)
          have hkd := fun W => kind_any ⟨z0, z1, z2, z3, z4, z5, z6⟩ W
          have hdo := does_any HH.out.2.1.dsk HH.out.2.1.size ⟨z0, z1, z2, z3, z4, z5, z6⟩ kx (HX.out.1.below HH.out.2.1.hb) HX.out.2.1 HX.out.2.2.1 HX.out.2.2.2.1 HX.out.2.2.2.2
          generalize doesM D ⟨z0, z1, z2, z3, z4, z5, z6⟩ kx = DM at *
          obtain ⟨D6, rb, re⟩ := DM
          simp only [Deed.cs] at hkd hdo
          generalize Deed.k ⟨z0, z1, z2, z3, z4, z5, z6⟩ = kk at *
          have HL6 := Lib.hid (And.intro (hlen.trans HH.out.1.len) hlo)
          clear hlen hlo
          refine hdo.mono ?_
          rintro e W6 ⟨rfl, bv', hD6, hG6⟩
          have hg6 := HH.out.2.1.goes hD6 hG6
          have bx6 := HH.out.2.2.kept hG6.kept NX.out
          generalize hq : wr.heap.size = q at *
          obtain ⟨W7, hW7⟩ : ∃ W7, (W6.alloc (.cells Bk.zero.cs 31)).setRow W6.heap.size rb.cs = W7 := ⟨_, rfl⟩
          have S7 : (storeSem 31 (.pointer (some ⟨W6.heap.size, 0, none⟩)) (.agg rb.cs)).run Tryd.prog (W6.alloc (.cells Bk.zero.cs 31)) = .ok () W7 := by
            have := storeRes_of (P := Tryd.prog) (ty := 31) (o := 0) (vs := rb.cs) (Blk.new W6 31 Bk.zero.cs) (by rw [Bk.size, Bk.size]; omega) (s_blk rb) rb.one
            rw [over_all (by rw [Bk.size, Bk.size]), hW7] at this
            exact this
          have hb67 : Below W6.heap.size W6 W7 := by rw [← hW7]; exact below_setRow ((Below.refl _ _).alloc (Nat.le_refl _) _) (Nat.le_refl _) _
          have bx7 := bx6.kept (Kept.of_below [] hb67) (by simp)
          have y0 := bx7.cell 0
          have y1 := bx7.cell 1
          have y2 := bx7.cell 2
          have y3 := bx7.cell 3
          have y4 := bx7.cell 4
          simp only [Deed.cs, List.getElem?_toArray, List.getElem?_cons_zero, List.getElem?_cons_succ] at y0 y1 y2 y3 y4
          have HKd := Lib.hid hkd
          have H7 := Lib.hid (And.intro (hg6.1.trans (hb67.mono hg6.1.size)) (And.intro (hD6.later hb67) (And.intro (hg6.2.1.kept (Kept.of_below [] hb67) (by simp)) (And.intro (hg6.2.2.kept (Kept.of_below [] hb67) (by simp)) bx7))))
          have hwl := HH.out.1.wlen
          clear hkd hdo hD6 hG6 hg6 bx6 hb67 bx7 hW7
          by_cases he : re = 0
          · subst he
            by_cases h5 : kk < 5
            · obtain ⟨hs0, hs1⟩ : 0 ≤ z1 ∧ z1 < (D.plate.length : Int) := hwr h5 rfl
              obtain ⟨s, rfl⟩ : ∃ s : Nat, z1 = (s : Int) := ⟨z1.toNat, by omega⟩
              rw [HH.out.1.len] at hs1
              have hs14 : s < 14 := by omega
              have g5 : decide ((kk : Int) < 5) = true := by simp; omega
              clear hwr hs0
              go_wp2_with (first | (with_reducible refine wpList_alloc_z rfl 31 rfl Bk.zero.cs 64 z_blk ?_) | (first | (go_at_call 11; refine (HKd.out _).mono ?_; rintro e w' ⟨rfl, hbk⟩; have bxk := H7.out.2.2.2.2.kept (Kept.of_below [] hbk) (by simp); have y0 : w'.cell? ⟨q, 0, none⟩ = some (.int .i64 z0) := (bxk.cell 0).trans rfl; have y1 : w'.cell? ⟨q, 1, none⟩ = some (.int .i64 (s : Int)) := (bxk.cell 1).trans rfl; have y2 : w'.cell? ⟨q, 2, none⟩ = some (.int .i64 z2) := (bxk.cell 2).trans rfl; have y3 : w'.cell? ⟨q, 3, none⟩ = some (.int .u8 (z3 : Int)) := (bxk.cell 3).trans rfl; have y4 : w'.cell? ⟨q, 4, none⟩ = some (.slice z4 z5 z6) := (bxk.cell 4).trans rfl; have hbw8 := H7.out.1.trans (hbk.mono H7.out.1.size); have hD8 := H7.out.2.1.later hbk; have bw8 := H7.out.2.2.1.kept (Kept.of_below [] hbk) (by simp); have br8 := H7.out.2.2.2.1.kept (Kept.of_below [] hbk) (by simp); have f8 := br8.free s; have v8 := (br8.cell s).trans (bls_at (by rw [hwl]; exact hs14)))))
              have k9 : Kept [gr] w' (w'.setCell ⟨gr, s, none⟩ (.bool true)) := (Kept.refl _ _).setCell (.inl (by simp)) _
              have br9 := br8.set s (.bool true)
              rw [bls_set] at br9
              have bw9 := bw8.kept k9 (by simp; exact bw8.ne br8 (by decide))
              have hD9 := hD8.apart k9 (by
                intro i hi
                obtain rfl : i = gr := by simpa using hi
                exact hD8.sep br8 (by decide) (by decide) (by decide))
              have hfin : Goon w (w'.setCell ⟨gr, s, none⟩ (.bool true)) B gw gr bv' D6 P (wl.set s true) := ⟨hbw8.trans (k9.below (by simp; exact HH.out.1.hr) hbw8.size), hD9, HL6.out.1, bw9, br9, by rw [List.length_set]; exact hwl, fun i hi h => by
                by_cases hsi : s = i
                · subst hsi
                  simp [List.getElem?_set, hwl, hs14] at h
                · have h9 : wl.getD i false = false := by simpa [List.getElem?_set, hsi] using h
                  exact HL6.out.2 i hi h9 (fun ⟨_, _, h8⟩ => hsi (by have : (s : Int) = (i : Int) := h8; omega)), HH.out.1.hB, HH.out.1.hw, HH.out.1.hr⟩
              have HF := Lib.hid hfin
              clear k9 br9 bw9 hD9 hfin bxk hbw8 hD8 bw8 br8 hbk f8 v8 y0 y1 y2 y3 y4
              go_roundw
              case rel => first | exact ⟨k + 1, by omega, by go_num, _, _, _, HF.out⟩ | ((repeat apply Exists.intro); exact ⟨⟨k + 1, by omega, by go_num, _, _, _, HF.out⟩, rfl⟩)
              case measure => simp [intOf]; omega
            · have g5 : decide ((kk : Int) < 5) = false := by simp; omega
              clear hwr
              go_wp2_with (first | (with_reducible refine wpList_alloc_z rfl 31 rfl Bk.zero.cs 64 z_blk ?_) | (first | (go_at_call 11; refine (HKd.out _).mono ?_; rintro e w' ⟨rfl, hbk⟩; have bxk := H7.out.2.2.2.2.kept (Kept.of_below [] hbk) (by simp); have y0 : w'.cell? ⟨q, 0, none⟩ = some (.int .i64 z0) := (bxk.cell 0).trans rfl; have y1 : w'.cell? ⟨q, 1, none⟩ = some (.int .i64 z1) := (bxk.cell 1).trans rfl; have y2 : w'.cell? ⟨q, 2, none⟩ = some (.int .i64 z2) := (bxk.cell 2).trans rfl; have y3 : w'.cell? ⟨q, 3, none⟩ = some (.int .u8 (z3 : Int)) := (bxk.cell 3).trans rfl; have y4 : w'.cell? ⟨q, 4, none⟩ = some (.slice z4 z5 z6) := (bxk.cell 4).trans rfl; have hbw8 := H7.out.1.trans (hbk.mono H7.out.1.size); have hD8 := H7.out.2.1.later hbk; have bw8 := H7.out.2.2.1.kept (Kept.of_below [] hbk) (by simp); have br8 := H7.out.2.2.2.1.kept (Kept.of_below [] hbk) (by simp); skip)))
              have hfin : Goon w w' B gw gr bv' D6 P wl := ⟨hbw8, hD8, HL6.out.1, bw8, br8, hwl, fun i hi h => HL6.out.2 i hi h (fun ⟨_, h9, _⟩ => h5 h9), HH.out.1.hB, HH.out.1.hw, HH.out.1.hr⟩
              have HF := Lib.hid hfin
              clear hfin bxk hbw8 hD8 bw8 br8 hbk y0 y1 y2 y3 y4
              go_roundw
              case rel => first | exact ⟨k + 1, by omega, by go_num, _, _, _, HF.out⟩ | ((repeat apply Exists.intro); exact ⟨⟨k + 1, by omega, by go_num, _, _, _, HF.out⟩, rfl⟩)
              case measure => simp [intOf]; omega
          · have g0 : (re == 0) = false := by simp [he]
            clear hwr
            go_wp2_with (first | (with_reducible refine wpList_alloc_z rfl 31 rfl Bk.zero.cs 64 z_blk ?_))
            have hfin : Goon w W7 B gw gr bv' D6 P wl := ⟨H7.out.1, H7.out.2.1, HL6.out.1, H7.out.2.2.1, H7.out.2.2.2.1, hwl, fun i hi h => HL6.out.2 i hi h (fun ⟨h9, _, _⟩ => he h9), HH.out.1.hB, HH.out.1.hw, HH.out.1.hr⟩
            have HF := Lib.hid hfin
            clear hfin y0 y1 y2 y3 y4
            go_roundw
            case rel => first | exact ⟨k + 1, by omega, by go_num, _, _, _, HF.out⟩ | ((repeat apply Exists.intro); exact ⟨⟨k + 1, by omega, by go_num, _, _, _, HF.out⟩, rfl⟩)
            case measure => simp [intOf]; omega
      · obtain rfl : k = lB.length := by omega
        have HPk := Lib.hid hPk
        clear hPk
        go_wp2_with fail
        go_meet
        exact ⟨_, _, _, HPk.out⟩
  case rest =>
    clear HGo HLB
    obtain ⟨bv, D, wl, hP4⟩ := hcut
    have hcap := HK.out.2.1
    have hcap2 := HK.out.2.2
    have hl30 : ∀ m, (ks.take 30).length = m → ∀ W, Goon w W B gw gr bv D P wl → Calls Tryd.prog 9 #[.pointer (some ⟨B + 1, 0, none⟩), .slice aK m capK] W fun e w' => e = .returned (.tuple #[.agg (arr (crashM D (ks.take 30)).plate), .bool true]) ∧ Below W.heap.size W w' := by
      intro m hm W hW
      subst hm
      refine shown_any hW.dsk hW.len aK capK (ks.take 30) ?_ (by simp; omega)
      rcases HK.out.1.later hW.hb with h9 | ⟨b', off', h2, h3, h4⟩
      · exact .inl (by rw [h9]; rfl)
      · refine .inr ⟨b', off', h2, h3, fun i hi => ?_⟩
        simp only [List.length_take] at hi
        rw [h4 i (by omega)]
        rw [List.getD_eq_getElem?_getD, List.getD_eq_getElem?_getD, List.getElem?_take_of_lt (by omega)]
    have HS := Lib.hid hl30
    have HP := Lib.hid hP4
    clear hl30 hP4
    have hgwlt : gw < wc.heap.size := HP.out.was.lt
    obtain ⟨Q, hQ⟩ : ∃ Q, (crashM D (ks.take 30)).plate = Q := ⟨_, rfl⟩
    have hQ14 : Q.length = 14 := by rw [← hQ, crashM_len]; exact HP.out.len
    go_upto_region 18 with (fail)
    go_cut [8, 15] from 68 (fun v8 v15 wd => v8 = .bool true ∧ ∃ gn, v15 = .pointer (some ⟨gn, 0, none⟩) ∧ w.heap.size ≤ gn ∧ Blk wd gn 32 (arr Q) ∧ Goon w wd B gw gr bv D P wl)
    case first =>
      by_cases h30 : 30 < ks.length
      · have hcall := HS.out 30 (by simp; omega) wc HP.out
        rw [hQ] at hcall
        go_wp2_with fail
        refine hcall.mono ?_
        rintro e W8 ⟨rfl, hb8⟩
        have hP8 := HP.out.later hb8
        obtain ⟨W9, hW9⟩ : ∃ W9, (W8.alloc (.cells (arr z14) 32)).setRow W8.heap.size (arr Q) = W9 := ⟨_, rfl⟩
        have S9 : (storeSem 32 (.pointer (some ⟨W8.heap.size, 0, none⟩)) (.agg (arr Q))).run Tryd.prog (W8.alloc (.cells (arr z14) 32)) = .ok () W9 := by rw [← hW9]; exact sarr (Blk.new W8 _ _) z14_len hQ14
        have b9 : Blk W9 W8.heap.size 32 (arr Q) := by rw [← hW9]; exact (Blk.new W8 _ _).row _
        have hb89 : Below W8.heap.size W8 W9 := by rw [← hW9]; exact below_setRow ((Below.refl _ _).alloc (Nat.le_refl _) _) (Nat.le_refl _) _
        have HF := Lib.hid (And.intro hP8.hb.size (And.intro b9 (hP8.later hb89)))
        clear hcall hb8 hP8 hW9 b9 hb89
        go_wp2_with (with_reducible refine wpList_alloc_z rfl 32 rfl (arr z14) 896 z_arr' ?_)
        go_meet
        exact ⟨rfl, _, rfl, HF.out⟩
      · have hcall := HS.out ks.length (by simp; omega) wc HP.out
        rw [hQ] at hcall
        go_wp2_with fail
        refine hcall.mono ?_
        rintro e W8 ⟨rfl, hb8⟩
        have hP8 := HP.out.later hb8
        obtain ⟨W9, hW9⟩ : ∃ W9, (W8.alloc (.cells (arr z14) 32)).setRow W8.heap.size (arr Q) = W9 := ⟨_, rfl⟩
        have S9 : (storeSem 32 (.pointer (some ⟨W8.heap.size, 0, none⟩)) (.agg (arr Q))).run Tryd.prog (W8.alloc (.cells (arr z14) 32)) = .ok () W9 := by rw [← hW9]; exact sarr (Blk.new W8 _ _) z14_len hQ14
        have b9 : Blk W9 W8.heap.size 32 (arr Q) := by rw [← hW9]; exact (Blk.new W8 _ _).row _
        have hb89 : Below W8.heap.size W8 W9 := by rw [← hW9]; exact below_setRow ((Below.refl _ _).alloc (Nat.le_refl _) _) (Nat.le_refl _) _
        have HF := Lib.hid (And.intro hP8.hb.size (And.intro b9 (hP8.later hb89)))
        clear hcall hb8 hP8 hW9 b9 hb89
        go_wp2_with (with_reducible refine wpList_alloc_z rfl 32 rfl (arr z14) 896 z_arr' ?_)
        go_meet
        exact ⟨rfl, _, rfl, HF.out⟩
    case rest =>
      clear HP HS
      obtain ⟨rfl, gn, rfl, hgn, bn, hP5⟩ := hcut
      have HR := Lib.hid (And.intro bn hP5)
      clear bn hP5
      go_wp2_with fail
      go_loopw [78] (fun i wr => ∃ k : Nat, k ≤ 14 ∧ i = .int .i64 k ∧ Blk wr gn 32 (arr Q) ∧ Goon w wr B gw gr bv D P wl) (fun i _ => 14 - (intOf i).toNat)
      case atStart => exact ⟨0, Nat.zero_le _, rfl, HR.out⟩
      case round =>
        obtain ⟨k, hk, rfl, hRr⟩ := hrel
        clear HR
        by_cases hlt : k < 14
        · have hki : (k : Int) < 14 := by omega
          have bnd := hRr.1.drew
          have hgd := hRr.2.later (W' := wr.drew) ⟨rfl, rfl, rfl, Nat.le_refl _, fun _ _ => rfl⟩
          have cw : wr.cell? ⟨gr, k, none⟩ = some (.bool (wl.getD k false)) := (hRr.2.wri.cell k).trans (bls_at (by rw [hRr.2.wlen]; exact hlt))
          have L1 := larr_at bnd hQ14 hlt
          have L2 := larr_at hgd.was hP14 hlt
          have HR := Lib.hid (And.intro bnd hgd)
          by_cases hwk : wl.getD k false = true
          · rw [hwk] at cw
            clear L1 L2 hRr bnd hgd
            go_wp2_with fail
            go_region
            all_goals
              go_wp2_with fail
              go_roundw
              case rel => first | exact ⟨k + 1, by omega, by go_num, HR.out⟩ | ((repeat apply Exists.intro); exact ⟨⟨k + 1, by omega, by go_num, HR.out⟩, rfl⟩)
              case measure => simp [intOf]; omega
          · have hwf' : wl.getD k false = false := by simpa using hwk
            rw [hwf'] at cw
            have heq : Q.getD k Bk.zero = P.getD k Bk.zero := by rw [← hQ]; exact (crash_lone (hRr.2.lone k hlt hwf') _).1
            rw [heq] at L1
            obtain ⟨sb, hsb⟩ : ∃ sb, P.getD k Bk.zero = sb := ⟨_, rfl⟩
            rw [hsb] at L1 L2
            have EQ := fun w => eqSem_same sb w
            clear heq hsb hwk hwf' hRr bnd hgd
            go_wp2_with fail
            go_region
            all_goals
              go_wp2_with fail
              go_roundw
              case rel => first | exact ⟨k + 1, by omega, by go_num, HR.out⟩ | ((repeat apply Exists.intro); exact ⟨⟨k + 1, by omega, by go_num, HR.out⟩, rfl⟩)
              case measure => simp [intOf]; omega
        · obtain rfl : k = 14 := by omega
          have HR := Lib.hid hRr
          clear hRr
          have hdd := dead_any HR.out.2.dsk
          by_cases hd : D.dead = true
          · rw [hd] at hdd
            have HF := Lib.hid HR.out.2.hb
            go_wp2_with fail
            refine hdd.mono ?_
            rintro e w' ⟨rfl, rfl⟩
            go_wp2_with fail
            go_ret
            exact ⟨rfl, HF.out⟩
          · have hdf : D.dead = false := by simpa using hd
            rw [hdf] at hdd
            have hg := HR.out.2.hb.cell (p := ⟨0, 0, none⟩) (cell_lt HG.out.1)
            rw [HG.out.1] at hg
            have hk8 := HG.out.2.later HR.out.2.hb
            have hsa := shown_any HR.out.2.dsk HR.out.2.len ga gc (List.replicate 8 true) hk8 (by simp)
            have h8 := HR.out.2.dsk.ok.held
            rw [List.length_replicate, crash_most h8] at hsa
            clear hk8
            go_wp2_with fail
            refine hdd.mono ?_
            rintro e w' ⟨rfl, rfl⟩
            clear hdd
            go_wp2_with fail
            refine hsa.mono ?_
            rintro e W8 ⟨rfl, hb8⟩
            obtain ⟨M, hM⟩ : ∃ M, downsL D.plate D.rows = M := ⟨_, rfl⟩
            have hM14 : M.length = 14 := by rw [← hM, downsL_len]; exact HR.out.2.len
            have hP8 := HR.out.2.later hb8
            obtain ⟨W9, hW9⟩ : ∃ W9, (W8.alloc (.cells (arr z14) 32)).setRow W8.heap.size (arr M) = W9 := ⟨_, rfl⟩
            have S9 : (storeSem 32 (.pointer (some ⟨W8.heap.size, 0, none⟩)) (.agg (arr M))).run Tryd.prog (W8.alloc (.cells (arr z14) 32)) = .ok () W9 := by rw [← hW9]; exact sarr (Blk.new W8 _ _) z14_len hM14
            have b9 : Blk W9 W8.heap.size 32 (arr M) := by rw [← hW9]; exact (Blk.new W8 _ _).row _
            have hb89 : Below W8.heap.size W8 W9 := by rw [← hW9]; exact below_setRow ((Below.refl _ _).alloc (Nat.le_refl _) _) (Nat.le_refl _) _
            have hP9 := hP8.later hb89
            rw [hM]
            have H9 := Lib.hid (And.intro b9 (And.intro hP9.dsk (And.intro hP9.hb (And.intro hP9.size hP9.hB))))
            generalize hgm : W8.heap.size = gm at *
            have har := arm_off H9.out.2.1 hdf
            clear hsa hb8 hP8 hW9 b9 hb89 hP9 hg hlt
            go_wp2_with (with_reducible refine wpList_alloc_z rfl 32 rfl (arr z14) 896 z_arr' ?_; rw [hgm])
            refine har.mono ?_
            rintro e Wa ⟨rfl, Da, hDa, hda, hfa, hpa, hra, hGa⟩
            have ba := H9.out.1.kept hGa.kept (H9.out.2.1.sep H9.out.1 (by decide) (by decide) (by decide))
            have hba := H9.out.2.2.1.trans ((hGa.below H9.out.2.1 H9.out.2.2.2.1).mono H9.out.2.2.2.2)
            have hza : B ≤ Wa.heap.size := by have := hDa.plate.lt; omega
            have hfl := fail_off hDa hda hfa
            have Ha := Lib.hid (And.intro ba (And.intro hDa hba))
            clear har ba hDa hba hGa
            go_wp2_with fail
            refine hfl.mono ?_
            rintro e Wb ⟨rfl, Db, hDb, hdb, hfb, hlb, hpb, hrb, hGb⟩
            have bb := Ha.out.1.kept hGb.kept (Ha.out.2.1.sep Ha.out.1 (by decide) (by decide) (by decide))
            have hbb := Ha.out.2.2.trans ((hGb.below Ha.out.2.1 hza).mono H9.out.2.2.2.2)
            have hzb : B ≤ Wb.heap.size := by have := hDb.plate.lt; omega
            have hsy := sync_on hDb hdb hfb hlb
            have Hb := Lib.hid (And.intro bb (And.intro hDb hbb))
            clear hfl bb hDb hbb hGb
            go_wp2_with fail
            refine hsy.mono ?_
            rintro e Wc ⟨rfl, bvc, Dc, hDc, hpc, hGc⟩
            have bc := Hb.out.1.kept hGc.kept (Hb.out.2.1.sep Hb.out.1 (by decide) (by decide) (by decide))
            have hbc := Hb.out.2.2.trans ((hGc.below Hb.out.2.1 hzb).mono H9.out.2.2.2.2)
            have hpM : Dc.plate = M := by rw [hpc, hpb, hrb, hpa, hra, hM]
            have hs2 := shown_any hDc (by rw [hpM]; exact hM14) none 0 [] (.inl rfl) (by simp)
            rw [crash_none, List.length_nil, hpM] at hs2
            have Hc := Lib.hid (And.intro bc hbc)
            clear hsy bc hDc hbc hGc hpc
            go_wp2_with fail
            refine hs2.mono ?_
            rintro e Wd ⟨rfl, hbd⟩
            have bd := Hc.out.1.kept (Kept.of_below [] hbd) (by simp)
            have hbd' := Hc.out.2.trans (hbd.mono Hc.out.2.size)
            obtain ⟨We, hWe⟩ : ∃ We, (Wd.alloc (.cells (arr z14) 32)).setRow Wd.heap.size (arr M) = We := ⟨_, rfl⟩
            have Se : (storeSem 32 (.pointer (some ⟨Wd.heap.size, 0, none⟩)) (.agg (arr M))).run Tryd.prog (Wd.alloc (.cells (arr z14) 32)) = .ok () We := by rw [← hWe]; exact sarr (Blk.new Wd _ _) z14_len hM14
            have be : Blk We Wd.heap.size 32 (arr M) := by rw [← hWe]; exact (Blk.new Wd _ _).row _
            have hbe : Below Wd.heap.size Wd We := by rw [← hWe]; exact below_setRow ((Below.refl _ _).alloc (Nat.le_refl _) _) (Nat.le_refl _) _
            have LA := larr (bd.kept (Kept.of_below [] hbe) (by simp)) hM14
            have LB := larr be hM14
            have EA := fun w => eqArr_same hM14 w
            have HE := Lib.hid (hbd'.trans (hbe.mono hbd'.size))
            clear hs2 hbd bd hbd' hWe be hbe
            go_wp2_with (with_reducible refine wpList_alloc_z rfl 32 rfl (arr z14) 896 z_arr' ?_)
            go_ret
            exact ⟨rfl, HE.out⟩
end Go.Proofs.YtaikgngigaohmaaDoor
