/-
  What a deed does by the document (the law's own models): its contract. Nothing here is a statement of the document.
-/
import Derived.Test.YtaikgngigaohmaaDskAh
import Derived.Deep.DeepCutAuto
import Derived.Deep.CutBlock
namespace Go.Proofs.Ytaikgngigaohmaa
open Go.RowKit Go.Shelf
set_option linter.unusedVariables false

theorem load_ref_rule (v : Value) : Instr.loadAt 32 v = loadSem 32 v := rfl
theorem store_ref_rule (v x : Value) : Instr.storeAt 32 v x = storeSem 32 v x := rfl
theorem vals_size (M : Rk) (pv rv : Value) : (M.vals pv rv).size = 6 := rfl
theorem ref_one {w : World} {pv rv : Value} {M : Rk} (h : Ref w pv rv M) : (M.vals pv rv).all (·.oneCell') = true := by
  obtain ⟨pa, pc, rfl⟩ := own_slice h.p
  obtain ⟨rb, rc, rfl⟩ := own_slice h.r
  unfold Rk.vals
  kernel_rfl
theorem size_ref : (Try.prog.info? 32).map (·.size) = some 6 := by kernel_rfl
theorem lref {W : World} {g : Nat} {V : Array Value} (h : Blk W g 32 V) (hs : V.size = 6) : (loadSem 32 (.pointer (some ⟨g, 0, none⟩))).run Try.prog W = .ok (.agg V) W :=
  loadRes_of (o := 0) h (fun q _ => by rw [Nat.zero_add]) _ Try.underlying32 rfl (by rw [hs]; exact size_ref)
theorem sref {W : World} {g : Nat} {V V' : Array Value} (h : Blk W g 32 V) (hs : V.size = 6) (hs' : V'.size = 6) (ho : V'.all (·.oneCell') = true) : (storeSem 32 (.pointer (some ⟨g, 0, none⟩)) (.agg V')).run Try.prog W = .ok () (W.setRow g V') := by
  have := storeRes_of (P := Try.prog) (ty := 32) (o := 0) (vs := V') h (by omega) (by rw [hs']; exact size_ref) ho
  rwa [over_all (by omega)] at this
theorem lblk {W : World} {g : Nat} {b : Bk} (h : Blk W g 38 b.cs) : (loadSem 38 (.pointer (some ⟨g, 0, none⟩))).run Try.prog W = .ok (.agg b.cs) W :=
  loadRes_of (o := 0) h (fun q _ => by rw [Nat.zero_add]) _ Try.underlying38 rfl (s_blk b)
theorem sblk {W : World} {g : Nat} {b : Bk} (h : Blk W g 38 b.cs) (b' : Bk) : (storeSem 38 (.pointer (some ⟨g, 0, none⟩)) (.agg b'.cs)).run Try.prog W = .ok () (W.setRow g b'.cs) := by
  have := storeRes_of (P := Try.prog) (ty := 38) (o := 0) (vs := b'.cs) h (by rw [Bk.size, Bk.size]; omega) (s_blk b') b'.one
  rwa [over_all (by rw [Bk.size, Bk.size])] at this
attribute [local go_sem ↓] load_blk_rule store_blk_rule load_ref_rule store_ref_rule

/-- What stands when the document's deed is done, ahead of the answer. -/
structure Mid (w W : World) (pv0 pv rv : Value) (X : Rk) (b : Bk) : Prop where
  hb : Below w.heap.size w W
  bm : Blk W w.heap.size 32 (X.vals pv rv)
  bz : Blk W (w.heap.size + 1 + 1) 32 #[.slice none 0 0, .slice none 0 0, .int .i64 0, .int .i64 0, .bool false, .int .i64 0]
  b5 : Blk W (w.heap.size + 1 + 1 + 1) 38 Bk.zero.cs
  bv : Blk W (w.heap.size + 1 + 1 + 1 + 1) 38 b.cs
  rf : Ref W pv rv X
  np : ∀ k, pv.ownBlock = some k → (pv0.ownBlock = some k ∧ k < w.heap.size) ∨ w.heap.size + 1 + 1 + 1 + 1 < k
theorem Mid.later {w W W' : World} {pv0 pv rv : Value} {X : Rk} {b : Bk} (h : Mid w W pv0 pv rv X b) (hb : Below W.heap.size W W') : Mid w W' pv0 pv rv X b :=
  ⟨h.hb.trans (hb.mono h.hb.size), h.bm.kept (Kept.of_below [] hb) (by simp), h.bz.kept (Kept.of_below [] hb) (by simp), h.b5.kept (Kept.of_below [] hb) (by simp), h.bv.kept (Kept.of_below [] hb) (by simp), h.rf.below hb, h.np⟩
/-- Another disk is laid into the box. -/
theorem Mid.put {w W W' : World} {pv0 pv rv pv' rv' : Value} {X X' : Rk} {b : Bk} (h : Mid w W pv0 pv rv X b) (hb : Below W.heap.size W W') (hr : Ref W' pv' rv' X') (hn : NewP W pv pv') :
    (storeSem 32 (.pointer (some ⟨w.heap.size, 0, none⟩)) (.agg (X'.vals pv' rv'))).run Try.prog W' = .ok () (W'.setRow w.heap.size (X'.vals pv' rv')) ∧ Mid w (W'.setRow w.heap.size (X'.vals pv' rv')) pv0 pv' rv' X' b := by
  have h2 := h.later hb
  have hk : Kept [w.heap.size] W' (W'.setRow w.heap.size (X'.vals pv' rv')) := (Kept.refl _ _).setRow (.inl (by simp)) _
  refine ⟨sref h2.bm (vals_size _ _ _) (vals_size _ _ _) (ref_one hr), below_setRow h2.hb (Nat.le_refl _) _, h2.bm.row _, h2.bz.kept hk (by simp; omega), h2.b5.kept hk (by simp; omega), h2.bv.kept hk (by simp; omega), ⟨own_kept0 hr.p hk (own_apart hr.p h2.bm (by decide)), own_kept0 hr.r hk (own_apart hr.r h2.bm (by decide))⟩, fun k hk => ?_⟩
  rcases hn k hk with h9 | h9
  · exact h.np k h9
  · have := h.bv.lt; omega
/-- A block is laid into the other box. -/
theorem Mid.putB {w W : World} {pv0 pv rv : Value} {X : Rk} {b : Bk} (h : Mid w W pv0 pv rv X b) (b' : Bk) :
    (storeSem 38 (.pointer (some ⟨w.heap.size + 1 + 1 + 1 + 1, 0, none⟩)) (.agg b'.cs)).run Try.prog W = .ok () (W.setRow (w.heap.size + 1 + 1 + 1 + 1) b'.cs) ∧ Mid w (W.setRow (w.heap.size + 1 + 1 + 1 + 1) b'.cs) pv0 pv rv X b' := by
  have hk : Kept [w.heap.size + 1 + 1 + 1 + 1] W (W.setRow (w.heap.size + 1 + 1 + 1 + 1) b'.cs) := (Kept.refl _ _).setRow (.inl (by simp)) _
  have hnp : ∀ k, pv.ownBlock = some k → k ∉ [w.heap.size + 1 + 1 + 1 + 1] := fun k h1 h2 => by
    have h3 : k = w.heap.size + 1 + 1 + 1 + 1 := by simpa using h2
    rcases h.np k h1 with ⟨_, h9⟩ | h9 <;> omega
  exact ⟨sblk h.bv b', below_setRow h.hb (by omega) _, h.bm.kept hk (by simp; omega), h.bz.kept hk (by simp), h.b5.kept hk (by simp), h.bv.row _, ⟨own_kept0 h.rf.p hk hnp, own_kept0 h.rf.r hk (own_apart h.rf.r h.bv (by decide))⟩, h.np⟩
theorem Blk.new4 (w : World) (o o2 o3 : Obj) (t : TypeId) (cs : Array Value) : Blk ((((w.alloc o).alloc o2).alloc o3).alloc (.cells cs t)) (w.heap.size + 1 + 1 + 1) t cs := by
  have := Blk.new (((w.alloc o).alloc o2).alloc o3) t cs
  rwa [World.size_alloc, World.size_alloc, World.size_alloc] at this
theorem Blk.new5 (w : World) (o o2 o3 o4 : Obj) (t : TypeId) (cs : Array Value) : Blk (((((w.alloc o).alloc o2).alloc o3).alloc o4).alloc (.cells cs t)) (w.heap.size + 1 + 1 + 1 + 1) t cs := by
  have := Blk.new ((((w.alloc o).alloc o2).alloc o3).alloc o4) t cs
  rwa [World.size_alloc, World.size_alloc, World.size_alloc, World.size_alloc] at this

theorem Mid.fuse {w W : World} {pv0 pv rv : Value} {X : Rk} {b : Bk} (h : Mid w W pv0 pv rv X b) (v : Int) : Mid w (W.setCell ⟨w.heap.size, 2, none⟩ (.int .i64 v)) pv0 pv rv { X with fuse := v } b := by
  have hk : Kept [w.heap.size] W (W.setCell ⟨w.heap.size, 2, none⟩ (.int .i64 v)) := (Kept.refl _ _).setCell (.inl (by simp)) _
  exact ⟨h.hb.setCell (Nat.le_refl _) _, h.bm.set 2 _, h.bz.kept hk (by simp; omega), h.b5.kept hk (by simp; omega), h.bv.kept hk (by simp; omega), ⟨own_kept0 h.rf.p hk (own_apart h.rf.p h.bm (by decide)), own_kept0 h.rf.r hk (own_apart h.rf.r h.bm (by decide))⟩, h.np⟩
theorem Mid.flaw {w W : World} {pv0 pv rv : Value} {X : Rk} {b : Bk} (h : Mid w W pv0 pv rv X b) (v : Int) : Mid w (W.setCell ⟨w.heap.size, 3, none⟩ (.int .i64 v)) pv0 pv rv { X with flaw := v } b := by
  have hk : Kept [w.heap.size] W (W.setCell ⟨w.heap.size, 3, none⟩ (.int .i64 v)) := (Kept.refl _ _).setCell (.inl (by simp)) _
  exact ⟨h.hb.setCell (Nat.le_refl _) _, h.bm.set 3 _, h.bz.kept hk (by simp; omega), h.b5.kept hk (by simp; omega), h.bv.kept hk (by simp; omega), ⟨own_kept0 h.rf.p hk (own_apart h.rf.p h.bm (by decide)), own_kept0 h.rf.r hk (own_apart h.rf.r h.bm (by decide))⟩, h.np⟩

set_option maxRecDepth 100000 in
set_option maxHeartbeats 8000000 in
theorem models_any {w : World} {pv rv : Value} {M : Rk} (h : Ref w pv rv M) (x : Deed) (ks : List Bool) (hT : Truths w x.ad ks) (hl : ks.length = x.len) (hc : x.len ≤ x.cap) (hm : x.cap ≤ maxLen) (hn : x.num ≤ 9223372036854775807)
    (hf : M.fuse ≤ 9223372036854775807) (hfl : M.flaw ≤ 9223372036854775807) (hfl2 : -1 ≤ M.flaw) (hp0 : 0 < M.plate.length) (hp8 : M.plate.length ≤ 2048) (hr8 : M.rows.length ≤ 8) (hrs : ∀ r ∈ M.rows, r.s < M.plate.length) :
    Calls Try.prog 11 #[.agg (M.vals pv rv), .agg x.cs] w fun e w' => ∃ pv' rv', e = .returned (.tuple #[.agg ((modelsR M x ks).1.vals pv' rv'), .agg (modelsR M x ks).2.1.cs, .int .i64 (modelsR M x ks).2.2]) ∧ Ref w' pv' rv' (modelsR M x ks).1 ∧ Below w.heap.size w w' ∧ NewP w pv pv' := by
  have hkind := fun W => kind_any x W
  obtain ⟨pa, pc, rfl⟩ := own_slice h.p
  obtain ⟨rb, rc, rfl⟩ := own_slice h.r
  obtain ⟨W1, hW1⟩ : ∃ W1, ((((w.alloc (.cells (M.vals (.slice pa M.plate.length pc) (.slice rb M.rows.length rc)) 32)).alloc (.cells x.cs 36)).alloc (.cells #[.slice none 0 0, .slice none 0 0, .int .i64 0, .int .i64 0, .bool false, .int .i64 0] 32)).alloc (.cells Bk.zero.cs 38)).alloc (.cells Bk.zero.cs 38) = W1 := ⟨_, rfl⟩
  have hb1 : Below w.heap.size w W1 := by rw [← hW1]; exact (((((Below.refl _ _).alloc (Nat.le_refl _) _).alloc (by simp) _).alloc (by simp; omega) _).alloc (by simp; omega) _).alloc (by simp; omega) _
  have bm : Blk W1 w.heap.size 32 (M.vals (.slice pa M.plate.length pc) (.slice rb M.rows.length rc)) := by rw [← hW1]; exact ((((Blk.new w _ _).alloc _).alloc _).alloc _).alloc _
  have bx : Blk W1 (w.heap.size + 1) 36 x.cs := by rw [← hW1]; exact (((Blk.new2 _ _ _ _).alloc _).alloc _).alloc _
  have bz : Blk W1 (w.heap.size + 1 + 1) 32 #[.slice none 0 0, .slice none 0 0, .int .i64 0, .int .i64 0, .bool false, .int .i64 0] := by rw [← hW1]; exact ((Blk.new3 _ _ _ _ _).alloc _).alloc _
  have by5 : Blk W1 (w.heap.size + 1 + 1 + 1) 38 Bk.zero.cs := by rw [← hW1]; exact (Blk.new4 _ _ _ _ _ _).alloc _
  have bv : Blk W1 (w.heap.size + 1 + 1 + 1 + 1) 38 Bk.zero.cs := by rw [← hW1]; exact Blk.new5 _ _ _ _ _ _ _
  have g5 : x.k = 5 → modelsR M x ks = readR M x.sector := fun h => by simp [modelsR, h]
  have g6 : x.k = 6 → modelsR M x ks = ((syncR M).1, Bk.zero, (syncR M).2) := fun h => by simp [modelsR, h]
  have g9 : x.k = 9 → modelsR M x ks = (crashR M (ks.take 30), Bk.zero, 0) := fun h => by simp [modelsR, h]
  have g0 : x.k ≠ 5 → x.k ≠ 6 → x.k ≠ 9 → x.k < 5 → modelsR M x ks = ((writeR M x.sector (Bk.fill x.fill)).1, Bk.zero, (writeR M x.sector (Bk.fill x.fill)).2) := fun h5 h6 h9 h0 => by simp [modelsR, h5, h6, h9, h0]
  have gd : x.k ≠ 5 → x.k ≠ 6 → x.k ≠ 9 → ¬ x.k < 5 → M.dead = true → modelsR M x ks = (M, Bk.zero, 9) := fun h5 h6 h9 h0 hd => by unfold modelsR; rw [if_neg h5, if_neg h6, if_neg h9, if_neg h0, if_pos hd]
  have g7 : x.k ≠ 5 → x.k ≠ 6 → x.k ≠ 9 → ¬ x.k < 5 → ¬ M.dead = true → x.k = 7 → modelsR M x ks = ({ M with fuse := max x.num (-1) }, Bk.zero, 0) := fun h5 h6 h9 h0 hd h7 => by unfold modelsR; rw [if_neg h5, if_neg h6, if_neg h9, if_neg h0, if_neg hd, if_pos h7]
  have g8 : x.k ≠ 5 → x.k ≠ 6 → x.k ≠ 9 → ¬ x.k < 5 → ¬ M.dead = true → x.k ≠ 7 → modelsR M x ks = ({ M with flaw := max x.num (-1) }, Bk.zero, 0) := fun h5 h6 h9 h0 hd h7 => by unfold modelsR; rw [if_neg h5, if_neg h6, if_neg h9, if_neg h0, if_neg hd, if_neg h7]
  generalize modelsR M x ks = MR at *
  have hnp : ∀ k, (Value.slice pa M.plate.length pc).ownBlock = some k → ((Value.slice pa M.plate.length pc).ownBlock = some k ∧ k < w.heap.size) ∨ w.heap.size + 1 + 1 + 1 + 1 < k := fun k hk => .inl ⟨hk, (h.p.lt k hk).2⟩
  have HM := Lib.hid (show Mid w W1 (.slice pa M.plate.length pc) (.slice pa M.plate.length pc) (.slice rb M.rows.length rc) M Bk.zero from ⟨hb1, bm, bz, by5, bv, h.below hb1, hnp⟩)
  obtain ⟨k, s, n, f, a, len, cap⟩ := x
  simp only [Deed.cs] at *
  have hk1 := hkind W1
  have x0 := bx.cell 0
  have x1 := bx.cell 1
  have x2 := bx.cell 2
  have x3 := bx.cell 3
  have x4 := bx.cell 4
  simp only [List.getElem?_toArray, List.getElem?_cons_zero, List.getElem?_cons_succ] at x0 x1 x2 x3 x4
  have H0 := Lib.hid (And.intro h (And.intro hT (And.intro hl (And.intro hc hm))))
  have H1 := Lib.hid (And.intro hb1 bx)
  have HRS := Lib.hid hrs
  clear hkind h hT hl hc hm hb1 bm bx bz by5 bv hrs hnp
  go_enter Try.func11, Try.ntmps11
  go_wp2_with (with_reducible refine wpList_alloc_z rfl 38 rfl Bk.zero.cs 64 z_blk ?_)
  refine hk1.mono ?_
  rintro e W2 ⟨rfl, hb2⟩
  clear hW1 x0 x1 x2 x3 x4
  have hM2 := HM.out.later hb2
  have bx2 := H1.out.2.kept (Kept.of_below [] hb2) (by simp)
  have hb := H1.out.1.trans (hb2.mono H1.out.1.size)
  generalize hm : Deed.k ⟨k, s, n, f, a, len, cap⟩ = m at *
  have G5 := Lib.hid g5
  have G6 := Lib.hid g6
  have G9 := Lib.hid g9
  have G0 := Lib.hid g0
  have GD := Lib.hid gd
  have G7 := Lib.hid g7
  have G8 := Lib.hid g8
  have x1 := bx2.cell 1
  have x2 := bx2.cell 2
  have x3 := bx2.cell 3
  have x0 := bx2.cell 0
  have x4 := bx2.cell 4
  simp only [List.getElem?_toArray, List.getElem?_cons_zero, List.getElem?_cons_succ] at x0 x1 x2 x3 x4
  have L0 := lref hM2.bm (vals_size _ _ _)
  have L0d := lref hM2.bm.drew (vals_size _ _ _)
  have m2 : W2.cell? ⟨w.heap.size, 2, none⟩ = some (.int .i64 M.fuse) := hM2.bm.cell 2
  have m3 : W2.cell? ⟨w.heap.size, 3, none⟩ = some (.int .i64 M.flaw) := hM2.bm.cell 3
  have m4 : W2.cell? ⟨w.heap.size, 4, none⟩ = some (.bool M.dead) := hM2.bm.cell 4
  have f2 := hM2.bm.free 2
  have f3 := hM2.bm.free 3
  obtain ⟨nk, hnk⟩ : ∃ nk, (ks.take 30).length = nk := ⟨_, rfl⟩
  have HNK := Lib.hid hnk
  have HM2 := Lib.hid (And.intro hM2 (And.intro bx2 hb))
  clear g5 g6 g9 g0 gd g7 g8 hm HM H1 hb2 hM2 bx2 hk1 hb hnk
  go_upto_block 0 with (fail)
  go_cut [8] from 10 (fun e8 wc => ∃ pv' rv', e8 = .int .i64 MR.2.2 ∧ Mid w wc (.slice pa M.plate.length pc) pv' rv' MR.1 MR.2.1)
  case first =>
    go_wp2_with fail
    · skip
      have em : m = 5 := by
        have h9 : ((m : Int) == 5) = true := by assumption
        have h8 : (m : Int) = 5 := by simpa using h9
        omega
      have hr := G5.out em
      have hrd := read_ref HM2.out.1.rf s hp8 hr8 hf hfl hfl2
      rw [← hr] at hrd
      refine hrd.mono ?_
      rintro e W3 ⟨rfl, hR3, hb3⟩
      have h1 := HM2.out.1.put hb3 hR3 (NewP.refl _ _)
      have h2 := h1.2.putB MR.2.1
      have S1 := h1.1
      have S2 := h2.1
      have HE := Lib.hid h2.2
      clear hrd hR3 hb3 h1 h2 hr em
      go_wp2_with fail
      go_meet
      exact ⟨_, _, rfl, HE.out⟩
    · skip
      have em : m = 6 := by
        have h9 : ((m : Int) == 6) = true := by assumption
        have h8 : (m : Int) = 6 := by simpa using h9
        omega
      have hr := G6.out em
      have HR := Lib.hid hr
      refine (sync_ref HM2.out.1.rf hp0 hp8 hr8 HRS.out hf hfl hfl2).mono ?_
      rintro e W3 ⟨pv3, rv3, rfl, hR3, hb3, hn3⟩
      have h1 := HM2.out.1.put hb3 hR3 hn3
      have S1 := h1.1
      have HE := Lib.hid h1.2
      clear hR3 hb3 h1 hr em hn3
      go_wp2_with fail
      go_meet
      exact ⟨_, _, by rw [HR.out], by rw [HR.out]; exact HE.out⟩
    · skip
      have em : m = 9 := by
        have h9 : ((m : Int) == 9) = true := by assumption
        have h8 : (m : Int) = 9 := by simpa using h9
        omega
      have hr := G9.out em
      have HR := Lib.hid hr
      clear hr em
      go_region_with (first | (go_at_call 27; refine (keep_any ⟨k, s, n, f, a, len, cap⟩ ks W2.drew (H0.out.2.1.below HM2.out.2.2.drew) H0.out.2.2.1 H0.out.2.2.2.1 H0.out.2.2.2.2).mono ?_; rintro e W3 ⟨v, rfl, hown3, hb3⟩; obtain ⟨va, vc, rfl, hbl3⟩ := bools_own HNK.out hown3; have hM3 := HM2.out.1.later (show Below W2.heap.size W2 W3 from ⟨hb3.os, hb3.tape, hb3.output, hb3.size, hb3.block⟩); have L3 := lref hM3.bm (vals_size _ _ _)) | (go_at_call 31; have hcr := crash_ref hM3.rf (ks.take 30) va vc hbl3 (by rw [HNK.out]; have := HNK.out; rw [List.length_take] at this; omega) hp0 hp8 hr8 HRS.out; rw [HNK.out] at hcr; refine hcr.mono ?_; rintro e W4 ⟨pv4, rfl, hR4, hb4, hn4⟩; have h4 := hM3.put hb4 hR4 hn4; have S4 := h4.1; have HE := Lib.hid h4.2; clear hR4 hb4 hn4 h4))
      all_goals
        go_wp2_with fail
        go_meet
        exact ⟨_, _, by rw [HR.out], by rw [HR.out]; exact HE.out⟩
    · skip
      have e5 : m ≠ 5 := by
        have h9 : ((m : Int) == 5) = false := by assumption
        intro h8; subst h8; simp at h9
      have e6 : m ≠ 6 := by
        have h9 : ((m : Int) == 6) = false := by assumption
        intro h8; subst h8; simp at h9
      have e9 : m ≠ 9 := by
        have h9 : ((m : Int) == 9) = false := by assumption
        intro h8; subst h8; simp at h9
      have el : m < 5 := by
        have h9 : (m : Int) < 5 := by assumption
        omega
      have hr := G0.out e5 e6 e9 el
      have HR := Lib.hid hr
      clear hr e5 e6 e9 el
      go_region_with (first | (go_at_call 28; (with_reducible refine (block_any f _).mono ?_); rintro e W3 ⟨rfl, hb3⟩; have hM3 := HM2.out.1.later (show Below W2.heap.size W2 W3 from ⟨hb3.os, hb3.tape, hb3.output, hb3.size, hb3.block⟩); have L3 := lref hM3.bm (vals_size _ _ _); have bx3 := HM2.out.2.1.kept (Kept.of_below [] (show Below W2.heap.size W2 W3 from ⟨hb3.os, hb3.tape, hb3.output, hb3.size, hb3.block⟩)) (by simp); have y1 : W3.cell? ⟨w.heap.size + 1, 1, none⟩ = some (.int .i64 s) := bx3.cell 1; have y3 : W3.cell? ⟨w.heap.size + 1, 3, none⟩ = some (.int .u8 (f : Int)) := bx3.cell 3) | (go_at_call 32; refine (write_ref hM3.rf s (Bk.fill f) hf hfl hfl2 hp8 hr8 HRS.out).mono ?_; rintro e W4 ⟨pv4, rv4, rfl, hR4, hb4, hn4⟩; have h4 := hM3.put hb4 hR4 hn4; have S4 := h4.1; have HE := Lib.hid h4.2; clear hR4 hb4 hn4 h4))
      all_goals
        go_wp2_with fail
        go_meet
        exact ⟨_, _, by rw [HR.out], by rw [HR.out]; exact HE.out⟩
    · skip
      have e5 : m ≠ 5 := by
        have h9 : ((m : Int) == 5) = false := by assumption
        intro h8; subst h8; simp at h9
      have e6 : m ≠ 6 := by
        have h9 : ((m : Int) == 6) = false := by assumption
        intro h8; subst h8; simp at h9
      have e9 : m ≠ 9 := by
        have h9 : ((m : Int) == 9) = false := by assumption
        intro h8; subst h8; simp at h9
      have el : ¬ m < 5 := by
        have h9 : 5 ≤ (m : Int) := by assumption
        omega
      have hd : M.dead = true := by assumption
      have hr := GD.out e5 e6 e9 el hd
      go_meet
      exact ⟨_, _, by rw [hr], by rw [hr]; exact HM2.out.1⟩
    · skip
      have e5 : m ≠ 5 := by
        have h9 : ((m : Int) == 5) = false := by assumption
        intro h8; subst h8; simp at h9
      have e6 : m ≠ 6 := by
        have h9 : ((m : Int) == 6) = false := by assumption
        intro h8; subst h8; simp at h9
      have e9 : m ≠ 9 := by
        have h9 : ((m : Int) == 9) = false := by assumption
        intro h8; subst h8; simp at h9
      have el : ¬ m < 5 := by
        have h9 : 5 ≤ (m : Int) := by assumption
        omega
      have hd : ¬ M.dead = true := by
        have h9 : M.dead = false := by assumption
        rw [h9]; simp
      have em : m = 7 := by
        have h9 : ((m : Int) == 7) = true := by assumption
        have h8 : (m : Int) = 7 := by simpa using h9
        omega
      have hr := G7.out e5 e6 e9 el hd em
      have hx : max n (-1) = (-1) := by omega
      rw [hx] at hr
      go_meet
      exact ⟨_, _, by rw [hr], by rw [hr]; exact HM2.out.1.fuse _⟩
    · skip
      have e5 : m ≠ 5 := by
        have h9 : ((m : Int) == 5) = false := by assumption
        intro h8; subst h8; simp at h9
      have e6 : m ≠ 6 := by
        have h9 : ((m : Int) == 6) = false := by assumption
        intro h8; subst h8; simp at h9
      have e9 : m ≠ 9 := by
        have h9 : ((m : Int) == 9) = false := by assumption
        intro h8; subst h8; simp at h9
      have el : ¬ m < 5 := by
        have h9 : 5 ≤ (m : Int) := by assumption
        omega
      have hd : ¬ M.dead = true := by
        have h9 : M.dead = false := by assumption
        rw [h9]; simp
      have em : m = 7 := by
        have h9 : ((m : Int) == 7) = true := by assumption
        have h8 : (m : Int) = 7 := by simpa using h9
        omega
      have hr := G7.out e5 e6 e9 el hd em
      have hx : max n (-1) = (n) := by omega
      rw [hx] at hr
      go_meet
      exact ⟨_, _, by rw [hr], by rw [hr]; exact HM2.out.1.fuse _⟩
    · skip
      have e5 : m ≠ 5 := by
        have h9 : ((m : Int) == 5) = false := by assumption
        intro h8; subst h8; simp at h9
      have e6 : m ≠ 6 := by
        have h9 : ((m : Int) == 6) = false := by assumption
        intro h8; subst h8; simp at h9
      have e9 : m ≠ 9 := by
        have h9 : ((m : Int) == 9) = false := by assumption
        intro h8; subst h8; simp at h9
      have el : ¬ m < 5 := by
        have h9 : 5 ≤ (m : Int) := by assumption
        omega
      have hd : ¬ M.dead = true := by
        have h9 : M.dead = false := by assumption
        rw [h9]; simp
      have e7 : m ≠ 7 := by
        have h9 : ((m : Int) == 7) = false := by assumption
        intro h8; subst h8; simp at h9
      have hr := G8.out e5 e6 e9 el hd e7
      have hx : max n (-1) = (-1) := by omega
      rw [hx] at hr
      go_meet
      exact ⟨_, _, by rw [hr], by rw [hr]; exact HM2.out.1.flaw _⟩
    · skip
      have e5 : m ≠ 5 := by
        have h9 : ((m : Int) == 5) = false := by assumption
        intro h8; subst h8; simp at h9
      have e6 : m ≠ 6 := by
        have h9 : ((m : Int) == 6) = false := by assumption
        intro h8; subst h8; simp at h9
      have e9 : m ≠ 9 := by
        have h9 : ((m : Int) == 9) = false := by assumption
        intro h8; subst h8; simp at h9
      have el : ¬ m < 5 := by
        have h9 : 5 ≤ (m : Int) := by assumption
        omega
      have hd : ¬ M.dead = true := by
        have h9 : M.dead = false := by assumption
        rw [h9]; simp
      have e7 : m ≠ 7 := by
        have h9 : ((m : Int) == 7) = false := by assumption
        intro h8; subst h8; simp at h9
      have hr := G8.out e5 e6 e9 el hd e7
      have hx : max n (-1) = (n) := by omega
      rw [hx] at hr
      go_meet
      exact ⟨_, _, by rw [hr], by rw [hr]; exact HM2.out.1.flaw _⟩
  case rest =>
    obtain ⟨pv', rv', rfl, hM⟩ := hcut
    go_wp2_with fail
    have bz0 := hM.bz.drew
    have b50 := hM.b5.drew
    have bm0 := hM.bm.drew
    have bv0 := hM.bv.drew
    have LM := lref bm0 (vals_size _ _ _)
    have LB := lblk bv0
    have SA := sref bz0 rfl (vals_size MR.1 pv' rv') (ref_one hM.rf)
    have SB := sblk b50 MR.2.1
    have ka : Kept [w.heap.size + 1 + 1] wc (wc.drew.setRow (w.heap.size + 1 + 1) (MR.1.vals pv' rv')) := ((Kept.refl [w.heap.size + 1 + 1] wc).drew).setRow (.inl (by simp)) _
    have kb : Kept [w.heap.size + 1 + 1 + 1] wc (wc.drew.setRow (w.heap.size + 1 + 1 + 1) MR.2.1.cs) := ((Kept.refl [w.heap.size + 1 + 1 + 1] wc).drew).setRow (.inl (by simp)) _
    have SB2 := sblk (hM.b5.kept ka (by simp)) MR.2.1
    have SA2 := sref (hM.bz.kept kb (by simp)) rfl (vals_size MR.1 pv' rv') (ref_one hM.rf)
    have LB2 := lblk (hM.bv.kept ka (by simp; omega))
    have LM2 := lref (hM.bm.kept kb (by simp; omega)) (vals_size _ _ _)
    have HMM := Lib.hid hM
    have HK := Lib.hid (And.intro ka kb)
    clear hM ka kb bz0 b50 bm0 bv0
    go_region
    have hM := HMM.out
    have b4 := (hM.bz.drew.row (MR.1.vals pv' rv'))
    have b5 : Blk (wc.drew.setRow (w.heap.size + 1 + 1) (MR.1.vals pv' rv')) (w.heap.size + 1 + 1 + 1) 38 Bk.zero.cs := hM.b5.kept HK.out.1 (by simp)
    have k5 : Kept [w.heap.size + 1 + 1 + 1] (wc.drew.setRow (w.heap.size + 1 + 1) (MR.1.vals pv' rv')) ((wc.drew.setRow (w.heap.size + 1 + 1) (MR.1.vals pv' rv')).setRow (w.heap.size + 1 + 1 + 1) MR.2.1.cs) := (Kept.refl _ _).setRow (.inl (by simp)) _
    have b45 := b4.kept k5 (by simp)
    have b55 := b5.row MR.2.1.cs
    have hp4 := own_kept0 hM.rf.p HK.out.1 (own_apart hM.rf.p hM.bz (by decide))
    have hr4 := own_kept0 hM.rf.r HK.out.1 (own_apart hM.rf.r hM.bz (by decide))
    have hp5 := own_kept0 hp4 k5 (fun k h1 h2 => by
      have h3 : k = w.heap.size + 1 + 1 + 1 := by simpa using h2
      rcases hM.np k h1 with ⟨_, h9⟩ | h9 <;> omega)
    have hr5 := own_kept0 hr4 k5 (own_apart hr4 b5 (by decide))
    have hbe : Below w.heap.size w ((wc.drew.setRow (w.heap.size + 1 + 1) (MR.1.vals pv' rv')).setRow (w.heap.size + 1 + 1 + 1) MR.2.1.cs) := below_setRow (below_setRow hM.hb.drew (by omega) _) (by omega) _
    have hnw : NewP w (.slice pa M.plate.length pc) pv' := fun k hk => (hM.np k hk).imp (fun h9 => h9.1) (fun h9 => by omega)
    have HE := Lib.hid (And.intro b45 (And.intro b55 (And.intro hp5 (And.intro hr5 (And.intro hbe hnw)))))
    clear hM b4 b5 k5 b45 b55 hp4 hr4 hp5 hr5 hbe hnw LM LB SA SB SB2 SA2 LB2 LM2 HMM HK
    go_wp2
    refine bodyPost_ret (results_two rfl _ _ (w.heap.size + 1 + 1) (w.heap.size + 1 + 1 + 1) _ _ _ _ rfl rfl HE.out.1 HE.out.2.1 Try.underlying32 rfl (by rw [vals_size]; exact size_ref) Try.underlying38 rfl (s_blk _)) rfl ?_
    exact ⟨pv', rv', rfl, ⟨HE.out.2.2.1, HE.out.2.2.2.1⟩, HE.out.2.2.2.2.1, HE.out.2.2.2.2.2⟩
end Go.Proofs.Ytaikgngigaohmaa
