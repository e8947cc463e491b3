/-
  The document's arena: what a store in a block, or in the row of blocks, makes of it. Nothing here is a statement of the document.
-/
import Derived.Test.YtoidklkloagioaaRfI
namespace Go.Proofs.Ytoidklkloagioaa
open Go.RowKit Go.Shelf
set_option linter.unusedVariables false
attribute [local go_sem ↓] load_ra_rule store_ra_rule load_rb_rule store_rb_rule
section
variable {w W W' : World} {g z lo : Nat} {bv : Value} {ls : Nat → Value} {vs : List Value} {M : Mo}
/-- What a block's cells tell in the box's world. -/
theorem Bx.blk (F : Bx w W g lo bv ls vs M) {k : Nat} {b : Rb} (hb : M.R[k]? = some b) : ∃ gb c gw cw, bv = .slice (some ⟨gb, 0, none⟩) M.R.length c ∧ vs[k]? = some (.slice (some ⟨gw, 0, none⟩) (2 ^ b.c) cw) ∧
    W.cell? ⟨g, 1, none⟩ = some (.slice (some ⟨gb, 0, none⟩) M.R.length c) ∧ W.cell? ⟨gb, k * 4, none⟩ = some (.int .i64 (b.x : Int)) ∧ W.cell? ⟨gb, k * 4 + 1, none⟩ = some (.int .i64 (b.c : Int)) ∧ W.cell? ⟨gb, k * 4 + 2, none⟩ = some (.bool b.t) ∧ W.cell? ⟨gb, k * 4 + 3, none⟩ = some (.slice (some ⟨gw, 0, none⟩) (2 ^ b.c) cw) ∧
    (∀ j u, (wvl b.ws)[j]? = some u → W.cell? ⟨gw, j, none⟩ = some u) ∧ k < M.R.length := by
  have hk := (List.getElem?_eq_some_iff.1 hb).1
  obtain ⟨v, hv⟩ := F.rf.v_get hb
  obtain ⟨gb, c, hbv, _⟩ := owns_cell F.rf.row (by omega)
  have hok := F.rf.ok b (List.mem_of_getElem? hb)
  obtain ⟨gw, cw, hvw, _, _, hcl⟩ := owns_cell (F.rf.wds k b v hb hv) (by have := (pow5 hok.1).1; omega)
  have c1 := F.c1
  have hrow := F.rf.row
  rw [hbv] at c1 hrow
  have hc := (lrow hrow hb hv hk).1
  subst hvw
  exact ⟨gb, c, gw, cw, hbv, hv, c1, hc 0 (by omega), hc 1 (by omega), hc 2 (by omega), hc 3 (by omega), hcl, hk⟩
theorem wvl_get {l : List Nat} {j : Nat} (hj : j < l.length) : (wvl l)[j]? = some (.int .u32 ((l.getD j 0 : Nat) : Int)) := by
  simp [wvl, hj]
set_option maxRecDepth 100000 in
set_option maxHeartbeats 1000000 in
theorem rload_no (h : Rfa w lo bv ls vs M) (x i : Int) (hx : ∀ b ∈ M.R, b.t = true → (b.x : Int) ≠ x) : Calls Try.prog 24 #[.agg (M.vals bv ls), .int .i64 x, .int .i64 i] w fun e w' => e = .returned (.tuple #[.int .u32 0, .int .i64 4]) ∧ Below w.heap.size w w' := by
  have hB := bx_new h
  obtain ⟨W, hW⟩ : ∃ W, w.alloc (.cells (M.vals bv ls) 36) = W := ⟨_, rfl⟩
  rw [hW] at hB
  have hta := rtk_no hB.rf hx
  have hl := hB.ld
  have HB := Lib.hid hB
  clear hB h
  generalize M.vals bv ls = V at *
  go_enter Try.func24, Try.ntmps24
  go_wp2_with fail
  refine hta.mono ?_
  rintro e W2 ⟨rfl, hb2⟩
  have HX := Lib.hid (bel_later HB.out.hb hb2)
  clear hta hb2 hl hW
  go_wp2_with fail
  go_ret2
  exact ⟨rfl, HX.out⟩
set_option maxRecDepth 100000 in
set_option maxHeartbeats 1000000 in
theorem rload_out (h : Rfa w lo bv ls vs M) {k : Nat} {b : Rb} (hb : M.R[k]? = some b) (ht : b.t = true) (i : Int) (hi : i < 0 ∨ ((2 ^ b.c : Nat) : Int) ≤ i) : Calls Try.prog 24 #[.agg (M.vals bv ls), .int .i64 (b.x : Int), .int .i64 i] w fun e w' => e = .returned (.tuple #[.int .u32 0, .int .i64 2]) ∧ Below w.heap.size w w' := by
  have hB := bx_new h
  obtain ⟨W, hW⟩ : ∃ W, w.alloc (.cells (M.vals bv ls) 36) = W := ⟨_, rfl⟩
  rw [hW] at hB
  have hta := rtk_yes hB.rf hb ht
  have hl := hB.ld
  have hfew := h.few
  have HB := Lib.hid (And.intro hB hb)
  clear hB h hb
  generalize M.vals bv ls = V at *
  go_enter Try.func24, Try.ntmps24
  go_wp2_with fail
  refine hta.mono ?_
  rintro e W2 ⟨rfl, hb2⟩
  have F2 := HB.out.1.later hb2
  obtain ⟨gb, c, gw, cw, _, _, c1, _, _, _, c3, _, hk⟩ := F2.blk HB.out.2
  have HX := Lib.hid F2.hb
  clear hta hb2 hl hW F2
  generalize M.R.length = n at *
  generalize hzz : 2 ^ b.c = zz at *
  have hk0 : ¬ ((k : Int) < 0) := by omega
  have hki : (k : Int) < (n : Int) := by omega
  by_cases hi0 : i < 0
  · go_wp2_with fail
    go_ret2
    exact ⟨rfl, HX.out⟩
  · have hi1 : (zz : Int) ≤ i := by omega
    clear hi
    go_wp2_with fail
    go_ret2
    exact ⟨rfl, HX.out⟩
set_option maxRecDepth 100000 in
set_option maxHeartbeats 1000000 in
theorem rload_yes (h : Rfa w lo bv ls vs M) {k : Nat} {b : Rb} (hb : M.R[k]? = some b) (ht : b.t = true) (i : Nat) (hi : i < 2 ^ b.c) : Calls Try.prog 24 #[.agg (M.vals bv ls), .int .i64 (b.x : Int), .int .i64 (i : Int)] w fun e w' => e = .returned (.tuple #[.int .u32 ((b.ws.getD i 0 : Nat) : Int), .int .i64 0]) ∧ Below w.heap.size w w' := by
  have hB := bx_new h
  obtain ⟨W, hW⟩ : ∃ W, w.alloc (.cells (M.vals bv ls) 36) = W := ⟨_, rfl⟩
  rw [hW] at hB
  have hta := rtk_yes hB.rf hb ht
  have hl := hB.ld
  have hfew := h.few
  have hok := h.ok b (List.mem_of_getElem? hb)
  have hg : (wvl b.ws)[i]? = some (.int .u32 ((b.ws.getD i 0 : Nat) : Int)) := wvl_get (by omega)
  have HB := Lib.hid (And.intro hB hb)
  clear hB h hb
  generalize M.vals bv ls = V at *
  generalize b.ws.getD i 0 = y at *
  go_enter Try.func24, Try.ntmps24
  go_wp2_with fail
  refine hta.mono ?_
  rintro e W2 ⟨rfl, hb2⟩
  have F2 := HB.out.1.later hb2
  obtain ⟨gb, c, gw, cw, _, _, c1, _, _, _, c3, hcl, hk⟩ := F2.blk HB.out.2
  have ci := hcl i _ hg
  have HX := Lib.hid F2.hb
  have hp := (pow5 hok.1).2
  clear hta hb2 hl hW F2 hcl hg hok
  generalize M.R.length = n at *
  generalize hzz : 2 ^ b.c = zz at *
  have hk0 : ¬ ((k : Int) < 0) := by omega
  have hki : (k : Int) < (n : Int) := by omega
  have hi0 : ¬ ((i : Int) < 0) := by omega
  have hi1 : (i : Int) < (zz : Int) := by omega
  go_wp2_with fail
  go_ret2
  exact ⟨rfl, HX.out⟩
end
end Go.Proofs.Ytoidklkloagioaa
namespace Go.Proofs.Ytoidklkloagioaa
open Go.RowKit Go.Shelf
set_option linter.unusedVariables false
theorem own_has {w : World} {B : Nat} {e : TypeId} {z : Nat} {g n c : Nat} {xs : List Value} (h : w.ownsRow B e z (.slice (some ⟨g, 0, none⟩) n c) n xs) : ∃ C, Blk w g e C := by
  rcases h.2 with ⟨h9, _⟩ | ⟨g', cap, cur, h9, _, hg, _⟩
  · cases h9
  · injection h9 with h9 _ _
    injection h9 with h9
    injection h9 with e1 _
    subst e1
    exact ⟨cur, hg⟩
theorem wvl_set (l : List Nat) (i y : Nat) : (wvl l).set i (.int .u32 (y : Int)) = wvl (l.set i y) := by
  simp [wvl, List.map_set]
theorem set_same {α : Type} {l : List α} {i j : Nat} {x y : α} (h : (l.set i x)[j]? = some y) : (i = j ∧ y = x ∧ i < l.length) ∨ (i ≠ j ∧ l[j]? = some y) := by
  rw [List.getElem?_set] at h
  split at h
  · rename_i e
    split at h
    · exact .inl ⟨e, by simpa using h.symm, by assumption⟩
    · cases h
  · exact .inr ⟨by assumption, h⟩
/-- What must hold of the document's arena whatever it lies in. -/
structure Mok (M : Mo) : Prop where
  ok : ∀ b ∈ M.R, b.c ≤ 5 ∧ b.ws.length = 2 ^ b.c ∧ b.x ≤ 20000
  uq : ∀ (i j : Nat) (b b' : Rb), M.R[i]? = some b → M.R[j]? = some b' → b.x = b'.x → i = j
  few : M.R.length ≤ 20000
  fewl : ∀ c, c ≤ 5 → (M.L c).length ≤ 20000
  small : M.N ≤ 16384
section
variable {w W W' : World} {g z lo : Nat} {bv : Value} {ls : Nat → Value} {vs : List Value} {M : Mo}
theorem Rfa.mok (h : Rfa w lo bv ls vs M) : Mok M := ⟨h.ok, h.uq, h.few, h.fewl, h.small⟩
theorem Mok.set (h : Mok M) {k : Nat} {b b' : Rb} (hb : M.R[k]? = some b) (hx : b'.x = b.x) (hc : b'.c = b.c) (hl : b'.ws.length = b.ws.length) : Mok { M with R := M.R.set k b' } := by
  have hok := h.ok b (List.mem_of_getElem? hb)
  have key : ∀ (i : Nat) (c : Rb), (M.R.set k b')[i]? = some c → ∃ d, M.R[i]? = some d ∧ d.x = c.x := fun i c hi => by
    rcases set_same hi with ⟨rfl, rfl, _⟩ | ⟨_, h9⟩
    · exact ⟨b, hb, hx.symm⟩
    · exact ⟨c, h9, rfl⟩
  refine ⟨fun c hc9 => ?_, fun i j c c' hi hj he => ?_, by simpa using h.few, h.fewl, h.small⟩
  · rcases List.mem_or_eq_of_mem_set hc9 with h9 | rfl
    · exact h.ok c h9
    · rw [hx, hc, hl]; exact hok
  · obtain ⟨d, hd, e1⟩ := key i c hi
    obtain ⟨d', hd', e2⟩ := key j c' hj
    exact h.uq i j d d' hd hd' (by omega)
/-- A word of a block. -/
theorem Rfa.store (h : Rfa w lo bv ls vs M) {k gw cw : Nat} {b : Rb} (hb : M.R[k]? = some b) (hv : vs[k]? = some (.slice (some ⟨gw, 0, none⟩) (2 ^ b.c) cw)) (i y : Nat) : Rfa (w.setCell ⟨gw, i, none⟩ (.int .u32 (y : Int))) lo bv ls vs { M with R := M.R.set k { b with ws := b.ws.set i y } } := by
  have hwd := h.wds k b _ hb hv
  obtain ⟨C, hC⟩ := own_has hwd
  have hm := h.mok.set (b' := { b with ws := b.ws.set i y }) hb rfl rfl (by simp)
  have hk : Kept [gw] w (w.setCell ⟨gw, i, none⟩ (.int .u32 (y : Int))) := (Kept.refl _ _).setCell (p := ⟨gw, i, none⟩) (.inl (by simp)) _
  refine ⟨?_, by simpa using h.len, fun j c v hj hvj => ?_, h.apart, hm.ok, hm.uq, fun c hc => (h.lst c hc).far hC (by decide) _ _, hm.few, hm.fewl, hm.small⟩
  · show World.ownsRow _ _ _ _ _ (M.R.set k _).length (rbs (M.R.set k _) vs)
    rw [rbs_setW hb h.len, List.length_set]
    refine ownk h.row hk (fun j hj h9 => ?_)
    obtain rfl : j = gw := by simpa using h9
    exact own_ne_blk h.row hC (by decide) hj.symm
  · rcases set_same hj with ⟨rfl, rfl, _⟩ | ⟨hne, h9⟩
    · rw [hv] at hvj
      cases hvj
      have := (hwd.stored i (.int .u32 (y : Int))).1
      rw [wvl_set] at this
      exact this
    · refine ownk (h.wds j c v h9 hvj) hk (fun q hq h8 => ?_)
      obtain rfl : q = gw := by simpa using h8
      exact h.apart j k v _ hvj hv (Ne.symm hne) (by rw [hq]; rfl)
/-- A block's mark. -/
theorem Rfa.mark (h : Rfa w lo bv ls vs M) {k gb c n : Nat} {b : Rb} (hb : M.R[k]? = some b) (hbv : bv = .slice (some ⟨gb, 0, none⟩) n c) (t : Bool) : Rfa (w.setCell ⟨gb, k * 4 + 2, none⟩ (.bool t)) lo bv ls vs { M with R := M.R.set k { b with t := t } } := by
  have hrow := h.row
  obtain ⟨a9, c9, hv9⟩ := owns_sl h.row
  rw [hbv] at hv9
  injection hv9 with _ hn _
  subst hn
  rw [hbv] at hrow
  obtain ⟨C, hC⟩ := own_has hrow
  have hm := h.mok.set (b' := { b with t := t }) hb rfl rfl rfl
  have hk : Kept [gb] w (w.setCell ⟨gb, k * 4 + 2, none⟩ (.bool t)) := (Kept.refl _ _).setCell (p := ⟨gb, k * 4 + 2, none⟩) (.inl (by simp)) _
  refine ⟨?_, by simpa using h.len, fun j d v hj hvj => ?_, h.apart, hm.ok, hm.uq, fun c hc => (h.lst c hc).far hC (by decide) _ _, hm.few, hm.fewl, hm.small⟩
  · have := (hrow.stored (k * 4 + 2) (.bool t)).1
    rw [rbs_setT h.len hb] at this
    show World.ownsRow _ _ _ _ _ (M.R.set k _).length (rbs (M.R.set k _) vs)
    rw [List.length_set, hbv]
    exact this
  · obtain ⟨d', hd', e1, e2⟩ : ∃ d', M.R[j]? = some d' ∧ d'.c = d.c ∧ d'.ws = d.ws := by
      rcases set_same hj with ⟨rfl, rfl, _⟩ | ⟨hne, h9⟩
      · exact ⟨b, hb, rfl, rfl⟩
      · exact ⟨d, h9, rfl, rfl⟩
    have hw9 := h.wds j d' v hd' hvj
    rw [e1, e2] at hw9
    refine ownk hw9 hk (fun q hq h8 => ?_)
    obtain rfl : q = gb := by simpa using h8
    exact own_ne_blk hw9 hC (by decide) hq.symm
/-- Other words for a block: a row that lies behind. -/
theorem Rfa.fill (h : Rfa w lo bv ls vs M) {k gb c n : Nat} {b : Rb} (hb : M.R[k]? = some b) (hbv : bv = .slice (some ⟨gb, 0, none⟩) n c) {v' : Value} {l : List Nat} (hl : l.length = b.ws.length) (hw : w.ownsRow lo 53 1 v' (2 ^ b.c) (wvl l)) (hfr : ∀ v ∈ vs, v.ownBlock ≠ v'.ownBlock) :
    Rfa (w.setCell ⟨gb, k * 4 + 3, none⟩ v') lo bv ls (vs.set k v') { M with R := M.R.set k { b with ws := l } } := by
  have hrow := h.row
  obtain ⟨a9, c9, hv9⟩ := owns_sl h.row
  rw [hbv] at hv9
  injection hv9 with _ hn _
  subst hn
  rw [hbv] at hrow
  obtain ⟨C, hC⟩ := own_has hrow
  have hm := h.mok.set (b' := { b with ws := l }) hb rfl rfl hl
  have hk : Kept [gb] w (w.setCell ⟨gb, k * 4 + 3, none⟩ v') := (Kept.refl _ _).setCell (p := ⟨gb, k * 4 + 3, none⟩) (.inl (by simp)) _
  refine ⟨?_, by simpa using h.len, fun j d v hj hvj => ?_, fun i j v v'' hi hj hij => ?_, hm.ok, hm.uq, fun c hc => (h.lst c hc).far hC (by decide) _ _, hm.few, hm.fewl, hm.small⟩
  · have := (hrow.stored (k * 4 + 3) v').1
    rw [rbs_setV h.len hb l] at this
    show World.ownsRow _ _ _ _ _ (M.R.set k _).length (rbs (M.R.set k _) (vs.set k v'))
    rw [List.length_set, hbv]
    exact this
  · have far : ∀ {n : Nat} {v : Value} {xs : List Value}, w.ownsRow lo 53 1 v n xs → (w.setCell ⟨gb, k * 4 + 3, none⟩ v').ownsRow lo 53 1 v n xs := fun {n v xs} h9 => ownk h9 hk (fun q hq h8 => by
      obtain rfl : q = gb := by simpa using h8
      exact own_ne_blk h9 hC (by decide) hq.symm)
    rcases set_same hj with ⟨rfl, rfl, _⟩ | ⟨hne, h9⟩
    · rcases set_same hvj with ⟨_, rfl, _⟩ | ⟨hne, _⟩
      · exact far hw
      · exact absurd rfl hne
    · rcases set_same hvj with ⟨e9, _, _⟩ | ⟨_, h8⟩
      · exact absurd e9 hne
      · exact far (h.wds j d v h9 h8)
  · rcases set_same hi with ⟨rfl, rfl, _⟩ | ⟨hne, h9⟩ <;> rcases set_same hj with ⟨e2, rfl, _⟩ | ⟨hne2, h8⟩
    · exact absurd e2 hij
    · exact (hfr v'' (List.mem_of_getElem? h8)).symm
    · exact hfr v (List.mem_of_getElem? h9)
    · exact h.apart i j v v'' h9 h8 hij
end
end Go.Proofs.Ytoidklkloagioaa
