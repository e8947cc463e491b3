/-
  Rows that are told; the small functions of wal. Nothing here is a statement of the document.
-/
import Derived.Test.YtelpihlifdfgoaaWalF
namespace Go.Proofs.Ytelpihlifdfgoaa
open Go.RowKit Go.Shelf
set_option linter.unusedVariables false

def rowVals (rows : List RowW) : Array Value := (rows.map RowW.val).toArray
def errsOf (D : Dk) (rows : List RowW) : Dk × Int := laysM D (rows.map RowW.items)

theorem bne_dec (er : Int) : (er != 0) = decide (er ≠ 0) := by
  by_cases h : er = 0 <;> simp [h]
theorem errs_next {D : Dk} {rows : List RowW} {k : Nat} {x : RowW} (hx : rows[k]? = some x) (h0 : (errsOf D (rows.take k)).2 = 0) : errsOf D (rows.take (k + 1)) = layM (errsOf D (rows.take k)).1 x.items := by
  have e : rows.take (k + 1) = rows.take k ++ [x] := by rw [List.take_add_one, hx]; rfl
  unfold errsOf at *
  rw [e, List.map_append, List.map_singleton, laysM_snoc, if_pos h0]
theorem errs_stop {D D2 : Dk} {rows : List RowW} {k : Nat} {x : RowW} {er : Int} (hx : rows[k]? = some x) (h0 : (errsOf D (rows.take k)).2 = 0) (hl : layM (errsOf D (rows.take k)).1 x.items = (D2, er)) (he : er ≠ 0) : errsOf D rows = (D2, er) := by
  have h1 := errs_next hx h0
  rw [hl] at h1
  have e : rows = rows.take (k + 1) ++ rows.drop (k + 1) := (List.take_append_drop _ _).symm
  unfold errsOf at *
  rw [e, List.map_append, laysM_stop _ _ _ (by rw [h1]; exact he), h1]
theorem lay_stop (x : RowW) (D : Dk) (k : Nat) (hk : k < x.N) (er : Int) (h : (putsM D ((List.range (k + 1)).map x.it)).2 = er) (he : er ≠ 0) : layM D x.items = ((putsM D ((List.range (k + 1)).map x.it)).1, er) := by
  have e : x.items = (List.range (k + 1)).map x.it ++ (x.items.drop (k + 1)) := by
    have h1 := (List.take_append_drop (k + 1) x.items).symm
    have h2 : x.items.take (k + 1) = (List.range (k + 1)).map x.it := by
      unfold RowW.items
      rw [← List.map_take, List.take_range, Nat.min_eq_left (by omega)]
    rw [h2] at h1
    exact h1
  have hp := putsM_stop D ((List.range (k + 1)).map x.it) (x.items.drop (k + 1)) (by rw [h]; exact he)
  rw [← e] at hp
  unfold layM
  rw [hp, if_neg (by rw [h]; exact he), ← h]

theorem Dsk.not_obj {w : World} {B p pb d : Nat} {bv : Value} {D : Dk} {o : Obj} (h : Dsk w B p pb bv D) (hd : w.heap[d]? = some o) (hc : o.isCells = false) : d ∉ fp p pb bv := by
  intro hm
  simp only [fp, List.mem_cons, Option.mem_toList] at hm
  rcases hm with rfl | rfl | hm
  · rw [show w.heap[d]? = _ from h.cells] at hd; cases hd; cases hc
  · rw [show w.heap[d]? = _ from h.plate] at hd; cases hd; cases hc
  · rcases h.buf.2 with ⟨rfl, _⟩ | ⟨g, cap, cur, rfl, _, hg, _⟩
    · simp [Value.ownBlock] at hm
    · obtain rfl : g = d := by simpa [Value.ownBlock] using hm
      rw [hg] at hd; cases hd; cases hc

/-- What holds where write has ended, its marks taken. -/
theorem wend {w X : World} {B p pb g : Nat} {bv bv2 : Value} {D D' : Dk} {wc : Array Value} {er : Int} {ds : List Nat} (h : Dsk w B p pb bv D) (hg : g < w.heap.size) (hD : Dsk X B p pb bv2 D') (hG : Goes w X p pb bv bv2) (hW : Blk X g 67 wc)
    (hM : ∀ d ∈ ds, X.heap[d]? = some (.deferred (some []))) (hge : ∀ d ∈ ds, w.heap.size ≤ d) (b : Bool) (hb : b = decide (er ≠ 0)) :
    (∀ d ∈ ds, (X.setCell ⟨g, 10, none⟩ (.bool b)).heap[d]? = some (.deferred (some []))) ∧
    ∀ w', w'.heap.size = (X.setCell ⟨g, 10, none⟩ (.bool b)).heap.size → w'.os = (X.setCell ⟨g, 10, none⟩ (.bool b)).os → w'.tape = (X.setCell ⟨g, 10, none⟩ (.bool b)).tape → w'.output = (X.setCell ⟨g, 10, none⟩ (.bool b)).output → (∀ k, k ∉ ds → w'.heap[k]? = (X.setCell ⟨g, 10, none⟩ (.bool b)).heap[k]?) →
      ∃ bv', Dsk w' B p pb bv' D' ∧ Blk w' g 67 (wc.setIfInBounds 10 (.bool (decide (er ≠ 0)))) ∧ Kept (g :: fp p pb bv) w w' ∧ (∀ k, bv'.ownBlock = some k → bv.ownBlock = some k ∨ w.heap.size ≤ k) := by
  have hgfp := hD.sep hW (by decide) (by decide) (by decide)
  have hk : Kept [g] X (X.setCell ⟨g, 10, none⟩ (.bool b)) := (Kept.refl _ _).setCell (.inl (by simp)) _
  have hM1 : ∀ d ∈ ds, (X.setCell ⟨g, 10, none⟩ (.bool b)).heap[d]? = some (.deferred (some [])) := fun d hd => hk.blk (hM d hd) (by simp; rintro rfl; have := hge _ hd; omega)
  refine ⟨hM1, fun w' h1 h2 h3 h4 h5 => ⟨bv2, ?_, ?_, ?_, hG.new⟩⟩
  · have hD1 : Dsk (X.setCell ⟨g, 10, none⟩ (.bool b)) B p pb bv2 D' := hD.apart hk (fun i hi => (List.mem_singleton.1 hi) ▸ hgfp)
    have hk2 : Kept ds (X.setCell ⟨g, 10, none⟩ (.bool b)) w' := ⟨h2, h3, h4, by omega, fun k _ hn => h5 k hn⟩
    exact hD1.apart hk2 (fun i hi => hD1.not_obj (hM1 i hi) rfl)
  · rw [← hb]
    exact (h5 g (fun hm => by have := hge _ hm; omega)).trans (hW.set 10 _)
  · have h9 : Kept (g :: fp p pb bv) w (X.setCell ⟨g, 10, none⟩ (.bool b)) := (hG.kept.more (T := g :: fp p pb bv) (fun i hi => by simp [hi])).setCell (.inl (by simp)) _
    exact h9.trans2 (T := ds) ⟨h2, h3, h4, by omega, fun k _ hn => h5 k hn⟩ (fun i hi => .inr (hge i hi))

attribute [local go_sem] Oper.semAt_some
attribute [local go_sem ↓] load_blk_rule store_blk_rule

set_option maxRecDepth 100000 in
set_option maxHeartbeats 2000000 in
theorem wwrite_any {w : World} {B p pb g r : Nat} {bv : Value} {D : Dk} {wc : Array Value} (h : Dsk w B p pb bv D) (hB : B ≤ w.heap.size) (hw : Blk w g 67 wc) (hws : wc.size = 11) (hwp : wc[4]? = some (.pointer (some ⟨p, 0, none⟩)))
    (rows : List RowW) (C : List Nat) (hCp : p ∉ C) (hCb : pb ∉ C) (hT : ∀ x ∈ rows, Told C x w) (hr : Blk w r 95 (rowVals rows)) (hn : rows.length ≤ 3) :
    Calls Try.prog 41 #[.pointer (some ⟨g, 0, none⟩), .slice (some ⟨r, 0, none⟩) rows.length rows.length] w fun e w' =>
      e = .returned (.int .i64 (errsOf D rows).2) ∧ ∃ bv', Dsk w' B p pb bv' (errsOf D rows).1 ∧ Blk w' g 67 (wc.setIfInBounds 10 (.bool (decide ((errsOf D rows).2 ≠ 0)))) ∧ Kept (g :: fp p pb bv) w w' ∧ (∀ k, bv'.ownBlock = some k → bv.ownBlock = some k ∨ w.heap.size ≤ k) := by
  obtain ⟨W1, hW1⟩ : ∃ W1, (w.alloc (.cells #[.pointer (some ⟨g, 0, none⟩)] 24)).alloc (.cells #[.int .i64 0] 39) = W1 := ⟨_, rfl⟩
  have bq : Blk W1 w.heap.size 24 #[.pointer (some ⟨g, 0, none⟩)] := by rw [← hW1]; exact (Blk.new w _ _).alloc _
  have be : Blk W1 (w.heap.size + 1) 39 #[.int .i64 0] := by rw [← hW1]; exact Blk.wnew2 _ _ _ _
  have hb1 : Below w.heap.size w W1 := by rw [← hW1]; exact ((Below.refl _ _).alloc (Nat.le_refl _) _).alloc (by simp) _
  have hs1 : W1.heap.size = w.heap.size + 2 := by rw [← hW1]; simp
  have hD1 := h.later hb1
  have hw1 := hw.kept (Kept.of_below [] hb1) (by simp)
  have hr1 := hr.kept (Kept.of_below [] hb1) (by simp)
  have ce : W1.cell? ⟨w.heap.size + 1, 0, none⟩ = some (.int .i64 0) := be.cell 0
  have fe : W1.frozen? ⟨w.heap.size + 1, 0, none⟩ = false := be.free 0
  obtain ⟨W2, hW2⟩ : ∃ W2, W1.setCell ⟨w.heap.size + 1, 0, none⟩ (.int .i64 0) = W2 := ⟨_, rfl⟩
  have be2 : Blk W2 (w.heap.size + 1) 39 #[.int .i64 0] := by rw [← hW2]; exact be.set 0 _
  have bq2 : Blk W2 w.heap.size 24 #[.pointer (some ⟨g, 0, none⟩)] := by rw [← hW2]; exact bq.far (by simp) _
  have hb2 : Below w.heap.size w W2 := by rw [← hW2]; exact hb1.setCell (by show w.heap.size ≤ w.heap.size + 1; omega) _
  have hs2 : W2.heap.size = w.heap.size + 2 := by rw [← hW2]; simpa using hs1
  obtain ⟨n, hnl⟩ : ∃ n, rows.length = n := ⟨_, rfl⟩
  have HN := Lib.hid hnl
  rw [hnl] at hn
  rw [hnl]
  have H2 := Lib.hid (And.intro be2 (And.intro bq2 (And.intro hb2 hs2)))
  clear be bq hb1 hs1 hD1 hw1 hr1 be2 bq2 hb2 hs2
  refine calls_of_wp_marks Try.func41 rfl ?_
  simp only [Try.ntmps41, List.size_toArray, List.length_cons, List.length_nil, Nat.reduceAdd, Nat.reduceSub, Array.replicate_succ, Array.replicate_zero, List.push_toArray, List.append_toArray, List.nil_append, List.cons_append]
  clear hnl
  go_wp2_with fail
  go_step3
  go_wp2_with fail
  go_step3
  go_wp2_with fail
  refine wp_loop (fun a W => ∃ (k : Nat) (ds : List Nat) (t7 t8 t9 t13 t14 t15 t16 : Value) (v17 v18 v19 v20 v21 v22 v23 v24 v25 v26 v27 v28 v29 v30 v31 v32 v33 v34 v35 v36 v37 v38 v39 v40 v41 : Value) (bvk : Value), a = { tmps := #[.pointer (some ⟨g, 0, none⟩), .slice (some ⟨r, 0, none⟩) n n, .pointer (some ⟨w.heap.size, 0, none⟩), undef, .int .i64 0, .pointer (some ⟨w.heap.size + 1, 0, none⟩), undef, t7, t8, t9, .slice (some ⟨r, 0, none⟩) n n, .int .i64 (n : Int), .int .i64 (k : Int), t13, t14, t15, t16, v17, v18, v19, v20, v21, v22, v23, v24, v25, v26, v27, v28, v29, v30, v31, v32, v33, v34, v35, v36, v37, v38, v39, v40, v41], defers := marks ds } ∧ k ≤ n ∧ Dsk W B p pb bvk (errsOf D (rows.take k)).1 ∧ (errsOf D (rows.take k)).2 = 0 ∧ Goes w W p pb bv bvk ∧ Blk W (w.heap.size + 1) 39 #[.int .i64 0] ∧ Blk W w.heap.size 24 #[.pointer (some ⟨g, 0, none⟩)] ∧ ds.Nodup ∧ (∀ d ∈ ds, w.heap.size ≤ d ∧ W.heap[d]? = some (.deferred (some []))) ∧ w.heap.size + 2 ≤ W.heap.size)
    (fun a _ => n - (intOf (a.tmps.getD 12 undef)).toNat) ?start ?round
  case start =>
    exact ⟨0, [], undef, undef, undef, undef, undef, undef, undef, undef, undef, undef, undef, undef, undef, undef, undef, undef, undef, undef, undef, undef, undef, undef, undef, undef, undef, undef, undef, undef, undef, undef, undef, undef, bv, rfl, Nat.zero_le _, h.later H2.out.2.2.1, rfl, ⟨Kept.of_below _ H2.out.2.2.1, fun k hk => .inl hk⟩, H2.out.1, H2.out.2.1, List.nodup_nil, (fun d hd => by cases hd), by rw [H2.out.2.2.2]; omega⟩
  case round =>
    rintro _ W ⟨k, ds, t7, t8, t9, t13, t14, t15, t16, v17, v18, v19, v20, v21, v22, v23, v24, v25, v26, v27, v28, v29, v30, v31, v32, v33, v34, v35, v36, v37, v38, v39, v40, v41, bvk, rfl, hk, hDk, hok, hGk, hbe, hbq, hnd, hds, hsz⟩
    have hwW : Blk W g 67 wc := hGk.kept.blk hw (h.sep hw (by decide) (by decide) (by decide))
    have hrW : Blk W r 95 (rowVals rows) := hGk.kept.blk hr (h.sep hr (by decide) (by decide) (by decide))
    have hgq : g < w.heap.size := hw.lt
    by_cases hlt : k < n
    · obtain ⟨x, hx⟩ : ∃ x, rows[k]? = some x := ⟨_, List.getElem?_eq_getElem (by rw [HN.out]; exact hlt)⟩
      have hxm : x ∈ rows := List.mem_of_getElem? hx
      have hTx := hT x hxm
      have cx : W.cell? ⟨r, k, none⟩ = some x.val := by
        rw [hrW.cell]
        simp [rowVals, hx]
      obtain ⟨xv, hxv⟩ : ∃ xv, x.val = xv := ⟨_, rfl⟩
      rw [hxv] at cx
      have hfpS : w.heap.size + 1 ∉ fp p pb bvk := hDk.sep hbe (by decide) (by decide) (by decide)
      have hqfp : w.heap.size ∉ fp p pb bvk := hDk.sep hbq (by decide) (by decide) (by decide)
      have hdlt : ∀ d ∈ ds, d < W.heap.size := fun d hd => (Array.getElem?_eq_some_iff.1 (hds d hd).2).1
      have hpl : p < w.heap.size := h.lt
      have hpbl : pb < w.heap.size := h.plate.lt
      have hKw : KB [p, pb, w.heap.size + 1] w W := KB.goes h hGk (by simp) (by simp)
      have hSW : ∀ i ∈ [p, pb, w.heap.size + 1], i < W.heap.size := by
        intro i hi
        simp only [List.mem_cons, List.not_mem_nil, or_false] at hi
        rcases hi with rfl | rfl | rfl <;> omega
      have hseq : Tells x.gf x.lb [p, pb, w.heap.size + 1] x.N x.enc W := hTx.tells _ W hKw (fun c hc hm => by
        simp only [List.mem_cons, List.not_mem_nil, or_false] at hm
        rcases hm with rfl | rfl | rfl
        · exact hCp hc
        · exact hCb hc
        · have := hTx.lt _ hc; omega) hSW
      have heg := hTx.eg
      have HX := Lib.hid (And.intro hx (And.intro hxm (And.intro hrW (And.intro hfpS (And.intro hqfp (And.intro hKw hwW))))))
      clear hx hxm hrW hfpS hqfp hKw hwW hT hTx hr hw hW1 hW2 ce fe hCp hCb
      generalize hDD : (errsOf D (rows.take k)).1 = Dk0 at *
      have HDD := Lib.hid (And.intro hDD hok)
      clear hDD hok
      have hlti : (k : Int) < (n : Int) := by omega
      go_wp2_with fail
      refine wp_range_row (S := [p, pb, w.heap.size + 1]) (N := x.N) (enc := x.enc) (gf := x.gf) (lb := x.lb) (some 0) (by rw [show x.val = .func (.func x.gf) #[] x.lb from rfl] at hxv; exact hxv.symm) heg hseq hSW
        (fun k2 X => ∃ bv2, Dsk X B p pb bv2 (putsM Dk0 ((List.range k2).map x.it)).1 ∧ (putsM Dk0 ((List.range k2).map x.it)).2 = 0 ∧ Goes w X p pb bv bv2 ∧ Blk X (w.heap.size + 1) 39 #[.int .i64 0] ∧ Blk X w.heap.size 24 #[.pointer (some ⟨g, 0, none⟩)] ∧ Blk X g 67 wc ∧ (∀ d ∈ ds, X.heap[d]? = some (.deferred (some []))))
        (fun k2 X => ∃ bv2 er, Dsk X B p pb bv2 (putsM Dk0 ((List.range (k2 + 1)).map x.it)).1 ∧ (putsM Dk0 ((List.range (k2 + 1)).map x.it)).2 = er ∧ er ≠ 0 ∧ Goes w X p pb bv bv2 ∧ Blk X (w.heap.size + 1) 39 #[.int .i64 er] ∧ Blk X w.heap.size 24 #[.pointer (some ⟨g, 0, none⟩)] ∧ Blk X g 67 wc ∧ (∀ d ∈ ds, X.heap[d]? = some (.deferred (some []))))
        ?hI ?hIx ⟨bvk, hDk, rfl, hGk, hbe, hbq, HX.out.2.2.2.2.2.2, fun d hd => (hds d hd).2⟩
        (fun k2 a' X => ∃ Bx, Blk X Bx 81 (x.it k2).2.cs ∧ Bx ∉ [p, pb, w.heap.size + 1] ∧ a' = { tmps := #[.pointer (some ⟨g, 0, none⟩), .slice (some ⟨r, 0, none⟩) n n, .pointer (some ⟨w.heap.size, 0, none⟩), undef, .int .i64 0, .pointer (some ⟨w.heap.size + 1, 0, none⟩), undef, xv, .int .i64 ((x.it k2).1 : Int), .pointer (some ⟨Bx, 0, none⟩), .slice (some ⟨r, 0, none⟩) n n, .int .i64 (n : Int), .int .i64 (k : Int), .bool true, .pointer (some ⟨r, k, none⟩), xv, xv, .int .i64 ((x.it k2).1 : Int), .agg (x.it k2).2.cs, v19, v20, v21, v22, v23, v24, v25, v26, v27, v28, v29, v30, v31, v32, v33, v34, v35, v36, v37, v38, v39, v40, v41], defers := [] })
        ?hAx ?assign ?body ?done ?stop
      case hI =>
        intro s X Y row hs hg hrow
        obtain ⟨bv2, e1, e2, e3, e4, e5, e6, e7⟩ := hs
        exact ⟨bv2, own_dsk (β := Unit) _ _ _ _ _ (fun _ => (putsM Dk0 ((List.range s).map x.it)).1) () X Y row e1 hg hrow, e2, ⟨own_kept (β := Unit) _ (by omega) () X Y row e3.kept hg hrow, e3.new⟩, own_blk (β := Unit) _ _ _ (fun _ => _) () X Y row e4 hg hrow, own_blk (β := Unit) _ _ _ (fun _ => _) () X Y row e5 hg hrow, own_blk (β := Unit) _ _ _ (fun _ => wc) () X Y row e6 hg hrow, fun d hd => own_obj (β := Unit) (hdlt d hd) () X Y row (e7 d hd) hg hrow⟩
      case hIx =>
        intro s X Y row hs hg hrow
        obtain ⟨bv2, er, e1, e2, e0, e3, e4, e5, e6, e7⟩ := hs
        exact ⟨bv2, er, own_dsk (β := Unit) _ _ _ _ _ (fun _ => (putsM Dk0 ((List.range (s + 1)).map x.it)).1) () X Y row e1 hg hrow, e2, e0, ⟨own_kept (β := Unit) _ (by omega) () X Y row e3.kept hg hrow, e3.new⟩, own_blk (β := Unit) _ _ _ (fun _ => _) () X Y row e4 hg hrow, own_blk (β := Unit) _ _ _ (fun _ => _) () X Y row e5 hg hrow, own_blk (β := Unit) _ _ _ (fun _ => wc) () X Y row e6 hg hrow, fun d hd => own_obj (β := Unit) (hdlt d hd) () X Y row (e7 d hd) hg hrow⟩
      case hAx => exact fun k2 a' s X Y row hs hg hrow => by obtain ⟨Bx, e1, e3, e2⟩ := hs; exact ⟨Bx, own_blk (β := Unit) _ _ _ (fun _ => (x.it k2).2.cs) () X Y row e1 hg hrow, e3, e2⟩
      case assign =>
        intro k2 X K hk2 hX hI hK
        have hz : Bk.zero.cs.size = (x.it k2).2.cs.size := by rw [Bk.size, Bk.size]
        have HZ := Lib.hid hz
        clear hz
        show Code.wpIn _ _ _ _ _ { tmps := #[.pointer (some ⟨g, 0, none⟩), .slice (some ⟨r, 0, none⟩) n n, .pointer (some ⟨w.heap.size, 0, none⟩), undef, .int .i64 0, .pointer (some ⟨w.heap.size + 1, 0, none⟩), undef, xv, t8, t9, .slice (some ⟨r, 0, none⟩) n n, .int .i64 (n : Int), .int .i64 (k : Int), .bool true, .pointer (some ⟨r, k, none⟩), xv, xv, .int .i64 ((x.it k2).1 : Int), .agg (x.it k2).2.cs, v19, v20, v21, v22, v23, v24, v25, v26, v27, v28, v29, v30, v31, v32, v33, v34, v35, v36, v37, v38, v39, v40, v41], defers := [] } _
        gi_wp2_with (first | (with_reducible refine wpListIn_alloc_z rfl 81 rfl Bk.zero.cs 64 z_blk ?_) | (with_reducible refine wpListIn_store_new rfl 81 (.tmp 9) (.tmp 18) rfl (x.it k2).2.cs Bk.zero.cs _ rfl rfl HZ.out (s_blk _) (Bk.one _) ?_))
        have hB1 : Below X.heap.size X (X.alloc (.cells (x.it k2).2.cs 81)) := (Below.refl _ _).alloc (Nat.le_refl _) _
        obtain ⟨bv2, e1, e2, e3, e4, e5, e6, e7⟩ := hI
        exact hK _ _ (KB.below hB1) ⟨bv2, e1.later hB1, e2, e3.later hB1, e4.alloc _, e5.alloc _, e6.alloc _, fun d hd => (hB1.block _ (Array.getElem?_eq_some_iff.1 (e7 d hd)).1).trans (e7 d hd)⟩ ⟨_, Blk.new _ _ _, (fun hm => by have := hSW _ hm; omega), rfl⟩
      case body =>
        rintro k2 _ X ⟨bvb, e1, e2, e3, e4, e5, e6, e7⟩ ⟨Bx, bx, hBx, rfl⟩ hk2 hX
        obtain ⟨sec, hsec⟩ : ∃ sec, (x.it k2).1 = sec := ⟨_, rfl⟩
        obtain ⟨Dc, hDc⟩ : ∃ Dc, (putsM Dk0 ((List.range k2).map x.it)).1 = Dc := ⟨_, rfl⟩
        rw [hDc] at e1
        have hput : putsM Dk0 ((List.range (k2 + 1)).map x.it) = writeM Dc (sec : Int) (x.it k2).2 := by
          rw [List.range_succ, List.map_append, List.map_singleton, putsM_snoc, if_pos e2, hDc, hsec]
        obtain ⟨er, her⟩ : ∃ er, (writeM Dc (sec : Int) (x.it k2).2).2 = er := ⟨_, rfl⟩
        obtain ⟨D2, hD2⟩ : ∃ D2, (writeM Dc (sec : Int) (x.it k2).2).1 = D2 := ⟨_, rfl⟩
        have hgX : w.heap.size ≤ X.heap.size := by omega
        have hsepE := e1.sep e4 (by decide) (by decide) (by decide)
        have hsepQ := e1.sep e5 (by decide) (by decide) (by decide)
        have hsepG := e1.sep e6 (by decide) (by decide) (by decide)
        have cqf : ∀ w', Below X.heap.size X w' → w'.cell? ⟨w.heap.size, 0, none⟩ = some (.pointer (some ⟨g, 0, none⟩)) := fun w' hb => (hb.cell (p := ⟨w.heap.size, 0, none⟩) (by exact e5.lt)).trans (e5.cell 0)
        have cgf : ∀ w', Below X.heap.size X w' → w'.cell? ⟨g, 4, none⟩ = some (.pointer (some ⟨p, 0, none⟩)) := fun w' hb => (hb.cell (p := ⟨g, 4, none⟩) (by exact e6.lt)).trans ((e6.cell 4).trans hwp)
        have lbf : ∀ w', Below X.heap.size X w' → (loadSem 81 (.pointer (some ⟨Bx, 0, none⟩))).run Try.prog w' = .ok (.agg (x.it k2).2.cs) w' := fun w' hb => wlblk (bx.kept (Kept.of_below [] hb) (by simp))
        have wrf : ∀ w', Below X.heap.size X w' → Calls Try.prog 58 #[.pointer (some ⟨p, 0, none⟩), .int .i64 (sec : Int), .agg (x.it k2).2.cs] w' fun e w6 => e = .returned (.int .i64 er) ∧ ∃ bv3, Dsk w6 B p pb bv3 D2 ∧ Goes w' w6 p pb bvb bv3 := fun w' hb => by
          have h9 := write_any (e1.later hb) (by have := hb.size; omega) (sec : Int) (x.it k2).2
          rw [her, hD2] at h9
          exact h9
        have hblk6 : ∀ X5 W6 bv3, Below X.heap.size X X5 → Goes X5 W6 p pb bvb bv3 → ∀ (g9 : Nat) (t9 : TypeId) (cs9 : Array Value), Blk X g9 t9 cs9 → g9 ∉ fp p pb bvb → Blk W6 g9 t9 cs9 := fun X5 W6 bv3 hb hG g9 t9 cs9 b9 hn => hG.blk (b9.kept (Kept.of_below [] hb) (by simp)) hn
        have stf : ∀ X5 W6 bv3, Below X.heap.size X X5 → Goes X5 W6 p pb bvb bv3 → W6.cell? ⟨w.heap.size + 1, 0, none⟩ = some (.int .i64 0) ∧ W6.frozen? ⟨w.heap.size + 1, 0, none⟩ = false := fun X5 W6 bv3 hb hG => by
          have b9 := hblk6 X5 W6 bv3 hb hG _ _ _ e4 hsepE
          exact ⟨b9.cell 0, b9.free 0⟩
        have fin : ∀ X5 W6 bv3, Below X.heap.size X X5 → Dsk W6 B p pb bv3 D2 → Goes X5 W6 p pb bvb bv3 →
            (W6.setCell ⟨w.heap.size + 1, 0, none⟩ (.int .i64 er)).cell? ⟨w.heap.size + 1, 0, none⟩ = some (.int .i64 er) ∧ KB [p, pb, w.heap.size + 1] X (W6.setCell ⟨w.heap.size + 1, 0, none⟩ (.int .i64 er)) ∧
            Dsk (W6.setCell ⟨w.heap.size + 1, 0, none⟩ (.int .i64 er)) B p pb bv3 D2 ∧ Goes w (W6.setCell ⟨w.heap.size + 1, 0, none⟩ (.int .i64 er)) p pb bv bv3 ∧ Blk (W6.setCell ⟨w.heap.size + 1, 0, none⟩ (.int .i64 er)) (w.heap.size + 1) 39 #[.int .i64 er] ∧ Blk (W6.setCell ⟨w.heap.size + 1, 0, none⟩ (.int .i64 er)) w.heap.size 24 #[.pointer (some ⟨g, 0, none⟩)] ∧ Blk (W6.setCell ⟨w.heap.size + 1, 0, none⟩ (.int .i64 er)) g 67 wc ∧ (∀ d ∈ ds, (W6.setCell ⟨w.heap.size + 1, 0, none⟩ (.int .i64 er)).heap[d]? = some (.deferred (some []))) := fun X5 W6 bv3 hb hD6 hG => by
          have b9 := hblk6 X5 W6 bv3 hb hG _ _ _ e4 hsepE
          have q9 := hblk6 X5 W6 bv3 hb hG _ _ _ e5 hsepQ
          have g9 := hblk6 X5 W6 bv3 hb hG _ _ _ e6 hsepG
          have s9 := b9.set 0 (.int .i64 er)
          have hk6 : Kept [w.heap.size + 1] W6 (W6.setCell ⟨w.heap.size + 1, 0, none⟩ (.int .i64 er)) := (Kept.refl _ _).setCell (.inl (by simp)) _
          have hG9 := (e3.later hb).trans hG
          have hKB6 : KB [p, pb, w.heap.size + 1] X W6 := (KB.below hb).trans (KB.goes (e1.later hb) hG (by simp) (by simp))
          have hKB9 := hKB6.trans ((KB.kept hk6).more (T := [p, pb, w.heap.size + 1]) (by simp))
          refine ⟨s9.cell 0, hKB9, hD6.apart hk6 (by
            intro i hi
            obtain rfl : i = w.heap.size + 1 := by simpa using hi
            exact hD6.sep b9 (by decide) (by decide) (by decide)), ⟨hG9.kept.setCell (.inr (by show w.heap.size ≤ w.heap.size + 1; omega)) _, hG9.new⟩, s9, q9.far (by simp) _, g9.far (by show g ≠ w.heap.size + 1; omega) _, fun d hd => ?_⟩
          refine hKB9.same d _ (fun hm => ?_) (e7 d hd) rfl
          have h8 := (hds d hd).1
          simp only [List.mem_cons, List.not_mem_nil, or_false] at hm
          rcases hm with rfl | rfl | rfl
          · omega
          · omega
          · have h7 := e7 _ hd
            rw [show X.heap[w.heap.size + 1]? = _ from e4] at h7
            cases h7
        have HF := Lib.hid (And.intro cqf (And.intro cgf (And.intro lbf (And.intro wrf stf))))
        have HFin := Lib.hid (And.intro fin (And.intro hput (And.intro her hD2)))
        clear cqf cgf lbf wrf stf fin hblk6 hput hsepE hsepQ hsepG e1 e2 e3 e4 e5 e6 e7 bx hBx her hD2 hDc hseq heg hbe hbq hds hdlt hSW hGk hDk h hB hws hwp hpl hpbl hnd
        rw [hsec]
        generalize (x.it k2).2.cs = bc at *
        gi_wp2_with fail
        refine wpIn_region_any (by kernel_rfl) ?_
        refine anyIn_inv (fun ls a w9 => ∃ b0 b1 b2 b3 b4 b5 b6 b7 : Bool, ∃ x19 x20 x21 x22 x23 x24 x25 : Value, ls = #[b0, b1, b2, b3, b4, b5, b6, b7] ∧ a = { tmps := #[.pointer (some ⟨g, 0, none⟩), .slice (some ⟨r, 0, none⟩) n n, .pointer (some ⟨w.heap.size, 0, none⟩), undef, .int .i64 0, .pointer (some ⟨w.heap.size + 1, 0, none⟩), undef, xv, .int .i64 (sec : Int), .pointer (some ⟨Bx, 0, none⟩), .slice (some ⟨r, 0, none⟩) n n, .int .i64 (n : Int), .int .i64 (k : Int), .bool true, .pointer (some ⟨r, k, none⟩), xv, xv, .int .i64 (sec : Int), .agg bc, x19, x20, x21, x22, x23, x24, x25, v26, v27, v28, v29, v30, v31, v32, v33, v34, v35, v36, v37, v38, v39, v40, v41], defers := [] } ∧
          (b0 = true → x19 = .pointer (some ⟨g, 0, none⟩)) ∧ (b1 = true → b0 = true ∧ x20 = .pointer (some ⟨g, 0, none⟩)) ∧ (b2 = true → b1 = true ∧ x21 = .pointer (some ⟨g, 4, none⟩)) ∧ (b3 = true → b2 = true ∧ x22 = .pointer (some ⟨p, 0, none⟩)) ∧ (b4 = true → x23 = .int .i64 (sec : Int)) ∧ (b5 = true → x24 = .agg bc) ∧
          (b6 = false → Below X.heap.size X w9) ∧ (b6 = true → (b3 = true ∧ b4 = true ∧ b5 = true) ∧ x25 = .int .i64 er ∧ ∃ X5 W6 bv2, Below X.heap.size X X5 ∧ Dsk W6 B p pb bv2 D2 ∧ Goes X5 W6 p pb bvb bv2 ∧ (b7 = false → w9 = W6) ∧ (b7 = true → w9 = W6.setCell ⟨w.heap.size + 1, 0, none⟩ (.int .i64 er))) ∧ (b7 = true → b6 = true)) ?_ ?_ ?_ _ _ _ _ (by decide +kernel) ?_
        · rintro ls a w9 ⟨b0, b1, b2, b3, b4, b5, b6, b7, x19, x20, x21, x22, x23, x24, x25, rfl, -⟩
          revert b0 b1 b2 b3 b4 b5 b6 b7
          decide +kernel
        · rintro ls a w9 i ⟨b0, b1, b2, b3, b4, b5, b6, b7, x19, x20, x21, x22, x23, x24, x25, rfl, rfl, h0, h1, h2, h3, h4, h5, h6f, h6, h7⟩ hi
          obtain ⟨hi8, hcnt, e0, e1, e2, e3, e4, e5, e6, e7⟩ : (i < 8 ∧ cntF (#[b0, b1, b2, b3, b4, b5, b6, b7].setIfInBounds i true) < cntF #[b0, b1, b2, b3, b4, b5, b6, b7] ∧ (i = 0 → b0 = false) ∧ (i = 1 → b0 = true ∧ b1 = false) ∧ (i = 2 → b1 = true ∧ b2 = false) ∧ (i = 3 → b2 = true ∧ b3 = false) ∧ (i = 4 → b4 = false) ∧ (i = 5 → b5 = false) ∧ (i = 6 → (b3 = true ∧ b4 = true ∧ b5 = true) ∧ b6 = false) ∧ (i = 7 → b6 = true ∧ b7 = false)) := by
            clear h0 h1 h2 h3 h4 h5 h6f h6 h7
            refine of_decide_eq_true (List.all_eq_true.1 (?_ : List.all _ (fun x => decide (x < 8 ∧ cntF (#[b0, b1, b2, b3, b4, b5, b6, b7].setIfInBounds x true) < cntF #[b0, b1, b2, b3, b4, b5, b6, b7] ∧ (x = 0 → b0 = false) ∧ (x = 1 → b0 = true ∧ b1 = false) ∧ (x = 2 → b1 = true ∧ b2 = false) ∧ (x = 3 → b2 = true ∧ b3 = false) ∧ (x = 4 → b4 = false) ∧ (x = 5 → b5 = false) ∧ (x = 6 → (b3 = true ∧ b4 = true ∧ b5 = true) ∧ b6 = false) ∧ (x = 7 → b6 = true ∧ b7 = false))) = true) i hi)
            clear hi
            revert b0 b1 b2 b3 b4 b5 b6 b7
            decide +kernel
          refine ⟨hcnt, ?_⟩
          have h6b : b6 = true → ¬ (b0 = false ∨ b1 = false ∨ b2 = false ∨ b3 = false ∨ b4 = false ∨ b5 = false) := fun e => by
            obtain ⟨⟨u3, u4, u5⟩, _⟩ := h6 e
            obtain ⟨u2, _⟩ := h3 u3
            obtain ⟨u1, _⟩ := h2 u2
            obtain ⟨u0, _⟩ := h1 u1
            simp [u0, u1, u2, u3, u4, u5]
          clear hcnt hi
          have HH := Lib.hid (And.intro h0 (And.intro h1 (And.intro h2 (And.intro h3 (And.intro h4 (And.intro h5 (And.intro h6f (And.intro h6 h7))))))))
          have H6b := Lib.hid h6b
          obtain ⟨g0, g1, g2, g3, g4, g5, g6f, g6, g7⟩ := HH.out
          clear h0 h1 h2 h3 h4 h5 h6f h6 h7 h6b
          rcases i with _ | _ | _ | _ | _ | _ | _ | _ | i
          · have hb6 : b6 = false := by cases hb : b6 with | false => rfl | true => exact absurd (.inl (e0 rfl)) (H6b.out hb)
            have hb := g6f hb6
            have c9 := HF.out.1 w9 hb
            clear e0 e1 e2 e3 e4 e5 e6 e7 g0 g1 g2 g3 g4 g5 g6f g6 g7
            refine wpOpIn_step rfl (fun K' hK' => ?_)
            go_simp
            refine hK' _ _ ⟨true, b1, b2, b3, b4, b5, b6, b7, _, x20, x21, x22, x23, x24, x25, rfl, rfl, fun _ => rfl, fun h => ⟨rfl, (HH.out.2.1 h).2⟩, HH.out.2.2.1, HH.out.2.2.2.1, HH.out.2.2.2.2.1, HH.out.2.2.2.2.2.1, HH.out.2.2.2.2.2.2.1, (fun h => (by rw [hb6] at h; cases h)), HH.out.2.2.2.2.2.2.2.2⟩
          · have hb6 : b6 = false := by cases hb : b6 with | false => rfl | true => exact absurd (.inr (.inl (e1 rfl).2)) (H6b.out hb)
            have hb := g6f hb6
            obtain ⟨u0, u1⟩ := e1 rfl
            obtain rfl := g0 u0
            clear e0 e1 e2 e3 e4 e5 e6 e7 g0 g1 g2 g3 g4 g5 g6f g6 g7
            refine wpOpIn_step rfl (fun K' hK' => ?_)
            go_simp
            refine hK' _ _ ⟨b0, true, b2, b3, b4, b5, b6, b7, _, _, x21, x22, x23, x24, x25, rfl, rfl, HH.out.1, fun _ => ⟨u0, rfl⟩, fun h => ⟨rfl, (HH.out.2.2.1 h).2⟩, HH.out.2.2.2.1, HH.out.2.2.2.2.1, HH.out.2.2.2.2.2.1, HH.out.2.2.2.2.2.2.1, (fun h => (by rw [hb6] at h; cases h)), HH.out.2.2.2.2.2.2.2.2⟩
          · have hb6 : b6 = false := by cases hb : b6 with | false => rfl | true => exact absurd (.inr (.inr (.inl (e2 rfl).2))) (H6b.out hb)
            have hb := g6f hb6
            obtain ⟨u1, u2⟩ := e2 rfl
            obtain ⟨u0, rfl⟩ := g1 u1
            clear e0 e1 e2 e3 e4 e5 e6 e7 g0 g1 g2 g3 g4 g5 g6f g6 g7
            refine wpOpIn_step rfl (fun K' hK' => ?_)
            go_simp
            refine hK' _ _ ⟨b0, b1, true, b3, b4, b5, b6, b7, x19, _, _, x22, x23, x24, x25, rfl, rfl, HH.out.1, HH.out.2.1, fun _ => ⟨u1, rfl⟩, fun h => ⟨rfl, (HH.out.2.2.2.1 h).2⟩, HH.out.2.2.2.2.1, HH.out.2.2.2.2.2.1, HH.out.2.2.2.2.2.2.1, (fun h => (by rw [hb6] at h; cases h)), HH.out.2.2.2.2.2.2.2.2⟩
          · have hb6 : b6 = false := by cases hb : b6 with | false => rfl | true => exact absurd (.inr (.inr (.inr (.inl (e3 rfl).2)))) (H6b.out hb)
            have hb := g6f hb6
            obtain ⟨u2, u3⟩ := e3 rfl
            obtain ⟨u1, rfl⟩ := g2 u2
            have c9 := HF.out.2.1 w9 hb
            clear e0 e1 e2 e3 e4 e5 e6 e7 g0 g1 g2 g3 g4 g5 g6f g6 g7
            refine wpOpIn_step rfl (fun K' hK' => ?_)
            go_simp
            refine hK' _ _ ⟨b0, b1, b2, true, b4, b5, b6, b7, x19, x20, _, _, x23, x24, x25, rfl, rfl, HH.out.1, HH.out.2.1, HH.out.2.2.1, fun _ => ⟨u2, rfl⟩, HH.out.2.2.2.2.1, HH.out.2.2.2.2.2.1, HH.out.2.2.2.2.2.2.1, (fun h => (by rw [hb6] at h; cases h)), HH.out.2.2.2.2.2.2.2.2⟩
          · have hb6 : b6 = false := by cases hb : b6 with | false => rfl | true => exact absurd (.inr (.inr (.inr (.inr (.inl (e4 rfl)))))) (H6b.out hb)
            have hb := g6f hb6
            clear e0 e1 e2 e3 e4 e5 e6 e7 g0 g1 g2 g3 g4 g5 g6f g6 g7
            refine wpOpIn_step rfl (fun K' hK' => ?_)
            go_simp
            refine hK' _ _ ⟨b0, b1, b2, b3, true, b5, b6, b7, x19, x20, x21, x22, _, x24, x25, rfl, rfl, HH.out.1, HH.out.2.1, HH.out.2.2.1, HH.out.2.2.2.1, fun _ => rfl, HH.out.2.2.2.2.2.1, HH.out.2.2.2.2.2.2.1, (fun h => (by rw [hb6] at h; cases h)), HH.out.2.2.2.2.2.2.2.2⟩
          · have hb6 : b6 = false := by cases hb : b6 with | false => rfl | true => exact absurd (.inr (.inr (.inr (.inr (.inr (e5 rfl)))))) (H6b.out hb)
            have hb := g6f hb6
            have c9 := HF.out.2.2.1 w9 hb
            clear e0 e1 e2 e3 e4 e5 e6 e7 g0 g1 g2 g3 g4 g5 g6f g6 g7
            refine wpOpIn_step rfl (fun K' hK' => ?_)
            go_simp
            refine hK' _ _ ⟨b0, b1, b2, b3, b4, true, b6, b7, x19, x20, x21, x22, x23, _, x25, rfl, rfl, HH.out.1, HH.out.2.1, HH.out.2.2.1, HH.out.2.2.2.1, HH.out.2.2.2.2.1, fun _ => rfl, HH.out.2.2.2.2.2.2.1, (fun h => (by rw [hb6] at h; cases h)), HH.out.2.2.2.2.2.2.2.2⟩
          · obtain ⟨⟨u3, u4, u5⟩, hb6⟩ := e6 rfl
            have hb := g6f hb6
            obtain ⟨u2, rfl⟩ := g3 u3
            obtain rfl := g4 u4
            obtain rfl := g5 u5
            have c9 := HF.out.2.2.2.1 w9 hb
            clear e0 e1 e2 e3 e4 e5 e6 e7 g0 g1 g2 g3 g4 g5 g6f g6 g7
            refine wpOpIn_step rfl (fun K' hK' => ?_)
            go_simp
            refine ⟨trivial, ?_⟩
            refine (CallsIn.inRound _ (callsIn_wide.2 c9)).mono ?_
            rintro e w6 ⟨rfl, bv2, hD6, hG6⟩
            refine hK' _ _ ⟨b0, b1, b2, b3, b4, b5, true, b7, x19, x20, x21, _, _, _, _, rfl, rfl, HH.out.1, HH.out.2.1, HH.out.2.2.1, HH.out.2.2.2.1, HH.out.2.2.2.2.1, HH.out.2.2.2.2.2.1, (fun h => by cases h), fun _ => ⟨⟨u3, u4, u5⟩, rfl, w9, w6, bv2, hb, hD6, hG6, fun _ => rfl, fun h => by rw [HH.out.2.2.2.2.2.2.2.2 h] at hb6; cases hb6⟩, fun _ => rfl⟩
          · obtain ⟨u6, u7⟩ := e7 rfl
            obtain ⟨uu, rfl, X5, W6, bv2, hb, hD6, hG6, hw6, _⟩ := g6 u6
            obtain rfl := hw6 u7
            obtain ⟨c9, f9⟩ := HF.out.2.2.2.2 X5 w9 bv2 hb hG6
            clear e0 e1 e2 e3 e4 e5 e6 e7 g0 g1 g2 g3 g4 g5 g6f g6 g7
            refine wpOpIn_step rfl (fun K' hK' => ?_)
            go_simp
            refine hK' _ _ ⟨b0, b1, b2, b3, b4, b5, b6, true, x19, x20, x21, x22, x23, x24, _, rfl, rfl, HH.out.1, HH.out.2.1, HH.out.2.2.1, HH.out.2.2.2.1, HH.out.2.2.2.2.1, HH.out.2.2.2.2.2.1, (fun h => by rw [u6] at h; cases h), fun _ => ⟨uu, rfl, X5, w9, bv2, hb, hD6, hG6, (fun h => by cases h), fun _ => rfl⟩, fun _ => u6⟩
          · omega
        · rintro ls a w9 ⟨b0, b1, b2, b3, b4, b5, b6, b7, x19, x20, x21, x22, x23, x24, x25, rfl, rfl, h0, h1, h2, h3, h4, h5, h6f, h6, h7⟩ hi
          obtain ⟨hb6, hb7⟩ : b6 = true ∧ b7 = true := by
            clear h0 h1 h2 h3 h4 h5 h6f h6 h7
            revert b0 b1 b2 b3 b4 b5 b6 b7
            decide +kernel
          obtain ⟨⟨u3, u4, u5⟩, rfl, X5, W6, bv2, hb, hD6, hG6, _, hw9⟩ := h6 hb6
          obtain rfl := hw9 hb7
          clear h0 h1 h2 h3 h4 h5 h6f h6 h7 hi hw9
          obtain ⟨c9, k9, hD9, hG9, s9, q9, g9, m9⟩ := HFin.out.1 X5 W6 bv2 hb hD6 hG6
          obtain ⟨hput, her, hD2⟩ := HFin.out.2
          have HG := Lib.hid (And.intro k9 (And.intro hD9 (And.intro hG9 (And.intro s9 (And.intro q9 (And.intro g9 (And.intro m9 (And.intro hput (And.intro her hD2)))))))))
          clear k9 hD9 hG9 s9 q9 g9 m9 hput her hD2 hD6 hG6 hb
          obtain ⟨W9, hW9⟩ : ∃ W9, W6.setCell ⟨w.heap.size + 1, 0, none⟩ (.int .i64 er) = W9 := ⟨_, rfl⟩
          rw [hW9] at HG c9 ⊢
          clear hW9
          by_cases hz : er = 0
          · subst hz
            gi_wp2
            obtain ⟨k9, hD9, hG9, s9, q9, g9, m9, hput, her, hD2⟩ := HG.out
            have hput2 : putsM Dk0 (List.map x.it (List.range k2) ++ [x.it k2]) = writeM Dc (sec : Int) (x.it k2).2 := by rw [← hput, List.range_succ, List.map_append, List.map_singleton]
            exact ⟨k9, .inl ⟨bv2, by rw [hput2, hD2]; exact hD9, by rw [hput2]; exact her, hG9, s9, q9, g9, m9⟩⟩
          · gi_wp2
            obtain ⟨k9, hD9, hG9, s9, q9, g9, m9, hput, her, hD2⟩ := HG.out
            exact ⟨k9, .inr ⟨rfl, bv2, er, by rw [hput, hD2]; exact hD9, by rw [hput, her], hz, hG9, s9, q9, g9, m9⟩⟩
        · exact ⟨false, false, false, false, false, false, false, false, _, _, _, _, _, _, _, rfl, rfl, (fun h => by cases h), (fun h => by cases h), (fun h => by cases h), (fun h => by cases h), (fun h => by cases h), (fun h => by cases h), fun _ => (Below.refl _ _).drew, (fun h => by cases h), (fun h => by cases h)⟩
    
      case done =>
        rintro X ⟨bv2, e1, e2, e3, e4, e5, e6, e7⟩ hd
        have hMD : ∀ d ∈ W.heap.size :: ds, X.heap[d]? = some (.deferred (some [])) := fun d hd2 => by
          rcases List.mem_cons.1 hd2 with rfl | hd2
          · exact hd
          · exact e7 d hd2
        have hgeX : ∀ d ∈ W.heap.size :: ds, w.heap.size ≤ d := fun d hd2 => by
          rcases List.mem_cons.1 hd2 with rfl | hd2
          · omega
          · exact (hds d hd2).1
        have hndX : (W.heap.size :: ds).Nodup := List.nodup_cons.2 ⟨fun hm => by have := hdlt _ hm; omega, hnd⟩
        have hXW : w.heap.size + 2 ≤ X.heap.size := by have := (Array.getElem?_eq_some_iff.1 hd).1; omega
        obtain ⟨Dc, hDc⟩ : ∃ Dc, (putsM Dk0 ((List.range x.N).map x.it)).1 = Dc := ⟨_, rfl⟩
        rw [hDc] at e1
        have hlay : layM Dk0 x.items = syncM Dc := by unfold layM RowW.items; rw [if_pos e2, hDc]
        have d1 : X.cell? ⟨w.heap.size, 0, none⟩ = some (.pointer (some ⟨g, 0, none⟩)) := e5.cell 0
        have d2 : X.cell? ⟨g, 4, none⟩ = some (.pointer (some ⟨p, 0, none⟩)) := (e6.cell 4).trans hwp
        have hsepE := e1.sep e4 (by decide) (by decide) (by decide)
        have hsepQ := e1.sep e5 (by decide) (by decide) (by decide)
        have hsepG := e1.sep e6 (by decide) (by decide) (by decide)
        have hsy := sync_any e1
        obtain ⟨er, her⟩ : ∃ er, (syncM Dc).2 = er := ⟨_, rfl⟩
        obtain ⟨D2, hD2⟩ : ∃ D2, (syncM Dc).1 = D2 := ⟨_, rfl⟩
        rw [her, hD2] at hsy
        have hsepM : ∀ d ∈ W.heap.size :: ds, d ∉ fp p pb bv2 := fun d hd2 => e1.not_obj (hMD d hd2) rfl
        have HO := Lib.hid (And.intro e4 (And.intro e5 (And.intro e6 (And.intro hMD (And.intro e3 (And.intro hlay (And.intro her hD2)))))))
        clear e4 e5 e6 e7 hMD e3 hlay her hD2 hDc e2 e1 hseq heg hDk hGk hbe hbq hd
        go_wp2_with fail
        refine hsy.mono ?_
        rintro e W6 ⟨rfl, bv3, hD6, hG6⟩
        clear hsy d1 d2
        have E6 := hG6.blk HO.out.1 hsepE
        have Q6 := hG6.blk HO.out.2.1 hsepQ
        have G6 := hG6.blk HO.out.2.2.1 hsepG
        have M6 : ∀ d ∈ W.heap.size :: ds, W6.heap[d]? = some (.deferred (some [])) := fun d hd2 => hG6.kept.blk (HO.out.2.2.2.1 d hd2) (hsepM d hd2)
        have f1 : W6.cell? ⟨w.heap.size + 1, 0, none⟩ = some (.int .i64 0) := E6.cell 0
        have f2 : W6.frozen? ⟨w.heap.size + 1, 0, none⟩ = false := E6.free 0
        obtain ⟨XX, hXX⟩ : ∃ XX, W6.setCell ⟨w.heap.size + 1, 0, none⟩ (.int .i64 er) = XX := ⟨_, rfl⟩
        have hk6 : Kept [w.heap.size + 1] W6 XX := by rw [← hXX]; exact (Kept.refl _ _).setCell (.inl (by simp)) _
        have hEX : Blk XX (w.heap.size + 1) 39 #[.int .i64 er] := by rw [← hXX]; exact E6.set 0 _
        have hQX : Blk XX w.heap.size 24 #[.pointer (some ⟨g, 0, none⟩)] := Q6.kept hk6 (by simp)
        have hWX : Blk XX g 67 wc := G6.kept hk6 (by simp; omega)
        have hDX : Dsk XX B p pb bv3 D2 := hD6.apart hk6 (fun i hi => (List.mem_singleton.1 hi) ▸ hD6.sep E6 (by decide) (by decide) (by decide))
        have hGX : Goes w XX p pb bv bv3 := by
          have h9 := HO.out.2.2.2.2.1.trans hG6
          rw [← hXX]
          exact ⟨h9.kept.setCell (.inr (by show w.heap.size ≤ w.heap.size + 1; omega)) _, h9.new⟩
        have hMX : ∀ d ∈ W.heap.size :: ds, XX.heap[d]? = some (.deferred (some [])) := fun d hd2 => hk6.blk (M6 d hd2) (fun hm => by
          have e9 := List.mem_singleton.1 hm
          have h7 := M6 d hd2
          rw [e9, show W6.heap[w.heap.size + 1]? = _ from E6] at h7
          cases h7)
        have hXXs : w.heap.size + 2 ≤ XX.heap.size := by have := hG6.kept.size; have := hk6.size; omega
        have hlay2 : layM Dk0 x.items = (D2, er) := by
          obtain ⟨-, -, -, -, -, h1, h2, h3⟩ := HO.out
          rw [h1, ← h2, ← h3]
        have HL := Lib.hid hlay2
        have ce6 : XX.cell? ⟨w.heap.size + 1, 0, none⟩ = some (.int .i64 er) := hEX.cell 0
        have HM := Lib.hid (And.intro hMX (And.intro hgeX (And.intro hndX (And.intro hDX (And.intro hGX (And.intro hEX (And.intro hQX hWX)))))))
        clear hlay2 E6 Q6 G6 M6 hD6 hG6 hk6 hMX hgeX hndX hDX hGX hEX hQX hWX HO
        by_cases hz : er = 0
        · have hz2 : (er != 0) = false := by simp [hz]
          go_wp2
          obtain ⟨hMX, hgeX, hndX, hDX, hGX, hEX, hQX, hWX⟩ := HM.out
          have hnx : errsOf D (rows.take (k + 1)) = (D2, 0) := by
            rw [errs_next HX.out.1 HDD.out.2, HDD.out.1, HL.out, hz]
          rw [hz] at hXX hEX
          rw [hXX]
          refine ⟨⟨k + 1, W.heap.size :: ds, _, _, _, _, _, _, _, _, _, _, _, _, _, _, _, _, _, _, _, _, _, _, _, _, _, _, _, _, _, _, _, _, bv3, rfl, by omega, by rw [hnx]; exact hDX, by rw [hnx], hGX, hEX, hQX, hndX, fun d hd2 => ⟨hgeX d hd2, hMX d hd2⟩, hXXs⟩, ?_⟩
          show n - (intOf (.int .i64 ((k : Int) + 1))).toNat < n - (intOf (.int .i64 (k : Int))).toNat
          simp [intOf]
          omega
        · have hz2 : (er != 0) = true := by simpa using hz
          obtain ⟨hMX, hgeX, hndX, hDX, hGX, hEX, hQX, hWX⟩ := HM.out
          have hfinX : errsOf D rows = (D2, er) := errs_stop HX.out.1 HDD.out.2 (by rw [HDD.out.1]; exact HL.out) hz
          obtain ⟨v10, c10⟩ : ∃ v10, XX.cell? ⟨g, 10, none⟩ = some v10 := ⟨_, (hWX.cell 10).trans (Array.getElem?_eq_getElem (by rw [hws]; decide))⟩
          have f10 : XX.frozen? ⟨g, 10, none⟩ = false := hWX.free 10
          have cq9 : XX.cell? ⟨w.heap.size, 0, none⟩ = some (.pointer (some ⟨g, 0, none⟩)) := hQX.cell 0
          have ce9 : XX.cell? ⟨w.heap.size + 1, 0, none⟩ = some (.int .i64 er) := hEX.cell 0
          have hend := wend h hgq hDX hGX hWX hMX hgeX (er := er) true (by simp [hz])
          have ce9b : (XX.setCell ⟨g, 10, none⟩ (.bool true)).cell? ⟨w.heap.size + 1, 0, none⟩ = some (.int .i64 er) := (World.cell?_setCell_other _ _ _ _ (fun e => by injection e with e1; omega)).trans ce9
          have HEnd := Lib.hid (And.intro hend.1 (And.intro hend.2 (And.intro hndX hfinX)))
          clear hend hDX hGX hWX hQX hEX hMX hgeX hfinX
          go_wp2
          rw [Exit.noGoto_ret]
          refine marks_all (v := .int .i64 er) (by intro w0; rw [results_tmp (t := 4) rfl]; rfl) (W.heap.size :: ds) _ HEnd.out.2.2.1 HEnd.out.1 (fun w' h1 h2 h3 h4 h5 => ?_)
          have h9 := HEnd.out.2.1 w' h1 h2 h3 h4 h5
          rw [HEnd.out.2.2.2]
          exact ⟨rfl, h9⟩
      case stop =>
        rintro k2 XX hk2 ⟨bv2, er, hDX, e2, e0, hGX, hEX, hQX, hWX, e7⟩ hd
        have hMX : ∀ d ∈ W.heap.size :: ds, XX.heap[d]? = some (.deferred (some [])) := fun d hd2 => by
          rcases List.mem_cons.1 hd2 with rfl | hd2
          · exact hd
          · exact e7 d hd2
        have hgeX : ∀ d ∈ W.heap.size :: ds, w.heap.size ≤ d := fun d hd2 => by
          rcases List.mem_cons.1 hd2 with rfl | hd2
          · omega
          · exact (hds d hd2).1
        have hndX : (W.heap.size :: ds).Nodup := List.nodup_cons.2 ⟨fun hm => by have := hdlt _ hm; omega, hnd⟩
        have hfinX : errsOf D rows = ((putsM Dk0 ((List.range (k2 + 1)).map x.it)).1, er) := errs_stop HX.out.1 HDD.out.2 (by rw [HDD.out.1]; exact lay_stop x Dk0 k2 hk2 er e2 e0) e0
        obtain ⟨v10, c10⟩ : ∃ v10, XX.cell? ⟨g, 10, none⟩ = some v10 := ⟨_, (hWX.cell 10).trans (Array.getElem?_eq_getElem (by rw [hws]; decide))⟩
        have f10 : XX.frozen? ⟨g, 10, none⟩ = false := hWX.free 10
        have cq9 : XX.cell? ⟨w.heap.size, 0, none⟩ = some (.pointer (some ⟨g, 0, none⟩)) := hQX.cell 0
        have ce9 : XX.cell? ⟨w.heap.size + 1, 0, none⟩ = some (.int .i64 er) := hEX.cell 0
        have hend := wend h hgq hDX hGX hWX hMX hgeX (er := er) (er != 0) (bne_dec er)
        have ce9b : (XX.setCell ⟨g, 10, none⟩ (.bool (er != 0))).cell? ⟨w.heap.size + 1, 0, none⟩ = some (.int .i64 er) := (World.cell?_setCell_other _ _ _ _ (fun e => by injection e with e1; omega)).trans ce9
        have HEnd := Lib.hid (And.intro hend.1 (And.intro hend.2 (And.intro hndX hfinX)))
        clear hend hDX hGX hWX hQX hEX hMX hgeX hfinX
        rw [show outE (some 0) = Exit.exit 0 from rfl]
        go_wp2
        rw [Exit.noGoto_ret]
        refine marks_all (v := .int .i64 er) (by intro w0; rw [results_tmp (t := 4) rfl]; rfl) (W.heap.size :: ds) _ HEnd.out.2.2.1 HEnd.out.1 (fun w' h1 h2 h3 h4 h5 => ?_)
        have h9 := HEnd.out.2.1 w' h1 h2 h3 h4 h5
        rw [HEnd.out.2.2.2]
        exact ⟨rfl, h9⟩
    · obtain ⟨v10, c10⟩ : ∃ v10, W.cell? ⟨g, 10, none⟩ = some v10 := ⟨_, (hwW.cell 10).trans (Array.getElem?_eq_getElem (by rw [hws]; decide))⟩
      have f10 : W.frozen? ⟨g, 10, none⟩ = false := hwW.free 10
      have cq9 : W.cell? ⟨w.heap.size, 0, none⟩ = some (.pointer (some ⟨g, 0, none⟩)) := hbq.cell 0
      have ce9 : W.cell? ⟨w.heap.size + 1, 0, none⟩ = some (.int .i64 0) := hbe.cell 0
      have hend := wend h hgq hDk hGk hwW (fun d hd => (hds d hd).2) (fun d hd => (hds d hd).1) (er := 0) false rfl
      have ce9b : (W.setCell ⟨g, 10, none⟩ (.bool false)).cell? ⟨w.heap.size + 1, 0, none⟩ = some (.int .i64 0) := (World.cell?_setCell_other _ _ _ _ (fun e => by injection e with e1; omega)).trans ce9
      have hfin : errsOf D rows = ((errsOf D (rows.take k)).1, 0) := by
        have hkn : k = n := by omega
        rw [hkn, List.take_of_length_le (by rw [HN.out]; omega)] at hok ⊢
        rw [← hok]
      have HEnd := Lib.hid (And.intro hend.1 (And.intro hend.2 (And.intro hnd hfin)))
      have hnlt : ¬ (k : Int) < (n : Int) := by omega
      clear hend hDk hGk hbq hbe hds hfin hok hwW hrW hlt hW1 hW2 ce fe hr hw hT
      go_wp2
      refine marks_all (v := .int .i64 0) (by intro w0; rw [results_tmp (t := 4) rfl]; rfl) ds _ HEnd.out.2.2.1 HEnd.out.1 (fun w' h1 h2 h3 h4 h5 => ?_)
      have h9 := HEnd.out.2.1 w' h1 h2 h3 h4 h5
      rw [HEnd.out.2.2.2]
      exact ⟨rfl, h9⟩
end Go.Proofs.Ytelpihlifdfgoaa
namespace Go.Proofs.Ytelpihlifdfgoaa
open Go.RowKit Go.Shelf
set_option linter.unusedVariables false

def fillR (first size : Nat) (b : Bk) (rb bb : Nat) : RowW := ⟨63, #[.pointer (some ⟨rb, 0, none⟩), .pointer (some ⟨bb, 0, none⟩)], size, fun k => (first + k, b)⟩
def frameR (first t n : Nat) (l : List Nat) (fb ib : Nat) : RowW := ⟨64, #[.pointer (some ⟨fb, 0, none⟩), .pointer (some ⟨ib, 0, none⟩)], secN l.length, fun k => (first + k, (partAt t n l k).blk)⟩

theorem told_filled {w : World} {rb bb first size : Nat} {b : Bk} (hr : Blk w rb 64 (rgs first size)) (hb : Blk w bb 81 b.cs) (hm : first + size ≤ 9223372036854775807) : Told [rb, bb] (fillR first size b rb bb) w :=
  ⟨enters_of Try.func63 (by kernel_rfl) rfl, fun c hc => by
    simp only [List.mem_cons, List.not_mem_nil, or_false] at hc
    rcases hc with rfl | rfl
    · exact hr.lt
    · exact hb.lt, fun S W hk hC hS => filled_tells (hk.blk hr (hC _ (by simp)) (by decide)) (hk.blk hb (hC _ (by simp)) (by decide)) (hC _ (by simp)) (hC _ (by simp)) hm⟩

/-- Bytes that no disk's buffer holds. -/
def Safe (w : World) (a : Option Addr) : Prop := ∀ x, a = some x → ∃ o, w.heap[x.block]? = some o ∧ notRow o = true
theorem told_rows {w : World} {fb ib first t n : Nat} {a : Option Addr} {len cap : Nat} {l : List Nat} (hl : l.length = len) (hlm : len ≤ 40000) (hc : len ≤ cap) (hB : Bys l) (ht : t ≤ 4294967295) (hn : n ≤ 4294967295)
    (hb : Blk w fb 105 (fcs t n a len cap)) (hi : Blk w ib 3 #[.int .i64 (first : Int)]) (hL : Lies w a l) (hs : Safe w a) (hm : first + 834 ≤ 9223372036854775807) : Told (fb :: ib :: (a.map (·.block)).toList) (frameR first t n l fb ib) w := by
  refine ⟨enters_of Try.func64 (by kernel_rfl) rfl, fun c hc => ?_, fun S W hk hC hS => ?_⟩
  · simp only [List.mem_cons, Option.mem_toList] at hc
    rcases hc with rfl | rfl | hc
    · exact hb.lt
    · exact hi.lt
    · obtain ⟨x, hx, rfl⟩ := Option.map_eq_some_iff.1 hc
      obtain ⟨o, ho, _⟩ := hs x hx
      exact (Array.getElem?_eq_some_iff.1 ho).1
  · have hL2 : Lies W a l := by
      rcases hL with h9 | ⟨b, off, rfl, hb9, hc9⟩
      · exact .inl h9
      · obtain ⟨o, h2, h3⟩ := hs _ rfl
        have hs9 : W.heap[b]? = w.heap[b]? := (hk.same _ _ (hC _ (by simp)) h2 h3).trans h2.symm
        refine .inr ⟨b, off, rfl, (cell_block_lt hs9 hb9), fun i hi => ?_⟩
        rw [← hc9 i hi]
        simp only [World.cell?, hs9]
    have h9 := rows_tells (S := S) hl hlm hc hB ht hn (hk.blk hb (hC _ (by simp)) (by decide)) (hk.blk hi (hC _ (by simp)) (by decide)) hL2 (hC _ (by simp)) (hC _ (by simp)) (fun x hx => by
      obtain ⟨o, h2, h3⟩ := hs x hx
      have hn9 := hC x.block (by simp [hx])
      exact ⟨hn9, o, hk.same _ _ hn9 h2 h3, h3⟩) hS hm
    unfold frameR
    simp only [hl]
    exact h9

set_option maxHeartbeats 400000 in
theorem filled_any (first size : Nat) (b : Bk) (w : World) : Calls Try.prog 47 #[.agg (rgs first size), .agg b.cs] w fun e w' =>
    e = .returned (fillR first size b w.heap.size (w.heap.size + 1)).val ∧ Blk w' w.heap.size 64 (rgs first size) ∧ Blk w' (w.heap.size + 1) 81 b.cs ∧ Below w.heap.size w w' := by
  have hmf : ∀ (fn : Fn) (first cap : Array Value) (w : World), (Instr.makeFunc fn first cap).run Try.prog w = .ok (.func fn first cap) w := fun _ _ _ _ => rfl
  have h1 := (Blk.new w 64 (rgs first size)).alloc (.cells b.cs 81)
  have h2 := Blk.wnew2 w (.cells (rgs first size) 64) 81 b.cs
  have h3 : Below w.heap.size w ((w.alloc (.cells (rgs first size) 64)).alloc (.cells b.cs 81)) := ((Below.refl _ _).alloc (Nat.le_refl _) _).alloc (by simp) _
  have H := Lib.hid (And.intro h1 (And.intro h2 h3))
  clear h1 h2 h3
  unfold fillR RowW.val
  generalize rgs first size = rc at *
  generalize b.cs = bc at *
  go_enter Try.func47, Try.ntmps47
  go_wp2
  go_ret
  exact ⟨rfl, H.out⟩
set_option maxHeartbeats 400000 in
theorem rows_of (first t n : Nat) (a : Option Addr) (len cap : Nat) (l : List Nat) (w : World) : Calls Try.prog 48 #[.agg (fcs t n a len cap), .int .i64 (first : Int)] w fun e w' =>
    e = .returned (frameR first t n l w.heap.size (w.heap.size + 1)).val ∧ Blk w' w.heap.size 105 (fcs t n a len cap) ∧ Blk w' (w.heap.size + 1) 3 #[.int .i64 (first : Int)] ∧ Below w.heap.size w w' := by
  have hmf : ∀ (fn : Fn) (first cap : Array Value) (w : World), (Instr.makeFunc fn first cap).run Try.prog w = .ok (.func fn first cap) w := fun _ _ _ _ => rfl
  have h1 := (Blk.new w 105 (fcs t n a len cap)).alloc (.cells #[.int .i64 (first : Int)] 3)
  have h2 := Blk.wnew2 w (.cells (fcs t n a len cap) 105) 3 #[.int .i64 (first : Int)]
  have h3 : Below w.heap.size w ((w.alloc (.cells (fcs t n a len cap) 105)).alloc (.cells #[.int .i64 (first : Int)] 3)) := ((Below.refl _ _).alloc (Nat.le_refl _) _).alloc (by simp) _
  have H := Lib.hid (And.intro h1 (And.intro h2 h3))
  clear h1 h2 h3
  unfold frameR RowW.val
  generalize fcs t n a len cap = rc at *
  go_enter Try.func48, Try.ntmps48
  go_wp2
  go_ret
  exact ⟨rfl, H.out⟩

/-! ### areasOf, mayBe -/
def areas (n : Nat) : Array Value := #[.int .i64 2, .int .i64 (n : Int), .int .i64 ((2 : Int) + (n : Int)), .int .i64 (n : Int)]
set_option maxHeartbeats 400000 in
theorem areas_any (n : Nat) (hn : n ≤ 1000) (w : World) : Calls Try.prog 39 #[.int .i64 (n : Int)] w fun e w' => e = .returned (.agg (areas n)) ∧ Below w.heap.size w w' := by
  go_enter Try.func39, Try.ntmps39
  go_wp2
  refine bodyPost_ret (results_cell_row rfl _ _ w.heap.size 65 _ (0, 0) _ rfl (Blk.new _ _ _) Try.underlying65 rfl (by kernel_rfl)) rfl ?_
  exact ⟨rfl, (Below.refl _ _).alloc (Nat.le_refl _) _⟩
def mayB (n : Int) (len : Nat) : Bool := decide (4 ≤ n) && (decide (n ≤ 1000) && decide (2 + 2 * n ≤ (len : Int)))
set_option maxHeartbeats 400000 in
theorem mayBe_any {w : World} {B p pb : Nat} {bv : Value} {D : Dk} (h : Dsk w B p pb bv D) (n : Int) : Calls Try.prog 45 #[.int .i64 n, .pointer (some ⟨p, 0, none⟩)] w fun e w' => e = .returned (.bool (mayB n D.plate.length)) ∧ w = w' := by
  have hl := len_any h
  have hp := h.ok.max
  clear h
  generalize D.plate.length = L at *
  unfold mayB
  by_cases h1 : 4 ≤ n
  · by_cases h2 : n ≤ 1000
    · go_enter Try.func45, Try.ntmps45
      go_wp2_with fail
      refine hl.mono ?_
      rintro e w' ⟨rfl, rfl⟩
      go_wp2
      go_ret
      exact ⟨by simp [h1, h2], rfl⟩
    · go_enter Try.func45, Try.ntmps45
      go_wp2
      go_ret
      exact ⟨by rw [decide_eq_false (show ¬ n ≤ 1000 by omega), Bool.false_and]; rfl, rfl⟩
  · go_enter Try.func45, Try.ntmps45
    go_wp2
    go_ret
    exact ⟨by rw [decide_eq_false (show ¬ 4 ≤ n by omega), Bool.false_and]; rfl, rfl⟩
end Go.Proofs.Ytelpihlifdfgoaa
