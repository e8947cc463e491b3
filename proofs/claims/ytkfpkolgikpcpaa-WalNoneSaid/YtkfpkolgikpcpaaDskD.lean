/-
  A range over a disk's rows as one law; the contract of disk's shows. Nothing here is a statement of the document.
-/
import Derived.Test.YtkfpkolgikpcpaaDskC
import Derived.RegionTactic
import Derived.BigRegion
import Derived.Shelf.Abstract
namespace Go.Proofs.Ytkfpkolgikpcpaa
open Go.RowKit Go.Shelf
set_option linter.unusedVariables false

/-! ### What speaks of cells alone -/
theorem own_blk {β : Type} (B g : Nat) (t : TypeId) (f : β → Array Value) : OwnFrom B (fun s W => Blk W g t (f s)) := fun s X Y row hs hg hrow =>
  (hg.block g hs.lt (fun e => by
    obtain ⟨_, o, ho, hc⟩ := hrow g e.symm
    rw [show X.heap[g]? = _ from hs] at ho; cases ho; cases hc)).trans hs
theorem own_dsk {β : Type} (B' B p pb : Nat) (bv : Value) (f : β → Dk) : OwnFrom B' (fun s W => Dsk W B p pb bv (f s)) := fun s X Y row hs hg hrow =>
  hs.apart (S := row.toList) ⟨hg.os, hg.tape, hg.output, hg.size, fun k hk hn => hg.block k hk (fun e => hn (by simp [← e]))⟩ (by
    intro i hi hm
    obtain ⟨_, o, ho, hc⟩ := hrow i (by simpa using hi)
    simp only [fp, List.mem_cons, Option.mem_toList] at hm
    rcases hm with rfl | rfl | hm
    · rw [show X.heap[i]? = _ from hs.cells] at ho; cases ho; cases hc
    · rw [show X.heap[i]? = _ from hs.plate] at ho; cases ho; cases hc
    · rcases hs.buf.2 with ⟨rfl, _⟩ | ⟨g, cap, cur, rfl, _, hg', _⟩
      · simp [Value.ownBlock] at hm
      · obtain rfl : g = i := by simpa [Value.ownBlock] using hm
        rw [hg'] at ho; cases ho; cases hc)
theorem own_kept {β : Type} {B : Nat} (S : List Nat) {w0 : World} (h : w0.heap.size ≤ B) : OwnFrom B (fun (_ : β) W => Kept S w0 W) := fun s X Y row hs hg hrow =>
  hs.grown hg (fun k e => .inr (Nat.le_trans h (hrow k e).1))
theorem KeepsFrom.row {B : Nat} {W : World} {g : Nat} (h : g < B) (cs : Array Value) : KeepsFrom B W (W.setRow g cs) :=
  KeepsFrom.of_grownBy (row := some g) ⟨rfl, rfl, rfl, by simp, fun k _ hk => setRow_other W g k cs (fun e => hk (by rw [e]))⟩ (fun j e => by cases e; exact h)
theorem KeepsFrom.kept {B : Nat} {W W' : World} {S : List Nat} (h : Kept S W W') (hS : ∀ k ∈ S, k < B) : KeepsFrom B W W' :=
  ⟨h.size, fun k o hB hk ho => (h.block k (Array.getElem?_eq_some_iff.1 hk).1 (fun hm => by have := hS k hm; omega)).trans hk⟩
theorem SameBuf.kept {bv : Value} {W W' : World} {S : List Nat} (h : Kept S W W') (hb : ∀ k, bv.ownBlock = some k → k < W.heap.size ∧ k ∉ S) : SameBuf bv W W' := fun k hk => h.block k (hb k hk).1 (hb k hk).2

/-- A range over a disk's rows. -/
theorem wp_range_rows {g : Operand} {p0 p1 : Tmp} {assign body : Code} {Q : Exit → Act → World → Prop} {a : Act} {w : World} {B p pb Bs : Nat} {bv : Value} {D : Dk}
    (hD : Dsk w B p pb bv D) (hBs : w.cell? ⟨Bs, 0, none⟩ = some (.pointer (some ⟨p, 0, none⟩)))
    (hg : a.eval g = .func (.func 70) #[] #[.pointer (some ⟨Bs, 0, none⟩)])
    (I : List (RowAt D.rows) → World → Prop) (Ix : Code → List (RowAt D.rows) → World → Prop) (hI : OwnFrom w.heap.size I) (hIx : ∀ c, OwnFrom w.heap.size (Ix c)) (h0 : I [] w)
    (Ax : RowAt D.rows → Act → World → Prop) (hAx : ∀ x a', OwnFrom w.heap.size (fun (_ : Unit) W => Ax x a' W))
    (hassign : ∀ (l : Nat) (pre : List (RowAt D.rows)) (x : RowAt D.rows) (W : World) (K : Act → World → Prop), I pre W → (∀ a' W', KeepsFrom w.heap.size W W' → SameBuf bv W W' → I pre W' → Ax x a' W' → K a' W') →
      assign.wpIn (Fence.wide.inRound l) 8 Try.prog (Exit.then K (fun _ _ _ => False)) { tmps := (a.tmps.setIfInBounds p0 (.int .i64 (x.1.1 : Int))).setIfInBounds p1 (.agg x.1.2.cs), defers := [] } W)
    (hbody : ∀ (l : Nat) (pre : List (RowAt D.rows)) (x : RowAt D.rows) (a' : Act) (W : World), w.heap.size ≤ l → (∃ r, W.heap[l]? = some (.loop r)) → I pre W → Ax x a' W → pre.length < D.rows.length →
      body.wpIn (Fence.wide.inRound l) 8 Try.prog (ownPostG w.heap.size (SameBuf bv) I Ix (pre ++ [x]) W) a' W)
    (hdone : ∀ (d : Nat) (W : World), w.heap.size ≤ d → I (upTo D.rows D.rows.length) W → W.heap[d]? = some (.deferred (some [])) → Q .normal { a with defers := { target := .collected d, args := #[] } :: a.defers } W)
    (hstop : ∀ (d : Nat) (c : Code) (k : Nat) (W : World), w.heap.size ≤ d → k < D.rows.length → Ix c (upTo D.rows (k + 1)) W → W.heap[d]? = some (.deferred (some [])) → c.wp Try.prog Q { a with defers := { target := .collected d, args := #[] } :: a.defers } W) :
    (Code.rangeFunc g #[p0, p1] assign body).wp Try.prog Q a w := by
  refine (wpIn_wide (n := 10)).1 ?_
  refine wpIn_rangeFunc_ownH (F := Fence.wide) (n := 10) rfl (by omega) hg trivial (enters_of Try.func70 (by kernel_rfl) rfl) (rows1_stops hD hBs) same_t (same_b (fun k hk => (hD.far k hk).2.2.2)) (Below.refl _ _) (fun _ => rfl)
    I Ix hI hIx h0 Ax hAx (fun l pre x W K h1 h2 => by simpa [encR] using hassign l pre x W K h1 h2) hbody ?_ ?_
  · rintro d xs W hd rfl hi hk
    exact hdone d W hd hi hk
  · rintro d c pre W hd ⟨k, hk, rfl⟩ hi hK
    exact wpIn_wide.2 (hstop d c k W hd hk hi hK)

/-- A function whose body holds a range over a function: its contract out of its body's walk. -/
theorem calls_of_wp_marks {f : FuncId} {fn : Func} {c : Code} {args : Array Value} {w : World} {R : Ending → World → Prop}
    (hf : Try.prog.funcs[f]? = some fn) (hb : fn.body = some c)
    (h : c.wp Try.prog (bodyPostM Fence.wide 10 Try.prog fn R) { tmps := args ++ Array.replicate (fn.ntmps - args.size) undef, defers := [] } w) : Calls Try.prog f args w R :=
  (callsIn_wide (n := 10)).1 (callsIn_of_wp_marks hf hb trivial (wpIn_wide.2 h) rfl)
/-- Where such a function returns. -/
theorem marks_ret {fn : Func} {R : Ending → World → Prop} {tmps : Array Value} {w : World} {d : Nat} {v : Value} (hd : w.heap[d]? = some (.deferred (some []))) (hr : (results fn tmps).run Try.prog (w.putObj d (.deferred none)) = .ok v (w.putObj d (.deferred none))) (h : R (.returned v) (w.putObj d (.deferred none))) :
    bodyPostM Fence.wide 10 Try.prog fn R .ret { tmps := tmps, defers := [{ target := .collected d, args := #[] }] } w :=
  ⟨by simp, .inl ⟨_, _, rfl, run_takeDeferred hd, ⟨_, hr, h⟩⟩⟩
theorem put_kept {S : List Nat} {w0 w : World} {d : Nat} {o o' : Obj} (h : Kept S w0 w) (hd : w.heap[d]? = some o) (hl : w0.heap.size ≤ d) : Kept S w0 (w.putObj d o') :=
  h.grown (grownBy_putObj' w d o') (fun k e => by cases e; exact .inr hl)

theorem rows_some (p : Option Addr) (w : World) :
    Calls Try.prog 52 #[.pointer p] w fun e w' => e = .returned (.func (.func 70) #[] #[.pointer (some ⟨w.heap.size, 0, none⟩)]) ∧
      Blk w' w.heap.size 37 #[.pointer p] ∧ Kept [] w w' ∧ w'.heap.size = w.heap.size + 1 :=
  (rows_any p w).mono fun e w' ⟨he, hw⟩ => by subst hw; exact ⟨he, Blk.new _ _ _, (Kept.refl _ _).alloc _, by simp⟩

/-! ### shows -/
/-- What a sector shows. -/
def showsM (D : Dk) (i : Nat) : Bk := match D.rows.find? (fun r => r.s == i) with | some r => r.b | none => D.plate.getD i Bk.zero

theorem blk_put {w : World} {g d : Nat} {t : TypeId} {cs : Array Value} {o o' : Obj} (h : Blk w g t cs) (hd : w.heap[d]? = some o) (hc : o.isCells = false) : Blk (w.putObj d o') g t cs :=
  ((grownBy_putObj' w d o').block g h.lt (fun e => by
    cases e
    rw [show w.heap[g]? = _ from h] at hd; cases hd; cases hc)).trans h
theorem showsM_plate {D : Dk} {i : Nat} (hi : i < D.plate.length) (h : ∀ r ∈ D.rows, r.s ≠ i) : D.plate[i]? = some (showsM D i) := by
  unfold showsM
  rw [List.find?_eq_none.2 (fun r hr => by have := h r hr; simpa using this)]
  simp [List.getElem?_eq_getElem hi]
theorem showsM_row {D : Dk} {i k : Nat} (hk : k < D.rows.length) (h : ∀ j (hj : j < k), (D.rows[j]'(by omega)).s ≠ i) (he : D.rows[k].s = i) : showsM D i = D.rows[k].b := by
  unfold showsM
  have e : D.rows.find? (fun r => r.s == i) = some D.rows[k] := by
    rw [List.find?_eq_some_iff_getElem]
    exact ⟨by simpa using he, k, hk, rfl, fun j hj => by have := h j hj; simpa using this⟩
  rw [e]
attribute [local go_sem] Oper.semAt_some
attribute [local go_sem ↓] load_blk_rule store_blk_rule

set_option maxRecDepth 100000 in
set_option maxHeartbeats 1000000 in
theorem shows_any {w : World} {B p pb : Nat} {bv : Value} {D : Dk} (h : Dsk w B p pb bv D) (i : Nat) (hi : i < D.plate.length) :
    Calls Try.prog 84 #[.pointer (some ⟨p, 0, none⟩), .int .i64 (i : Int)] w fun e w' => e = .returned (.agg (showsM D i).cs) ∧ Below w.heap.size w w' := by
  have b1 := Blk.new w 3 #[.int .i64 (i : Int)]
  have b2 := Blk.new (w.alloc (.cells #[.int .i64 (i : Int)] 3)) 77 Bk.zero.cs
  have hk := ((Kept.refl [] w).alloc (.cells #[.int .i64 (i : Int)] 3)).alloc (.cells Bk.zero.cs 77)
  have h2 := (h.alloc (.cells #[.int .i64 (i : Int)] 3)).alloc (.cells Bk.zero.cs 77)
  have hsz : ((w.alloc (.cells #[.int .i64 (i : Int)] 3)).alloc (.cells Bk.zero.cs 77)).heap.size = w.heap.size + 2 := by simp
  have b1 := b1.alloc (.cells Bk.zero.cs 77)
  refine calls_of_wp_marks Try.func84 rfl ?_
  simp only [Try.ntmps84, List.size_toArray, List.length_cons, List.length_nil, Nat.reduceAdd, Nat.reduceSub, Array.replicate_succ, Array.replicate_zero, List.push_toArray, List.append_toArray, List.nil_append, List.cons_append]
  go_wp2_with (first | (with_reducible refine wpList_alloc_z rfl 77 rfl Bk.zero.cs 64 z_blk ?_))
  refine (rows_some _ _).mono ?_
  rintro e W0 ⟨rfl, b3, hk3, hs3⟩
  rw [World.size_alloc] at b2
  rw [hsz] at b3 hs3
  have b1 := b1.kept hk3 (by simp)
  have b2 := b2.kept hk3 (by simp)
  have h3 := h2.apart hk3 (by simp)
  have hk0 := hk.trans hk3
  clear h2 hk hsz hk3
  have hlt := h.lt
  go_wp2_with fail
  refine wp_range_rows h3 (b3.cell 0) rfl
    (fun pre W => ((∀ x ∈ pre, x.1.2.s ≠ i) ∧ Blk W w.heap.size 3 #[.int .i64 (i : Int)] ∧ Blk W (w.heap.size + 1) 77 Bk.zero.cs ∧ Dsk W B p pb bv D) ∧ Kept [] w W)
    (fun c pre W => (c = .ret ∧ ∃ ini x, pre = ini ++ [x] ∧ (∀ y ∈ ini, y.1.2.s ≠ i) ∧ x.1.2.s = i ∧ Blk W (w.heap.size + 1) 77 x.1.2.b.cs) ∧ Kept [] w W)
    ?hI ?hIx ⟨⟨by simp, b1, b2, h3⟩, hk0⟩
    (fun x a' W => ∃ Bx, Blk W Bx 108 x.1.2.cs ∧ a' = { tmps := #[.pointer (some ⟨p, 0, none⟩), .int .i64 (i : Int), undef, .pointer (some ⟨w.heap.size, 0, none⟩), .pointer (some ⟨w.heap.size + 1, 0, none⟩), undef, .pointer (some ⟨Bx, 0, none⟩), .pointer (some ⟨p, 0, none⟩), .func (.func 70) #[] #[.pointer (some ⟨w.heap.size + 2, 0, none⟩)], .int .i64 (x.1.1 : Int), .agg x.1.2.cs, undef, undef, undef, undef, undef, undef, undef, undef, undef, undef, undef, undef, undef], defers := [] })
    ?hAx ?assign ?body ?done ?stop
  case hI => exact OwnFrom.and (OwnFrom.and (ownFrom_pure _ _) (OwnFrom.and (own_blk _ _ _ _) (OwnFrom.and (own_blk _ _ _ _) (own_dsk _ _ _ _ _ (fun _ => D))))) (own_kept _ (by omega))
  case hIx => exact fun c => OwnFrom.and (fun s X Y row hs hg hr => by obtain ⟨hc, ini, x, e1, e2, e3, e4⟩ := hs; exact ⟨hc, ini, x, e1, e2, e3, own_blk (β := Unit) _ _ _ (fun _ => x.1.2.b.cs) () X Y row e4 hg hr⟩) (own_kept _ (by omega))
  case hAx => exact fun x a' s X Y row hs hg hr => by obtain ⟨Bx, e1, e2⟩ := hs; exact ⟨Bx, own_blk (β := Unit) _ _ _ (fun _ => x.1.2.cs) () X Y row e1 hg hr, e2⟩
  case assign =>
    intro l pre x W K hi2 hK
    have hz : Rw.zero.cs.size = x.1.2.cs.size := by rw [Rw.size, Rw.size]
    have HZ := Lib.hid hz
    clear hz
    gi_wp2_with (first | (with_reducible refine wpListIn_alloc_z rfl 108 rfl Rw.zero.cs 65 z_row ?_) | (with_reducible refine wpListIn_store_new rfl 108 (.tmp 6) (.tmp 10) rfl x.1.2.cs Rw.zero.cs _ rfl rfl HZ.out (s_row _) (Rw.one _) ?_))
    have hB : Below W.heap.size W (W.alloc (.cells x.1.2.cs 108)) := (Below.refl _ _).alloc (Nat.le_refl _) _
    exact hK _ _ ((KeepsOthers.alloc _ _).from _) (SameBuf.kept (Kept.of_below [] hB) (fun k hk => ⟨(hi2.1.2.2.2.far k hk).2.2.2, by simp⟩)) ⟨⟨hi2.1.1, hi2.1.2.1.alloc _, hi2.1.2.2.1.alloc _, hi2.1.2.2.2.alloc _⟩, hi2.2.alloc _⟩ ⟨_, Blk.new _ _ _, rfl⟩
  case body =>
    rintro l pre x a' W hl hr ⟨⟨hp, d1, d2, dD⟩, dk⟩ ⟨Bx, dx, rfl⟩ hlen
    have cx : W.cell? ⟨Bx, 0, none⟩ = some (.int .i64 (x.1.2.s : Int)) := by rw [dx.cell]; exact x.1.2.cell0
    have ci : W.cell? ⟨w.heap.size, 0, none⟩ = some (.int .i64 (i : Int)) := d1.cell 0
    by_cases e : x.1.2.s = i
    · have hb : ((x.1.2.s : Int) == (i : Int)) = true := by simp [e]
      have E := Lib.hid e
      have hv : ∀ j, j < x.1.2.b.cs.size → x.1.2.cs[1 + j]? = x.1.2.b.cs[j]? := fun j _ => x.1.2.cell1 j
      have HV := Lib.hid hv
      have hfit : 0 + x.1.2.b.cs.size ≤ Bk.zero.cs.size := by rw [Bk.size, Bk.size]; omega
      have ho := over_all (C := Bk.zero.cs) (vs := x.1.2.b.cs) (by rw [Bk.size, Bk.size])
      have HO := Lib.hid ho
      clear e hv ho hr
      gi_wp2_with (first | (with_reducible refine wpListIn_load_blk rfl 77 (.tmp 15) rfl Bx 1 rfl x.1.2.b.cs x.1.2.cs _ dx HV.out _ Try.underlying77 rfl (s_blk _) ?_) | (with_reducible refine wpListIn_store_blk rfl 77 (.tmp 4) (.tmp 16) rfl (w.heap.size + 1) 0 x.1.2.b.cs Bk.zero.cs _ rfl rfl d2 hfit (s_blk _) (Bk.one _) ?_))
      rw [HO.out]
      exact ⟨KeepsFrom.row (by omega) _, ⟨rfl, pre, x, rfl, hp, E.out, d2.row _⟩, dk.setRow (.inr (by omega)) _⟩
    · have hb : ((x.1.2.s : Int) == (i : Int)) = false := by rw [beq_eq_false_iff_ne]; omega
      have E := Lib.hid e
      clear e hr
      gi_wp2
      exact ⟨KeepsFrom.refl _ _, SameBuf.refl _ _, ⟨fun y hy => (List.mem_append.1 hy).elim (hp y) (fun e2 => by simp at e2; subst e2; exact E.out), d1, d2, dD⟩, dk⟩
  case done =>
    rintro d W hd ⟨⟨hp, d1, d2, dD⟩, dk⟩ hdef
    have hget : D.plate[i]? = some (showsM D i) := showsM_plate hi (fun r hr => by
      obtain ⟨k, hk, rfl⟩ := List.mem_iff_getElem.1 hr
      exact hp (rowAt D.rows ⟨k, hk⟩) (List.mem_map.2 ⟨⟨k, hk⟩, by rw [List.take_of_length_le (by simp)]; exact List.mem_finRange _, rfl⟩))
    generalize hgb : showsM D i = b at *
    have HB := Lib.hid hgb
    clear hgb
    have hv : ∀ j, j < b.cs.size → (pcs D.plate).toArray[i * 64 + j]? = b.cs[j]? := fun j hj => by
      rw [Bk.size] at hj
      rw [List.getElem?_toArray, pcs_get hget hj]
    clear hget
    have c0 := dD.c0
    have ci : W.cell? ⟨w.heap.size, 0, none⟩ = some (.int .i64 (i : Int)) := d1.cell 0
    have L : (loadSem 77 (.pointer (some ⟨pb, i * 64, none⟩))).run Try.prog W.drew = .ok (.agg b.cs) W.drew := loadRes_of (w := W.drew) dD.plate hv _ Try.underlying77 rfl (s_blk b)
    have S : (storeSem 77 (.pointer (some ⟨w.heap.size + 1, 0, none⟩)) (.agg b.cs)).run Try.prog W.drew = .ok () (W.drew.setRow (w.heap.size + 1) (over Bk.zero.cs 0 b.cs)) := storeRes_of (w := W.drew) d2 (by rw [Bk.size, Bk.size]; omega) (s_blk b) b.one
    rw [over_all (C := Bk.zero.cs) (vs := b.cs) (by rw [Bk.size, Bk.size])] at S
    have hil : (i : Int) < (D.plate.length : Int) := by omega
    have hbe : Blk (W.drew.setRow (w.heap.size + 1) b.cs) (w.heap.size + 1) 77 b.cs := (show Blk W.drew _ _ _ from d2).row _
    have hdef2 : (W.drew.setRow (w.heap.size + 1) b.cs).heap[d]? = some (.deferred (some [])) := (setRow_other W.drew (w.heap.size + 1) d _ (by omega)).trans hdef
    have hk2 : Kept [] w (W.drew.setRow (w.heap.size + 1) b.cs) := dk.drew.setRow (.inr (by omega)) _
    clear hv hp
    go_wp2
    go_region
    go_wp2
    have hbp := blk_put (o' := .deferred none) hbe hdef2 rfl
    refine marks_ret hdef2 (results_cell_row rfl _ _ (w.heap.size + 1) 77 b.cs (0, 0) _ rfl hbp Try.underlying77 rfl (s_blk b)) ⟨by rw [HB.out], ?_⟩
    exact (put_kept hk2 hdef2 (by omega)).below (by simp) (Nat.le_refl _)
  case stop =>
    rintro d c k W hd hk2 ⟨⟨rfl, ini, x, e1, e2, e3, d2⟩, dk⟩ hdef
    have hx : x = rowAt D.rows ⟨k, hk2⟩ ∧ ini = upTo D.rows k := by
      rw [upTo_succ (k := k) (rowAt D.rows ⟨k, hk2⟩) rfl] at e1
      obtain ⟨h1, h2⟩ := List.append_inj' e1 rfl
      have h3 : rowAt D.rows ⟨k, hk2⟩ = x := by simpa using h2
      exact ⟨h3.symm, h1.symm⟩
    obtain ⟨rfl, rfl⟩ := hx
    have hm : showsM D i = (rowAt D.rows ⟨k, hk2⟩).1.2.b := showsM_row hk2 (fun j hj => by
      have hin : rowAt D.rows ⟨j, by omega⟩ ∈ upTo D.rows k := List.mem_map.2 ⟨⟨j, by omega⟩, by
        rw [List.mem_iff_getElem]
        exact ⟨j, by simp; omega, by simp⟩, rfl⟩
      exact e2 _ hin) e3
    rw [← hm] at d2
    have hbp := blk_put (o' := .deferred none) d2 hdef rfl
    clear hm e1 e2 e3
    go_wp2
    refine marks_ret hdef (results_cell_row rfl _ _ (w.heap.size + 1) 77 (showsM D i).cs (0, 0) _ rfl hbp Try.underlying77 rfl (s_blk _)) ⟨rfl, ?_⟩
    exact (put_kept dk hdef (by omega)).below (by simp) (Nat.le_refl _)
end Go.Proofs.Ytkfpkolgikpcpaa
