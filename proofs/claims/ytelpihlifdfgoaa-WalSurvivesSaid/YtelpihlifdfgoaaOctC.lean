/-
  The contracts of octet's reader: Read, Err, Left, next. Nothing here is a statement of the document.
-/
import Derived.Test.YtelpihlifdfgoaaDskC
import Derived.RegionTactic
import Derived.BigRegion
import Derived.Shelf.Abstract
import Derived.Deep.RegionLaw
import Derived.Deep.RegionLawGrows
import Derived.Lib.SliceRun
import Derived.Test.YtelpihlifdfgoaaRows
import Derived.WalkKit
import Derived.ProofKit
import Derived.Lib.Hide
import Derived.Outline
import Derived.Laws.BitsAllLaws
import Derived.Laws.CopyOwn
import Derived.OneCell
namespace Go.Proofs.Ytelpihlifdfgoaa
open Go.RowKit Go.Shelf
set_option linter.unusedVariables false

/-! ### What speaks of cells alone -/
theorem own_blk {β : Type} (B g : Nat) (t : TypeId) (f : β → Array Value) : OwnFrom B (fun s W => Blk W g t (f s)) := fun s X Y row hs hg hrow =>
  (hg.block g hs.lt (fun e => by
    obtain ⟨_, o, ho, hc⟩ := hrow g e.symm
    rw [show X.heap[g]? = _ from hs] at ho; cases ho; cases hc)).trans hs
theorem own_dsk {β : Type} (B' B p pb : Nat) (bv : Value) (f : β → Dk) : OwnFrom B' (fun s W => Dsk W B p pb bv (f s)) := fun s X Y row hs hg hrow =>
  hs.apart (S := row.toList) ⟨hg.os, hg.tape, hg.output, hg.size, fun k hk hn => hg.block k hk (fun e => hn (by simp [← e]))⟩ (by
    intro i hi hm
    obtain ⟨_, o, ho, hc⟩ := hrow i (by simpa using hi)
    simp only [fp, List.mem_cons, Option.mem_toList] at hm
    rcases hm with rfl | rfl | hm
    · rw [show X.heap[i]? = _ from hs.cells] at ho; cases ho; cases hc
    · rw [show X.heap[i]? = _ from hs.plate] at ho; cases ho; cases hc
    · rcases hs.buf.2 with ⟨rfl, _⟩ | ⟨g, cap, cur, rfl, _, hg', _⟩
      · simp [Value.ownBlock] at hm
      · obtain rfl : g = i := by simpa [Value.ownBlock] using hm
        rw [hg'] at ho; cases ho; cases hc)
theorem own_kept {β : Type} {B : Nat} (S : List Nat) {w0 : World} (h : w0.heap.size ≤ B) : OwnFrom B (fun (_ : β) W => Kept S w0 W) := fun s X Y row hs hg hrow =>
  hs.grown hg (fun k e => .inr (Nat.le_trans h (hrow k e).1))
theorem KeepsFrom.row {B : Nat} {W : World} {g : Nat} (h : g < B) (cs : Array Value) : KeepsFrom B W (W.setRow g cs) :=
  KeepsFrom.of_grownBy (row := some g) ⟨rfl, rfl, rfl, by simp, fun k _ hk => setRow_other W g k cs (fun e => hk (by rw [e]))⟩ (fun j e => by cases e; exact h)
theorem KeepsFrom.kept {B : Nat} {W W' : World} {S : List Nat} (h : Kept S W W') (hS : ∀ k ∈ S, k < B) : KeepsFrom B W W' :=
  ⟨h.size, fun k o hB hk ho => (h.block k (Array.getElem?_eq_some_iff.1 hk).1 (fun hm => by have := hS k hm; omega)).trans hk⟩
theorem SameBuf.kept {bv : Value} {W W' : World} {S : List Nat} (h : Kept S W W') (hb : ∀ k, bv.ownBlock = some k → k < W.heap.size ∧ k ∉ S) : SameBuf bv W W' := fun k hk => h.block k (hb k hk).1 (hb k hk).2

/-- A range over a disk's rows. -/
theorem wp_range_rows {g : Operand} {p0 p1 : Tmp} {assign body : Code} {Q : Exit → Act → World → Prop} {a : Act} {w : World} {B p pb Bs : Nat} {bv : Value} {D : Dk}
    (hD : Dsk w B p pb bv D) (hBs : w.cell? ⟨Bs, 0, none⟩ = some (.pointer (some ⟨p, 0, none⟩)))
    (hg : a.eval g = .func (.func 53) #[] #[.pointer (some ⟨Bs, 0, none⟩)])
    (I : List (RowAt D.rows) → World → Prop) (Ix : Code → List (RowAt D.rows) → World → Prop) (hI : OwnFrom w.heap.size I) (hIx : ∀ c, OwnFrom w.heap.size (Ix c)) (h0 : I [] w)
    (Ax : RowAt D.rows → Act → World → Prop) (hAx : ∀ x a', OwnFrom w.heap.size (fun (_ : Unit) W => Ax x a' W))
    (hassign : ∀ (l : Nat) (pre : List (RowAt D.rows)) (x : RowAt D.rows) (W : World) (K : Act → World → Prop), I pre W → (∀ a' W', KeepsFrom w.heap.size W W' → SameBuf bv W W' → I pre W' → Ax x a' W' → K a' W') →
      assign.wpIn (Fence.wide.inRound l) 8 Try.prog (Exit.then K (fun _ _ _ => False)) { tmps := (a.tmps.setIfInBounds p0 (.int .i64 (x.1.1 : Int))).setIfInBounds p1 (.agg x.1.2.cs), defers := [] } W)
    (hbody : ∀ (l : Nat) (pre : List (RowAt D.rows)) (x : RowAt D.rows) (a' : Act) (W : World), w.heap.size ≤ l → (∃ r, W.heap[l]? = some (.loop r)) → I pre W → Ax x a' W → pre.length < D.rows.length →
      body.wpIn (Fence.wide.inRound l) 8 Try.prog (ownPostG w.heap.size (SameBuf bv) I Ix (pre ++ [x]) W) a' W)
    (hdone : ∀ (d : Nat) (W : World), w.heap.size ≤ d → I (upTo D.rows D.rows.length) W → W.heap[d]? = some (.deferred (some [])) → Q .normal { a with defers := { target := .collected d, args := #[] } :: a.defers } W)
    (hstop : ∀ (d : Nat) (c : Code) (k : Nat) (W : World), w.heap.size ≤ d → k < D.rows.length → Ix c (upTo D.rows (k + 1)) W → W.heap[d]? = some (.deferred (some [])) → c.wp Try.prog Q { a with defers := { target := .collected d, args := #[] } :: a.defers } W) :
    (Code.rangeFunc g #[p0, p1] assign body).wp Try.prog Q a w := by
  refine (wpIn_wide (n := 10)).1 ?_
  refine wpIn_rangeFunc_ownH (F := Fence.wide) (n := 10) rfl (by omega) hg trivial (enters_of Try.func53 (by kernel_rfl) rfl) (rows1_stops hD hBs) same_t (same_b (fun k hk => (hD.far k hk).2.2.2)) (Below.refl _ _) (fun _ => rfl)
    I Ix hI hIx h0 Ax hAx (fun l pre x W K h1 h2 => by simpa [encR] using hassign l pre x W K h1 h2) hbody ?_ ?_
  · rintro d xs W hd rfl hi hk
    exact hdone d W hd hi hk
  · rintro d c pre W hd ⟨k, hk, rfl⟩ hi hK
    exact wpIn_wide.2 (hstop d c k W hd hk hi hK)

/-- A function whose body holds a range over a function: its contract out of its body's walk. -/
theorem calls_of_wp_marks {f : FuncId} {fn : Func} {c : Code} {args : Array Value} {w : World} {R : Ending → World → Prop}
    (hf : Try.prog.funcs[f]? = some fn) (hb : fn.body = some c)
    (h : c.wp Try.prog (bodyPostM Fence.wide 10 Try.prog fn R) { tmps := args ++ Array.replicate (fn.ntmps - args.size) undef, defers := [] } w) : Calls Try.prog f args w R :=
  (callsIn_wide (n := 10)).1 (callsIn_of_wp_marks hf hb trivial (wpIn_wide.2 h) rfl)
/-- Where such a function returns. -/
theorem marks_ret {fn : Func} {R : Ending → World → Prop} {tmps : Array Value} {w : World} {d : Nat} {v : Value} (hd : w.heap[d]? = some (.deferred (some []))) (hr : (results fn tmps).run Try.prog (w.putObj d (.deferred none)) = .ok v (w.putObj d (.deferred none))) (h : R (.returned v) (w.putObj d (.deferred none))) :
    bodyPostM Fence.wide 10 Try.prog fn R .ret { tmps := tmps, defers := [{ target := .collected d, args := #[] }] } w :=
  ⟨by simp, .inl ⟨_, _, rfl, run_takeDeferred hd, ⟨_, hr, h⟩⟩⟩
theorem put_kept {S : List Nat} {w0 w : World} {d : Nat} {o o' : Obj} (h : Kept S w0 w) (hd : w.heap[d]? = some o) (hl : w0.heap.size ≤ d) : Kept S w0 (w.putObj d o') :=
  h.grown (grownBy_putObj' w d o') (fun k e => by cases e; exact .inr hl)

theorem rows_some (p : Option Addr) (w : World) :
    Calls Try.prog 34 #[.pointer p] w fun e w' => e = .returned (.func (.func 53) #[] #[.pointer (some ⟨w.heap.size, 0, none⟩)]) ∧
      Blk w' w.heap.size 27 #[.pointer p] ∧ Kept [] w w' ∧ w'.heap.size = w.heap.size + 1 :=
  (rows_any p w).mono fun e w' ⟨he, hw⟩ => by subst hw; exact ⟨he, Blk.new _ _ _, (Kept.refl _ _).alloc _, by simp⟩

/-! ### shows -/
/-- What a sector shows. -/
def showsM (D : Dk) (i : Nat) : Bk := match D.rows.find? (fun r => r.s == i) with | some r => r.b | none => D.plate.getD i Bk.zero

theorem blk_put {w : World} {g d : Nat} {t : TypeId} {cs : Array Value} {o o' : Obj} (h : Blk w g t cs) (hd : w.heap[d]? = some o) (hc : o.isCells = false) : Blk (w.putObj d o') g t cs :=
  ((grownBy_putObj' w d o').block g h.lt (fun e => by
    cases e
    rw [show w.heap[g]? = _ from h] at hd; cases hd; cases hc)).trans h
theorem showsM_plate {D : Dk} {i : Nat} (hi : i < D.plate.length) (h : ∀ r ∈ D.rows, r.s ≠ i) : D.plate[i]? = some (showsM D i) := by
  unfold showsM
  rw [List.find?_eq_none.2 (fun r hr => by have := h r hr; simpa using this)]
  simp [List.getElem?_eq_getElem hi]
theorem showsM_row {D : Dk} {i k : Nat} (hk : k < D.rows.length) (h : ∀ j (hj : j < k), (D.rows[j]'(by omega)).s ≠ i) (he : D.rows[k].s = i) : showsM D i = D.rows[k].b := by
  unfold showsM
  have e : D.rows.find? (fun r => r.s == i) = some D.rows[k] := by
    rw [List.find?_eq_some_iff_getElem]
    exact ⟨by simpa using he, k, hk, rfl, fun j hj => by have := h j hj; simpa using this⟩
  rw [e]
attribute [local go_sem] Oper.semAt_some
attribute [local go_sem ↓] load_blk_rule store_blk_rule

set_option maxRecDepth 100000 in
set_option maxHeartbeats 1000000 in
theorem shows_any {w : World} {B p pb : Nat} {bv : Value} {D : Dk} (h : Dsk w B p pb bv D) (i : Nat) (hi : i < D.plate.length) :
    Calls Try.prog 72 #[.pointer (some ⟨p, 0, none⟩), .int .i64 (i : Int)] w fun e w' => e = .returned (.agg (showsM D i).cs) ∧ Below w.heap.size w w' := by
  have b1 := Blk.new w 3 #[.int .i64 (i : Int)]
  have b2 := Blk.new (w.alloc (.cells #[.int .i64 (i : Int)] 3)) 81 Bk.zero.cs
  have hk := ((Kept.refl [] w).alloc (.cells #[.int .i64 (i : Int)] 3)).alloc (.cells Bk.zero.cs 81)
  have h2 := (h.alloc (.cells #[.int .i64 (i : Int)] 3)).alloc (.cells Bk.zero.cs 81)
  have hsz : ((w.alloc (.cells #[.int .i64 (i : Int)] 3)).alloc (.cells Bk.zero.cs 81)).heap.size = w.heap.size + 2 := by simp
  have b1 := b1.alloc (.cells Bk.zero.cs 81)
  refine calls_of_wp_marks Try.func72 rfl ?_
  simp only [Try.ntmps72, List.size_toArray, List.length_cons, List.length_nil, Nat.reduceAdd, Nat.reduceSub, Array.replicate_succ, Array.replicate_zero, List.push_toArray, List.append_toArray, List.nil_append, List.cons_append]
  go_wp2_with (first | (with_reducible refine wpList_alloc_z rfl 81 rfl Bk.zero.cs 64 z_blk ?_))
  refine (rows_some _ _).mono ?_
  rintro e W0 ⟨rfl, b3, hk3, hs3⟩
  rw [World.size_alloc] at b2
  rw [hsz] at b3 hs3
  have b1 := b1.kept hk3 (by simp)
  have b2 := b2.kept hk3 (by simp)
  have h3 := h2.apart hk3 (by simp)
  have hk0 := hk.trans hk3
  clear h2 hk hsz hk3
  have hlt := h.lt
  go_wp2_with fail
  refine wp_range_rows h3 (b3.cell 0) rfl
    (fun pre W => ((∀ x ∈ pre, x.1.2.s ≠ i) ∧ Blk W w.heap.size 3 #[.int .i64 (i : Int)] ∧ Blk W (w.heap.size + 1) 81 Bk.zero.cs ∧ Dsk W B p pb bv D) ∧ Kept [] w W)
    (fun c pre W => (c = .ret ∧ ∃ ini x, pre = ini ++ [x] ∧ (∀ y ∈ ini, y.1.2.s ≠ i) ∧ x.1.2.s = i ∧ Blk W (w.heap.size + 1) 81 x.1.2.b.cs) ∧ Kept [] w W)
    ?hI ?hIx ⟨⟨by simp, b1, b2, h3⟩, hk0⟩
    (fun x a' W => ∃ Bx, Blk W Bx 83 x.1.2.cs ∧ a' = { tmps := #[.pointer (some ⟨p, 0, none⟩), .int .i64 (i : Int), undef, .pointer (some ⟨w.heap.size, 0, none⟩), .pointer (some ⟨w.heap.size + 1, 0, none⟩), undef, .pointer (some ⟨Bx, 0, none⟩), .pointer (some ⟨p, 0, none⟩), .func (.func 53) #[] #[.pointer (some ⟨w.heap.size + 2, 0, none⟩)], .int .i64 (x.1.1 : Int), .agg x.1.2.cs, undef, undef, undef, undef, undef, undef, undef, undef, undef, undef, undef, undef, undef], defers := [] })
    ?hAx ?assign ?body ?done ?stop
  case hI => exact OwnFrom.and (OwnFrom.and (ownFrom_pure _ _) (OwnFrom.and (own_blk _ _ _ _) (OwnFrom.and (own_blk _ _ _ _) (own_dsk _ _ _ _ _ (fun _ => D))))) (own_kept _ (by omega))
  case hIx => exact fun c => OwnFrom.and (fun s X Y row hs hg hr => by obtain ⟨hc, ini, x, e1, e2, e3, e4⟩ := hs; exact ⟨hc, ini, x, e1, e2, e3, own_blk (β := Unit) _ _ _ (fun _ => x.1.2.b.cs) () X Y row e4 hg hr⟩) (own_kept _ (by omega))
  case hAx => exact fun x a' s X Y row hs hg hr => by obtain ⟨Bx, e1, e2⟩ := hs; exact ⟨Bx, own_blk (β := Unit) _ _ _ (fun _ => x.1.2.cs) () X Y row e1 hg hr, e2⟩
  case assign =>
    intro l pre x W K hi2 hK
    have hz : Rw.zero.cs.size = x.1.2.cs.size := by rw [Rw.size, Rw.size]
    have HZ := Lib.hid hz
    clear hz
    gi_wp2_with (first | (with_reducible refine wpListIn_alloc_z rfl 83 rfl Rw.zero.cs 65 z_row ?_) | (with_reducible refine wpListIn_store_new rfl 83 (.tmp 6) (.tmp 10) rfl x.1.2.cs Rw.zero.cs _ rfl rfl HZ.out (s_row _) (Rw.one _) ?_))
    have hB : Below W.heap.size W (W.alloc (.cells x.1.2.cs 83)) := (Below.refl _ _).alloc (Nat.le_refl _) _
    exact hK _ _ ((KeepsOthers.alloc _ _).from _) (SameBuf.kept (Kept.of_below [] hB) (fun k hk => ⟨(hi2.1.2.2.2.far k hk).2.2.2, by simp⟩)) ⟨⟨hi2.1.1, hi2.1.2.1.alloc _, hi2.1.2.2.1.alloc _, hi2.1.2.2.2.alloc _⟩, hi2.2.alloc _⟩ ⟨_, Blk.new _ _ _, rfl⟩
  case body =>
    rintro l pre x a' W hl hr ⟨⟨hp, d1, d2, dD⟩, dk⟩ ⟨Bx, dx, rfl⟩ hlen
    have cx : W.cell? ⟨Bx, 0, none⟩ = some (.int .i64 (x.1.2.s : Int)) := by rw [dx.cell]; exact x.1.2.cell0
    have ci : W.cell? ⟨w.heap.size, 0, none⟩ = some (.int .i64 (i : Int)) := d1.cell 0
    by_cases e : x.1.2.s = i
    · have hb : ((x.1.2.s : Int) == (i : Int)) = true := by simp [e]
      have E := Lib.hid e
      have hv : ∀ j, j < x.1.2.b.cs.size → x.1.2.cs[1 + j]? = x.1.2.b.cs[j]? := fun j _ => x.1.2.cell1 j
      have HV := Lib.hid hv
      have hfit : 0 + x.1.2.b.cs.size ≤ Bk.zero.cs.size := by rw [Bk.size, Bk.size]; omega
      have ho := over_all (C := Bk.zero.cs) (vs := x.1.2.b.cs) (by rw [Bk.size, Bk.size])
      have HO := Lib.hid ho
      clear e hv ho hr
      gi_wp2_with (first | (with_reducible refine wpListIn_load_blk rfl 81 (.tmp 15) rfl Bx 1 rfl x.1.2.b.cs x.1.2.cs _ dx HV.out _ Try.underlying81 rfl (s_blk _) ?_) | (with_reducible refine wpListIn_store_blk rfl 81 (.tmp 4) (.tmp 16) rfl (w.heap.size + 1) 0 x.1.2.b.cs Bk.zero.cs _ rfl rfl d2 hfit (s_blk _) (Bk.one _) ?_))
      rw [HO.out]
      exact ⟨KeepsFrom.row (by omega) _, ⟨rfl, pre, x, rfl, hp, E.out, d2.row _⟩, dk.setRow (.inr (by omega)) _⟩
    · have hb : ((x.1.2.s : Int) == (i : Int)) = false := by rw [beq_eq_false_iff_ne]; omega
      have E := Lib.hid e
      clear e hr
      gi_wp2
      exact ⟨KeepsFrom.refl _ _, SameBuf.refl _ _, ⟨fun y hy => (List.mem_append.1 hy).elim (hp y) (fun e2 => by simp at e2; subst e2; exact E.out), d1, d2, dD⟩, dk⟩
  case done =>
    rintro d W hd ⟨⟨hp, d1, d2, dD⟩, dk⟩ hdef
    have hget : D.plate[i]? = some (showsM D i) := showsM_plate hi (fun r hr => by
      obtain ⟨k, hk, rfl⟩ := List.mem_iff_getElem.1 hr
      exact hp (rowAt D.rows ⟨k, hk⟩) (List.mem_map.2 ⟨⟨k, hk⟩, by rw [List.take_of_length_le (by simp)]; exact List.mem_finRange _, rfl⟩))
    generalize hgb : showsM D i = b at *
    have HB := Lib.hid hgb
    clear hgb
    have hv : ∀ j, j < b.cs.size → (pcs D.plate).toArray[i * 64 + j]? = b.cs[j]? := fun j hj => by
      rw [Bk.size] at hj
      rw [List.getElem?_toArray, pcs_get hget hj]
    clear hget
    have c0 := dD.c0
    have ci : W.cell? ⟨w.heap.size, 0, none⟩ = some (.int .i64 (i : Int)) := d1.cell 0
    have L : (loadSem 81 (.pointer (some ⟨pb, i * 64, none⟩))).run Try.prog W.drew = .ok (.agg b.cs) W.drew := loadRes_of (w := W.drew) dD.plate hv _ Try.underlying81 rfl (s_blk b)
    have S : (storeSem 81 (.pointer (some ⟨w.heap.size + 1, 0, none⟩)) (.agg b.cs)).run Try.prog W.drew = .ok () (W.drew.setRow (w.heap.size + 1) (over Bk.zero.cs 0 b.cs)) := storeRes_of (w := W.drew) d2 (by rw [Bk.size, Bk.size]; omega) (s_blk b) b.one
    rw [over_all (C := Bk.zero.cs) (vs := b.cs) (by rw [Bk.size, Bk.size])] at S
    have hil : (i : Int) < (D.plate.length : Int) := by omega
    have hbe : Blk (W.drew.setRow (w.heap.size + 1) b.cs) (w.heap.size + 1) 81 b.cs := (show Blk W.drew _ _ _ from d2).row _
    have hdef2 : (W.drew.setRow (w.heap.size + 1) b.cs).heap[d]? = some (.deferred (some [])) := (setRow_other W.drew (w.heap.size + 1) d _ (by omega)).trans hdef
    have hk2 : Kept [] w (W.drew.setRow (w.heap.size + 1) b.cs) := dk.drew.setRow (.inr (by omega)) _
    clear hv hp
    go_wp2
    go_region
    go_wp2
    have hbp := blk_put (o' := .deferred none) hbe hdef2 rfl
    refine marks_ret hdef2 (results_cell_row rfl _ _ (w.heap.size + 1) 81 b.cs (0, 0) _ rfl hbp Try.underlying81 rfl (s_blk b)) ⟨by rw [HB.out], ?_⟩
    exact (put_kept hk2 hdef2 (by omega)).below (by simp) (Nat.le_refl _)
  case stop =>
    rintro d c k W hd hk2 ⟨⟨rfl, ini, x, e1, e2, e3, d2⟩, dk⟩ hdef
    have hx : x = rowAt D.rows ⟨k, hk2⟩ ∧ ini = upTo D.rows k := by
      rw [upTo_succ (k := k) (rowAt D.rows ⟨k, hk2⟩) rfl] at e1
      obtain ⟨h1, h2⟩ := List.append_inj' e1 rfl
      have h3 : rowAt D.rows ⟨k, hk2⟩ = x := by simpa using h2
      exact ⟨h3.symm, h1.symm⟩
    obtain ⟨rfl, rfl⟩ := hx
    have hm : showsM D i = (rowAt D.rows ⟨k, hk2⟩).1.2.b := showsM_row hk2 (fun j hj => by
      have hin : rowAt D.rows ⟨j, by omega⟩ ∈ upTo D.rows k := List.mem_map.2 ⟨⟨j, by omega⟩, by
        rw [List.mem_iff_getElem]
        exact ⟨j, by simp; omega, by simp⟩, rfl⟩
      exact e2 _ hin) e3
    rw [← hm] at d2
    have hbp := blk_put (o' := .deferred none) d2 hdef rfl
    clear hm e1 e2 e3
    go_wp2
    refine marks_ret hdef (results_cell_row rfl _ _ (w.heap.size + 1) 81 (showsM D i).cs (0, 0) _ rfl hbp Try.underlying81 rfl (s_blk _)) ⟨rfl, ?_⟩
    exact (put_kept dk hdef (by omega)).below (by simp) (Nat.le_refl _)
end Go.Proofs.Ytelpihlifdfgoaa
namespace Go.Proofs.Ytelpihlifdfgoaa
open Go.RowKit Go.Shelf
set_option linter.unusedVariables false

/-! ### down -/
def downM (D : Dk) (r : Rw) : Dk := { D with plate := D.plate.set r.s r.b }
theorem downM_ok {D : Dk} (h : D.Ok) (r : Rw) : (downM D r).Ok := ⟨by simpa [downM] using h.pos, by simpa [downM] using h.max, h.held, by simpa [downM] using h.at_, h.once, h.fuse, h.flaw⟩
theorem Dsk.platted {w : World} {B p pb : Nat} {bv : Value} {D : Dk} (h : Dsk w B p pb bv D) (r : Rw) (hr : r.s < D.plate.length) : Dsk (w.setRow pb (over (pcs D.plate).toArray (r.s * 64) r.b.cs)) B p pb bv (downM D r) := by
  have hk : Kept [pb] w (w.setRow pb (over (pcs D.plate).toArray (r.s * 64) r.b.cs)) := (Kept.refl _ _).setRow (.inl (by simp)) _
  refine ⟨?_, ?_, ?_, h.hp, h.hpb, downM_ok h.ok r⟩
  · have e : dcs pb bv (downM D r) = dcs pb bv D := by simp [dcs, downM]
    rw [e]
    exact h.cells.kept hk (by simpa using h.ne)
  · have e : over (pcs D.plate).toArray (r.s * 64) r.b.cs = (pcs (downM D r).plate).toArray := by
      simp only [over, downM]
      rw [pcs_set r.b hr]
    rw [← e]
    exact h.plate.row _
  · refine h.buf.kept (row := some pb) ⟨rfl, rfl, rfl, by simp, fun k _ hk => setRow_other w pb k _ (fun e => hk (by rw [e]))⟩ ?_
    cases e : bv.ownBlock with
    | none => exact .inl rfl
    | some k => exact .inr (fun e2 => (h.far k e).2.1 (by injection e2))

attribute [local go_sem ↓] load_blk_rule store_blk_rule

set_option maxHeartbeats 1000000 in
theorem down_any {w : World} {B p pb : Nat} {bv : Value} {D : Dk} (h : Dsk w B p pb bv D) (r : Rw) (hr : r.s < D.plate.length) :
    Calls Try.prog 35 #[.pointer (some ⟨p, 0, none⟩), .agg r.cs] w fun e w' => e = .returned (.tuple #[]) ∧ Dsk w' B p pb bv (downM D r) ∧ Kept [pb] w w' := by
  obtain ⟨W, hW⟩ : ∃ W, w.alloc (.cells r.cs 83) = W := ⟨_, rfl⟩
  have bx : Blk W w.heap.size 83 r.cs := by rw [← hW]; exact Blk.new _ _ _
  have hD : Dsk W B p pb bv D := by rw [← hW]; exact h.alloc _
  have hk : Kept [pb] w W := by rw [← hW]; exact (Kept.refl _ _).alloc _
  have c0 := hD.c0
  have cx : W.cell? ⟨w.heap.size, 0, none⟩ = some (.int .i64 (r.s : Int)) := by rw [bx.cell]; exact r.cell0
  have L : (loadSem 81 (.pointer (some ⟨w.heap.size, 1, none⟩))).run Try.prog W.drew = .ok (.agg r.b.cs) W.drew := loadRes_of (w := W.drew) bx (fun j _ => r.cell1 j) _ Try.underlying81 rfl (s_blk r.b)
  have S : (storeSem 81 (.pointer (some ⟨pb, r.s * 64, none⟩)) (.agg r.b.cs)).run Try.prog W.drew = .ok () (W.drew.setRow pb (over (pcs D.plate).toArray (r.s * 64) r.b.cs)) :=
    storeRes_of (w := W.drew) hD.plate (by have := pcs_length D.plate; rw [Bk.size]; simp; omega) (s_blk r.b) r.b.one
  have hil : (r.s : Int) < (D.plate.length : Int) := by omega
  have hE : Dsk (W.drew.setRow pb (over (pcs D.plate).toArray (r.s * 64) r.b.cs)) B p pb bv (downM D r) := hD.drew.platted r hr
  have hk2 : Kept [pb] w (W.drew.setRow pb (over (pcs D.plate).toArray (r.s * 64) r.b.cs)) := hk.drew.setRow (.inl (by simp)) _
  clear h hD
  generalize hcs : r.cs = cs at *
  clear hcs
  go_enter Try.func35, Try.ntmps35
  go_wp2_with fail
  clear hW
  go_region
  go_end0
  exact ⟨rfl, hE, hk2⟩

/-! ### slices.Delete on the head of a buffer -/
section
variable {P : Program}
/-- The builtin clear over elements of several cells: what lies ahead stays. -/
theorem wpList_clear_blk {ops : Array Oper} {rest : List Oper} {op : Oper} {a : Act} {w : World} {Q : Exit → Act → World → Prop} (hgd : op.guard = none) (x : Operand) (t e : TypeId) (ho : op.op = .call { callee := .builtin .clear, args := #[x], argTypes := #[t] })
    (ht : P.underlying t = some (.slice e)) (zs : Array Value) (k : Nat) (hz : (P.info? e).map (fun i => (i.zero, i.size)) = some (some (.agg zs), k)) (hzs : zs.size = k) (h1 : zs.all (·.oneCell') = true)
    (g off n c : Nat) (hx : a.eval x = .slice (some ⟨g, off, none⟩) n c) (hn : 0 < n) (C : Array Value) (t' : TypeId) (h : Blk w g t' C) (hfit : off + n * k ≤ C.size)
    (hK : ∀ C', C'.size = C.size → (∀ j, j < off → C'[j]? = C[j]?) → wpList P ops Q rest (a.put op.dst (.tuple #[])) (w.setRow g C')) : wpList P ops Q (op :: rest) a w := by
  refine wpList_plain hgd fun K hK' => ?_
  have hv := (zero_of_info hz).1
  obtain ⟨m, rfl⟩ : ∃ m, n = m + 1 := ⟨n - 1, by omega⟩
  obtain ⟨Z, hZ⟩ : ∃ Z, Z = Builtin.zeroCells zs (m + 1) := ⟨_, rfl⟩
  have hsz : Z.size = (m + 1) * k := by rw [hZ, size_zeroCells, hzs]
  have hone : ∀ v ∈ Z.toList, v.oneCell' = true := by
    intro v hv2
    rw [hZ] at hv2
    simp only [Builtin.zeroCells, Array.toList_map, List.mem_map] at hv2
    obtain ⟨i, hi, rfl⟩ := hv2
    have hpos : 0 < zs.size := by
      rcases Nat.eq_zero_or_pos zs.size with h0 | h0
      · rw [h0] at hi; simp at hi
      · exact h0
    have hlt : i % zs.size < zs.size := Nat.mod_lt _ hpos
    rw [getElem!_pos zs _ hlt]
    exact Array.all_eq_true_iff_forall_mem.1 h1 _ (Array.getElem_mem hlt)
  have hst := run_storeCells_cells (P := P) g off Z.toList 0 w (fun j hj => by rw [h.cell, Nat.add_zero, Array.getElem?_eq_getElem (by simp at hj; omega)]; rfl) (fun j hj => h.free _) hone
  simp only [Nat.add_zero] at hst
  rw [setCells_over h off Z (by omega)] at hst
  have hrun : (Builtin.clear_ #[t] op.type #[.slice (some ⟨g, off, none⟩) (m + 1) c]).run P w = .ok (.tuple #[]) (w.setRow g (over C off Z)) := by
    simp [Builtin.clear_, run_underlying ht, hv, Sem.run_bind, Result.andThen, Value.cells, ← hZ, hst]
  unfold Oper.wp
  simp [execOp, ho, resolve, invoke, builtin, hx, hrun, Result.andThen]
  refine hK' _ _ (hK _ (size_over (by omega)) (fun j hj => ?_))
  rw [over, List.getElem?_toArray, splice_get (by simp; omega), if_pos hj, Array.getElem?_toList]
end

theorem i_row : (Try.prog.info? 83).map (fun i => (i.zero, i.size, i.bytes)) = some (some (.agg Rw.zero.cs), 65, 72) := by kernel_rfl

set_option maxHeartbeats 400000 in
theorem delete_none (a : Option Addr) (len cap : Nat) (hle : len ≤ cap) (hm : cap ≤ 9223372036854775807) (w : World) :
    Calls Try.prog 91 #[.slice a len cap, .int .i64 0, .int .i64 0] w fun e w' => e = .returned (.slice a len cap) ∧ w = w' := by
  go_enter Try.func91, Try.ntmps91
  go_wp2
  go_ret
  exact ⟨rfl, rfl⟩

set_option maxHeartbeats 2000000 in
theorem delete_head {w : World} {B g len cap n : Nat} {R : List Rw} (h : w.ownsRow B 83 65 (.slice (some ⟨g, 0, none⟩) len cap) len (rcs R)) (hR : R.length = len) (hn0 : 1 ≤ n) (hn : n ≤ len) (hl8 : len ≤ 8) :
    Calls Try.prog 91 #[.slice (some ⟨g, 0, none⟩) len cap, .int .i64 0, .int .i64 (n : Int)] w fun e w' =>
      e = .returned (.slice (some ⟨g, 0, none⟩) (len - n) cap) ∧ w'.ownsRow B 83 65 (.slice (some ⟨g, 0, none⟩) (len - n) cap) (len - n) (rcs (R.drop n)) ∧ Kept [g] w w' := by
  obtain ⟨C, hC, hsz, hcap, hcm, hget⟩ := row_cells h
  have hB : B ≤ g := (h.lt g rfl).1
  have hcm2 : cap ≤ 9223372036854775807 := by unfold maxLen at hcm; omega
  obtain ⟨i0, hi, hz0, hz1, hz2⟩ := info_parts i_row
  obtain ⟨news, hnews⟩ : ∃ news, news = rcs (R.drop n) := ⟨_, rfl⟩
  have hnl : news.length = (len - n) * 65 := by rw [hnews, rcs_length]; simp [hR]
  have hnget : ∀ j u, news[j]? = some u → C[n * 65 + j]? = some u := by
    intro j u hj
    have hlt : j < (len - n) * 65 := by rw [← hnl]; exact (List.getElem?_eq_some_iff.1 hj).1
    rw [hget _ (by omega), ← hj, hnews, ← rcs_drop, List.getElem?_drop]
  obtain ⟨A, hA, hsrc⟩ : ∃ A : Addr, (if cap = n then some (⟨g, 0, none⟩ : Addr) else some ⟨g, n * 65, none⟩) = some A ∧ ∀ j u, news[j]? = some u → w.drew.cell? (A.add j) = some u := by
    by_cases hc : cap = n
    · refine ⟨⟨g, 0, none⟩, by simp [hc], fun j u hj => ?_⟩
      have : news.length = 0 := by rw [hnl]; omega
      rw [List.length_eq_zero_iff.1 this] at hj
      simp at hj
    · refine ⟨⟨g, n * 65, none⟩, by simp [hc], fun j u hj => ?_⟩
      rw [Addr.add_lit]
      show w.cell? _ = _
      rw [hC.cell]
      exact hnget j u hj
  have hroom : ∀ j, j < news.length → (w.drew.cell? ⟨g, 0 + 0 * 65 + j, none⟩).isSome = true ∧ w.drew.frozen? ⟨g, 0 + 0 * 65 + j, none⟩ = false := by
    intro j hj
    refine ⟨?_, hC.free _⟩
    show (w.cell? _).isSome = true
    rw [hC.cell, Array.getElem?_eq_getElem (by omega)]; rfl
  have hset : w.drew.setCells g (0 + 0 * 65) news = w.drew.setRow g (over C 0 news.toArray) := by
    have := setCells_over (w := w.drew) hC 0 news.toArray (by simp; omega)
    simpa using this
  obtain ⟨C1, hC1⟩ : ∃ C1, C1 = over C 0 news.toArray := ⟨_, rfl⟩
  have hs1 : C1.size = C.size := by rw [hC1]; exact size_over (by simp; omega)
  have hg1 : ∀ j, j < news.length → C1[j]? = news[j]? := by
    intro j hj
    rw [hC1, over, List.getElem?_toArray, splice_get (by simp; omega), if_neg (by omega), if_pos (by simp; omega)]
    simp
  obtain ⟨W1, hW1⟩ : ∃ W1, w.drew.setRow g C1 = W1 := ⟨_, rfl⟩
  have hb1 : Blk W1 g 83 C1 := by rw [← hW1]; exact (show Blk w.drew g _ C from hC).row _
  have hk1 : Kept [g] w W1 := by rw [← hW1]; exact (Kept.refl [g] w).drew.setRow (.inl (by simp)) _
  rw [← hC1, hW1] at hset
  have hfin : ∀ C', C'.size = C1.size → (∀ j, j < (len - n) * 65 → C'[j]? = C1[j]?) → (W1.setRow g C').ownsRow B 83 65 (.slice (some ⟨g, 0, none⟩) (len - n) cap) (len - n) (rcs (R.drop n)) ∧ Kept [g] w (W1.setRow g C') := by
    intro C' hs' hg'
    refine ⟨⟨by rw [rcs_length]; simp [hR], .inr ⟨g, cap, C', rfl, hB, hb1.row C', by omega, hcm, by omega, ?_⟩⟩, hk1.setRow (.inl (by simp)) _⟩
    apply List.ext_getElem?
    intro j
    rw [List.getElem?_take]
    by_cases hj : j < (len - n) * 65
    · rw [if_pos hj, Array.getElem?_toList, hg' j hj, hg1 j (by omega), hnews]
    · rw [if_neg hj, List.getElem?_eq_none (by rw [rcs_length]; simp [hR]; omega)]
  have h1c : ∀ u ∈ news, u.oneCell' = true := by rw [hnews]; exact rcs_one _
  have HS := Lib.hid hset
  have HSrc := Lib.hid hsrc
  have HRo := Lib.hid hroom
  have H1 := Lib.hid h1c
  have HNl := Lib.hid hnl
  have HF := Lib.hid hfin
  have hz65 : Rw.zero.cs.size = 65 := Rw.size _
  have HZ := Lib.hid hz65
  have hone := Rw.one Rw.zero
  have HO := Lib.hid hone
  have hfit : (len - n) * 65 + n * 65 ≤ C1.size := by omega
  clear hset hsrc hroom h1c hnl hfin hget hnget hnews hR h hC1 hg1 hW1 hk1 hz65 hone hs1 hsz
  have hnb : ((0 : Int) == (n : Int)) = false := by rw [beq_eq_false_iff_ne]; omega
  go_enter Try.func91, Try.ntmps91
  go_wp2_with fail
  go_region_law (refine step_append_room rfl (.tmp 22) (.tmp 25) 73 rfl 83 i0 65 Try.underlying73 hi hz1 g 0 0 cap (by simp [Act.eval, Act.put]) A (len - n) (cap - n) news (by simp [Act.eval, Act.put, hA]) HNl.out HSrc.out H1.out (by omega) HRo.out ?_; rw [HS.out])
  go_wp2_with (with_reducible refine wpList_clear_blk rfl (.tmp 31) 73 83 rfl Try.underlying73 Rw.zero.cs 65 z_row HZ.out HO.out g ((len - n) * 65) _ _ rfl ?_ C1 _ hb1 ?_ ?_)
  · omega
  · omega
  · intro C' hs' hg'
    have F := Lib.hid (HF.out C' hs' hg')
    clear hg' hs' HF
    go_wp2
    go_ret
    exact ⟨rfl, F.out.1, F.out.2⟩
end Go.Proofs.Ytelpihlifdfgoaa
namespace Go.Proofs.Ytelpihlifdfgoaa
open Go.RowKit
set_option linter.unusedVariables false

/-- Numbers that are bytes. -/
def Bys (l : List Nat) : Prop := ∀ n ∈ l, n < 256

/-- At this address these bytes lie; of none no cell is asked. -/
def Lies (w : World) (a : Option Addr) (l : List Nat) : Prop :=
  l = [] ∨ ∃ b off, a = some ⟨b, off, none⟩ ∧ b < w.heap.size ∧ ∀ i, i < l.length → w.cell? ⟨b, off + i, none⟩ = some (.int .u8 ((l.getD i 0 : Nat) : Int))

theorem Bys.at {l : List Nat} (h : Bys l) (i : Nat) : l.getD i 0 < 256 := by
  by_cases hi : i < l.length
  · have : l.getD i 0 = l[i] := by simp [hi]
    rw [this]; exact h _ (List.getElem_mem hi)
  · have : l.getD i 0 = 0 := by simp [List.getElem?_eq_none (by omega : l.length ≤ i)]
    omega

theorem Lies.below {B : Nat} {w w' : World} {a : Option Addr} {l : List Nat} (h : Lies w a l) (hb : Below B w w') (ha : ∀ x, a = some x → x.block < B) : Lies w' a l := by
  rcases h with h | ⟨b, off, rfl, hlt, hc⟩
  · exact .inl h
  · exact .inr ⟨b, off, rfl, Nat.lt_of_lt_of_le hlt hb.size, fun i hi => (hb.cell (p := ⟨b, off + i, none⟩) (ha ⟨b, off, none⟩ rfl)).trans (hc i hi)⟩

/-- Is the bit k of these bytes, as they go on the wire, 1? -/
def bitB (l : List Nat) (k : Int) : Bool :=
  decide (0 ≤ k) && (decide (k.toNat / 8 < l.length) && (l.getD (l.length - 1 - k.toNat / 8) 0 / 2 ^ (k.toNat % 8) % 2 == 1))

theorem bitB_neg {l : List Nat} {k : Int} (h : k < 0) : bitB l k = false := by
  have : decide (0 ≤ k) = false := by simp; omega
  rw [bitB, this]; rfl
theorem bitB_none {l : List Nat} {k : Int} (h : l.length ≤ k.toNat / 8) : bitB l k = false := by
  have : decide (k.toNat / 8 < l.length) = false := by simp; omega
  rw [bitB, this]; simp
theorem bitB_some {l : List Nat} {k : Nat} (h : k / 8 < l.length) : bitB l (k : Int) = (l.getD (l.length - 1 - k / 8) 0 / 2 ^ (k % 8) % 2 == 1) := by
  have h0 : decide ((0 : Int) ≤ (k : Int)) = true := by simp
  have h1 : decide ((k : Int).toNat / 8 < l.length) = true := by simpa using h
  rw [bitB, h0, h1]; simp

theorem mask_u8 (x i : Nat) (hx : x < 256) : (bits .and .u8 ((x : Int) / 2 ^ i) 1 == 1) = (x / 2 ^ i % 2 == 1) := by
  have hd : x / 2 ^ i < 256 := Nat.lt_of_le_of_lt (Nat.div_le_self _ _) hx
  have e := u8_and_nat (x / 2 ^ i) 1 hd (by omega)
  have e2 : ((x / 2 ^ i : Nat) : Int) = (x : Int) / 2 ^ i := by simp
  rw [e2] at e
  have e1 : ((1 : Nat) : Int) = 1 := rfl
  rw [e1] at e
  rw [e, Nat.and_one_is_mod]
  rw [Bool.eq_iff_iff]; simp; omega

end Go.Proofs.Ytelpihlifdfgoaa
namespace Go.Proofs.Ytelpihlifdfgoaa
open Go.RowKit
set_option linter.unusedVariables false

/-- A byte as a cell. -/
def byc (n : Nat) : Value := .int .u8 (n : Int)

/-- Block g is a row of a call's own that holds just these bytes. -/
def Own (w : World) (g : Nat) (l : List Nat) : Prop := w.heap[g]? = some (.cells (l.map byc).toArray 5 (0, 0))

theorem Own.lt {w : World} {g : Nat} {l : List Nat} (h : Own w g l) : g < w.heap.size := lt_of_block h

theorem Own.cell {w : World} {g : Nat} {l : List Nat} (h : Own w g l) {i : Nat} (hi : i < l.length) : w.cell? ⟨g, i, none⟩ = some (.int .u8 ((l.getD i 0 : Nat) : Int)) := by
  unfold Own at h
  simp [World.cell?, h, byc, hi]

theorem Own.free {w : World} {g : Nat} {l : List Nat} (h : Own w g l) (i : Nat) : w.frozen? ⟨g, i, none⟩ = false := by
  unfold Own at h
  simp [World.frozen?, h]

theorem Own.set {w : World} {g : Nat} {l : List Nat} (h : Own w g l) {i : Nat} (n : Nat) : Own (w.setCell ⟨g, i, none⟩ (.int .u8 (n : Int))) g (l.set i n) := by
  unfold Own at h ⊢
  have hg := (Array.getElem?_eq_some_iff.1 h).1
  simp only [World.setCell, Array.getElem?_modify, h]
  simp [List.map_set, byc]

theorem Own.kept {B : Nat} {w w' : World} {g : Nat} {l : List Nat} (h : Own w g l) (hb : Below B w w') (hg : g < B) : Own w' g l := (hb.block g hg).trans h

theorem Own.kept' {w w' : World} {g : Nat} {l : List Nat} (h : Own w g l) (hb : Below w.heap.size w w') : Own w' g l := h.kept hb h.lt

theorem Own.drew {w : World} {g : Nat} {l : List Nat} (h : Own w g l) : Own w.drew g l := h

theorem Own.lies {w : World} {g : Nat} {l : List Nat} (h : Own w g l) : Lies w (some ⟨g, 0, none⟩) l :=
  .inr ⟨g, 0, rfl, h.lt, fun i hi => by rw [Nat.zero_add]; exact h.cell hi⟩

theorem Own.liesAt {w : World} {g : Nat} {l : List Nat} (h : Own w g l) (o : Nat) : Lies w (some ⟨g, o, none⟩) (l.drop o) :=
  .inr ⟨g, o, rfl, h.lt, fun i hi => by
    rw [List.length_drop] at hi
    rw [h.cell (i := o + i) (by omega)]; simp [List.getElem?_drop]⟩

theorem made_bytes (n : Nat) : madeCells (Value.int .u8 0).cells n = ((List.replicate n 0).map byc).toArray := by
  apply Array.ext
  · simp [madeCells]
  · intro i h1 h2
    simp [madeCells, byc, Value.cells, Nat.mod_one]

theorem splice_bytes (l : List Nat) (n : Nat) : splice ((List.replicate (l.length + n) 0).map byc) 0 (l.map byc) = (l ++ List.replicate n 0).map byc := by
  simp [splice]

theorem byc_one (l : List Nat) : ∀ v ∈ l.map byc, v.oneCell' = true := by
  intro v hv
  obtain ⟨n, _, rfl⟩ := List.mem_map.1 hv
  rfl

theorem Lies.cells {w : World} {a : Option Addr} {l : List Nat} (h : Lies w a l) (h0 : 0 < l.length) : ∃ ad, a = some ad ∧ ∀ j v, (l.map byc)[j]? = some v → w.cell? (ad.add j) = some v := by
  rcases h with rfl | ⟨b, off, rfl, _, hc⟩
  · simp at h0
  · refine ⟨_, rfl, fun j v hj => ?_⟩
    have hlt : j < l.length := by
      have := (List.getElem?_eq_some_iff.1 hj).1
      simpa using this
    rw [Addr.add_lit, hc j hlt, ← hj]
    simp [byc, hlt]

theorem Lies.alloc {w : World} {a : Option Addr} {l : List Nat} (h : Lies w a l) (o : Obj) : Lies (w.alloc o) a l := by
  rcases h with rfl | ⟨b, off, rfl, hb, hc⟩
  · exact .inl rfl
  · exact .inr ⟨b, off, rfl, by simp; omega, fun i hi => (World.cell?_alloc_past _ _ _ hb).trans (hc i hi)⟩

theorem Lies.kept {w w' : World} {a : Option Addr} {l : List Nat} (h : Lies w a l) (hb : Below w.heap.size w w') : Lies w' a l := by
  rcases h with rfl | ⟨b, off, rfl, hlt, hc⟩
  · exact .inl rfl
  · exact .inr ⟨b, off, rfl, Nat.lt_of_lt_of_le hlt hb.size, fun i hi => (hb.cell (p := ⟨b, off + i, none⟩) hlt).trans (hc i hi)⟩

/-! ### The bytes of a number -/

/-- The bytes of a number, n of them, the highest first. -/
def highB (x n : Nat) : List Nat := (List.range n).map fun j => x / 2 ^ (8 * (n - 1 - j)) % 256

/-- Of these bytes the last k; ahead of them noughts. -/
def highK (x n k : Nat) : List Nat := (List.range n).map fun j => if n - k ≤ j then x / 2 ^ (8 * (n - 1 - j)) % 256 else 0

theorem highK_zero (x n : Nat) : highK x n 0 = List.replicate n 0 := by
  apply List.ext_getElem
  · simp [highK]
  · intro i h1 h2
    simp [highK] at h1 ⊢
    intro h; omega
theorem highK_all (x n : Nat) : highK x n n = highB x n := by simp [highK, highB]
theorem highK_succ (x n k : Nat) (hk : k < n) : highK x n (k + 1) = (highK x n k).set (n - 1 - k) (x / 2 ^ (8 * k) % 256) := by
  apply List.ext_getElem
  · simp [highK]
  · intro i h1 h2
    simp [highK] at h1
    rw [List.getElem_set]
    simp only [highK, List.getElem_map, List.getElem_range]
    by_cases h : n - 1 - k = i
    · subst h
      have e : n - 1 - (n - 1 - k) = k := by omega
      rw [if_pos (by omega), if_pos rfl, e]
    · rw [if_neg h]
      by_cases h3 : n - k ≤ i
      · rw [if_pos (by omega), if_pos h3]
      · rw [if_neg (by omega), if_neg h3]
theorem length_highK (x n k : Nat) : (highK x n k).length = n := by simp [highK]
theorem length_highB (x n : Nat) : (highB x n).length = n := by simp [highB]
theorem highB_bys (x n : Nat) : Bys (highB x n) := by
  intro m hm
  obtain ⟨j, _, rfl⟩ := List.mem_map.1 hm
  exact Nat.mod_lt _ (by omega)

theorem put_step (l : List Nat) (x n k : Nat) (hk : k < n) : (l ++ highK x n k).set (l.length + n - 1 - k) (x / 2 ^ (8 * k) % 256) = l ++ highK x n (k + 1) := by
  rw [highK_succ x n k hk, List.set_append_right _ _ (by omega)]
  congr 2
  omega

theorem put_world {w wr : World} {l : List Nat} {len n x k : Nat} (hOw : Own wr w.heap.size (l ++ highK x n k)) (hBw : Below w.heap.size w wr) (hl : l.length = len) (hlt : k < n) :
    Own (wr.setCell ⟨w.heap.size, len + n - 1 - k, none⟩ (.int .u8 ((x : Int) / 2 ^ (8 * k) % 256))) w.heap.size (l ++ highK x n (k + 1)) ∧
      Below w.heap.size w (wr.setCell ⟨w.heap.size, len + n - 1 - k, none⟩ (.int .u8 ((x : Int) / 2 ^ (8 * k) % 256))) := by
  have e : ((x : Int) / 2 ^ (8 * k) % 256) = ((x / 2 ^ (8 * k) % 256 : Nat) : Int) := by simp
  rw [e, ← put_step l x n k hlt, hl]
  exact ⟨hOw.set _, hBw.setCell (Nat.le_refl _) _⟩

theorem Try.info5 : (Try.prog.info? 5).map (fun i => (i.zero, i.size, i.bytes)) = some (some (.int .u8 0), 1, 1) := by kernel_rfl
theorem Try.size5 : (Try.prog.info? 5).map (·.size) = some 1 := by kernel_rfl

set_option maxHeartbeats 800000 in
theorem put_any (a : Option Addr) (len cap : Nat) (l : List Nat) (x : Nat) (m : Int) (w : World) (hl : l.length = len) (hlm : len ≤ 281474976710000) (hL : Lies w a l)
    (hx : x ≤ 18446744073709551615) (hm0 : 0 ≤ m) (hm8 : m ≤ 8) :
    Calls Try.prog 83 #[.slice a len cap, .int .u64 x, .int .i64 m] w fun e w' =>
      e = .returned (.slice (some ⟨w.heap.size, 0, none⟩) (len + m.toNat) (len + m.toNat)) ∧ Own w' w.heap.size (l ++ highB x m.toNat) ∧ Below w.heap.size w w' := by
  obtain ⟨n, rfl⟩ := Int.eq_ofNat_of_zero_le hm0
  obtain ⟨i0, hi, hz0, hz1, hz2⟩ := info_parts Try.info5
  have hmk := run_make (P := Try.prog) w 29 5 i0 (.int .u8 0) Try.underlying29 hi hz0 .i64 .i64 ((len : Int) + (n : Int)) ((len : Int) + (n : Int)) (by omega) (by omega) (by rw [hz2]; omega) (by omega)
  rw [hz1, show ((len : Int) + (n : Int)).toNat = len + n from by omega, Nat.mul_one, made_bytes] at hmk
  have HN := Lib.hid hl
  clear hl hi hz0 hz1 hz2
  have hb1 : Below w.heap.size w (w.alloc (.cells ((List.replicate (len + n) 0).map byc).toArray 5)) := (Below.refl _ _).alloc (Nat.le_refl _) _
  generalize hZ : (List.replicate (len + n) 0).map byc = Z at *
  have HZ := Lib.hid hZ
  clear hZ
  obtain ⟨cs, hcs⟩ : ∃ cs, cs = l.map byc := ⟨_, rfl⟩
  have HC := Lib.hid hcs
  clear hcs
  go_enter Try.func83, Try.ntmps83
  go_wp2_with (with_reducible refine wpList_copy_splice rfl (.tmp 14) (.tmp 15) 29 29 rfl 5 Try.underlying29 Try.size5 (some ⟨w.heap.size, 0, none⟩) a (len + n) (len + n) len cap rfl rfl w.heap.size 0 Z 5 ?h1 cs ?h2 ?h3 ?h4 ?h5 w.heap.size w hb1 (Nat.le_refl _) ?_)
  case h1 => exact heap_alloc_new w _
  case h2 =>
    have e := HN.out
    rw [HC.out, List.length_map, e]
    exact (Nat.min_eq_left (by omega)).symm
  case h3 =>
    intro h0
    rw [HC.out] at h0 ⊢
    have hq := (hL.alloc (.cells Z.toArray 5)).cells (by simpa using h0)
    first | exact hq | exact ⟨rfl, hq⟩
  case h4 =>
    have e := HN.out
    rw [HC.out, ← HZ.out]; simp; omega
  case h5 => rw [HC.out]; exact byc_one l
  intro w2 HG2 hB2
  have hOwn : Own w2 w.heap.size (l ++ highK x n 0) := by
    have e := HG2.out
    have eN := HN.out
    subst eN
    rw [HC.out, ← HZ.out, splice_bytes] at e
    rw [highK_zero]
    exact e
  clear HG2
  go_wp2
  go_loopw [18] (fun i wr => ∃ k : Nat, k ≤ n ∧ i = .int .i64 k ∧ Own wr w.heap.size (l ++ highK x n k) ∧ Below w.heap.size w wr) (fun i _ => n - (intOf i).toNat)
  case atStart => exact ⟨0, Nat.zero_le _, rfl, hOwn, hB2⟩
  case round =>
    obtain ⟨k, hk, rfl, hOw, hBw⟩ := hrel
    by_cases hlt : k < n
    · have hc := hOw.cell (i := len + n - 1 - k) (by have := HN.out; simp [length_highK]; omega)
      have hf := hOw.free (len + n - 1 - k)
      have HW := Lib.hid (put_world (x := x) (k := k) hOw hBw HN.out hlt)
      clear hOw hBw
      go_wp2
      go_roundw
      case rel => exact ⟨k + 1, by omega, by go_num, HW.out.1, HW.out.2⟩
      case measure => simp [intOf]; omega
    · obtain rfl : k = n := by omega
      rw [highK_all] at hOw
      go_wp2
      go_ret
      exact ⟨rfl, hOw, hBw⟩

set_option maxHeartbeats 400000 in
theorem put16_any (a : Option Addr) (len cap : Nat) (l : List Nat) (x : Nat) (w : World) (hl : l.length = len) (hlm : len ≤ 281474976710000) (hL : Lies w a l) (hx : x ≤ 65535) :
    Calls Try.prog 92 #[.slice a len cap, .int .u16 x] w fun e w' =>
      e = .returned (.slice (some ⟨w.heap.size, 0, none⟩) (len + 2) (len + 2)) ∧ Own w' w.heap.size (l ++ highB x 2) ∧ Below w.heap.size w w' := by
  have HN := Lib.hid hl
  clear hl
  go_enter Try.func92, Try.ntmps92
  go_wp2_with (go_at_call 83; refine (put_any _ _ _ l _ 2 _ HN.out hlm hL (by omega) (by omega) (by omega)).mono ?_; rintro e w' ⟨rfl, hO, hB⟩)
  go_ret
  exact ⟨rfl, hO, hB⟩
set_option maxHeartbeats 400000 in
theorem put32_any (a : Option Addr) (len cap : Nat) (l : List Nat) (x : Nat) (w : World) (hl : l.length = len) (hlm : len ≤ 281474976710000) (hL : Lies w a l) (hx : x ≤ 4294967295) :
    Calls Try.prog 67 #[.slice a len cap, .int .u32 x] w fun e w' =>
      e = .returned (.slice (some ⟨w.heap.size, 0, none⟩) (len + 4) (len + 4)) ∧ Own w' w.heap.size (l ++ highB x 4) ∧ Below w.heap.size w w' := by
  have HN := Lib.hid hl
  clear hl
  go_enter Try.func67, Try.ntmps67
  go_wp2_with (go_at_call 83; refine (put_any _ _ _ l _ 4 _ HN.out hlm hL (by omega) (by omega) (by omega)).mono ?_; rintro e w' ⟨rfl, hO, hB⟩)
  go_ret
  exact ⟨rfl, hO, hB⟩
end Go.Proofs.Ytelpihlifdfgoaa
namespace Go.Proofs.Ytelpihlifdfgoaa
open Go.RowKit
set_option linter.unusedVariables false

/-- Where the rest begins when j of n bytes are off: Go does not point behind a row's end. -/
def spotR (n j : Nat) : Nat := if j = n then n - 1 else j

/-- What is still to come, as a value. -/
def restV (g n j : Nat) : Value := .slice (some ⟨g, spotR n j, none⟩) (n - j) (n - j)

/-- At block p a reader lies, of the row g that holds L; j bytes are off; its error is err. -/
structure Rd (w : World) (p g : Nat) (L : List Nat) (j : Nat) (err : Int) : Prop where
  own : Own w g L
  ne : g ≠ p
  le : j ≤ L.length
  cells : w.heap[p]? = some (.cells #[restV g L.length j, .int .i64 err] 134 (0, 0))

theorem Rd.cell0 {w : World} {p g j : Nat} {L : List Nat} {err : Int} (h : Rd w p g L j err) : w.cell? ⟨p, 0, none⟩ = some (restV g L.length j) := by
  have := h.cells; simp [World.cell?, this]
theorem Rd.cell1 {w : World} {p g j : Nat} {L : List Nat} {err : Int} (h : Rd w p g L j err) : w.cell? ⟨p, 1, none⟩ = some (.int .i64 err) := by
  have := h.cells; simp [World.cell?, this]
theorem Rd.free {w : World} {p g j : Nat} {L : List Nat} {err : Int} (h : Rd w p g L j err) (i : Nat) : w.frozen? ⟨p, i, none⟩ = false := by
  have := h.cells; simp [World.frozen?, this]
theorem Rd.lt {w : World} {p g j : Nat} {L : List Nat} {err : Int} (h : Rd w p g L j err) : p < w.heap.size := lt_of_block h.cells
theorem Rd.kept {w w' : World} {p g j : Nat} {L : List Nat} {err : Int} (h : Rd w p g L j err) (hp : w'.heap[p]? = w.heap[p]?) (hg : w'.heap[g]? = w.heap[g]?) : Rd w' p g L j err :=
  ⟨hg.trans h.own, h.ne, h.le, hp.trans h.cells⟩
theorem Rd.below {w w' : World} {p g j : Nat} {L : List Nat} {err : Int} (h : Rd w p g L j err) (hb : Below w.heap.size w w') : Rd w' p g L j err :=
  h.kept (hb.block p h.lt) (hb.block g h.own.lt)
theorem Rd.off {w : World} {p g j : Nat} {L : List Nat} {err : Int} (h : Rd w p g L j err) (hj : j < L.length) : Rd (w.setCell ⟨p, 0, none⟩ (restV g L.length (j + 1))) p g L (j + 1) err := by
  have hc := h.cells
  have hp := h.lt
  refine ⟨(Below.heap_setCell _ _ _ _ h.ne).trans h.own, h.ne, hj, ?_⟩
  simp [World.setCell, Array.getElem?_modify, hc]
theorem Rd.err {w : World} {p g j : Nat} {L : List Nat} {err : Int} (h : Rd w p g L j err) (e : Int) : Rd (w.setCell ⟨p, 1, none⟩ (.int .i64 e)) p g L j e := by
  have hc := h.cells
  have hp := h.lt
  refine ⟨(Below.heap_setCell _ _ _ _ h.ne).trans h.own, h.ne, h.le, ?_⟩
  simp [World.setCell, Array.getElem?_modify, hc]

set_option maxHeartbeats 800000 in
theorem read_any (a : Option Addr) (len cap : Nat) (l : List Nat) (w : World) (hl : l.length = len) (hlm : len ≤ 281474976710000) (hL : Lies w a l) :
    Calls Try.prog 55 #[.slice a len cap] w fun e w' =>
      ∃ p, e = .returned (.pointer (some ⟨p, 0, none⟩)) ∧ w.heap.size < p ∧ Rd w' p w.heap.size l 0 0 ∧ Below w.heap.size w w' := by
  obtain ⟨i0, hi, hz0, hz1, hz2⟩ := info_parts Try.info5
  have hmk := run_make (P := Try.prog) w 29 5 i0 (.int .u8 0) Try.underlying29 hi hz0 .i64 .i64 (len : Int) (len : Int) (by omega) (by omega) (by rw [hz2]; omega) (by omega)
  rw [hz1, show (len : Int).toNat = len from by omega, Nat.mul_one, made_bytes] at hmk
  have HN := Lib.hid hl
  clear hl hi hz0 hz1 hz2
  have hb1 : Below w.heap.size w (w.alloc (.cells ((List.replicate len 0).map byc).toArray 5)) := (Below.refl _ _).alloc (Nat.le_refl _) _
  generalize hZ : (List.replicate len 0).map byc = Z at *
  have HZ := Lib.hid hZ
  clear hZ
  obtain ⟨cs, hcs⟩ : ∃ cs, cs = l.map byc := ⟨_, rfl⟩
  have HC := Lib.hid hcs
  clear hcs
  go_enter Try.func55, Try.ntmps55
  go_wp2_with (with_reducible refine wpList_copy_splice rfl (.tmp 7) (.tmp 8) 29 29 rfl 5 Try.underlying29 Try.size5 (some ⟨w.heap.size, 0, none⟩) a len len len cap rfl rfl w.heap.size 0 Z 5 ?h1 cs ?h2 ?h3 ?h4 ?h5 w.heap.size w hb1 (Nat.le_refl _) ?_)
  case h1 => exact heap_alloc_new w _
  case h2 =>
    have e := HN.out
    rw [HC.out, List.length_map, e]
    exact (Nat.min_self _).symm
  case h3 =>
    intro h0
    rw [HC.out] at h0 ⊢
    have hq := (hL.alloc (.cells Z.toArray 5)).cells (by simpa using h0)
    first | exact hq | exact ⟨rfl, hq⟩
  case h4 =>
    have e := HN.out
    rw [HC.out, ← HZ.out]; simp; omega
  case h5 => rw [HC.out]; exact byc_one l
  intro w2 HG2 hB2
  have hOwn : Own w2 w.heap.size l := by
    have e := HG2.out
    have eN := HN.out
    subst eN
    rw [HC.out, ← HZ.out] at e
    have e3 := splice_bytes l 0
    simp only [Nat.add_zero, List.replicate_zero, List.append_nil] at e3
    rw [e3] at e
    exact e
  clear HG2
  go_wp2
  go_ret
  refine ⟨w2.heap.size, rfl, hOwn.lt, ⟨?_, ?_, Nat.zero_le _, ?_⟩, hB2.alloc hB2.size _⟩
  · exact (Below.heap_alloc _ _ _ hOwn.lt).trans hOwn
  · have := hOwn.lt; omega
  · rw [heap_alloc_new]
    have eN := HN.out
    have e0 : spotR len 0 = 0 := by unfold spotR; split <;> omega
    simp only [restV, eN, e0, Nat.sub_zero]

set_option maxHeartbeats 400000 in
theorem err_any {p g j : Nat} {L : List Nat} {err : Int} {w : World} (h : Rd w p g L j err) :
    Calls Try.prog 94 #[.pointer (some ⟨p, 0, none⟩)] w fun e w' => e = .returned (.int .i64 err) ∧ w = w' := by
  have h1 := h.cell1
  go_enter Try.func94, Try.ntmps94
  go_wp2
  go_ret
  exact ⟨rfl, rfl⟩
set_option maxHeartbeats 400000 in
theorem err_nil (w : World) : Calls Try.prog 94 #[.pointer none] w fun e w' => e = .returned (.int .i64 1) ∧ w = w' := by
  go_enter Try.func94, Try.ntmps94
  go_wp2
  go_ret
  exact ⟨rfl, rfl⟩
set_option maxHeartbeats 400000 in
theorem left_any {p g j : Nat} {L : List Nat} {err : Int} {w : World} (h : Rd w p g L j err) :
    Calls Try.prog 95 #[.pointer (some ⟨p, 0, none⟩)] w fun e w' => e = .returned (.int .i64 ((L.length - j : Nat) : Int)) ∧ w = w' := by
  have h0 := h.cell0
  unfold restV at h0
  generalize hn : L.length - j = n at *
  have HN := Lib.hid hn
  clear hn
  go_enter Try.func95, Try.ntmps95
  go_wp2
  go_ret
  exact ⟨rfl, rfl⟩
set_option maxHeartbeats 400000 in
theorem left_nil (w : World) : Calls Try.prog 95 #[.pointer none] w fun e w' => e = .returned (.int .i64 0) ∧ w = w' := by
  go_enter Try.func95, Try.ntmps95
  go_wp2
  go_ret
  exact ⟨rfl, rfl⟩

set_option maxHeartbeats 800000 in
theorem next_any {p g j : Nat} {L : List Nat} {err : Int} {w : World} (h : Rd w p g L j err) (hj : j < L.length) :
    Calls Try.prog 96 #[.pointer (some ⟨p, 0, none⟩)] w fun e w' => e = .returned (.int .u8 ((L.getD j 0 : Nat) : Int)) ∧ w.setCell ⟨p, 0, none⟩ (restV g L.length (j + 1)) = w' := by
  have h0 := h.cell0
  have hf := h.free 0
  have hc := h.own.cell hj
  have es : spotR L.length j = j := by unfold spotR; rw [if_neg (by omega)]
  unfold restV at h0 ⊢
  rw [es] at h0
  generalize L.getD j 0 = x at *
  clear h
  by_cases hone : L.length - j = 1
  all_goals
    go_enter Try.func96, Try.ntmps96
    go_wp2
    go_ret
    refine ⟨rfl, ?_⟩
    congr 1
    unfold spotR
  · rw [if_pos (by omega), show L.length - (j + 1) = 0 from by omega, show L.length - 1 = j from by omega]
  · rw [if_neg (by omega), Nat.sub_sub]
end Go.Proofs.Ytelpihlifdfgoaa
