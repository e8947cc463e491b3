/-
  A range over a function: what lies above the range's own record may turn in a round, whatever its type; and the rule for such a range. Nothing here is a statement of the document.
-/
import Derived.Test.YtkoenconjldojaaOctA
import Derived.RegionTactic
import Derived.BigRegion
import Derived.Shelf.Abstract
import Derived.RangeFuncNested
import Derived.RangeFuncBound
import Derived.RangeFuncCalls
import Derived.RangeFuncLeaves
import Derived.Shelf.RegionOpen
import Derived.OwnWalkIn
import Derived.TacticsInMore
import Derived.LoopNIn
import Derived.LoopIn
namespace Go.Proofs.Ytkoenconjldojaa
open Go.RowKit Go.Shelf
set_option linter.unusedVariables false

/-! ### What speaks of cells alone -/
theorem own_blk {β : Type} (B g : Nat) (t : TypeId) (f : β → Array Value) : OwnFrom B (fun s W => Blk W g t (f s)) := fun s X Y row hs hg hrow =>
  (hg.block g hs.lt (fun e => by
    obtain ⟨_, o, ho, hc⟩ := hrow g e.symm
    rw [show X.heap[g]? = _ from hs] at ho; cases ho; cases hc)).trans hs
theorem own_kept {β : Type} {B : Nat} (S : List Nat) {w0 : World} (h : w0.heap.size ≤ B) : OwnFrom B (fun (_ : β) W => Kept S w0 W) := fun s X Y row hs hg hrow =>
  hs.grown hg (fun k e => .inr (Nat.le_trans h (hrow k e).1))
theorem KeepsFrom.row {B : Nat} {W : World} {g : Nat} (h : g < B) (cs : Array Value) : KeepsFrom B W (W.setRow g cs) :=
  KeepsFrom.of_grownBy (row := some g) ⟨rfl, rfl, rfl, by simp, fun k _ hk => setRow_other W g k cs (fun e => hk (by rw [e]))⟩ (fun j e => by cases e; exact h)
theorem KeepsFrom.kept {B : Nat} {W W' : World} {S : List Nat} (h : Kept S W W') (hS : ∀ k ∈ S, k < B) : KeepsFrom B W W' :=
  ⟨h.size, fun k o hB hk ho => (h.block k (Array.getElem?_eq_some_iff.1 hk).1 (fun hm => by have := hS k hm; omega)).trans hk⟩
theorem SameBuf.kept {bv : Value} {W W' : World} {S : List Nat} (h : Kept S W W') (hb : ∀ k, bv.ownBlock = some k → k < W.heap.size ∧ k ∉ S) : SameBuf bv W W' := fun k hk => h.block k (hb k hk).1 (hb k hk).2

/-- A function whose body holds a range over a function: its contract out of its body's walk. -/
theorem calls_of_wp_marks {f : FuncId} {fn : Func} {c : Code} {args : Array Value} {w : World} {R : Ending → World → Prop}
    (hf : Try.prog.funcs[f]? = some fn) (hb : fn.body = some c)
    (h : c.wp Try.prog (bodyPostM Fence.wide 10 Try.prog fn R) { tmps := args ++ Array.replicate (fn.ntmps - args.size) undef, defers := [] } w) : Calls Try.prog f args w R :=
  (callsIn_wide (n := 10)).1 (callsIn_of_wp_marks hf hb trivial (wpIn_wide.2 h) rfl)
/-- Where such a function returns. -/
theorem marks_ret {fn : Func} {R : Ending → World → Prop} {tmps : Array Value} {w : World} {d : Nat} {v : Value} (hd : w.heap[d]? = some (.deferred (some []))) (hr : (results fn tmps).run Try.prog (w.putObj d (.deferred none)) = .ok v (w.putObj d (.deferred none))) (h : R (.returned v) (w.putObj d (.deferred none))) :
    bodyPostM Fence.wide 10 Try.prog fn R .ret { tmps := tmps, defers := [{ target := .collected d, args := #[] }] } w :=
  ⟨by simp, .inl ⟨_, _, rfl, run_takeDeferred hd, ⟨_, hr, h⟩⟩⟩
theorem put_kept {S : List Nat} {w0 w : World} {d : Nat} {o o' : Obj} (h : Kept S w0 w) (hd : w.heap[d]? = some o) (hl : w0.heap.size ≤ d) : Kept S w0 (w.putObj d o') :=
  h.grown (grownBy_putObj' w d o') (fun k e => by cases e; exact .inr hl)

/-! ### shows -/
/-- What a sector shows. -/
def showsM (D : Dk) (i : Nat) : Bk := match D.rows.find? (fun r => r.s == i) with | some r => r.b | none => D.plate.getD i Bk.zero

theorem blk_put {w : World} {g d : Nat} {t : TypeId} {cs : Array Value} {o o' : Obj} (h : Blk w g t cs) (hd : w.heap[d]? = some o) (hc : o.isCells = false) : Blk (w.putObj d o') g t cs :=
  ((grownBy_putObj' w d o').block g h.lt (fun e => by
    cases e
    rw [show w.heap[g]? = _ from h] at hd; cases hd; cases hc)).trans h
theorem showsM_plate {D : Dk} {i : Nat} (hi : i < D.plate.length) (h : ∀ r ∈ D.rows, r.s ≠ i) : D.plate[i]? = some (showsM D i) := by
  unfold showsM
  rw [List.find?_eq_none.2 (fun r hr => by have := h r hr; simpa using this)]
  simp [List.getElem?_eq_getElem hi]
theorem showsM_row {D : Dk} {i k : Nat} (hk : k < D.rows.length) (h : ∀ j (hj : j < k), (D.rows[j]'(by omega)).s ≠ i) (he : D.rows[k].s = i) : showsM D i = D.rows[k].b := by
  unfold showsM
  have e : D.rows.find? (fun r => r.s == i) = some D.rows[k] := by
    rw [List.find?_eq_some_iff_getElem]
    exact ⟨by simpa using he, k, hk, rfl, fun j hj => by have := h j hj; simpa using this⟩
  rw [e]
attribute [local go_sem] Oper.semAt_some

end Go.Proofs.Ytkoenconjldojaa
namespace Go.Proofs.Ytkoenconjldojaa
open Go.RowKit Go.Shelf
set_option linter.unusedVariables false

/-- It is not of a type that may turn. -/
def notX (X : TypeId → Bool) : Obj → Bool
  | .cells _ t _ => !X t
  | _ => true
/-- All lies as it lay, but for these blocks and what is of such a type. -/
structure KX (X : TypeId → Bool) (S : List Nat) (W W' : World) : Prop where
  size : W.heap.size ≤ W'.heap.size
  same : ∀ k o, k ∉ S → W.heap[k]? = some o → notX X o = true → W'.heap[k]? = some o
theorem KX.refl (X : TypeId → Bool) (S : List Nat) (W : World) : KX X S W W := ⟨Nat.le_refl _, fun _ _ _ h _ => h⟩
theorem KX.trans {X : TypeId → Bool} {S : List Nat} {A B C : World} (h : KX X S A B) (k : KX X S B C) : KX X S A C := ⟨Nat.le_trans h.size k.size, fun i o hi ho hn => k.same i o hi (h.same i o hi ho hn) hn⟩
theorem KX.more {X : TypeId → Bool} {S T : List Nat} {A B : World} (h : KX X S A B) (hT : ∀ i ∈ S, i ∈ T) : KX X T A B := ⟨h.size, fun i o hi ho hn => h.same i o (fun hm => hi (hT i hm)) ho hn⟩
theorem KX.kept {X : TypeId → Bool} {S : List Nat} {A B : World} (h : Kept S A B) : KX X S A B := ⟨h.size, fun i o hi ho _ => (h.block i (Array.getElem?_eq_some_iff.1 ho).1 hi).trans ho⟩
theorem KX.below {X : TypeId → Bool} {S : List Nat} {A B : World} (h : Below A.heap.size A B) : KX X S A B := ⟨h.size, fun i o hi ho _ => (h.block i (Array.getElem?_eq_some_iff.1 ho).1).trans ho⟩
theorem KX.put {X : TypeId → Bool} {S : List Nat} {W : World} {l : Nat} (hl : l ∈ S) (o' : Obj) : KX X S W (W.putObj l o') :=
  ⟨by simp [World.putObj], fun i o hi ho _ => (World.putObj_heap_other (fun e => hi (by rw [e]; exact hl))).trans ho⟩
theorem KX.blk {X : TypeId → Bool} {S : List Nat} {W W' : World} {g : Nat} {t : TypeId} {cs : Array Value} (h : KX X S W W') (b : Blk W g t cs) (hg : g ∉ S) (ht : X t = false) : Blk W' g t cs := h.same g _ hg b (by simp [notX, ht])
theorem KX.from {X : TypeId → Bool} {S : List Nat} {B : Nat} {W W' : World} (h : KX X S W W') (hS : ∀ k ∈ S, k < B) : KeepsFrom B W W' :=
  ⟨h.size, fun k o hB hk ho => h.same k o (fun hm => by have := hS k hm; omega) hk (by cases o <;> first | rfl | cases ho)⟩

/-- The yields of a round serve at whatever depth. -/
theorem YieldAt.depth {m m' : Nat} {P : Program} {l : Nat} {args : Array Value} {W : World} {R : Ending → World → Prop} (h : YieldAt Fence.wide m P l args W R) : YieldAt Fence.wide m' P l args W R := by
  obtain ⟨fn, tmps, assign, body, hy, h1, h2⟩ := h
  exact ⟨fn, tmps, assign, body, hy, h1, fun c cs _ => h2 c cs (fun d hd => by cases hd)⟩

/-- Ranged over, this function yields so often, these values; it reads nothing that lies in S. -/
def Tells (X : TypeId → Bool) (gf : FuncId) (lb : Array Value) (S : List Nat) (N : Nat) (enc : Nat → Array Value) (w : World) : Prop :=
  ∀ (l : Nat) (J Jx : Nat → World → Prop) (W : World), KX X S w W → w.heap.size ≤ l → l < W.heap.size → OwnFrom W.heap.size J → OwnFrom W.heap.size Jx →
    (∀ k W1, k < N → J k W1 → YieldAt Fence.wide 8 Try.prog l (enc k) W1 fun e W' =>
      KX X (l :: S) W1 W' ∧ ((e = .returned (.bool true) ∧ J (k + 1) W') ∨ (e = .returned (.bool false) ∧ Jx k W'))) →
    J 0 W →
    CallsIn Fence.wide 9 Try.prog gf (#[.func (.yield l) #[] #[]] ++ lb) W fun e W' => (∃ v, e = .returned v) ∧ (J N W' ∨ ∃ k, k < N ∧ Jx k W')
theorem Tells.later {X : TypeId → Bool} {gf : FuncId} {lb : Array Value} {S : List Nat} {N : Nat} {enc : Nat → Array Value} {w w' : World} (h : Tells X gf lb S N enc w) (k : KX X S w w') : Tells X gf lb S N enc w' :=
  fun l J Jx W hW hl => h l J Jx W (k.trans hW) (Nat.le_trans k.size hl)

theorem own_mono {β : Type} {B B' : Nat} {I : β → World → Prop} (h : OwnFrom B I) (hB : B ≤ B') : OwnFrom B' I := fun s W W' row hs hg hr => h s W W' row hs hg (fun r e => ⟨Nat.le_trans hB (hr r e).1, (hr r e).2⟩)
/-- What lies at a block that is no cells', and lies lower, is not touched by what owns from above. -/
theorem own_obj {β : Type} {B k : Nat} {o : Obj} (hk : k < B) : OwnFrom B (fun (_ : β) W => W.heap[k]? = some o) := fun _ X Y row hs hg hr =>
  (hg.block k (Array.getElem?_eq_some_iff.1 hs).1 (fun e => by have := (hr k e.symm).1; omega)).trans hs

theorem not_x_of {X : TypeId → Bool} {o : Obj} (h : o.isCells = false) : notX X o = true := by cases o <;> first | rfl | cases h

/-- The record of such a range. -/
abbrev LpR (fn : FuncId) (tmps : Array Value) (ps : Array Tmp) (assign body : Code) (d : Nat) (s : LoopState) (j : Option Code) : Loop := { state := s, pending := j, fn, tmps := tmps, params := ps, assign, body, defers := d }

/-- The ways out of a range: by a return, or by an exit. -/
def outC : Option Nat → Code
  | none => .ret
  | some id => .exit id
def outE : Option Nat → Exit
  | none => .ret
  | some id => .exit id
theorem roundPost_out (jump : Option Nat) (l : Nat) (R : Ending → World → Prop) (a : Act) (w : World) (h : ∃ v w', (Instr.endRound l (some (outC jump))).run Try.prog w = .ok v w' ∧ R (.returned v) w') : roundPost Try.prog l R (outE jump) a w := by
  cases jump <;> exact h
theorem wpIn_out (jump : Option Nat) {F : Fence} {n : Nat} {Q : Exit → Act → World → Prop} {a : Act} {w : World} (h : Q (outE jump) a w) : (outC jump).wpIn F n Try.prog Q a w := by
  cases jump
  · exact wpIn_ret h
  · exact wpIn_exit h

set_option maxHeartbeats 1000000 in
/-- A range over such a row, at the outermost; the body goes on, or leaves by one jump. -/
theorem wp_range_row {X : TypeId → Bool} {g : Operand} {ps : Array Tmp} {assign body : Code} {Q : Exit → Act → World → Prop} {a : Act} {w : World} {gf : FuncId} {lb : Array Value} {S : List Nat} {N : Nat} {enc : Nat → Array Value} (jump : Option Nat) (hps : ∀ k, (enc k).size = ps.size)
    (hg : a.eval g = .func (.func gf) #[] lb) (eg : ∀ args w, (callFunc gf args).run Try.prog w = .ok (.enter gf args) w) (hseq : Tells X gf lb S N enc w) (hS : ∀ k ∈ S, k < w.heap.size)
    (I Ix : Nat → World → Prop) (hI : OwnFrom w.heap.size I) (hIx : OwnFrom w.heap.size Ix) (h0 : I 0 w)
    (Ax : Nat → Act → World → Prop) (hAx : ∀ x a', OwnFrom w.heap.size (fun (_ : Unit) W => Ax x a' W))
    (hassign : ∀ (k : Nat) (W : World) (K : Act → World → Prop), k < N → w.heap.size + 2 ≤ W.heap.size → I k W → (∀ a' W', KX X S W W' → I k W' → Ax k a' W' → K a' W') →
      assign.wpIn (Fence.wide.inRound (w.heap.size + 1)) 8 Try.prog (Exit.then K (fun _ _ _ => False)) { tmps := (ps.zip (enc k)).foldl (fun tmps (t, a) => tmps.setIfInBounds t a) a.tmps, defers := [] } W)
    (hbody : ∀ (k : Nat) (a' : Act) (W : World), I k W → Ax k a' W → k < N → w.heap.size + 2 ≤ W.heap.size →
      body.wpIn (Fence.wide.inRound (w.heap.size + 1)) 8 Try.prog (fun e _ W' => KX X S W W' ∧ ((e = .normal ∧ I (k + 1) W') ∨ (e = outE jump ∧ Ix k W'))) a' W)
    (hdone : ∀ W, I N W → W.heap[w.heap.size]? = some (.deferred (some [])) → Q .normal { a with defers := { target := .collected w.heap.size, args := #[] } :: a.defers } W)
    (hstop : ∀ k W, k < N → Ix k W → W.heap[w.heap.size]? = some (.deferred (some [])) → Q (outE jump) { a with defers := { target := .collected w.heap.size, args := #[] } :: a.defers } W) :
    (Code.rangeFunc g ps assign body).wp Try.prog Q a w := by
  refine (wpIn_wide (n := 10)).1 (wpIn_rangeFunc fun fn _ => ?_)
  obtain ⟨Z, hZ⟩ : ∃ Z, (w.alloc (.deferred (some []))).alloc (.loop (LpR fn a.tmps ps assign body w.heap.size .ready none)) = Z := ⟨_, rfl⟩
  have hZs : Z.heap.size = w.heap.size + 2 := by rw [← hZ]; simp
  have hZl : Z.heap[w.heap.size + 1]? = some (.loop (LpR fn a.tmps ps assign body w.heap.size .ready none)) := by
    rw [← hZ]; have := World.alloc_heap_new (w.alloc (.deferred (some []))) (.loop (LpR fn a.tmps ps assign body w.heap.size .ready none)); rwa [World.size_alloc] at this
  have hZd : Z.heap[w.heap.size]? = some (.deferred (some [])) := by
    rw [← hZ]; exact (Below.heap_alloc _ _ _ (by simp)).trans (World.alloc_heap_new w _)
  have hZk : KX X S w Z := by rw [← hZ]; exact KX.below (((Below.refl _ w).alloc (Nat.le_refl _) _).alloc (by simp) _)
  have hZi : I 0 Z := by rw [← hZ]; exact hI.alloc _ (hI.alloc _ h0)
  have hdS : w.heap.size ∉ S := fun hm => by have := hS _ hm; omega
  have hlS : w.heap.size + 1 ∉ S := fun hm => by have := hS _ hm; omega
  -- a round's record, turned
  have turn : ∀ (W : World) (s s' : LoopState) (j j' : Option Code), W.heap[w.heap.size + 1]? = some (.loop (LpR fn a.tmps ps assign body w.heap.size s j)) → W.heap[w.heap.size]? = some (.deferred (some [])) →
      (W.putObj (w.heap.size + 1) (.loop (LpR fn a.tmps ps assign body w.heap.size s' j'))).heap[w.heap.size + 1]? = some (.loop (LpR fn a.tmps ps assign body w.heap.size s' j')) ∧ (W.putObj (w.heap.size + 1) (.loop (LpR fn a.tmps ps assign body w.heap.size s' j'))).heap[w.heap.size]? = some (.deferred (some [])) :=
    fun W s s' j j' h1 h2 => ⟨World.putObj_heap_same (Array.getElem?_eq_some_iff.1 h1).1, (World.putObj_heap_other (by omega)).trans h2⟩
  refine ⟨w.heap.size + 1, [{ target := .collected w.heap.size, args := #[] }], Z, { target := .fn (.func gf) lb, args := #[.func (.yield (w.heap.size + 1)) #[] #[]] }, Z, gf, #[.func (.yield (w.heap.size + 1)) #[] #[]] ++ lb, Z, ?_, ?_, fun _ _ => trivial, ?_, fun h => by simp [Fence.wide] at h, ?_⟩
  · rw [← hZ]; exact run_enterLoop_outer _ _ _ _ _
  · simp only [resolve, hg]
    simp [go_sem]
  · simp [invoke, go_sem, eg]
  · refine (hseq (w.heap.size + 1)
      (fun k W => I k W ∧ W.heap[w.heap.size + 1]? = some (.loop (LpR fn a.tmps ps assign body w.heap.size .ready none)) ∧ W.heap[w.heap.size]? = some (.deferred (some [])))
      (fun k W => Ix k W ∧ W.heap[w.heap.size + 1]? = some (.loop (LpR fn a.tmps ps assign body w.heap.size .done (some (outC jump)))) ∧ W.heap[w.heap.size]? = some (.deferred (some [])))
      Z hZk (by omega) (by omega) (OwnFrom.and (own_mono hI (by omega)) (OwnFrom.and (own_obj (by omega)) (own_obj (by omega)))) (OwnFrom.and (own_mono hIx (by omega)) (OwnFrom.and (own_obj (by omega)) (own_obj (by omega)))) ?_ ⟨hZi, hZl, hZd⟩).mono ?_
    · rintro k W hlen ⟨hi, hl, hd⟩
      have hy := run_yield (P := Try.prog) (args := (enc k)) hl (hps k)
      refine ⟨(LpR fn a.tmps ps assign body w.heap.size .ready none).fn, _, (LpR fn a.tmps ps assign body w.heap.size .ready none).assign, (LpR fn a.tmps ps assign body w.heap.size .ready none).body, hy, roundIn_of_wpIn trivial ?_⟩
      refine hassign k W _ hlen (by have := (Array.getElem?_eq_some_iff.1 hl).1; omega) hi fun a' Wa hka hia hax => ?_
      have hl2 := hka.same _ _ hlS hl rfl
      have hd2 := hka.same _ _ hdS hd rfl
      have hbg := run_beginRound (P := Try.prog) hl2 rfl
      refine ⟨_, hbg, ?_⟩
      obtain ⟨hl3, hd3⟩ := turn Wa .ready .busy none none hl2 hd2
      have hs3 : w.heap.size + 2 ≤ (Wa.putObj (w.heap.size + 1) (.loop (LpR fn a.tmps ps assign body w.heap.size .busy none))).heap.size := by have := (Array.getElem?_eq_some_iff.1 hl3).1; omega
      have hk3 : KX X ((w.heap.size + 1) :: S) W (Wa.putObj (w.heap.size + 1) (.loop (LpR fn a.tmps ps assign body w.heap.size .busy none))) := (hka.more (by simp; exact fun i hi => .inr hi)).trans (KX.put (by simp) _)
      refine wpIn_mono (hbody k a' _ (hI.putObj _ hia (by omega) hl2 rfl) ((hAx k a').putObj (s := ()) _ hax (by omega) hl2 rfl) hlen hs3) ?_
      rintro e a3 W3 ⟨hkb, hp⟩
      have hl4 := hkb.same _ _ hlS hl3 rfl
      have hd4 := hkb.same _ _ hdS hd3 rfl
      have hk4 : KX X ((w.heap.size + 1) :: S) W W3 := hk3.trans (hkb.more (by simp; exact fun i hi => .inr hi))
      rcases hp with ⟨rfl, hi3⟩ | ⟨rfl, hi3⟩
      · have he := run_endRound (P := Try.prog) none hl4
        obtain ⟨h5, h6⟩ := turn W3 .busy .ready none none hl4 hd4
        refine ⟨_, _, he, hk4.trans (KX.put (by simp) _), .inl ⟨rfl, ?_⟩⟩
        exact ⟨hI.putObj _ hi3 (by omega) hl4 rfl, h5, h6⟩
      · have he := run_endRound (P := Try.prog) (some (outC jump)) hl4
        refine roundPost_out jump _ _ _ _ ⟨_, _, he, ?_⟩
        obtain ⟨h5, h6⟩ := turn W3 .busy .done none (some (outC jump)) hl4 hd4
        refine ⟨hk4.trans (KX.put (by simp) _), .inr ⟨rfl, ?_⟩⟩
        exact ⟨hIx.putObj _ hi3 (by omega) hl4 rfl, h5, h6⟩
    · rintro e W2 ⟨⟨v, rfl⟩, ⟨hi, hl, hd⟩ | ⟨k, hk, hi, hl, hd⟩⟩
      · exact ⟨none, _, run_endLoop (P := Try.prog) hl (by simp), hdone _ (hI.putObj _ hi (by omega) hl rfl) ((World.putObj_heap_other (by omega)).trans hd)⟩
      · exact ⟨some (outC jump), _, run_endLoop (P := Try.prog) hl (by simp), wpIn_out jump (hstop k _ hk (hIx.putObj _ hi (by omega) hl rfl) ((World.putObj_heap_other (by omega)).trans hd))⟩

/-- Marks of ranges, one for each. -/
def marks (ds : List Nat) : List Deferred := ds.map fun d => { target := .collected d, args := #[] }
/-- A function that has gone over ranges returns: their marks are taken. -/
theorem marks_all {fn : Func} {R : Ending → World → Prop} {tmps : Array Value} {v : Value} (hr : ∀ w, (results fn tmps).run Try.prog w = .ok v w) :
    ∀ (ds : List Nat) (w : World), ds.Nodup → (∀ d ∈ ds, w.heap[d]? = some (.deferred (some []))) → (∀ w', w'.heap.size = w.heap.size → w'.os = w.os → w'.tape = w.tape → w'.output = w.output → (∀ k, k ∉ ds → w'.heap[k]? = w.heap[k]?) → R (.returned v) w') →
      LeavesInM Fence.wide 10 Try.prog fn tmps R (marks ds) .returning w := by
  intro ds
  induction ds with
  | nil => exact fun w _ _ h => ⟨_, hr w, h w rfl rfl rfl rfl (fun _ _ => rfl)⟩
  | cons d ds ih =>
    intro w hn hd h
    refine ⟨by simp, .inl ⟨d, _, rfl, run_takeDeferred (hd d (by simp)), ?_⟩⟩
    refine ih _ (List.nodup_cons.1 hn).2 (fun d' hd' => ?_) (fun w' h1 h2 h3 h4 h5 => h w' (h1.trans (by simp [World.putObj])) h2 h3 h4 (fun k hk => ?_))
    · exact (World.putObj_heap_other (fun e => (List.nodup_cons.1 hn).1 (by rw [← e]; exact hd'))).trans (hd d' (by simp [hd']))
    · simp only [List.mem_cons, not_or] at hk
      exact (h5 k hk.2).trans (World.putObj_heap_other hk.1)

theorem RoundIn.wide {m m' l' l : Nat} {P : Program} {f : FuncId} {tmps : Array Value} {assign body : Code} {w : World} {R : Ending → World → Prop} (h : RoundIn Fence.wide m P l f tmps assign body w R) : RoundIn (Fence.wide.inRound l') m' P l f tmps assign body w R :=
  ⟨trivial, fun c cs _ => h.2 c cs (fun d hd => by cases hd)⟩


theorem grown_of_below {w w' : World} (h : Below w.heap.size w w') : w.grownBy w' none := ⟨h.os, h.tape, h.output, h.size, fun k hk _ => h.block k hk⟩
theorem two_ways (X : TypeId → Bool) (S : List Nat) (W : World) (A B : World → Prop) : ∀ (e : Ending) (W' : World), KX X S W W' ∧ ((e = .returned (.bool true) ∧ A W') ∨ (e = .returned (.bool false) ∧ B W')) → KX X S W W' ∧ ∃ b, e = .returned (.bool b) ∧ (b = true → A W') ∧ (b = false → B W') := by
  rintro e W' ⟨h, ⟨rfl, ha⟩ | ⟨rfl, hb⟩⟩
  · exact ⟨h, true, rfl, fun _ => ha, (fun h => by cases h)⟩
  · exact ⟨h, false, rfl, (fun h => by cases h), fun _ => hb⟩
theorem marks_end {fn : Func} {R : Ending → World → Prop} {tmps : Array Value} {w : World} {d : Nat} {v : Value} (hd : w.heap[d]? = some (.deferred (some []))) (hr : (results fn tmps).run Try.prog (w.putObj d (.deferred none)) = .ok v (w.putObj d (.deferred none))) (h : R (.returned v) (w.putObj d (.deferred none))) :
    bodyPostM Fence.wide 10 Try.prog fn R .normal { tmps := tmps, defers := [{ target := .collected d, args := #[] }] } w := marks_ret hd hr h
end Go.Proofs.Ytkoenconjldojaa
namespace Go.Proofs.Ytkoenconjldojaa
open Go.RowKit Go.Shelf
set_option linter.unusedVariables false

/-- All that lies below B lies as it lay, but for these blocks. -/
structure KL (B : Nat) (S : List Nat) (W W' : World) : Prop where
  size : W.heap.size ≤ W'.heap.size
  same : ∀ k, k < B → k ∉ S → W'.heap[k]? = W.heap[k]?
theorem KL.refl (B : Nat) (S : List Nat) (W : World) : KL B S W W := ⟨Nat.le_refl _, fun _ _ _ => rfl⟩
theorem KL.trans {B : Nat} {S : List Nat} {a b c : World} (h : KL B S a b) (k : KL B S b c) : KL B S a c := ⟨Nat.le_trans h.size k.size, fun i hi hS => (k.same i hi hS).trans (h.same i hi hS)⟩
theorem KL.more {B : Nat} {S T : List Nat} {a b : World} (h : KL B S a b) (hT : ∀ i ∈ S, i ∈ T) : KL B T a b := ⟨h.size, fun i hi hS => h.same i hi (fun hm => hS (hT i hm))⟩
theorem KL.low {B B' : Nat} {S : List Nat} {a b : World} (h : KL B S a b) (hB : B' ≤ B) : KL B' S a b := ⟨h.size, fun i hi hS => h.same i (by omega) hS⟩
theorem KL.below {B B' : Nat} {S : List Nat} {a b : World} (h : Below B' a b) (hB : B ≤ B') : KL B S a b := ⟨h.size, fun i hi _ => h.block i (by omega)⟩
theorem KL.kept {B : Nat} {S : List Nat} {a b : World} (h : Kept S a b) (hB : B ≤ a.heap.size) : KL B S a b := ⟨h.size, fun i hi hS => h.block i (by omega) hS⟩
theorem KL.put {B : Nat} {S : List Nat} {W : World} {l : Nat} (hl : l ∈ S) (o' : Obj) : KL B S W (W.putObj l o') :=
  ⟨by simp [World.putObj], fun i _ hi => World.putObj_heap_other (fun e => hi (by rw [e]; exact hl))⟩
theorem KL.blk {B : Nat} {S : List Nat} {W W' : World} {g : Nat} {t : TypeId} {cs : Array Value} (h : KL B S W W') (b : Blk W g t cs) (hg : g ∉ S) (hB : g < B) : Blk W' g t cs := (h.same g hB hg).trans b

/-- Ranged over, this function yields so often, these values; it reads nothing that lies in S, and nothing that lies above. -/
def TellsL (gf : FuncId) (lb : Array Value) (S : List Nat) (N : Nat) (enc : Nat → Array Value) (w : World) : Prop :=
  ∀ (l : Nat) (J Jx : Nat → World → Prop) (W : World), KL w.heap.size S w W → w.heap.size ≤ l → l < W.heap.size → OwnFrom W.heap.size J → OwnFrom W.heap.size Jx →
    (∀ k W1, k < N → J k W1 → YieldAt Fence.wide 8 Try.prog l (enc k) W1 fun e W' =>
      KL (l + 1) (l :: S) W1 W' ∧ ((e = .returned (.bool true) ∧ J (k + 1) W') ∨ (e = .returned (.bool false) ∧ Jx k W'))) →
    J 0 W →
    CallsIn Fence.wide 9 Try.prog gf (#[.func (.yield l) #[] #[]] ++ lb) W fun e W' => (∃ v, e = .returned v) ∧ (J N W' ∨ ∃ k, k < N ∧ Jx k W')

set_option maxHeartbeats 1000000 in
/-- A range over such a row, at the outermost; the body goes on, or leaves by one jump. -/
theorem wp_range_low {g : Operand} {ps : Array Tmp} {assign body : Code} {Q : Exit → Act → World → Prop} {a : Act} {w : World} {gf : FuncId} {lb : Array Value} {S : List Nat} {N : Nat} {enc : Nat → Array Value} (jump : Option Nat) (hps : ∀ k, (enc k).size = ps.size)
    (hg : a.eval g = .func (.func gf) #[] lb) (eg : ∀ args w, (callFunc gf args).run Try.prog w = .ok (.enter gf args) w) (hseq : TellsL gf lb S N enc w) (hS : ∀ k ∈ S, k < w.heap.size)
    (I Ix : Nat → World → Prop) (hI : OwnFrom w.heap.size I) (hIx : OwnFrom w.heap.size Ix) (h0 : I 0 w)
    (Ax : Nat → Act → World → Prop) (hAx : ∀ x a', OwnFrom w.heap.size (fun (_ : Unit) W => Ax x a' W))
    (hassign : ∀ (k : Nat) (W : World) (K : Act → World → Prop), k < N → w.heap.size + 2 ≤ W.heap.size → I k W → (∀ a' W', KL (w.heap.size + 2) S W W' → I k W' → Ax k a' W' → K a' W') →
      assign.wpIn (Fence.wide.inRound (w.heap.size + 1)) 8 Try.prog (Exit.then K (fun _ _ _ => False)) { tmps := (ps.zip (enc k)).foldl (fun tmps (t, a) => tmps.setIfInBounds t a) a.tmps, defers := [] } W)
    (hbody : ∀ (k : Nat) (a' : Act) (W : World), I k W → Ax k a' W → k < N → w.heap.size + 2 ≤ W.heap.size →
      body.wpIn (Fence.wide.inRound (w.heap.size + 1)) 8 Try.prog (fun e _ W' => KL (w.heap.size + 2) S W W' ∧ ((e = .normal ∧ I (k + 1) W') ∨ (e = outE jump ∧ Ix k W'))) a' W)
    (hdone : ∀ W, I N W → W.heap[w.heap.size]? = some (.deferred (some [])) → Q .normal { a with defers := { target := .collected w.heap.size, args := #[] } :: a.defers } W)
    (hstop : ∀ k W, k < N → Ix k W → W.heap[w.heap.size]? = some (.deferred (some [])) → Q (outE jump) { a with defers := { target := .collected w.heap.size, args := #[] } :: a.defers } W) :
    (Code.rangeFunc g ps assign body).wp Try.prog Q a w := by
  refine (wpIn_wide (n := 10)).1 (wpIn_rangeFunc fun fn _ => ?_)
  obtain ⟨Z, hZ⟩ : ∃ Z, (w.alloc (.deferred (some []))).alloc (.loop (LpR fn a.tmps ps assign body w.heap.size .ready none)) = Z := ⟨_, rfl⟩
  have hZs : Z.heap.size = w.heap.size + 2 := by rw [← hZ]; simp
  have hZl : Z.heap[w.heap.size + 1]? = some (.loop (LpR fn a.tmps ps assign body w.heap.size .ready none)) := by
    rw [← hZ]; have := World.alloc_heap_new (w.alloc (.deferred (some []))) (.loop (LpR fn a.tmps ps assign body w.heap.size .ready none)); rwa [World.size_alloc] at this
  have hZd : Z.heap[w.heap.size]? = some (.deferred (some [])) := by
    rw [← hZ]; exact (Below.heap_alloc _ _ _ (by simp)).trans (World.alloc_heap_new w _)
  have hZk : KL w.heap.size S w Z := by rw [← hZ]; exact KL.below (((Below.refl _ w).alloc (Nat.le_refl _) _).alloc (by simp) _) (Nat.le_refl _)
  have hZi : I 0 Z := by rw [← hZ]; exact hI.alloc _ (hI.alloc _ h0)
  have hdS : w.heap.size ∉ S := fun hm => by have := hS _ hm; omega
  have hlS : w.heap.size + 1 ∉ S := fun hm => by have := hS _ hm; omega
  -- a round's record, turned
  have turn : ∀ (W : World) (s s' : LoopState) (j j' : Option Code), W.heap[w.heap.size + 1]? = some (.loop (LpR fn a.tmps ps assign body w.heap.size s j)) → W.heap[w.heap.size]? = some (.deferred (some [])) →
      (W.putObj (w.heap.size + 1) (.loop (LpR fn a.tmps ps assign body w.heap.size s' j'))).heap[w.heap.size + 1]? = some (.loop (LpR fn a.tmps ps assign body w.heap.size s' j')) ∧ (W.putObj (w.heap.size + 1) (.loop (LpR fn a.tmps ps assign body w.heap.size s' j'))).heap[w.heap.size]? = some (.deferred (some [])) :=
    fun W s s' j j' h1 h2 => ⟨World.putObj_heap_same (Array.getElem?_eq_some_iff.1 h1).1, (World.putObj_heap_other (by omega)).trans h2⟩
  refine ⟨w.heap.size + 1, [{ target := .collected w.heap.size, args := #[] }], Z, { target := .fn (.func gf) lb, args := #[.func (.yield (w.heap.size + 1)) #[] #[]] }, Z, gf, #[.func (.yield (w.heap.size + 1)) #[] #[]] ++ lb, Z, ?_, ?_, fun _ _ => trivial, ?_, fun h => by simp [Fence.wide] at h, ?_⟩
  · rw [← hZ]; exact run_enterLoop_outer _ _ _ _ _
  · simp only [resolve, hg]
    simp [go_sem]
  · simp [invoke, go_sem, eg]
  · refine (hseq (w.heap.size + 1)
      (fun k W => I k W ∧ W.heap[w.heap.size + 1]? = some (.loop (LpR fn a.tmps ps assign body w.heap.size .ready none)) ∧ W.heap[w.heap.size]? = some (.deferred (some [])))
      (fun k W => Ix k W ∧ W.heap[w.heap.size + 1]? = some (.loop (LpR fn a.tmps ps assign body w.heap.size .done (some (outC jump)))) ∧ W.heap[w.heap.size]? = some (.deferred (some [])))
      Z hZk (by omega) (by omega) (OwnFrom.and (own_mono hI (by omega)) (OwnFrom.and (own_obj (by omega)) (own_obj (by omega)))) (OwnFrom.and (own_mono hIx (by omega)) (OwnFrom.and (own_obj (by omega)) (own_obj (by omega)))) ?_ ⟨hZi, hZl, hZd⟩).mono ?_
    · rintro k W hlen ⟨hi, hl, hd⟩
      have hy := run_yield (P := Try.prog) (args := (enc k)) hl (hps k)
      refine ⟨(LpR fn a.tmps ps assign body w.heap.size .ready none).fn, _, (LpR fn a.tmps ps assign body w.heap.size .ready none).assign, (LpR fn a.tmps ps assign body w.heap.size .ready none).body, hy, roundIn_of_wpIn trivial ?_⟩
      refine hassign k W _ hlen (by have := (Array.getElem?_eq_some_iff.1 hl).1; omega) hi fun a' Wa hka hia hax => ?_
      have hl2 := (hka.same _ (by omega) hlS).trans hl
      have hd2 := (hka.same _ (by omega) hdS).trans hd
      have hbg := run_beginRound (P := Try.prog) hl2 rfl
      refine ⟨_, hbg, ?_⟩
      obtain ⟨hl3, hd3⟩ := turn Wa .ready .busy none none hl2 hd2
      have hs3 : w.heap.size + 2 ≤ (Wa.putObj (w.heap.size + 1) (.loop (LpR fn a.tmps ps assign body w.heap.size .busy none))).heap.size := by have := (Array.getElem?_eq_some_iff.1 hl3).1; omega
      have hk3 : KL (w.heap.size + 2) ((w.heap.size + 1) :: S) W (Wa.putObj (w.heap.size + 1) (.loop (LpR fn a.tmps ps assign body w.heap.size .busy none))) := (hka.more (by simp; exact fun i hi => .inr hi)).trans (KL.put (by simp) _)
      refine wpIn_mono (hbody k a' _ (hI.putObj _ hia (by omega) hl2 rfl) ((hAx k a').putObj (s := ()) _ hax (by omega) hl2 rfl) hlen hs3) ?_
      rintro e a3 W3 ⟨hkb, hp⟩
      have hl4 := (hkb.same _ (by omega) hlS).trans hl3
      have hd4 := (hkb.same _ (by omega) hdS).trans hd3
      have hk4 : KL (w.heap.size + 2) ((w.heap.size + 1) :: S) W W3 := hk3.trans (hkb.more (by simp; exact fun i hi => .inr hi))
      rcases hp with ⟨rfl, hi3⟩ | ⟨rfl, hi3⟩
      · have he := run_endRound (P := Try.prog) none hl4
        obtain ⟨h5, h6⟩ := turn W3 .busy .ready none none hl4 hd4
        refine ⟨_, _, he, hk4.trans (KL.put (by simp) _), .inl ⟨rfl, ?_⟩⟩
        exact ⟨hI.putObj _ hi3 (by omega) hl4 rfl, h5, h6⟩
      · have he := run_endRound (P := Try.prog) (some (outC jump)) hl4
        refine roundPost_out jump _ _ _ _ ⟨_, _, he, ?_⟩
        obtain ⟨h5, h6⟩ := turn W3 .busy .done none (some (outC jump)) hl4 hd4
        refine ⟨hk4.trans (KL.put (by simp) _), .inr ⟨rfl, ?_⟩⟩
        exact ⟨hIx.putObj _ hi3 (by omega) hl4 rfl, h5, h6⟩
    · rintro e W2 ⟨⟨v, rfl⟩, ⟨hi, hl, hd⟩ | ⟨k, hk, hi, hl, hd⟩⟩
      · exact ⟨none, _, run_endLoop (P := Try.prog) hl (by simp), hdone _ (hI.putObj _ hi (by omega) hl rfl) ((World.putObj_heap_other (by omega)).trans hd)⟩
      · exact ⟨some (outC jump), _, run_endLoop (P := Try.prog) hl (by simp), wpIn_out jump (hstop k _ hk (hIx.putObj _ hi (by omega) hl rfl) ((World.putObj_heap_other (by omega)).trans hd))⟩


end Go.Proofs.Ytkoenconjldojaa
