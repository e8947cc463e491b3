/-
  A range over a function: what lies above the range's own record may turn in a round, whatever its type; and the rule for such a range. Nothing here is a statement of the document.
-/
import Derived.Test.YtfnagfmbhcaphaaDoorIt
import Derived.RangeFuncNested
import Derived.RangeFuncBound
import Derived.RangeFuncCalls
import Derived.RangeFuncLeaves
import Derived.Shelf.Abstract
import Derived.Shelf.RegionOpen
import Derived.OwnWalkIn
import Derived.TacticsInMore
import Derived.LoopNIn
import Derived.LoopIn
namespace Go.Proofs.YtfnagfmbhcaphaaDoor
open Go.RowKit Go.Shelf
set_option linter.unusedVariables false

/-- All that lies below B lies as it lay, but for these blocks. -/
structure KL (B : Nat) (S : List Nat) (W W' : World) : Prop where
  size : W.heap.size ≤ W'.heap.size
  same : ∀ k, k < B → k ∉ S → W'.heap[k]? = W.heap[k]?
theorem KL.refl (B : Nat) (S : List Nat) (W : World) : KL B S W W := ⟨Nat.le_refl _, fun _ _ _ => rfl⟩
theorem KL.trans {B : Nat} {S : List Nat} {a b c : World} (h : KL B S a b) (k : KL B S b c) : KL B S a c := ⟨Nat.le_trans h.size k.size, fun i hi hS => (k.same i hi hS).trans (h.same i hi hS)⟩
theorem KL.more {B : Nat} {S T : List Nat} {a b : World} (h : KL B S a b) (hT : ∀ i ∈ S, i ∈ T) : KL B T a b := ⟨h.size, fun i hi hS => h.same i hi (fun hm => hS (hT i hm))⟩
theorem KL.low {B B' : Nat} {S : List Nat} {a b : World} (h : KL B S a b) (hB : B' ≤ B) : KL B' S a b := ⟨h.size, fun i hi hS => h.same i (by omega) hS⟩
theorem KL.below {B B' : Nat} {S : List Nat} {a b : World} (h : Below B' a b) (hB : B ≤ B') : KL B S a b := ⟨h.size, fun i hi _ => h.block i (by omega)⟩
theorem KL.kept {B : Nat} {S : List Nat} {a b : World} (h : Kept S a b) (hB : B ≤ a.heap.size) : KL B S a b := ⟨h.size, fun i hi hS => h.block i (by omega) hS⟩
theorem KL.put {B : Nat} {S : List Nat} {W : World} {l : Nat} (hl : l ∈ S) (o' : Obj) : KL B S W (W.putObj l o') :=
  ⟨by simp [World.putObj], fun i _ hi => World.putObj_heap_other (fun e => hi (by rw [e]; exact hl))⟩
theorem KL.blk {B : Nat} {S : List Nat} {W W' : World} {g : Nat} {t : TypeId} {cs : Array Value} (h : KL B S W W') (b : Blk W g t cs) (hg : g ∉ S) (hB : g < B) : Blk W' g t cs := (h.same g hB hg).trans b

/-- Ranged over, this function yields so often, these values; it reads nothing that lies in S, and nothing that lies above. -/
def TellsL (gf : FuncId) (lb : Array Value) (S : List Nat) (N : Nat) (enc : Nat → Array Value) (w : World) : Prop :=
  ∀ (l : Nat) (J Jx : Nat → World → Prop) (W : World), KL w.heap.size S w W → w.heap.size ≤ l → l < W.heap.size → OwnFrom W.heap.size J → OwnFrom W.heap.size Jx →
    (∀ k W1, k < N → J k W1 → YieldAt Fence.wide 8 Tryd.prog l (enc k) W1 fun e W' =>
      KL (l + 1) (l :: S) W1 W' ∧ ((e = .returned (.bool true) ∧ J (k + 1) W') ∨ (e = .returned (.bool false) ∧ Jx k W'))) →
    J 0 W →
    CallsIn Fence.wide 9 Tryd.prog gf (#[.func (.yield l) #[] #[]] ++ lb) W fun e W' => (∃ v, e = .returned v) ∧ (J N W' ∨ ∃ k, k < N ∧ Jx k W')

set_option maxHeartbeats 1000000 in
/-- A range over such a row, at the outermost; the body goes on, or leaves by one jump. -/
theorem wp_range_low {g : Operand} {ps : Array Tmp} {assign body : Code} {Q : Exit → Act → World → Prop} {a : Act} {w : World} {gf : FuncId} {lb : Array Value} {S : List Nat} {N : Nat} {enc : Nat → Array Value} (jump : Option Nat) (hps : ∀ k, (enc k).size = ps.size)
    (hg : a.eval g = .func (.func gf) #[] lb) (eg : ∀ args w, (callFunc gf args).run Tryd.prog w = .ok (.enter gf args) w) (hseq : TellsL gf lb S N enc w) (hS : ∀ k ∈ S, k < w.heap.size)
    (I Ix : Nat → World → Prop) (hI : OwnFrom w.heap.size I) (hIx : OwnFrom w.heap.size Ix) (h0 : I 0 w)
    (Ax : Nat → Act → World → Prop) (hAx : ∀ x a', OwnFrom w.heap.size (fun (_ : Unit) W => Ax x a' W))
    (hassign : ∀ (k : Nat) (W : World) (K : Act → World → Prop), k < N → w.heap.size + 2 ≤ W.heap.size → I k W → (∀ a' W', KL (w.heap.size + 2) S W W' → I k W' → Ax k a' W' → K a' W') →
      assign.wpIn (Fence.wide.inRound (w.heap.size + 1)) 8 Tryd.prog (Exit.then K (fun _ _ _ => False)) { tmps := (ps.zip (enc k)).foldl (fun tmps (t, a) => tmps.setIfInBounds t a) a.tmps, defers := [] } W)
    (hbody : ∀ (k : Nat) (a' : Act) (W : World), I k W → Ax k a' W → k < N → w.heap.size + 2 ≤ W.heap.size →
      body.wpIn (Fence.wide.inRound (w.heap.size + 1)) 8 Tryd.prog (fun e _ W' => KL (w.heap.size + 2) S W W' ∧ ((e = .normal ∧ I (k + 1) W') ∨ (e = outE jump ∧ Ix k W'))) a' W)
    (hdone : ∀ W, I N W → W.heap[w.heap.size]? = some (.deferred (some [])) → Q .normal { a with defers := { target := .collected w.heap.size, args := #[] } :: a.defers } W)
    (hstop : ∀ k W, k < N → Ix k W → W.heap[w.heap.size]? = some (.deferred (some [])) → Q (outE jump) { a with defers := { target := .collected w.heap.size, args := #[] } :: a.defers } W) :
    (Code.rangeFunc g ps assign body).wp Tryd.prog Q a w := by
  refine (wpIn_wide (n := 10)).1 (wpIn_rangeFunc fun fn _ => ?_)
  obtain ⟨Z, hZ⟩ : ∃ Z, (w.alloc (.deferred (some []))).alloc (.loop (LpR fn a.tmps ps assign body w.heap.size .ready none)) = Z := ⟨_, rfl⟩
  have hZs : Z.heap.size = w.heap.size + 2 := by rw [← hZ]; simp
  have hZl : Z.heap[w.heap.size + 1]? = some (.loop (LpR fn a.tmps ps assign body w.heap.size .ready none)) := by
    rw [← hZ]; have := World.alloc_heap_new (w.alloc (.deferred (some []))) (.loop (LpR fn a.tmps ps assign body w.heap.size .ready none)); rwa [World.size_alloc] at this
  have hZd : Z.heap[w.heap.size]? = some (.deferred (some [])) := by
    rw [← hZ]; exact (Below.heap_alloc _ _ _ (by simp)).trans (World.alloc_heap_new w _)
  have hZk : KL w.heap.size S w Z := by rw [← hZ]; exact KL.below (((Below.refl _ w).alloc (Nat.le_refl _) _).alloc (by simp) _) (Nat.le_refl _)
  have hZi : I 0 Z := by rw [← hZ]; exact hI.alloc _ (hI.alloc _ h0)
  have hdS : w.heap.size ∉ S := fun hm => by have := hS _ hm; omega
  have hlS : w.heap.size + 1 ∉ S := fun hm => by have := hS _ hm; omega
  -- a round's record, turned
  have turn : ∀ (W : World) (s s' : LoopState) (j j' : Option Code), W.heap[w.heap.size + 1]? = some (.loop (LpR fn a.tmps ps assign body w.heap.size s j)) → W.heap[w.heap.size]? = some (.deferred (some [])) →
      (W.putObj (w.heap.size + 1) (.loop (LpR fn a.tmps ps assign body w.heap.size s' j'))).heap[w.heap.size + 1]? = some (.loop (LpR fn a.tmps ps assign body w.heap.size s' j')) ∧ (W.putObj (w.heap.size + 1) (.loop (LpR fn a.tmps ps assign body w.heap.size s' j'))).heap[w.heap.size]? = some (.deferred (some [])) :=
    fun W s s' j j' h1 h2 => ⟨World.putObj_heap_same (Array.getElem?_eq_some_iff.1 h1).1, (World.putObj_heap_other (by omega)).trans h2⟩
  refine ⟨w.heap.size + 1, [{ target := .collected w.heap.size, args := #[] }], Z, { target := .fn (.func gf) lb, args := #[.func (.yield (w.heap.size + 1)) #[] #[]] }, Z, gf, #[.func (.yield (w.heap.size + 1)) #[] #[]] ++ lb, Z, ?_, ?_, fun _ _ => trivial, ?_, fun h => by simp [Fence.wide] at h, ?_⟩
  · rw [← hZ]; exact run_enterLoop_outer _ _ _ _ _
  · simp only [resolve, hg]
    simp [go_sem]
  · simp [invoke, go_sem, eg]
  · refine (hseq (w.heap.size + 1)
      (fun k W => I k W ∧ W.heap[w.heap.size + 1]? = some (.loop (LpR fn a.tmps ps assign body w.heap.size .ready none)) ∧ W.heap[w.heap.size]? = some (.deferred (some [])))
      (fun k W => Ix k W ∧ W.heap[w.heap.size + 1]? = some (.loop (LpR fn a.tmps ps assign body w.heap.size .done (some (outC jump)))) ∧ W.heap[w.heap.size]? = some (.deferred (some [])))
      Z hZk (by omega) (by omega) (OwnFrom.and (own_mono hI (by omega)) (OwnFrom.and (own_obj (by omega)) (own_obj (by omega)))) (OwnFrom.and (own_mono hIx (by omega)) (OwnFrom.and (own_obj (by omega)) (own_obj (by omega)))) ?_ ⟨hZi, hZl, hZd⟩).mono ?_
    · rintro k W hlen ⟨hi, hl, hd⟩
      have hy := run_yield (P := Tryd.prog) (args := (enc k)) hl (hps k)
      refine ⟨(LpR fn a.tmps ps assign body w.heap.size .ready none).fn, _, (LpR fn a.tmps ps assign body w.heap.size .ready none).assign, (LpR fn a.tmps ps assign body w.heap.size .ready none).body, hy, roundIn_of_wpIn trivial ?_⟩
      refine hassign k W _ hlen (by have := (Array.getElem?_eq_some_iff.1 hl).1; omega) hi fun a' Wa hka hia hax => ?_
      have hl2 := (hka.same _ (by omega) hlS).trans hl
      have hd2 := (hka.same _ (by omega) hdS).trans hd
      have hbg := run_beginRound (P := Tryd.prog) hl2 rfl
      refine ⟨_, hbg, ?_⟩
      obtain ⟨hl3, hd3⟩ := turn Wa .ready .busy none none hl2 hd2
      have hs3 : w.heap.size + 2 ≤ (Wa.putObj (w.heap.size + 1) (.loop (LpR fn a.tmps ps assign body w.heap.size .busy none))).heap.size := by have := (Array.getElem?_eq_some_iff.1 hl3).1; omega
      have hk3 : KL (w.heap.size + 2) ((w.heap.size + 1) :: S) W (Wa.putObj (w.heap.size + 1) (.loop (LpR fn a.tmps ps assign body w.heap.size .busy none))) := (hka.more (by simp; exact fun i hi => .inr hi)).trans (KL.put (by simp) _)
      refine wpIn_mono (hbody k a' _ (hI.putObj _ hia (by omega) hl2 rfl) ((hAx k a').putObj (s := ()) _ hax (by omega) hl2 rfl) hlen hs3) ?_
      rintro e a3 W3 ⟨hkb, hp⟩
      have hl4 := (hkb.same _ (by omega) hlS).trans hl3
      have hd4 := (hkb.same _ (by omega) hdS).trans hd3
      have hk4 : KL (w.heap.size + 2) ((w.heap.size + 1) :: S) W W3 := hk3.trans (hkb.more (by simp; exact fun i hi => .inr hi))
      rcases hp with ⟨rfl, hi3⟩ | ⟨rfl, hi3⟩
      · have he := run_endRound (P := Tryd.prog) none hl4
        obtain ⟨h5, h6⟩ := turn W3 .busy .ready none none hl4 hd4
        refine ⟨_, _, he, hk4.trans (KL.put (by simp) _), .inl ⟨rfl, ?_⟩⟩
        exact ⟨hI.putObj _ hi3 (by omega) hl4 rfl, h5, h6⟩
      · have he := run_endRound (P := Tryd.prog) (some (outC jump)) hl4
        refine roundPost_out jump _ _ _ _ ⟨_, _, he, ?_⟩
        obtain ⟨h5, h6⟩ := turn W3 .busy .done none (some (outC jump)) hl4 hd4
        refine ⟨hk4.trans (KL.put (by simp) _), .inr ⟨rfl, ?_⟩⟩
        exact ⟨hIx.putObj _ hi3 (by omega) hl4 rfl, h5, h6⟩
    · rintro e W2 ⟨⟨v, rfl⟩, ⟨hi, hl, hd⟩ | ⟨k, hk, hi, hl, hd⟩⟩
      · exact ⟨none, _, run_endLoop (P := Tryd.prog) hl (by simp), hdone _ (hI.putObj _ hi (by omega) hl rfl) ((World.putObj_heap_other (by omega)).trans hd)⟩
      · exact ⟨some (outC jump), _, run_endLoop (P := Tryd.prog) hl (by simp), wpIn_out jump (hstop k _ hk (hIx.putObj _ hi (by omega) hl rfl) ((World.putObj_heap_other (by omega)).trans hd))⟩


end Go.Proofs.YtfnagfmbhcaphaaDoor
