/-
  Rows that are written to a disk: the words, and Wal.write's rounds. Nothing here is a statement of the document.
-/
import Derived.Test.YtkfpkolgikpcpaaWalE
import Derived.Test.YtkfpkolgikpcpaaDskM
import Derived.WalkMore
namespace Go.Proofs.Ytkfpkolgikpcpaa
open Go.RowKit Go.Shelf
set_option linter.unusedVariables false

/-- A row that is to be written: the function that tells it, and what it tells. -/
structure RowW where
  gf : FuncId
  lb : Array Value
  N : Nat
  it : Nat → Nat × Bk
def RowW.enc (x : RowW) (k : Nat) : Value × Value := (.int .i64 ((x.it k).1 : Int), .agg (x.it k).2.cs)
def RowW.val (x : RowW) : Value := .func (.func x.gf) #[] x.lb
def RowW.items (x : RowW) : List (Nat × Bk) := (List.range x.N).map x.it
/-- A row tells what it is said to, as long as nothing turns these blocks. -/
structure Told (C : List Nat) (x : RowW) (w : World) : Prop where
  eg : ∀ args w, (callFunc x.gf args).run Try.prog w = .ok (.enter x.gf args) w
  lt : ∀ c ∈ C, c < w.heap.size
  tells : ∀ S W, KB S w W → (∀ c ∈ C, c ∉ S) → (∀ k ∈ S, k < W.heap.size) → Tells x.gf x.lb S x.N x.enc W

/-- Sectors written one behind the other; the first error. -/
def putsM (D : Dk) : List (Nat × Bk) → Dk × Int
  | [] => (D, 0)
  | x :: l => if (writeM D (x.1 : Int) x.2).2 = 0 then putsM (writeM D (x.1 : Int) x.2).1 l else writeM D (x.1 : Int) x.2
/-- So a row, and a sync behind it. -/
def layM (D : Dk) (l : List (Nat × Bk)) : Dk × Int := if (putsM D l).2 = 0 then syncM (putsM D l).1 else putsM D l
/-- So rows. -/
def laysM (D : Dk) : List (List (Nat × Bk)) → Dk × Int
  | [] => (D, 0)
  | l :: r => if (layM D l).2 = 0 then laysM (layM D l).1 r else layM D l

theorem putsM_snoc (D : Dk) (l : List (Nat × Bk)) (x : Nat × Bk) : putsM D (l ++ [x]) = if (putsM D l).2 = 0 then writeM (putsM D l).1 (x.1 : Int) x.2 else putsM D l := by
  induction l generalizing D with
  | nil =>
    simp only [List.nil_append, putsM, if_true]
    split
    · rename_i h; rw [← h]
    · rfl
  | cons y l ih =>
    by_cases h : (writeM D (y.1 : Int) y.2).2 = 0
    · have e : putsM D (y :: l) = putsM (writeM D (y.1 : Int) y.2).1 l := if_pos h
      rw [e, ← ih]
      exact if_pos h
    · have e : putsM D (y :: l) = writeM D (y.1 : Int) y.2 := if_neg h
      rw [e, if_neg h]
      exact if_neg h
theorem laysM_snoc (D : Dk) (r : List (List (Nat × Bk))) (l : List (Nat × Bk)) : laysM D (r ++ [l]) = if (laysM D r).2 = 0 then layM (laysM D r).1 l else laysM D r := by
  induction r generalizing D with
  | nil =>
    simp only [List.nil_append, laysM, if_true]
    split
    · rename_i h; rw [← h]
    · rfl
  | cons y r ih =>
    by_cases h : (layM D y).2 = 0
    · have e : laysM D (y :: r) = laysM (layM D y).1 r := if_pos h
      rw [e, ← ih]
      exact if_pos h
    · have e : laysM D (y :: r) = layM D y := if_neg h
      rw [e, if_neg h]
      exact if_neg h
theorem putsM_stop (D : Dk) (l m : List (Nat × Bk)) (h : (putsM D l).2 ≠ 0) : putsM D (l ++ m) = putsM D l := by
  induction l generalizing D with
  | nil => exact absurd rfl h
  | cons y l ih =>
    by_cases h9 : (writeM D (y.1 : Int) y.2).2 = 0
    · have e : putsM D (y :: l) = putsM (writeM D (y.1 : Int) y.2).1 l := if_pos h9
      rw [e] at h ⊢
      rw [← ih _ h]
      exact if_pos h9
    · have e : putsM D (y :: l) = writeM D (y.1 : Int) y.2 := if_neg h9
      rw [e]
      exact if_neg h9
theorem laysM_stop (D : Dk) (l m : List (List (Nat × Bk))) (h : (laysM D l).2 ≠ 0) : laysM D (l ++ m) = laysM D l := by
  induction l generalizing D with
  | nil => exact absurd rfl h
  | cons y l ih =>
    by_cases h9 : (layM D y).2 = 0
    · have e : laysM D (y :: l) = laysM (layM D y).1 l := if_pos h9
      rw [e] at h ⊢
      rw [← ih _ h]
      exact if_pos h9
    · have e : laysM D (y :: l) = layM D y := if_neg h9
      rw [e]
      exact if_neg h9

theorem KB.goes {w w' : World} {B p pb : Nat} {bv bv' : Value} {D : Dk} (h : Dsk w B p pb bv D) (g : Goes w w' p pb bv bv') {S : List Nat} (hp : p ∈ S) (hpb : pb ∈ S) : KB S w w' :=
  ⟨g.kept.size, fun k o hk ho hn => by
    refine (g.kept.block k (Array.getElem?_eq_some_iff.1 ho).1 (fun hm => ?_)).trans ho
    simp only [fp, List.mem_cons, Option.mem_toList] at hm
    rcases hm with rfl | rfl | hm
    · exact hk hp
    · exact hk hpb
    · rcases h.buf.2 with ⟨rfl, _⟩ | ⟨b, cap, cur, rfl, _, hb, _⟩
      · simp [Value.ownBlock] at hm
      · obtain rfl : b = k := by simpa [Value.ownBlock] using hm
        rw [hb] at ho
        cases ho
        simp [notRow] at hn⟩

/-- Marks of ranges, one for each. -/
def marks (ds : List Nat) : List Deferred := ds.map fun d => { target := .collected d, args := #[] }
/-- A function that has gone over ranges returns: their marks are taken. -/
theorem marks_all {fn : Func} {R : Ending → World → Prop} {tmps : Array Value} {v : Value} (hr : ∀ w, (results fn tmps).run Try.prog w = .ok v w) :
    ∀ (ds : List Nat) (w : World), ds.Nodup → (∀ d ∈ ds, w.heap[d]? = some (.deferred (some []))) → (∀ w', w'.heap.size = w.heap.size → w'.os = w.os → w'.tape = w.tape → w'.output = w.output → (∀ k, k ∉ ds → w'.heap[k]? = w.heap[k]?) → R (.returned v) w') →
      LeavesInM Fence.wide 10 Try.prog fn tmps R (marks ds) .returning w := by
  intro ds
  induction ds with
  | nil => exact fun w _ _ h => ⟨_, hr w, h w rfl rfl rfl rfl (fun _ _ => rfl)⟩
  | cons d ds ih =>
    intro w hn hd h
    refine ⟨by simp, .inl ⟨d, _, rfl, run_takeDeferred (hd d (by simp)), ?_⟩⟩
    refine ih _ (List.nodup_cons.1 hn).2 (fun d' hd' => ?_) (fun w' h1 h2 h3 h4 h5 => h w' (h1.trans (by simp [World.putObj])) h2 h3 h4 (fun k hk => ?_))
    · exact (World.putObj_heap_other (fun e => (List.nodup_cons.1 hn).1 (by rw [← e]; exact hd'))).trans (hd d' (by simp [hd']))
    · simp only [List.mem_cons, not_or] at hk
      exact (h5 k hk.2).trans (World.putObj_heap_other hk.1)
end Go.Proofs.Ytkfpkolgikpcpaa
