/-
  What the building of a row, of a block and of a slice of one row comes to. Nothing here is a statement of the document.
-/
import Derived.Test.YtkfpkolgikpcpaaDskC
namespace Go.Proofs.Ytkfpkolgikpcpaa
open Go.RowKit
set_option linter.unusedVariables false

theorem fold_get (off : Nat) : ∀ (l : List Value) (k : Nat) (cs : Array Value), off + k + l.length ≤ cs.size →
    ((l.zipIdx k).foldl (fun cs (x : Value × Nat) => cs.setIfInBounds (off + x.2) x.1) cs).size = cs.size ∧
    ∀ i, ((l.zipIdx k).foldl (fun cs (x : Value × Nat) => cs.setIfInBounds (off + x.2) x.1) cs)[i]? = if off + k ≤ i ∧ i < off + k + l.length then l[i - (off + k)]? else cs[i]? := by
  intro l
  induction l with
  | nil => intro k cs h; exact ⟨rfl, fun i => by rw [if_neg (by simp only [List.length_nil]; omega)]; rfl⟩
  | cons v l ih =>
    intro k cs h
    simp only [List.length_cons] at h
    obtain ⟨h1, h2⟩ := ih (k + 1) (cs.setIfInBounds (off + k) v) (by simp; omega)
    simp only [List.zipIdx_cons, List.foldl_cons]
    refine ⟨h1.trans (by simp), fun i => ?_⟩
    rw [h2 i]
    simp only [List.length_cons]
    by_cases hi : off + (k + 1) ≤ i ∧ i < off + (k + 1) + l.length
    · rw [if_pos hi, if_pos (by omega), show i - (off + k) = (i - (off + (k + 1))) + 1 from by omega, List.getElem?_cons_succ]
    · rw [if_neg hi]
      by_cases he : i = off + k
      · subst he
        have hlt : off + k < cs.size := by omega
        rw [if_pos (by omega), Nat.sub_self]
        simp [hlt]
      · rw [if_neg (by omega), Array.getElem?_setIfInBounds_ne (by omega)]
theorem fold_over (off : Nat) (vs cs : Array Value) (h : off + vs.size ≤ cs.size) : vs.zipIdx.foldl (fun cs (x : Value × Nat) => cs.setIfInBounds (off + x.2) x.1) cs = over cs off vs := by
  have e : vs.zipIdx.foldl (fun cs (x : Value × Nat) => cs.setIfInBounds (off + x.2) x.1) cs = (vs.toList.zipIdx 0).foldl (fun cs (x : Value × Nat) => cs.setIfInBounds (off + x.2) x.1) cs := by
    rw [← Array.foldl_toList, Array.toList_zipIdx]
  obtain ⟨h1, h2⟩ := fold_get off vs.toList 0 cs (by simpa using h)
  rw [e]
  apply Array.ext_getElem?
  intro i
  rw [h2 i, over_get h]
  simp only [Nat.add_zero, Array.length_toList, Array.getElem?_toList]
  by_cases h3 : i < off
  · rw [if_neg (by omega), if_pos h3]
  · rw [if_neg h3]
    by_cases h4 : i < off + vs.size
    · rw [if_pos (by omega), if_pos h4]
    · rw [if_neg (by omega), if_neg h4]

theorem over_row (s : Int) (b : Bk) : over (over Rw.zero.cs 0 #[.int .i64 s]) 1 b.cs = #[.int .i64 s] ++ b.cs := by
  have hz : Rw.zero.cs.size = 65 := Rw.size _
  have hb : b.cs.size = 64 := b.size
  have h1 : (over Rw.zero.cs 0 #[.int .i64 s]).size = 65 := by rw [size_over (by simp [hz])]; exact hz
  apply Array.ext_getElem?
  intro i
  rw [over_get (by omega), over_get (by simp [hz])]
  by_cases h0 : i < 1
  · obtain rfl : i = 0 := by omega
    rw [if_pos (by omega), if_neg (by omega), if_pos (by simp), Array.getElem?_append_left (by simp)]
  · rw [if_neg h0, Array.getElem?_append_right (by simp; omega)]
    by_cases h2 : i < 1 + b.cs.size
    · rw [if_pos h2]; simp
    · rw [if_neg h2, if_neg (by omega), if_neg (by simp; omega), Array.getElem?_eq_none (by omega), Array.getElem?_eq_none (by simp; omega)]

theorem build_row (s : Int) (b : Bk) (w : World) : (Instr.build 108 #[(0, .int .i64 s), (1, .agg b.cs)]).run Try.prog w = .ok (.agg (#[.int .i64 s] ++ b.cs)) w := by
  have hz := (zero_of_info z_row).1 w
  have hu := run_underlying (P := Try.prog) Try.underlying108 w
  unfold Instr.build
  simp only [Sem.run_bind, hz, hu, Result.andThen_ok]
  go_simp
  have h1 : ¬ Rw.zero.cs = #[] := fun e => by have := congrArg Array.size e; rw [Rw.size] at this; simp at this
  have h2 : b.cs.size = 64 := b.size
  have h3 : Rw.zero.cs.size = 65 := Rw.size _
  have h4 : over (over Rw.zero.cs 0 #[.int .i64 s]) 1 b.cs = #[.int .i64 s] ++ b.cs := over_row s b
  have h5 : over Rw.zero.cs 0 #[Value.int .i64 s] = Rw.zero.cs.setIfInBounds 0 (.int .i64 s) := by
    apply Array.ext_getElem?
    intro i
    rw [over_get (by simp [h3])]
    by_cases h0 : i < 1
    · obtain rfl : i = 0 := by omega
      rw [if_neg (by omega), if_pos (by simp)]
      simp [h3]
    · rw [if_neg (by omega), if_neg (by simp; omega), Array.getElem?_setIfInBounds_ne (by omega)]
  have h6 := fold_over 1 b.cs (Rw.zero.cs.setIfInBounds 0 (.int .i64 s)) (by simp [h2, h3])
  have h7 : b.cs.zipIdx.size = b.cs.size := by simp
  rw [h7] at h6
  have h8 : ∀ (A : Option (Array Value)), (if (decide ¬ (Value.agg b.cs).cells.size = 64) = true ∨ Rw.zero.cs.size < 1 + b.cs.size then none else A) = A := fun A => if_neg (by
    rintro (h | h)
    · have : (Value.agg b.cs).cells.size = 64 := h2
      simp [this] at h
    · omega)
  rw [if_neg h1]
  erw [h8]
  rw [h6, ← h5, h4]
  rfl

theorem wpList_build_row {ops : Array Oper} {rest : List Oper} {op : Oper} {a : Act} {w : World} {Q : Exit → Act → World → Prop} (hgd : op.guard = none) (x y : Operand) (ho : op.op = .build 108 #[(0, x), (1, y)]) (r : Rw)
    (hx : a.eval x = .int .i64 (r.s : Int)) (hy : a.eval y = .agg r.b.cs) (hK : wpList Try.prog ops Q rest (a.put op.dst (.agg r.cs)) w) : wpList Try.prog ops Q (op :: rest) a w := by
  refine wpList_plain hgd fun K hK' => ?_
  have hrun := build_row (r.s : Int) r.b w
  unfold Oper.wp
  simp only [execOp, ho, List.map_toArray, List.map_cons, List.map_nil, hx, hy, Sem.run_bind, hrun, Result.andThen_ok]
  exact hK' _ _ hK

/-! ### A slice of one row -/
def buildSem (n : Nat) (parts : Array (Nat × Value)) : Sem Value := Instr.buildSlice 100 n parts
theorem build_rule (n : Nat) (parts : Array (Nat × Value)) : Instr.buildSlice 100 n parts = buildSem n parts := rfl
theorem buildSem_run (r : Rw) (w : World) : (buildSem 1 #[(0, .agg r.cs)]).run Try.prog w = .ok (.slice (some ⟨w.heap.size, 0, none⟩) 1 1) (w.alloc (.cells r.cs 108)) := by
  have hz := (zero_of_info z_row).1 w
  have hu := run_underlying (P := Try.prog) Try.underlying100 w
  have h2 : r.cs.size = 65 := r.size
  have h3 : Rw.zero.cs.size = 65 := Rw.size _
  unfold buildSem Instr.buildSlice
  simp only [Sem.run_bind, hu, Result.andThen_ok]
  have h6 : ∀ C : Array Value, C.size = 65 → Array.foldl (fun cs (x : Value × Nat) => cs.setIfInBounds x.snd x.fst) C r.cs.zipIdx 0 65 = r.cs := by
    intro C hC
    have := fold_over 0 r.cs C (by omega)
    simp only [Nat.zero_add] at this
    rw [over_all (by omega)] at this
    have h7 : r.cs.zipIdx.size = 65 := by simp [h2]
    rw [h7] at this
    exact this
  go_simp

/-! ### Appending one row -/
def appSem (ty : TypeId) (args : Array Value) : Sem Value := Builtin.append_ #[100, 100] ty args
theorem app_rule (ty : TypeId) (args : Array Value) : Builtin.append_ #[100, 100] ty args = appSem ty args := rfl
theorem appSem_run {w : World} {B : Nat} {bv : Value} {R : List Rw} {q : Nat} {r : Rw} (ty : TypeId) (h : w.ownsRow B 108 65 bv R.length (rcs R)) (h8 : R.length ≤ 8) (hq : Blk w q 108 r.cs) (hB : B ≤ w.heap.size) :
    ∃ g cap w', (appSem ty #[bv, .slice (some ⟨q, 0, none⟩) 1 1]).run Try.prog w = .ok (.slice (some ⟨g, 0, none⟩) (R.length + 1) cap) w' ∧
      w'.ownsRow B 108 65 (.slice (some ⟨g, 0, none⟩) (R.length + 1) cap) (R.length + 1) (rcs (R ++ [r])) ∧ w.grownBy w' bv.ownBlock ∧ (bv.ownBlock = some g ∨ w.heap.size ≤ g) := by
  obtain ⟨i0, hi, hz0, hz1, hz2⟩ := info_parts (show (Try.prog.info? 108).map (fun i => (i.zero, i.size, i.bytes)) = some (some (.agg Rw.zero.cs), 65, 72) by kernel_rfl)
  have hone : ∀ u ∈ r.cs.toList, u.oneCell' = true := fun u hu => Array.all_eq_true_iff_forall_mem.1 r.one u (by simpa using hu)
  have hsrc : ∀ j u, r.cs.toList[j]? = some u → w.cell? ((⟨q, 0, none⟩ : Addr).add j) = some u := fun j u hj => by rw [Addr.add_lit, Nat.zero_add, hq.cell]; simpa using hj
  have hnl : r.cs.toList.length = 1 * 65 := by have := r.size; simp [this]
  have e1 : rcs R ++ r.cs.toList = rcs (R ++ [r]) := by rw [rcs_append, rcs_one_row]
  have hrun := fun (B' : Nat) (h' : w.ownsRow B' 108 65 bv R.length (rcs R)) (hB' : B' ≤ w.heap.size) => run_append_own (P := Try.prog) w B' 100 ty 108 i0 (.agg Rw.zero.cs) 65 72 Try.underlying100 hi hz0 hz1 hz2 (Rw.size _) (by decide) bv R.length (rcs R) h' ⟨q, 0, none⟩ 1 1 r.cs.toList hnl hsrc hone (by unfold maxLen; omega) (by omega) hB'
  rcases h.2 with ⟨rfl, h0⟩ | ⟨g, cap, cur, rfl, hbg, hg, hnc, hcm, hcs, htake⟩
  · have hR : R = [] := List.eq_nil_of_length_eq_zero h0
    subst hR
    obtain ⟨v', w', hr, h1, h2, _⟩ := hrun w.heap.size (World.ownsRow_nil _ _ _ _) (Nat.le_refl _)
    rw [e1] at h1
    obtain ⟨g, cap, rfl⟩ := ownsRow_succ h1
    have hge := (h1.lt g rfl).1
    refine ⟨g, cap, w', hr, ⟨h1.1, ?_⟩, h2, .inr hge⟩
    rcases h1.2 with ⟨h9, _⟩ | ⟨g', cap', cur', h9, hb, rest⟩
    · simp at h9
    · exact .inr ⟨g', cap', cur', h9, Nat.le_trans hB hb, rest⟩
  · by_cases hroom : R.length + 1 ≤ cap
    · obtain ⟨w', hr, h1, h2⟩ := run_append_fits (P := Try.prog) w B 100 ty 108 i0 65 Try.underlying100 hi hz1 g R.length cap (rcs R) h ⟨q, 0, none⟩ 1 1 r.cs.toList hnl hsrc hone hroom
      rw [e1] at h1
      exact ⟨g, cap, w', hr, h1, h2, .inl rfl⟩
    · obtain ⟨v', w', hr, h1, h2, _⟩ := hrun B h hB
      have hr2 := run_append_grow (P := Try.prog) w 100 ty 108 i0 (.agg Rw.zero.cs) Try.underlying100 hi hz0 ⟨g, 0, none⟩ R.length cap (rcs R) (by rw [hz1]; exact h.1) (h.cells (g := g) rfl) ⟨q, 0, none⟩ 1 1 r.cs.toList (by rw [hz1]; exact hnl) hsrc (by omega) (by omega) (by rw [hz2]; exact growslice_fits (by omega) (by omega))
      have e2 := hr.symm.trans hr2
      injection e2 with e3 e4
      subst e3
      rw [e1] at h1
      exact ⟨_, _, w', hr, h1, h2, .inr (Nat.le_refl _)⟩
end Go.Proofs.Ytkfpkolgikpcpaa
