/-
  A row of pieces, put in order: what the library's sort leaves, in words of blocks. Nothing here is a statement of the document.
-/
import Derived.Test.YtngnlepocahpaaaSrtL
namespace Go.Proofs.Ytngnlepocahpaaa
open Go.RowKit Go.Shelf Go.Sort
set_option linter.unusedVariables false

/-- A block whose place is not great. -/
abbrev Sb : Type := { b : Bl // b.x ≤ 20000 }
instance sbInhabited : Inhabited Sb := ⟨⟨Bl.zero, by decide⟩⟩
def encS (b : Sb) : List Value := (pccs b.1).toList
def cfS (x y : Sb) : Int := (x.1.x : Int) - (y.1.x : Int)
theorem encS_len (b : Sb) : (encS b).length = 2 := rfl
theorem encS_one (b : Sb) : ∀ v ∈ encS b, v.oneCell' = true := by
  intro v hv
  simp [encS, pccs] at hv
  rcases hv with rfl | rfl <;> rfl
theorem ltS (x y : Sb) : ltOf cfS x y = decide (x.1.x < y.1.x) := by
  show decide ((x.1.x : Int) - (y.1.x : Int) < 0) = _
  rw [decide_eq_decide]; omega
theorem swoS : SWO (ltOf cfS) where
  irrefl x := by simp [ltS]
  trans x y z h1 h2 := by simp only [ltS, decide_eq_true_eq] at *; omega
  ntrans x y z h1 h2 := by simp only [ltS, decide_eq_false_iff_not] at *; omega

set_option maxHeartbeats 1000000 in
theorem cmp_exact (x y : Bl) (hx : x.x ≤ 20000) (hy : y.x ≤ 20000) (w : World) : Calls Try.prog 57 #[.agg (pccs x), .agg (pccs y)] w fun e w' => e = .returned (.int .i64 ((x.x : Int) - (y.x : Int))) ∧ w' = (w.alloc (.cells (pccs x) 90)).alloc (.cells (pccs y) 90) := by
  unfold pccs at *
  go_enter Try.func57, Try.ntmps57
  go_wp2
  go_ret
  exact ⟨rfl, rfl⟩

theorem cmp_lays (blk off size : Nat) (w : World) : CmpLays Try.prog 57 #[] encS 2 cfS blk off size w := by
  intro m os dk hs x y
  refine (cmp_exact x.1 y.1 x.2 y.2 _).mono fun e w' h => ⟨h.1, 0, #[.cells (pccs x.1) 90, .cells (pccs y.1) 90], ?_⟩
  rw [h.2, alloc_eq_grow, alloc_eq_grow, grow_grow]
  rfl

section
variable {w : World} {r n : Nat} {d : Array Sb}
theorem holds_of (h : Srow w r n (d.map (·.1))) : HoldsK encS 2 w r 0 d := by
  have hsz : d.size = n := by simpa using h.size
  obtain ⟨C, h1, h2, h3⟩ := h.row
  intro j hj
  rw [size_flatK] at hj
  have hi : j / 2 < n := by omega
  obtain ⟨e0, e1⟩ := h3 (j / 2) hi
  have hg : (d.map (·.1))[j / 2]! = (d[j / 2]!).1 := by
    rw [getElem!_pos _ _ (by simp; omega), getElem!_pos _ _ (by omega)]; simp
  rw [hg] at e0 e1
  rw [get_flatK _ _ _ _ hj, Nat.zero_add]
  refine ⟨?_, h1.free _⟩
  show w.cell? ⟨r, j, none⟩ = some ((encS d[j / 2]!)[j % 2]!)
  rw [h1.cell]
  rcases (show j % 2 = 0 ∨ j % 2 = 1 by omega) with h0 | h0
  · rw [h0, show j = j / 2 * 2 by omega, show j / 2 * 2 / 2 = j / 2 by omega, e0]; rfl
  · rw [h0, show j = j / 2 * 2 + 1 by omega, show (j / 2 * 2 + 1) / 2 = j / 2 by omega, e1]; rfl
theorem sw_kept (hr : r < w.heap.size) (m : Nat) (dk : Array Sb) (os : Array Obj) : Kept [r] w (sortWorldK encS 2 w r 0 m dk os) := by
  refine ⟨rfl, rfl, rfl, ?_, fun k hk hS => ?_⟩
  · exact size_sortWorldK_c encS 2 w r 0 m dk os
  · have hkr : ¬ r = k := fun e => hS (by simp [e])
    unfold sortWorldK grow putRowK putRow mapBlock Go.Sort.ahead
    simp [Array.getElem?_append, hk]
    rw [Array.getElem_modify, if_neg hkr]
theorem sw_blk {C : Array Value} {t : TypeId} (h : Blk w r t C) (m : Nat) (dk : Array Sb) (os : Array Obj) : ∃ C', Blk (sortWorldK encS 2 w r 0 m dk os) r t C' ∧ C'.size = C.size := by
  refine ⟨putCells id 0 (flatK encS 2 dk) C, ?_, by simp [putCells]⟩
  have hb := h.lt
  unfold Blk at h ⊢
  unfold sortWorldK grow putRowK putRow mapBlock Go.Sort.ahead
  simp [Array.getElem?_append, hb]
  rw [Array.getElem_modify, if_pos rfl, (Array.getElem?_eq_some_iff.1 h).2]
  rfl

theorem isAgg_pc : ∀ w, (isAgg 90).run Try.prog w = .ok true w := fun w => by kernel_rfl
theorem size_pc : ∀ w, (Go.sizeOf 90).run Try.prog w = .ok 2 w := fun w => by kernel_rfl
end
/-- Put in order: the same pieces, rising. -/
theorem sort_any {w : World} {r n cap : Nat} {d : Array Bl} (h : Srow w r n d) :
    Calls Try.prog 56 #[.slice (some ⟨r, 0, none⟩) n cap, cmpF] w fun e w' => e = .returned (.tuple #[]) ∧ ∃ d', Srow w' r n d' ∧ d'.toList.Perm d.toList ∧ (∀ i j, i < j → j < n → d'[i]!.x ≤ d'[j]!.x) ∧ Kept [r] w w' := by
  have hb : ∀ b ∈ d, b.x ≤ 20000 := fun b hb => by
    obtain ⟨i, hi, rfl⟩ := Array.mem_iff_getElem.1 hb
    have := h.bnd i (by rw [← h.size]; exact hi)
    rwa [getElem!_pos d i hi] at this
  obtain ⟨ds, hds⟩ : ∃ ds : Array Sb, ds.map (·.1) = d := ⟨d.attach.map fun b => ⟨b.1, hb b.1 b.2⟩, by simp⟩
  have hs : ds.size = n := by rw [← h.size, ← hds]; simp
  have h' := h
  rw [← hds] at h'
  have hk := AnyQ.slices_SortFunc sortL 2 isAgg_pc size_pc encS encS_len encS_one cfS swoS 57 #[] r 0 cap ds w (enters_of Try.func57 (by kernel_rfl) rfl) (cmp_lays r 0 ds.size w) (holds_of h') h.lt (by have := h.le; omega)
  rw [hs] at hk
  refine hk.mono fun e w' hp => ⟨hp.1, ?_⟩
  obtain ⟨d', m, os, hperm, hsort, hw⟩ := hp.2
  have hsz : d'.size = n := hperm.1.trans hs
  obtain ⟨C, h1, h2, h3⟩ := h.row
  obtain ⟨C', b1, b2⟩ := sw_blk h1 m d' os
  rw [← hw] at b1
  have hH : HoldsK encS 2 w' r 0 d' := by rw [hw]; exact holdsK_sortWorldK_c encS 2 w r 0 ds d' m os (holds_of h') h.lt hperm.1
  have hg : ∀ i, i < n → (d'.map (·.1))[i]! = (d'[i]!).1 := fun i hi => by rw [getElem!_pos _ _ (by simp; omega), getElem!_pos _ _ (by omega)]; simp
  refine ⟨d'.map (·.1), ⟨by simp [hsz], h.le, fun i hi => by rw [hg i hi]; exact (d'[i]!).2, C', b1, by rw [b2]; exact h2, fun i hi => ?_⟩, ?_, fun i j hij hj => ?_, by rw [hw]; exact sw_kept h.lt m d' os⟩
  · have c0 := (hH.cell (i := i) (c := 0) (by omega) (by omega)).1
    have c1 := (hH.cell (i := i) (c := 1) (by omega) (by omega)).1
    rw [b1.cell] at c0 c1
    rw [hg i hi]
    refine ⟨?_, ?_⟩
    · rw [show i * 2 = 0 + i * 2 + 0 by omega, c0]; rfl
    · rw [show i * 2 + 1 = 0 + i * 2 + 1 by omega, c1]; rfl
  · have hp3 := hperm.2.2
    rw [← hs, Array.extract_size, show ds.size = d'.size from hperm.1.symm, Array.extract_size] at hp3
    rw [← hds]
    simpa using hp3.map (·.1)
  · have := hsort i j (Nat.zero_le _) hij hj
    simp only [ltS, decide_eq_false_iff_not] at this
    rw [hg i (by omega), hg j hj]
    omega
end Go.Proofs.Ytngnlepocahpaaa
