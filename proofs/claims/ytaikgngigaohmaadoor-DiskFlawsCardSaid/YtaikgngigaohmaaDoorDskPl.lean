/-
  The walk of DiskPlays: deed by deed a disk answers as the document says. Nothing here is a statement of the document.
-/
import Derived.Test.YtaikgngigaohmaaDoorDskMo
import Derived.Test.YtaikgngigaohmaaDoorDskIs
import Derived.Test.YtaikgngigaohmaaDoorDskEq
import Derived.Test.YtaikgngigaohmaaDoorDskW
namespace Go.Proofs.YtaikgngigaohmaaDoor
open Go.RowKit Go.Shelf
set_option linter.unusedVariables false

theorem fp_types {W : World} {B p pb k : Nat} {bv : Value} {D : Dk} (h : Dsk W B p pb bv D) (hk : k ∈ fp p pb bv) : ∃ t C, Blk W k t C ∧ (t = 68 ∨ t = 31 ∨ t = 61) := by
  simp only [fp, List.mem_cons, Option.mem_toList] at hk
  rcases hk with rfl | rfl | h9
  · exact ⟨_, _, h.cells, .inl rfl⟩
  · exact ⟨_, _, h.plate, .inr (.inl rfl)⟩
  · rcases h.buf.2 with ⟨rfl, _⟩ | ⟨g, cap, cur, rfl, _, hg, _⟩
    · simp [Value.ownBlock] at h9
    · obtain rfl : g = k := by simpa [Value.ownBlock] using h9
      exact ⟨_, _, hg, .inr (.inr rfl)⟩
theorem downsL_len : ∀ (l : List Rw) (P : List Bk), (downsL P l).length = P.length
  | [], _ => rfl
  | r :: l, P => by
    have e : downsL P (r :: l) = downsL (P.set r.s r.b) l := rfl
    rw [e, downsL_len l _, List.length_set]

end Go.Proofs.YtaikgngigaohmaaDoor
