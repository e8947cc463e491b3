/-
  The document's new disk, its row of yes, and what a sector shows, by their contracts. Nothing here is a statement of the document.
-/
import Derived.Test.YtaikgngigaohmaaDskI
namespace Go.Proofs.Ytaikgngigaohmaa
open Go.RowKit Go.Shelf
set_option linter.unusedVariables false

def newR (n : Nat) : Rk := ⟨List.replicate n Bk.zero, [], -1, -1, false, 0⟩
/-- A row that is wholly known, from its block's head. -/
theorem own_whole {w : World} {g : Nat} {t : TypeId} {cs : Array Value} (h : Blk w g t cs) (n size : Nat) (hs : cs.size = n * size) (hn : n ≤ maxLen) : w.ownsRow 0 t size (.slice (some ⟨g, 0, none⟩) n n) n cs.toList :=
  ⟨by rw [Array.length_toList, hs], .inr ⟨g, n, cs, rfl, Nat.zero_le _, h, Nat.le_refl _, hn, hs, by rw [List.take_of_length_le (by rw [Array.length_toList, hs]; exact Nat.le_refl _)]⟩⟩
/-- What a row that is owned holds, cell by cell. -/
theorem own_cells {w : World} {b : Nat} {e : TypeId} {size : Nat} {v : Value} {n : Nat} {xs : List Value} (h : w.ownsRow b e size v n xs) (hn : 0 < n) :
    ∃ g c C, v = .slice (some ⟨g, 0, none⟩) n c ∧ b ≤ g ∧ Blk w g e C ∧ n * size ≤ C.size ∧ n ≤ c ∧ c ≤ maxLen ∧ ∀ j, j < n * size → C[j]? = xs[j]? := by
  rcases h.2 with ⟨_, h0⟩ | ⟨g, cap, cur, rfl, hB, hg, hc, hm, hsz, ht⟩
  · omega
  · refine ⟨g, cap, cur, rfl, hB, hg, by rw [hsz]; exact Nat.mul_le_mul_right _ hc, hc, hm, fun j hj => ?_⟩
    rw [← ht, List.getElem?_take, if_pos hj, Array.getElem?_toList]

set_option maxRecDepth 100000 in
set_option maxHeartbeats 2000000 in
theorem new_ref (n : Nat) (h1 : 1 ≤ n) (h2 : n ≤ 2048) (w : World) : Calls Try.prog 9 #[.int .i64 (n : Int)] w fun e w' =>
    ∃ g, e = .returned (.agg ((newR n).vals (.slice (some ⟨g, 0, none⟩) n n) (.slice none 0 0))) ∧ Ref w' (.slice (some ⟨g, 0, none⟩) n n) (.slice none 0 0) (newR n) ∧ Below w.heap.size w w' := by
  obtain ⟨i0, hi, hz0, hz1, hz2⟩ := info_parts i_blk
  obtain ⟨W0, hW0⟩ : ∃ W0, w.alloc (.cells #[.slice none 0 0, .slice none 0 0, .int .i64 0, .int .i64 0, .bool false, .int .i64 0] 32) = W0 := ⟨_, rfl⟩
  have hmk := run_make (P := Try.prog) W0 29 38 i0 (.agg Bk.zero.cs) Try.underlying29 hi hz0 .i64 .i64 (n : Int) (n : Int) (by omega) (by omega) (by rw [hz2]; omega) (by omega)
  rw [hz1, show (n : Int).toNat = n from by omega, made_blocks] at hmk
  obtain ⟨PC, hPC⟩ : ∃ PC, (pcs (List.replicate n Bk.zero)).toArray = PC := ⟨_, rfl⟩
  rw [hPC] at hmk
  obtain ⟨W1, hW1⟩ : ∃ W1, W0.alloc (.cells PC 38) = W1 := ⟨_, rfl⟩
  rw [hW1] at hmk
  have hs0 : W0.heap.size = w.heap.size + 1 := by rw [← hW0]; simp
  have b0 : Blk W1 w.heap.size 32 #[.slice none 0 0, .slice none 0 0, .int .i64 0, .int .i64 0, .bool false, .int .i64 0] := by rw [← hW1, ← hW0]; exact (Blk.new w _ _).alloc _
  have b1 : Blk W1 W0.heap.size 38 PC := by rw [← hW1]; exact Blk.new W0 _ _
  have hb1 : Below w.heap.size w W1 := by rw [← hW1, ← hW0]; exact ((Below.refl _ _).alloc (Nat.le_refl _) _).alloc (by simp) _
  have hps : PC.size = n * 64 := by rw [← hPC]; simp [pcs_length]
  have hw := own_whole b1 n 64 hps (by unfold maxLen; omega)
  have hne : w.heap.size ≠ W0.heap.size := by omega
  have H := Lib.hid (And.intro hb1 (And.intro b1 (And.intro hPC (And.intro hps hne))))
  have c0 := b0.cell 0
  have c1 := b0.cell 1
  have c2 := b0.cell 2
  have c3 := b0.cell 3
  have c4 := b0.cell 4
  have c5 := b0.cell 5
  simp only [List.getElem?_toArray, List.getElem?_cons_zero, List.getElem?_cons_succ] at c0 c1 c2 c3 c4 c5
  have hR : ∃ W2, W1.setRow w.heap.size #[.slice (some ⟨W0.heap.size, 0, none⟩) n n, .slice none 0 0, .int .i64 (-1), .int .i64 (-1), .bool false, .int .i64 0] = W2 := ⟨_, rfl⟩
  obtain ⟨W2, hW2⟩ := hR
  have hs6 : ∀ xs : Array Value, xs.size = 6 → over #[.slice none 0 0, .slice none 0 0, .int .i64 0, .int .i64 0, .bool false, .int .i64 0] 0 xs = xs := fun xs hx => over_all (by rw [hx]; rfl)
  have b2 : Blk W2 w.heap.size 32 #[.slice (some ⟨W0.heap.size, 0, none⟩) n n, .slice none 0 0, .int .i64 (-1), .int .i64 (-1), .bool false, .int .i64 0] := by rw [← hW2]; exact b0.row _
  have hb2 : Below w.heap.size w W2 := by rw [← hW2]; exact below_setRow hb1 (Nat.le_refl _) _
  have b3 : Blk W2 W0.heap.size 38 PC := by
    rw [← hW2]
    exact b1.kept (S := [w.heap.size]) ((Kept.refl _ _).setRow (.inl (by simp)) _) (by simp; omega)
  have hw2 := own_whole b3 n 64 hps (by unfold maxLen; omega)
  rw [← hPC] at hw2
  have HE := Lib.hid (And.intro b2 (And.intro hb2 hw2))
  have HS := Lib.hid hs6
  clear hw hb1 b1 hPC hps hne hi hz0 hz1 hz2 hW1 hs0 h1 h2 b2 hb2 b3 hw2 hs6 c0 c1 c2 c3 c4 c5
  go_enter Try.func9, Try.ntmps9
  go_wp2_with (with_reducible refine wpList_store_blk rfl 32 (.tmp 2) (.tmp 5) rfl w.heap.size 0 _ _ _ rfl rfl b0 (by simp) (by kernel_rfl) (by kernel_rfl) ?_; rw [HS.out _ rfl, hW2])
  refine bodyPost_ret (results_cell_row rfl _ _ w.heap.size 32 _ (0, 0) _ rfl HE.out.1 Try.underlying32 rfl (by kernel_rfl)) rfl ?_
  exact ⟨_, rfl, ⟨by simpa [newR] using HE.out.2.2, World.ownsRow_nil _ _ _ _⟩, HE.out.2.1⟩
end Go.Proofs.Ytaikgngigaohmaa
