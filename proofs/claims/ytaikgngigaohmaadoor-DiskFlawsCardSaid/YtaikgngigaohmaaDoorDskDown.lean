/-
  What goes down by the document, by its contract. Nothing here is a statement of the document.
-/
import Derived.Test.YtaikgngigaohmaaDoorDskRg
namespace Go.Proofs.YtaikgngigaohmaaDoor
open Go.RowKit Go.Shelf
set_option linter.unusedVariables false

def downTo (M : Rk) (ks : List Bool) : Nat → List Bk × List Rw
  | 0 => (M.plate, [])
  | j + 1 => match M.rows[j]? with
    | none => downTo M ks j
    | some r => if ks.getD j false = true then ((downTo M ks j).1.set r.s r.b, (downTo M ks j).2) else ((downTo M ks j).1, (downTo M ks j).2 ++ [r])
def downR (M : Rk) (ks : List Bool) : Rk := { M with plate := (downTo M ks M.rows.length).1, rows := (downTo M ks M.rows.length).2 }
theorem downTo_len (M : Rk) (ks : List Bool) : ∀ j, (downTo M ks j).1.length = M.plate.length ∧ (downTo M ks j).2.length ≤ j
  | 0 => ⟨rfl, Nat.le_refl _⟩
  | j + 1 => by
    obtain ⟨h1, h2⟩ := downTo_len M ks j
    unfold downTo
    split
    · exact ⟨h1, by omega⟩
    · split
      · exact ⟨by simpa using h1, by show (downTo M ks j).2.length ≤ j + 1; omega⟩
      · exact ⟨h1, by simp; omega⟩

/-- A block of a row that is owned is written. -/
theorem own_put {w : World} {B n c g : Nat} {P : List Bk} (h : w.ownsRow B 31 64 (.slice (some ⟨g, 0, none⟩) n c) n (pcs P)) (hP : P.length = n) {s : Nat} (hs : s < n) (b : Bk) :
    ∃ C, Blk w g 31 C ∧ s * 64 + b.cs.size ≤ C.size ∧ (w.setRow g (over C (s * 64) b.cs)).ownsRow B 31 64 (.slice (some ⟨g, 0, none⟩) n c) n (pcs (P.set s b)) := by
  rcases h.2 with ⟨h9, _⟩ | ⟨g', cap, cur, h9, hB, hg, hc, hm, hsz, ht⟩
  · cases h9
  · injection h9 with h9 _ h8
    injection h9 with h9
    injection h9 with h9 _ _
    subst h9 h8
    have hb : Blk w g 31 cur := hg
    have hbs : b.cs.size = 64 := b.size
    have hfit : s * 64 + b.cs.size ≤ cur.size := by rw [hsz, hbs]; have : (s + 1) * 64 ≤ c * 64 := Nat.mul_le_mul_right _ (by omega); omega
    refine ⟨cur, hb, hfit, by rw [pcs_length, List.length_set, hP], .inr ⟨g, c, over cur (s * 64) b.cs, rfl, hB, hb.row _, hc, hm, by rw [size_over hfit]; exact hsz, ?_⟩⟩
    rw [← pcs_set b (by omega), ← ht]
    apply List.ext_getElem?
    intro i
    have hl : s * 64 + b.cs.toList.length ≤ (cur.toList.take (n * 64)).length := by
      rw [List.length_take, Array.length_toList, Array.length_toList, hsz, hbs]
      have : (s + 1) * 64 ≤ n * 64 := Nat.mul_le_mul_right _ (by omega)
      have : n * 64 ≤ c * 64 := Nat.mul_le_mul_right _ hc
      omega
    rw [splice_get hl, List.getElem?_take, Array.getElem?_toList, over_get hfit]
    simp only [Array.length_toList, Array.getElem?_toList, List.getElem?_take]
    have hn64 : s * 64 + b.cs.size ≤ n * 64 := by
      have : (s + 1) * 64 ≤ n * 64 := Nat.mul_le_mul_right _ (by omega)
      omega
    by_cases h1 : i < s * 64
    · rw [if_pos h1, if_pos h1]
    · rw [if_neg h1, if_neg h1]
      by_cases h2 : i < s * 64 + b.cs.size
      · rw [if_pos h2, if_pos h2, if_pos (by omega)]
      · rw [if_neg h2, if_neg h2]

theorem own_pslice {w : World} {B n : Nat} {v : Value} {xs : List Value} (h : w.ownsRow B 31 64 v n xs) (hn : 0 < n) : ∃ g c, v = .slice (some ⟨g, 0, none⟩) n c ∧ B ≤ g := by
  obtain ⟨g, c, C, rfl, hB, _⟩ := own_cells h hn
  exact ⟨g, c, rfl, hB⟩
theorem own_kept0 {S : List Nat} {w w' : World} {b : Nat} {e : TypeId} {size : Nat} {v : Value} {n : Nat} {xs : List Value} (h : w.ownsRow b e size v n xs) (hk : Kept S w w') (hS : ∀ k, v.ownBlock = some k → k ∉ S) : w'.ownsRow b e size v n xs := by
  rcases h.2 with h9 | ⟨g, cap, cur, h1, h2, h3, h4⟩
  · exact ⟨h.1, .inl h9⟩
  · subst h1
    exact ⟨h.1, .inr ⟨g, cap, cur, rfl, h2, hk.blk h3 (hS g rfl), h4⟩⟩

/-- A plate is where it was, or in new memory. -/
def NewP (w : World) (pv pv' : Value) : Prop := ∀ k, pv'.ownBlock = some k → pv.ownBlock = some k ∨ w.heap.size ≤ k
theorem NewP.refl (w : World) (pv : Value) : NewP w pv pv := fun k h => .inl h
theorem NewP.mono {w w2 : World} {pv pv' : Value} (h : NewP w2 pv pv') (hs : w.heap.size ≤ w2.heap.size) : NewP w pv pv' := fun k hk => (h k hk).imp id (fun h9 => Nat.le_trans hs h9)

end Go.Proofs.YtaikgngigaohmaaDoor
