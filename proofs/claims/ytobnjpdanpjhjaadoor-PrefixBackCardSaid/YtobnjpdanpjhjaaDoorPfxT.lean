/-
  The contract of the reference's some. Nothing here is a statement of the document.
-/
import Derived.Test.YtobnjpdanpjhjaaDoorPfxV
import Derived.Test.YtobnjpdanpjhjaaDoorPfxP
namespace Go.Proofs.YtobnjpdanpjhjaaDoor
open Go.RowKit Go.Shelf
set_option linter.unusedVariables false
attribute [local go_sem ↓] load_b16_rule store_b16_rule load_ad_rule store_ad_rule load_px_rule store_px_rule eq_b16_rule eq_ad_rule eq_px_rule build_ad_rule build_px_rule build_b16_rule

theorem pad_more (l : List Nat) (hB : Bys l) (i : Nat) (hi : i < 16) (hl : i < l.length) : ∀ j, j < 16 → (padB (l.take (i + 1))).at j = if j = i then l.getD i 0 else (padB (l.take i)).at j := fun j hj => by
  rw [padB_at _ (hB.take2 _) j hj, padB_at _ (hB.take2 _) j hj]
  simp only [List.getD_eq_getElem?_getD, List.getElem?_take]
  by_cases h : j = i
  · subst h; simp
  · rw [if_neg h]
    by_cases h2 : j < i
    · rw [if_pos (by omega), if_pos h2]
    · rw [if_neg (by omega), if_neg h2]
theorem b16_set {b c : B16} {k x : Nat} (hk : k < 16) (h : ∀ i, i < 16 → c.at i = if i = k then x else b.at i) : b.cs.setIfInBounds k (.int .u8 (x : Int)) = c.cs := by
  apply Array.ext_getElem?
  intro i
  rw [Array.getElem?_setIfInBounds]
  by_cases h1 : i < 16
  · rw [c.get i h1, h i h1, b.get i h1]
    by_cases h2 : k = i
    · subst h2; simp [b.size, hk]
    · rw [if_neg h2, if_neg (fun e => h2 e.symm)]
  · have e1 : c.cs[i]? = none := Array.getElem?_eq_none (by rw [c.size]; omega)
    have e2 : b.cs[i]? = none := Array.getElem?_eq_none (by rw [b.size]; omega)
    rw [e1, e2, if_neg (by omega)]
theorem pad_nil : padB [] = B16.zero := by
  apply B16.ext_at
  intro i hi
  rw [padB_at [] (fun m hm => by simp at hm) i hi]
  have : ∀ i, i < 16 → B16.zero.at i = 0 := by decide +kernel
  rw [this i hi]
  rfl
theorem build_b16z (w : World) : (buildSem 22 #[]).run Tryd.prog w = .ok (.agg B16.zero.cs) w := by kernel_rfl
theorem st_b16 {w : World} {g : Nat} {p q : B16} (h : Blk w g 22 p.cs) : (storeSem 22 (.pointer (some ⟨g, 0, none⟩)) (.agg q.cs)).run Tryd.prog w = .ok () (w.setRow g q.cs) := by
  have := storeRes_of (P := Tryd.prog) (ty := 22) (o := 0) (vs := q.cs) h (by rw [B16.size, B16.size]; omega) (s_b16 q) q.one
  rwa [over_all (by rw [B16.size, B16.size])] at this
theorem b16_ld {W : World} {g : Nat} {b : B16} (h : Blk W g 22 b.cs) : ∀ w', Below W.heap.size W w' → (loadSem 22 (.pointer (some ⟨g, 0, none⟩))).run Tryd.prog w' = .ok (.agg b.cs) w' :=
  fun w' k => loadRes_of (o := 0) (h.later k) (fun q _ => by rw [Nat.zero_add]) _ Tryd.underlying22 rfl (s_b16 b)
noncomputable def someX (L : List Nat) (k n : Nat) (wrong : Int) : B16 := if bodyE L k n wrong = 0 then padF L k n else B16.zero

end Go.Proofs.YtobnjpdanpjhjaaDoor
