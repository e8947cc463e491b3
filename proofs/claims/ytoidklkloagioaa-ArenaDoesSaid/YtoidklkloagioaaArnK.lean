/-
  Blocks and Spare of an arena, and of nil. Nothing here is a statement of the document.
-/
import Derived.Test.YtoidklkloagioaaArnJ
namespace Go.Proofs.Ytoidklkloagioaa
open Go.RowKit Go.Shelf
set_option linter.unusedVariables false

theorem ownsRow_le {w : World} {B B' : Nat} {e : TypeId} {z : Nat} {v : Value} {n : Nat} {xs : List Value} (h : w.ownsRow B e z v n xs) (hB : B' ≤ B) : w.ownsRow B' e z v n xs :=
  ⟨h.1, by rcases h.2 with h9 | ⟨g, cap, cur, h1, h2, rest⟩; exact .inl h9; exact .inr ⟨g, cap, cur, h1, Nat.le_trans hB h2, rest⟩⟩
theorem chain_len {ws : List Nat} : ∀ {B : List Bl} {a0 : Nat}, Chain ws a0 B → a0 + B.length ≤ ws.getD 15 0
  | [], a0, h => by have h1 : a0 = ws.getD 15 0 := h; exact Nat.le_of_eq (by rw [← h1]; rfl)
  | b :: r, a0, h => by
    have h1 := chain_len h.2.2.2.2
    have := Nat.zero_le (2 ^ b.c)
    generalize 2 ^ b.c = z at *
    simp only [List.length_cons]
    omega
theorem ofT_len (t : Bool) (B : List Bl) : (ofT t B).length ≤ B.length := List.length_filter_le _ _

set_option maxHeartbeats 1000000 in
theorem collect_any {w : World} {gf : FuncId} {lb : Array Value} (L : List Bl) (hL : L.length ≤ 20000) (eg : ∀ args w, (callFunc gf args).run Try.prog w = .ok (.enter gf args) w)
    (hT : ∀ W1, Below w.heap.size w W1 → w.heap.size < W1.heap.size → Tells XP gf lb [w.heap.size] L.length (fun k => #[.agg (pccs (L.getD k Bl.zero))]) W1) :
    Calls Try.prog 62 #[.func (.func gf) #[] lb] w fun e w' => ∃ v, e = .returned v ∧ w'.ownsRow w.heap.size 86 2 v L.length (pcl L) ∧ Below w.heap.size w w' := by
  have ha := appendseq_any L hL eg hT
  clear hT eg
  go_enter Try.func62, Try.ntmps62
  go_wp2_with fail
  refine ha.mono ?_
  rintro e w' ⟨v, rfl, ho, hb⟩
  have HQ := Lib.hid (And.intro ho hb)
  clear ha ho hb
  go_wp2
  go_ret
  exact ⟨v, rfl, HQ.out⟩

section
variable {w : World} {g p q : Nat} {ws : List Nat} {bs : List Bool}
/-- Pieces, collected. -/
theorem pieces_all (t : Bool) {B : List Bl} (h : Ar w g p q ws bs) (hC : Chain ws 16 B) (he : ws.getD 15 0 ≤ ws.length) {W2 : World} (hb : Blk W2 w.heap.size 25 #[.pointer (some ⟨g, 0, none⟩)]) (hb2 : Blk W2 (w.heap.size + 1) 4 #[.bool t]) (hB : Below w.heap.size w W2) (hs : W2.heap.size = w.heap.size + 2) :
    Calls Try.prog 62 #[.func (.func 77) #[] #[.pointer (some ⟨w.heap.size, 0, none⟩), .pointer (some ⟨w.heap.size + 1, 0, none⟩)]] W2 fun e w' => ∃ v, e = .returned v ∧ w'.ownsRow w.heap.size 86 2 v (ofT t B).length (pcl (ofT t B)) ∧ Below w.heap.size w w' := by
  have hA := h.later hB
  have hl := chain_len hC
  have hl2 := ofT_len t B
  have hhi := h.hi
  refine (collect_any (ofT t B) (by omega) (enters_of Try.func77 (by kernel_rfl) rfl) (fun W1 hW1 hW2 => ?_)).mono ?_
  · have hlt := h.box.lt
    have hltp := h.wds.lt
    have hltq := h.bgs.lt
    exact pieces_tells (S := [W2.heap.size]) t (hA.later hW1) hC he (hb.kept (Kept.of_below [] hW1) (by simp)) (hb2.kept (Kept.of_below [] hW1) (by simp)) (by simp; omega) (by simp; omega) (by simp; omega) (by simp; omega) (by simp; omega) (fun k hk => by simp at hk; omega)
  · rintro e w' ⟨v, rfl, ho, hb'⟩
    exact ⟨v, rfl, ownsRow_le ho (by omega), hB.trans (hb'.mono (by omega))⟩
theorem pieces_none (t : Bool) {W2 : World} (hb : Blk W2 w.heap.size 25 #[.pointer none]) (hB : Below w.heap.size w W2) (hs : W2.heap.size = w.heap.size + 2) :
    Calls Try.prog 62 #[.func (.func 77) #[] #[.pointer (some ⟨w.heap.size, 0, none⟩), .pointer (some ⟨w.heap.size + 1, 0, none⟩)]] W2 fun e w' => ∃ v, e = .returned v ∧ w'.ownsRow w.heap.size 86 2 v 0 [] ∧ Below w.heap.size w w' := by
  refine (collect_any [] (by simp) (enters_of Try.func77 (by kernel_rfl) rfl) (fun W1 hW1 hW2 => ?_)).mono ?_
  · exact pieces_nil (S := [W2.heap.size]) rfl (hb.kept (Kept.of_below [] hW1) (by simp)) (by simp; omega)
  · rintro e w' ⟨v, rfl, ho, hb'⟩
    exact ⟨v, rfl, ownsRow_le ho (by omega), hB.trans (hb'.mono (by omega))⟩
set_option maxHeartbeats 1000000 in
theorem taken_all {B : List Bl} (h : Ar w g p q ws bs) (hC : Chain ws 16 B) (he : ws.getD 15 0 ≤ ws.length) : Calls Try.prog 29 #[.pointer (some ⟨g, 0, none⟩)] w fun e w' => ∃ v, e = .returned v ∧ w'.ownsRow w.heap.size 86 2 v (ofT true B).length (pcl (ofT true B)) ∧ Below w.heap.size w w' := by
  have hp := pieces_any (some ⟨g, 0, none⟩) true w
  have hc := fun W2 h1 h2 h3 h4 => pieces_all true h hC he (W2 := W2) h1 h2 h3 h4
  clear h hC he
  go_enter Try.func29, Try.ntmps29
  go_wp2_with fail
  refine hp.mono ?_
  rintro e W2 ⟨rfl, h1, h2, h3, h4⟩
  have hc2 := hc W2 h1 h2 h3 h4
  clear hp hc h1 h2 h3 h4
  go_wp2_with fail
  refine hc2.mono ?_
  rintro e w' ⟨v, rfl, ho, hb⟩
  have HQ := Lib.hid (And.intro ho hb)
  clear hc2 ho hb
  go_wp2
  go_ret
  exact ⟨v, rfl, HQ.out⟩
set_option maxHeartbeats 1000000 in
theorem taken_all_nil (w : World) : Calls Try.prog 29 #[.pointer none] w fun e w' => ∃ v, e = .returned v ∧ w'.ownsRow w.heap.size 86 2 v 0 [] ∧ Below w.heap.size w w' := by
  have hp := pieces_any none true w
  have hc := fun W2 h1 h3 h4 => pieces_none (w := w) true (W2 := W2) h1 h3 h4
  go_enter Try.func29, Try.ntmps29
  go_wp2_with fail
  refine hp.mono ?_
  rintro e W2 ⟨rfl, h1, h2, h3, h4⟩
  have hc2 := hc W2 h1 h3 h4
  clear hp hc h1 h2 h3 h4
  go_wp2_with fail
  refine hc2.mono ?_
  rintro e w' ⟨v, rfl, ho, hb⟩
  have HQ := Lib.hid (And.intro ho hb)
  clear hc2 ho hb
  go_wp2
  go_ret
  exact ⟨v, rfl, HQ.out⟩
set_option maxHeartbeats 1000000 in
theorem spare_all {B : List Bl} (h : Ar w g p q ws bs) (hC : Chain ws 16 B) (he : ws.getD 15 0 ≤ ws.length) : Calls Try.prog 34 #[.pointer (some ⟨g, 0, none⟩)] w fun e w' => ∃ v, e = .returned v ∧ w'.ownsRow w.heap.size 86 2 v (ofT false B).length (pcl (ofT false B)) ∧ Below w.heap.size w w' := by
  have hp := pieces_any (some ⟨g, 0, none⟩) false w
  have hc := fun W2 h1 h2 h3 h4 => pieces_all false h hC he (W2 := W2) h1 h2 h3 h4
  clear h hC he
  go_enter Try.func34, Try.ntmps34
  go_wp2_with fail
  refine hp.mono ?_
  rintro e W2 ⟨rfl, h1, h2, h3, h4⟩
  have hc2 := hc W2 h1 h2 h3 h4
  clear hp hc h1 h2 h3 h4
  go_wp2_with fail
  refine hc2.mono ?_
  rintro e w' ⟨v, rfl, ho, hb⟩
  have HQ := Lib.hid (And.intro ho hb)
  clear hc2 ho hb
  go_wp2
  go_ret
  exact ⟨v, rfl, HQ.out⟩
set_option maxHeartbeats 1000000 in
theorem spare_all_nil (w : World) : Calls Try.prog 34 #[.pointer none] w fun e w' => ∃ v, e = .returned v ∧ w'.ownsRow w.heap.size 86 2 v 0 [] ∧ Below w.heap.size w w' := by
  have hp := pieces_any none false w
  have hc := fun W2 h1 h3 h4 => pieces_none (w := w) false (W2 := W2) h1 h3 h4
  go_enter Try.func34, Try.ntmps34
  go_wp2_with fail
  refine hp.mono ?_
  rintro e W2 ⟨rfl, h1, h2, h3, h4⟩
  have hc2 := hc W2 h1 h3 h4
  clear hp hc h1 h2 h3 h4
  go_wp2_with fail
  refine hc2.mono ?_
  rintro e w' ⟨v, rfl, ho, hb⟩
  have HQ := Lib.hid (And.intro ho hb)
  clear hc2 ho hb
  go_wp2
  go_ret
  exact ⟨v, rfl, HQ.out⟩
end
end Go.Proofs.Ytoidklkloagioaa
