/-
  Rows that are told; the small functions of wal. Nothing here is a statement of the document.
-/
import Derived.Test.YtkfpkolgikpcpaaWalG
namespace Go.Proofs.Ytkfpkolgikpcpaa
open Go.RowKit Go.Shelf
set_option linter.unusedVariables false

def fillR (first size : Nat) (b : Bk) (rb bb : Nat) : RowW := ⟨58, #[.pointer (some ⟨rb, 0, none⟩), .pointer (some ⟨bb, 0, none⟩)], size, fun k => (first + k, b)⟩
def frameR (first t n : Nat) (l : List Nat) (fb ib : Nat) : RowW := ⟨59, #[.pointer (some ⟨fb, 0, none⟩), .pointer (some ⟨ib, 0, none⟩)], secN l.length, fun k => (first + k, (partAt t n l k).blk)⟩

theorem told_filled {w : World} {rb bb first size : Nat} {b : Bk} (hr : Blk w rb 64 (rgs first size)) (hb : Blk w bb 77 b.cs) (hm : first + size ≤ 9223372036854775807) : Told [rb, bb] (fillR first size b rb bb) w :=
  ⟨enters_of Try.func58 (by kernel_rfl) rfl, fun c hc => by
    simp only [List.mem_cons, List.not_mem_nil, or_false] at hc
    rcases hc with rfl | rfl
    · exact hr.lt
    · exact hb.lt, fun S W hk hC hS => filled_tells (hk.blk hr (hC _ (by simp)) (by decide)) (hk.blk hb (hC _ (by simp)) (by decide)) (hC _ (by simp)) (hC _ (by simp)) hm⟩

/-- Bytes that no disk's buffer holds. -/
def Safe (w : World) (a : Option Addr) : Prop := ∀ x, a = some x → ∃ o, w.heap[x.block]? = some o ∧ notRow o = true
theorem told_rows {w : World} {fb ib first t n : Nat} {a : Option Addr} {len cap : Nat} {l : List Nat} (hl : l.length = len) (hlm : len ≤ 40000) (hc : len ≤ cap) (hB : Bys l) (ht : t ≤ 4294967295) (hn : n ≤ 4294967295)
    (hb : Blk w fb 79 (fcs t n a len cap)) (hi : Blk w ib 3 #[.int .i64 (first : Int)]) (hL : Lies w a l) (hs : Safe w a) (hm : first + 834 ≤ 9223372036854775807) : Told (fb :: ib :: (a.map (·.block)).toList) (frameR first t n l fb ib) w := by
  refine ⟨enters_of Try.func59 (by kernel_rfl) rfl, fun c hc => ?_, fun S W hk hC hS => ?_⟩
  · simp only [List.mem_cons, Option.mem_toList] at hc
    rcases hc with rfl | rfl | hc
    · exact hb.lt
    · exact hi.lt
    · obtain ⟨x, hx, rfl⟩ := Option.map_eq_some_iff.1 hc
      obtain ⟨o, ho, _⟩ := hs x hx
      exact (Array.getElem?_eq_some_iff.1 ho).1
  · have hL2 : Lies W a l := by
      rcases hL with h9 | ⟨b, off, rfl, hb9, hc9⟩
      · exact .inl h9
      · obtain ⟨o, h2, h3⟩ := hs _ rfl
        have hs9 : W.heap[b]? = w.heap[b]? := (hk.same _ _ (hC _ (by simp)) h2 h3).trans h2.symm
        refine .inr ⟨b, off, rfl, (cell_block_lt hs9 hb9), fun i hi => ?_⟩
        rw [← hc9 i hi]
        simp only [World.cell?, hs9]
    have h9 := rows_tells (S := S) hl hlm hc hB ht hn (hk.blk hb (hC _ (by simp)) (by decide)) (hk.blk hi (hC _ (by simp)) (by decide)) hL2 (hC _ (by simp)) (hC _ (by simp)) (fun x hx => by
      obtain ⟨o, h2, h3⟩ := hs x hx
      have hn9 := hC x.block (by simp [hx])
      exact ⟨hn9, o, hk.same _ _ hn9 h2 h3, h3⟩) hS hm
    unfold frameR
    simp only [hl]
    exact h9

set_option maxHeartbeats 400000 in
theorem filled_any (first size : Nat) (b : Bk) (w : World) : Calls Try.prog 37 #[.agg (rgs first size), .agg b.cs] w fun e w' =>
    e = .returned (fillR first size b w.heap.size (w.heap.size + 1)).val ∧ Blk w' w.heap.size 64 (rgs first size) ∧ Blk w' (w.heap.size + 1) 77 b.cs ∧ Below w.heap.size w w' := by
  have hmf : ∀ (fn : Fn) (first cap : Array Value) (w : World), (Instr.makeFunc fn first cap).run Try.prog w = .ok (.func fn first cap) w := fun _ _ _ _ => rfl
  have h1 := (Blk.new w 64 (rgs first size)).alloc (.cells b.cs 77)
  have h2 := Blk.wnew2 w (.cells (rgs first size) 64) 77 b.cs
  have h3 : Below w.heap.size w ((w.alloc (.cells (rgs first size) 64)).alloc (.cells b.cs 77)) := ((Below.refl _ _).alloc (Nat.le_refl _) _).alloc (by simp) _
  have H := Lib.hid (And.intro h1 (And.intro h2 h3))
  clear h1 h2 h3
  unfold fillR RowW.val
  generalize rgs first size = rc at *
  generalize b.cs = bc at *
  go_enter Try.func37, Try.ntmps37
  go_wp2
  go_ret
  exact ⟨rfl, H.out⟩
set_option maxHeartbeats 400000 in
theorem rows_of (first t n : Nat) (a : Option Addr) (len cap : Nat) (l : List Nat) (w : World) : Calls Try.prog 38 #[.agg (fcs t n a len cap), .int .i64 (first : Int)] w fun e w' =>
    e = .returned (frameR first t n l w.heap.size (w.heap.size + 1)).val ∧ Blk w' w.heap.size 79 (fcs t n a len cap) ∧ Blk w' (w.heap.size + 1) 3 #[.int .i64 (first : Int)] ∧ Below w.heap.size w w' := by
  have hmf : ∀ (fn : Fn) (first cap : Array Value) (w : World), (Instr.makeFunc fn first cap).run Try.prog w = .ok (.func fn first cap) w := fun _ _ _ _ => rfl
  have h1 := (Blk.new w 79 (fcs t n a len cap)).alloc (.cells #[.int .i64 (first : Int)] 3)
  have h2 := Blk.wnew2 w (.cells (fcs t n a len cap) 79) 3 #[.int .i64 (first : Int)]
  have h3 : Below w.heap.size w ((w.alloc (.cells (fcs t n a len cap) 79)).alloc (.cells #[.int .i64 (first : Int)] 3)) := ((Below.refl _ _).alloc (Nat.le_refl _) _).alloc (by simp) _
  have H := Lib.hid (And.intro h1 (And.intro h2 h3))
  clear h1 h2 h3
  unfold frameR RowW.val
  generalize fcs t n a len cap = rc at *
  go_enter Try.func38, Try.ntmps38
  go_wp2
  go_ret
  exact ⟨rfl, H.out⟩

/-! ### areasOf, mayBe -/
def areas (n : Nat) : Array Value := #[.int .i64 2, .int .i64 (n : Int), .int .i64 ((2 : Int) + (n : Int)), .int .i64 (n : Int)]
set_option maxHeartbeats 400000 in
theorem areas_any (n : Nat) (hn : n ≤ 1000) (w : World) : Calls Try.prog 34 #[.int .i64 (n : Int)] w fun e w' => e = .returned (.agg (areas n)) ∧ Below w.heap.size w w' := by
  go_enter Try.func34, Try.ntmps34
  go_wp2
  refine bodyPost_ret (results_cell_row rfl _ _ w.heap.size 65 _ (0, 0) _ rfl (Blk.new _ _ _) Try.underlying65 rfl (by kernel_rfl)) rfl ?_
  exact ⟨rfl, (Below.refl _ _).alloc (Nat.le_refl _) _⟩
def mayB (n : Int) (len : Nat) : Bool := decide (4 ≤ n) && (decide (n ≤ 1000) && decide (2 + 2 * n ≤ (len : Int)))
set_option maxHeartbeats 400000 in
theorem mayBe_any {w : World} {B p pb : Nat} {bv : Value} {D : Dk} (h : Dsk w B p pb bv D) (n : Int) : Calls Try.prog 33 #[.int .i64 n, .pointer (some ⟨p, 0, none⟩)] w fun e w' => e = .returned (.bool (mayB n D.plate.length)) ∧ w = w' := by
  have hl := len_any h
  have hp := h.ok.max
  clear h
  generalize D.plate.length = L at *
  unfold mayB
  by_cases h1 : 4 ≤ n
  · by_cases h2 : n ≤ 1000
    · go_enter Try.func33, Try.ntmps33
      go_wp2_with fail
      refine hl.mono ?_
      rintro e w' ⟨rfl, rfl⟩
      go_wp2
      go_ret
      exact ⟨by simp [h1, h2], rfl⟩
    · go_enter Try.func33, Try.ntmps33
      go_wp2
      go_ret
      exact ⟨by rw [decide_eq_false (show ¬ n ≤ 1000 by omega), Bool.false_and]; rfl, rfl⟩
  · go_enter Try.func33, Try.ntmps33
    go_wp2
    go_ret
    exact ⟨by rw [decide_eq_false (show ¬ 4 ≤ n by omega), Bool.false_and]; rfl, rfl⟩
end Go.Proofs.Ytkfpkolgikpcpaa
