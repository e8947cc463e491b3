/-
  A new disk tells what the document's new disk does (the law's own is, of no rows). Nothing here is a statement of the document.
-/
import Derived.Test.YtaikgngigaohmaaDskW
import Derived.Test.YtaikgngigaohmaaDskS
namespace Go.Proofs.Ytaikgngigaohmaa
open Go.RowKit Go.Shelf
set_option linter.unusedVariables false

theorem Dsk.drewN {w : World} {B p pb : Nat} {bv : Value} {D : Dk} (h : Dsk w B p pb bv D) (n : Nat) : Dsk (w.drewN n) B p pb bv D := h.later ⟨rfl, rfl, rfl, Nat.le_refl _, fun _ _ => rfl⟩

set_option maxRecDepth 100000 in
set_option maxHeartbeats 2000000 in
theorem is_new {w : World} {B p pb : Nat} {bv : Value} (n : Nat) (h : Dsk w B p pb bv (newM n)) (a : Option Addr) (c : Nat) :
    Calls Try.prog 12 #[.pointer (some ⟨p, 0, none⟩), .agg #[.slice a n c, .slice none 0 0, .int .i64 0, .int .i64 0, .bool false, .int .i64 0]] w fun e w' => e = .returned (.bool true) ∧ Below w.heap.size w w' := by
  obtain ⟨W1, hW1⟩ : ∃ W1, w.alloc (.cells #[.slice a n c, .slice none 0 0, .int .i64 0, .int .i64 0, .bool false, .int .i64 0] 32) = W1 := ⟨_, rfl⟩
  have hb1 : Below w.heap.size w W1 := by rw [← hW1]; exact (Below.refl _ _).alloc (Nat.le_refl _) _
  have b1 : Blk W1 w.heap.size 32 #[.slice a n c, .slice none 0 0, .int .i64 0, .int .i64 0, .bool false, .int .i64 0] := by rw [← hW1]; exact Blk.new w _ _
  have hp := pending_any (h.later hb1)
  have HD := Lib.hid (h.later hb1)
  have H1 := Lib.hid (And.intro hb1 b1)
  clear h hb1 b1
  go_enter Try.func12, Try.ntmps12
  go_wp2_with fail
  clear hW1
  refine hp.mono ?_
  rintro e W2 ⟨v, rfl, hown, hb2⟩
  obtain ⟨va, vc, rfl⟩ : ∃ va vc, v = .slice va 0 vc := by
    rcases hown.2 with ⟨h9, _⟩ | ⟨g, cc, cur, h9, _⟩
    · exact ⟨_, _, h9⟩
    · exact ⟨_, _, h9⟩
  have b2 := H1.out.2.kept (Kept.of_below [] hb2) (by simp)
  have c0 := b2.cell 0
  have c1 := b2.cell 1
  have c4 := b2.cell 4
  have c5 := b2.cell 5
  simp only [List.getElem?_toArray, List.getElem?_cons_zero, List.getElem?_cons_succ] at c0 c1 c4 c5
  have HD2 := Lib.hid (HD.out.later hb2)
  have hn : ((newM n).plate.length : Int) = (n : Int) := by simp [newM]
  have HN := Lib.hid hn
  have HB2 := Lib.hid (H1.out.1.trans (hb2.mono H1.out.1.size))
  have q1 : ((n : Int) != (n : Int)) = false := by simp
  clear hown hb2 b2 hp hn H1 HD
  go_wp2_with fail
  go_quiet (first | (go_at_call 18; exact Calls.quiet_of_same ((len_any (HD2.out.drewN _)).mono fun _ _ h => ⟨h.1.trans (by rw [HN.out]), h.2.symm⟩)) | (go_at_call 20; exact Calls.quiet_of_same ((dead_any (HD2.out.drewN _)).mono fun _ _ h => ⟨h.1.trans (show Ending.returned (Value.bool (newM n).dead) = .returned (.bool false) from rfl), h.2.symm⟩)) | (go_at_call 21; exact Calls.quiet_of_same ((ops_any (HD2.out.drewN _)).mono fun _ _ h => ⟨h.1.trans (show Ending.returned (Value.int .i64 (newM n).ops) = .returned (.int .i64 0) from rfl), h.2.symm⟩)))
  have hb3 : Below w.heap.size w (W2.drewN nq) := HB2.out.trans ⟨rfl, rfl, rfl, Nat.le_refl _, fun _ _ => rfl⟩
  have d1 : (W2.drewN nq).cell? ⟨w.heap.size, 1, none⟩ = some (.slice none 0 0) := c1
  generalize W2.drewN nq = W3 at *
  clear c0 c1 c4 c5 HD2 HN HB2 q1
  go_wp2_with fail
  go_loopw [41] (fun i wr => i = .int .i64 0 ∧ Below w.heap.size w wr) (fun _ _ => 0)
  case atStart => exact ⟨rfl, hb3⟩
  case round =>
    obtain ⟨rfl, hbw⟩ := hrel
    clear hb3 d1
    go_wp2
    go_ret
    exact ⟨rfl, hbw⟩
end Go.Proofs.Ytaikgngigaohmaa
