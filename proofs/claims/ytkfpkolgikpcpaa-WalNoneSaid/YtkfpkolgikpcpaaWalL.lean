/-
  A label's sector. Nothing here is a statement of the document.
-/
import Derived.Test.YtkfpkolgikpcpaaWalI
import Derived.Lib.SlBytesConst
namespace Go.Proofs.Ytkfpkolgikpcpaa
open Go.RowKit Go.Shelf
set_option linter.unusedVariables false

def junc : List Nat := [106, 117, 110, 99, 116, 105, 111, 110]
def labH (n : Nat) : List Nat := (junc ++ highB n 4) ++ List.replicate 48 0
def labS (n : Nat) : List Nat := labH n ++ highB (goS 1 (labH n)) 4
def labL (n : Nat) : Bk := Bk.of (labS n)
theorem labH_len (n : Nat) : (labH n).length = 60 := by simp [labH, junc, length_highB]
theorem labS_len (n : Nat) : (labS n).length = 64 := by simp [labS, labH_len, length_highB]
theorem junc_bys : Bys junc := by intro n hn; simp [junc] at hn; omega
theorem labH_bys (n : Nat) : Bys (labH n) := (junc_bys.append (highB_bys _ _)).append (fun x hx => by have := List.eq_of_mem_replicate hx; omega)

def labA (n : Nat) : List Nat := (junc ++ highB n 4) ++ List.replicate 52 0
theorem labA_len (n : Nat) : (labA n).length = 64 := by simp [labA, junc, length_highB]

theorem label_copy1 {w : World} {g q n : Nat} (hb : Blk w g 77 Bk.zero.cs) (hO : Own w q (junc ++ highB n 4)) :
    (wcopySem 3 #[.slice (some ⟨g, 0, none⟩) 64 64, .slice (some ⟨q, 0, none⟩) 12 12]).run Try.prog w = .ok (goInt 12) (w.setRow g (Bk.of (labA n)).cs) := by
  have hl : (junc ++ highB n 4).length = 12 := by simp [junc, length_highB]
  have h9 := copy_run (w := w) (g := g) (o := 0) (dLen := 64) (dCap := 64) (sLen := 12) (sCap := 12) (sp := some ⟨q, 0, none⟩) (t := 77) (ty := 3) (l := List.replicate 64 0) (m := junc ++ highB n 4) (by rw [← Bk.zero_cs]; exact hb) hO.lies (by rw [hl]; rfl) (by rw [hl]; omega) (by rw [hl]; simp)
  rw [hl] at h9
  rw [h9, Bk.of_cs _ (labA_len n)]
  simp [labA]
theorem label_copy2 {w : World} {g q n : Nat} (hb : Blk w g 77 (Bk.of (labA n)).cs) (hO : Own w q (labS n)) :
    (wcopySem 3 #[.slice (some ⟨g, 0, none⟩) 64 64, .slice (some ⟨q, 0, none⟩) 64 64]).run Try.prog w = .ok (goInt 64) (w.setRow g (labL n).cs) := by
  have h9 := copy_run (w := w) (g := g) (o := 0) (dLen := 64) (dCap := 64) (sLen := 64) (sCap := 64) (sp := some ⟨q, 0, none⟩) (t := 77) (ty := 3) (l := labA n) (m := labS n) (by rw [← Bk.of_cs _ (labA_len n)]; exact hb) hO.lies (by rw [labS_len]; rfl) (by rw [labS_len]; omega) (by rw [labS_len, labA_len]; omega)
  have e : (labA n).take 0 ++ labS n ++ (labA n).drop (0 + (labS n).length) = labS n := by
    rw [List.take_zero, List.nil_append, List.drop_eq_nil_of_le (by rw [labS_len, labA_len]; omega), List.append_nil]
  rw [e, labS_len] at h9
  rw [h9, labL, Bk.of_cs _ (labS_len n)]
  rfl

theorem lies_marked (w : World) (l : List Nat) (t : TypeId) (fr : Nat × Nat) : Lies (w.alloc (.cells (l.map byc).toArray t fr)) (some ⟨w.heap.size, 0, none⟩) l := by
  refine .inr ⟨w.heap.size, 0, rfl, by simp, fun i hi => ?_⟩
  have h : (w.alloc (.cells (l.map byc).toArray t fr)).heap[w.heap.size]? = some (.cells (l.map byc).toArray t fr) := World.alloc_heap_new w _
  simp only [World.cell?, h, Nat.zero_add]
  simp [hi, byc, List.getD_eq_getElem?_getD]

attribute [local go_sem ↓] wcopy_rule load_blk_rule store_blk_rule

set_option maxRecDepth 100000 in
set_option maxHeartbeats 2000000 in
theorem label_any (n : Nat) (hn : n ≤ 1000) (w : World) : Calls Try.prog 39 #[.int .i64 (n : Int)] w fun e w' =>
    e = .returned (.agg (labL n).cs) ∧ Below w.heap.size w w' := by
  obtain ⟨W1, hW1⟩ : ∃ W1, (w.alloc (.cells Bk.zero.cs 77)).alloc (.cells Bk.zero.cs 77) = W1 := ⟨_, rfl⟩
  have b2 : Blk W1 w.heap.size 77 Bk.zero.cs := by rw [← hW1]; exact (Blk.new w _ _).alloc _
  have b3 : Blk W1 (w.heap.size + 1) 77 Bk.zero.cs := by rw [← hW1]; exact Blk.wnew2 w _ _ _
  have hb1 : Below w.heap.size w W1 := by rw [← hW1]; exact ((Below.refl _ _).alloc (Nat.le_refl _) _).alloc (by simp) _
  have hs1 : W1.heap.size = w.heap.size + 2 := by rw [← hW1]; simp
  have kc : ∀ (w : World) (C : Array Value) (n c : Nat), (convert 22 22 (.slice (some ⟨w.heap.size, 0, none⟩) n c)).run Try.prog ((w.alloc (.cells C 5)).drew) = .ok (.slice (some ⟨w.heap.size, 0, none⟩) n c) ((w.alloc (.cells C 5 (C.size, C.size + 1))).drew) := fun w C n c => Lib.run_convert_bytes_const (P := Try.prog) w.drew 22 5 C n c Try.underlying22 Try.underlying5
  have hwr : IntKind.u32.wrap (n : Int) = (n : Int) := by rw [IntKind.wrap_u32]; omega
  have H1 := Lib.hid (And.intro hb1 (And.intro b2 (And.intro b3 hs1)))
  clear hb1 b2 b3 hs1
  go_enter Try.func39, Try.ntmps39
  go_wp2_with (first | (with_reducible refine wpList_alloc_z rfl 77 rfl Bk.zero.cs 64 z_blk ?_))
  rw [World.size_alloc, hW1]
  clear hW1
  go_region_with (first | (go_at_call 62; (with_reducible refine (put32_any _ 8 8 junc n _ rfl (by omega) ?_ (by omega)).mono ?_); (exact lies_marked _ junc _ _); rintro e w4 ⟨rfl, hO4, hB4⟩; have b4 : Blk w4 (w.heap.size + 1) 77 Bk.zero.cs := (Blk.alloc (w := W1.drew) H1.out.2.2.1 (.cells (junc.map byc).toArray 5 (8, 9))).kept (Kept.of_below [] hB4) (by simp); have C4 := label_copy1 (w := w4) (g := w.heap.size + 1) (q := W1.heap.size + 1) (n := n) b4 (by rw [show W1.heap.size + 1 = (W1.alloc (.cells (junc.map byc).toArray 5 (8, 9))).drew.heap.size from (World.size_alloc _ _).symm]; exact hO4)))
  obtain ⟨W5, hW5⟩ : ∃ W5, w4.setRow (w.heap.size + 1) (Bk.of (labA n)).cs = W5 := ⟨_, rfl⟩
  have b5 : Blk W5 (w.heap.size + 1) 77 (Bk.of (labA n)).cs := by rw [← hW5]; exact b4.row _
  have b52 : Blk W5 w.heap.size 77 Bk.zero.cs := by
    rw [← hW5]
    have h9 : Blk w4 w.heap.size 77 Bk.zero.cs := (Blk.alloc (w := W1.drew) H1.out.2.1 (.cells (junc.map byc).toArray 5 (8, 9))).kept (Kept.of_below [] hB4) (by simp)
    exact h9.kept (S := [w.heap.size + 1]) ((Kept.refl _ _).setRow (.inl (by simp)) _) (by simp)
  have hb5 : Below w.heap.size w W5 := by
    rw [← hW5]
    have h8 : Below w.heap.size w (W1.alloc (.cells (junc.map byc).toArray 5 (8, 9))).drew := (H1.out.1.alloc (by have := H1.out.2.2.2; omega) _).drew
    exact below_setRow (h8.trans (hB4.mono h8.size)) (by omega) _
  rw [hW5]
  have hL5 : Lies W5 (some ⟨w.heap.size + 1, 0, none⟩) (labH n) := by
    refine .inr ⟨w.heap.size + 1, 0, rfl, b5.lt, fun i hi => ?_⟩
    rw [labH_len] at hi
    rw [b5.cell, Bk.of_cs _ (labA_len n)]
    have e : (labA n)[0 + i]? = (labH n)[i]? := by
      rw [Nat.zero_add]
      have e2 : labA n = labH n ++ List.replicate 4 0 := by
        unfold labA labH
        rw [List.append_assoc _ (List.replicate 48 0), List.replicate_append_replicate]
      rw [e2, List.getElem?_append_left (by rw [labH_len]; exact hi)]
    simp only [List.getElem?_toArray, List.getElem?_map, e]
    rw [List.getElem?_eq_getElem (by rw [labH_len]; exact hi)]
    simp [byc, List.getD_eq_getElem?_getD, List.getElem?_eq_getElem (show i < (labH n).length by rw [labH_len]; exact hi)]
  have H5 := Lib.hid (And.intro hb5 (And.intro b52 (And.intro b5 hL5)))
  clear C4 b4 hB4 hO4 hW5 b5 b52 hb5 hL5 kc hwr
  go_wp2_with fail
  go_region_with (first | (go_at_call 63; (with_reducible refine (seal_any _ 60 64 (labH n) _ (labH_len n) (by omega) (labH_bys n) ?_).mono ?_); (exact H5.out.2.2.2); rintro e w6 ⟨q, rfl, hq6, hO6, hB6⟩; have C6 := label_copy2 (w := w6) (g := w.heap.size + 1) (q := q) (n := n) ((H5.out.2.2.1.drew).kept (Kept.of_below [] hB6) (by simp)) (by exact hO6)))
  have b36 : Blk w6 (w.heap.size + 1) 77 (Bk.of (labA n)).cs := (H5.out.2.2.1.drew).kept (Kept.of_below [] hB6) (by simp)
  have b26 : Blk w6 w.heap.size 77 Bk.zero.cs := (H5.out.2.1.drew).kept (Kept.of_below [] hB6) (by simp)
  have hb6 : Below w.heap.size w w6 := H5.out.1.trans ((show Below W5.heap.size W5 w6 from ⟨hB6.os, hB6.tape, hB6.output, hB6.size, hB6.block⟩).mono H5.out.1.size)
  obtain ⟨W9, hW9⟩ : ∃ W9, w6.setRow (w.heap.size + 1) (labL n).cs = W9 := ⟨_, rfl⟩
  rw [hW9]
  have b3 : Blk W9 (w.heap.size + 1) 77 (labL n).cs := by rw [← hW9]; exact b36.row _
  have b2 : Blk W9 w.heap.size 77 Bk.zero.cs := by rw [← hW9]; exact b26.kept (S := [w.heap.size + 1]) ((Kept.refl _ _).setRow (.inl (by simp)) _) (by simp)
  have hb9 : Below w.heap.size w W9 := by rw [← hW9]; exact below_setRow hb6 (by omega) _
  have L9 := wlblk b3
  have S9 := wsblk (c := labL n) b2
  have HE := Lib.hid (And.intro (b2.row (labL n).cs) (below_setRow hb9 (Nat.le_refl _) (labL n).cs))
  clear C6 hO6 hB6 hb6 hb9 hW9 b3 b2 b36 b26 hq6
  have hs64 := s_blk (labL n)
  generalize hq : (labL n).cs = qc at *
  have HQ := Lib.hid hq
  clear hq
  go_wp2_with fail
  refine bodyPost_ret (results_cell_row rfl _ _ w.heap.size 77 _ (0, 0) _ rfl HE.out.1 Try.underlying77 rfl hs64) rfl ?_
  exact ⟨by rw [HQ.out], HE.out.2⟩
end Go.Proofs.Ytkfpkolgikpcpaa
