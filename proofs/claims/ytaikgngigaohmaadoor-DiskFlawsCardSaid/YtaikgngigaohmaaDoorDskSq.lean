/-
  A disk behind deeds (the law's own played): its contract. Nothing here is a statement of the document.
-/
import Derived.Test.YtaikgngigaohmaaDoorDskSp
namespace Go.Proofs.YtaikgngigaohmaaDoor
open Go.RowKit Go.Shelf
set_option linter.unusedVariables false

set_option maxRecDepth 100000 in
set_option maxHeartbeats 4000000 in
theorem played_any (a : Option Addr) (cap : Nat) (l : List (Deed × List Bool)) (w : World) (h : Deeds w a l) (hl : l.length ≤ 9223372036854775807) :
    Calls Tryd.prog 7 #[.slice a l.length cap] w fun e w' => ∃ bv D, e = .returned (.tuple #[.pointer (some ⟨w.heap.size + 1, 0, none⟩), .bool true]) ∧ Dsk w' w.heap.size (w.heap.size + 1) w.heap.size bv D ∧ D.plate.length = 14 ∧ Below w.heap.size w w' := by
  have HL := Lib.hid h
  clear h
  go_enter Tryd.func7, Tryd.ntmps7
  go_wp2_with fail
  refine (new_any 14 (by omega) (by omega) w).mono ?_
  rintro e W2 ⟨rfl, hD, hb2⟩
  have HD := Lib.hid (And.intro hD hb2)
  clear hD hb2
  go_wp2_with fail
  go_loopw [16] (fun i wr => ∃ k : Nat, k ≤ l.length ∧ i = .int .i64 k ∧ (∃ bv D, Dsk wr w.heap.size (w.heap.size + 1) w.heap.size bv D ∧ D.plate.length = 14) ∧ Below w.heap.size w wr) (fun i _ => l.length - (intOf i).toNat)
  case atStart => exact ⟨0, Nat.zero_le _, rfl, ⟨_, _, HD.out.1, by simp [newM]⟩, HD.out.2⟩
  case round =>
    obtain ⟨k, hk, rfl, ⟨bv, D, hDk, hpl⟩, hb⟩ := hrel
    clear HD
    by_cases hlt : k < l.length
    · obtain ⟨⟨x, ks⟩, hy⟩ : ∃ y, l[k]? = some y := ⟨_, List.getElem?_eq_getElem hlt⟩
      obtain ⟨b0, o0, rfl, hc, hT, hx1, hx2, hx3, hx4, hx5⟩ := HL.out.at hy
      have HX := Lib.hid (And.intro hT (And.intro hx1 (And.intro hx2 (And.intro hx3 hx5))))
      have hcc : ∀ j, j < 5 → wr.cell? ⟨b0, o0 + k * 5 + j, none⟩ = (x.cs)[j]? := by
        intro j hj
        have h9 := hc j hj
        rw [← Nat.add_assoc] at h9
        rw [← h9]
        have h8 : ∃ v, w.cell? ⟨b0, o0 + k * 5 + j, none⟩ = some v := by
          rw [h9]
          have : j < x.cs.size := by simp [Deed.cs]; omega
          exact ⟨_, Array.getElem?_eq_getElem this⟩
        obtain ⟨v, hv⟩ := h8
        exact hb.cell (p := ⟨b0, o0 + k * 5 + j, none⟩) (cell_lt hv)
      have c0 := hcc 0 (by omega)
      have c1 := hcc 1 (by omega)
      have c2 := hcc 2 (by omega)
      have c3 := hcc 3 (by omega)
      have c4 := hcc 4 (by omega)
      obtain ⟨z0, z1, z2, z3, z4, z5, z6⟩ := x
      simp only [Deed.cs, List.getElem?_toArray, List.getElem?_cons_zero, List.getElem?_cons_succ, Nat.add_zero] at c0 c1 c2 c3 c4
      clear hc hcc hT hx1 hx2 hx3 hx4 hx5 hy
      have hki : (k : Int) < (l.length : Int) := by omega
      obtain ⟨W5, hW5⟩ : ∃ W5, wr.alloc (.cells #[.int .i64 z0, .int .i64 z1, .int .i64 z2, .int .u8 (z3 : Int), .slice z4 z5 z6] 37) = W5 := ⟨_, rfl⟩
      have hb5 : Below wr.heap.size wr W5 := by rw [← hW5]; exact (Below.refl _ _).alloc (Nat.le_refl _) _
      have bx5 : Blk W5 wr.heap.size 37 (Deed.cs ⟨z0, z1, z2, z3, z4, z5, z6⟩) := by rw [← hW5]; exact Blk.new wr _ _
      have y0 := bx5.cell 0
      have y1 := bx5.cell 1
      have y2 := bx5.cell 2
      have y3 := bx5.cell 3
      have y4 := bx5.cell 4
      simp only [Deed.cs, List.getElem?_toArray, List.getElem?_cons_zero, List.getElem?_cons_succ] at y0 y1 y2 y3 y4
      have hBr : w.heap.size ≤ wr.heap.size := hb.size
      have nx : wr.heap.size ∉ fp (w.heap.size + 1) w.heap.size bv := hDk.beside (Nat.le_refl _)
      have H3 := Lib.hid (And.intro (hb.trans (hb5.mono hb.size)) (And.intro (hDk.later hb5) (And.intro (Nat.le_trans hBr hb5.size) (And.intro hpl nx))))
      clear hDk hpl hb hb5 bx5 hBr nx
      go_wp2_with fail
      · go_ret2
        first | exact ⟨_, _, rfl, H3.out.2.1, H3.out.2.2.2.1, H3.out.1⟩ | exact ⟨rfl, _, _, H3.out.2.1, H3.out.2.2.2.1, H3.out.1⟩
      · clear hW5 c0 c1 c2 c3 c4 y0 y1 y2 y3 y4
        have hlen := doesM_len D ⟨z0, z1, z2, z3, z4, z5, z6⟩ ks
        refine (does_any H3.out.2.1 H3.out.2.2.1 ⟨z0, z1, z2, z3, z4, z5, z6⟩ ks (HX.out.1.below H3.out.1) HX.out.2.1 HX.out.2.2.1 HX.out.2.2.2.1 HX.out.2.2.2.2).mono ?_
        rintro e W6 ⟨rfl, bv', hD6, hG6⟩
        have hbb : Below w.heap.size w W6 := H3.out.1.trans (hG6.below H3.out.2.1 H3.out.2.2.1)
        have HF := Lib.hid (And.intro hD6 (And.intro (hlen.trans H3.out.2.2.2.1) hbb))
        clear hD6 hG6 hbb hlen
        go_wp2_with fail
        go_roundw
        case rel => first | exact ⟨k + 1, by omega, by go_num, ⟨_, _, HF.out.1, HF.out.2.1⟩, HF.out.2.2⟩ | ((repeat apply Exists.intro); exact ⟨⟨k + 1, by omega, by go_num, ⟨_, _, HF.out.1, HF.out.2.1⟩, HF.out.2.2⟩, rfl⟩)
        case measure => simp [intOf]; omega
    · obtain rfl : k = l.length := by omega
      have HF := Lib.hid (And.intro hDk (And.intro hpl hb))
      clear hDk hpl hb
      go_wp2_with fail
      go_ret2
      exact ⟨_, _, rfl, HF.out.1, HF.out.2.1, HF.out.2.2⟩
end Go.Proofs.YtaikgngigaohmaaDoor
