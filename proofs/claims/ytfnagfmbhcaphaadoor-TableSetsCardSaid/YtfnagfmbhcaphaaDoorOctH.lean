/-
  The contracts of the reference's Both, Same, High, and of bytes.Equal, octet.Equal. Nothing here is a statement of the document.
-/
import Derived.Test.YtfnagfmbhcaphaaDoorOctF
import Derived.Deep.QuietTactic
import Derived.BigQuiet
import Derived.BigRegion
namespace Go.Proofs.YtfnagfmbhcaphaaDoor
open Go.RowKit
set_option linter.unusedVariables false

/-- What 'Both' has made when k bytes are laid. -/
def bothK (l m : List Nat) (k : Nat) : List Nat := (l ++ m).take k ++ List.replicate (l.length + m.length - k) 0

theorem bothK_zero (l m : List Nat) : bothK l m 0 = List.replicate (l.length + m.length) 0 := by simp [bothK]
theorem bothK_all (l m : List Nat) : bothK l m (l.length + m.length) = l ++ m := by
  rw [bothK, List.take_of_length_le (by simp)]; simp
theorem length_bothK (l m : List Nat) (k : Nat) (h : k ≤ l.length + m.length) : (bothK l m k).length = l.length + m.length := by
  simp [bothK]; omega
theorem bothK_succ (l m : List Nat) (k : Nat) (h : k < l.length + m.length) : bothK l m (k + 1) = (bothK l m k).set k ((l ++ m).getD k 0) := by
  have hk : k < (l ++ m).length := by simpa using h
  unfold bothK
  have e : l.length + m.length - k = (l.length + m.length - (k + 1)) + 1 := by omega
  rw [e, List.replicate_succ, List.take_add_one, List.getElem?_eq_getElem hk]
  have hl : ((l ++ m).take k).length = k := by simp at hk ⊢; omega
  rw [List.set_append_right _ _ (by omega), hl, Nat.sub_self, List.set_cons_zero, List.getD_eq_getElem?_getD, List.getElem?_eq_getElem hk]
  simp only [Option.toList_some, Option.getD_some, List.append_assoc, List.singleton_append]

theorem both_world {w wr : World} {l m : List Nat} {k v : Nat} (hOw : Own wr w.heap.size (bothK l m k)) (hBw : Below w.heap.size w wr) (hlt : k < l.length + m.length) (hv : (l ++ m).getD k 0 = v) :
    Own (wr.setCell ⟨w.heap.size, k, none⟩ (.int .u8 (v : Int))) w.heap.size (bothK l m (k + 1)) ∧ Below w.heap.size w (wr.setCell ⟨w.heap.size, k, none⟩ (.int .u8 (v : Int))) := by
  rw [bothK_succ l m k hlt, hv]
  exact ⟨hOw.set _, hBw.setCell (Nat.le_refl _) _⟩

set_option maxRecDepth 100000 in
set_option maxHeartbeats 1600000 in
theorem both_any (a b : Option Addr) (len cap len2 cap2 : Nat) (l m : List Nat) (w : World) (hl : l.length = len) (hm : m.length = len2) (hlm : len ≤ 140737488300000) (hmm : len2 ≤ 140737488300000)
    (hL : Lies w a l) (hM : Lies w b m) :
    Calls Tryd.prog 58 #[.slice a len cap, .slice b len2 cap2] w fun e w' =>
      e = .returned (.slice (some ⟨w.heap.size, 0, none⟩) (len + len2) (len + len2)) ∧ Own w' w.heap.size (l ++ m) ∧ Below w.heap.size w w' := by
  obtain ⟨i0, hi, hz0, hz1, hz2⟩ := info_parts Tryd.info5
  have hmk := run_make (P := Tryd.prog) w 55 5 i0 (.int .u8 0) Tryd.underlying55 hi hz0 .i64 .i64 ((len : Int) + (len2 : Int)) ((len : Int) + (len2 : Int)) (by omega) (by omega) (by rw [hz2]; omega) (by omega)
  rw [hz1, show ((len : Int) + (len2 : Int)).toNat = len + len2 from by omega, Nat.mul_one, made_bytes] at hmk
  have hO1 : Own (w.alloc (.cells ((List.replicate (len + len2) 0).map byc).toArray 5)) w.heap.size (bothK l m 0) := by
    rw [bothK_zero, hl, hm]; exact heap_alloc_new w _
  have hb1 : Below w.heap.size w (w.alloc (.cells ((List.replicate (len + len2) 0).map byc).toArray 5)) := (Below.refl _ _).alloc (Nat.le_refl _) _
  have HN := Lib.hid hl
  have HM := Lib.hid hm
  clear hl hm hi hz0 hz1 hz2
  generalize w.alloc (.cells ((List.replicate (len + len2) 0).map byc).toArray 5) = w1 at *
  go_enter Tryd.func58, Tryd.ntmps58
  go_wp2
  go_loopw [6] (fun i wr => ∃ k : Nat, k ≤ len + len2 ∧ i = .int .i64 k ∧ Own wr w.heap.size (bothK l m k) ∧ Below w.heap.size w wr) (fun i _ => len + len2 - (intOf i).toNat)
  case atStart => exact ⟨0, Nat.zero_le _, rfl, hO1, hb1⟩
  case round =>
    obtain ⟨k, hk, rfl, hOw, hBw⟩ := hrel
    by_cases hlt : k < len + len2
    · have hc := hOw.cell (i := k) (by rw [length_bothK _ _ _ (by rw [HN.out, HM.out]; omega), HN.out, HM.out]; omega)
      have hf := hOw.free k
      have hL2 := hL.kept hBw
      have hM2 := hM.kept hBw
      by_cases h1 : k < len
      · rcases hL2 with h0 | ⟨g, off, rfl, hlg, hcc⟩
        · have := HN.out; rw [h0] at this; simp at this; omega
        · have hcx := hcc k (by rw [HN.out]; exact h1)
          obtain ⟨v, hv⟩ : ∃ v, l.getD k 0 = v := ⟨_, rfl⟩
          have hv2 : (l ++ m).getD k 0 = v := by rw [List.getD_eq_getElem?_getD, List.getElem?_append_left (by rw [HN.out]; exact h1), ← List.getD_eq_getElem?_getD]; exact hv
          rw [hv] at hcx
          have R := both_world hOw hBw (by rw [HN.out, HM.out]; exact hlt) hv2
          have HR := Lib.hid R
          clear R hcc hL hM hM2 hOw hBw hv hv2 hO1 hb1
          go_wp2
          go_roundw
          case rel => exact ⟨k + 1, by omega, by go_num, HR.out.1, HR.out.2⟩
          case measure => simp [intOf]; omega
      · rcases hM2 with h0 | ⟨g, off, rfl, hlg, hcc⟩
        · have := HM.out; rw [h0] at this; simp at this; omega
        · have hcx := hcc (k - len) (by rw [HM.out]; omega)
          obtain ⟨v, hv⟩ : ∃ v, m.getD (k - len) 0 = v := ⟨_, rfl⟩
          have hv2 : (l ++ m).getD k 0 = v := by rw [List.getD_eq_getElem?_getD, List.getElem?_append_right (by rw [HN.out]; omega), ← List.getD_eq_getElem?_getD, HN.out]; exact hv
          rw [hv] at hcx
          have R := both_world hOw hBw (by rw [HN.out, HM.out]; exact hlt) hv2
          have HR := Lib.hid R
          clear R hcc hL hM hL2 hOw hBw hv hv2 hO1 hb1
          go_wp2
          go_roundw
          case rel => exact ⟨k + 1, by omega, by go_num, HR.out.1, HR.out.2⟩
          case measure => simp [intOf]; omega
    · obtain rfl : k = len + len2 := by omega
      have e := bothK_all l m
      rw [HN.out, HM.out] at e
      rw [e] at hOw
      clear e
      go_wp2
      go_ret
      exact ⟨rfl, hOw, hBw⟩

/-- Draws alone. -/
def Drawn (w w' : World) : Prop := ∃ n, w' = w.drewN n
theorem Drawn.below {w w' : World} (h : Drawn w w') (B : Nat) : Below B w w' := by
  obtain ⟨n, rfl⟩ := h
  exact ⟨rfl, rfl, rfl, Nat.le_refl _, fun _ _ => rfl⟩

theorem same_all (l m : List Nat) (h : l.length = m.length) (ha : ∀ j, j < l.length → l.getD j 0 = m.getD j 0) : (l == m) = true := by
  rw [beq_iff_eq]
  apply List.ext_getElem h
  intro j h1 h2
  have := ha j h1
  simpa [h1, h2] using this
theorem same_not (l m : List Nat) (k : Nat) (ha : l.getD k 0 ≠ m.getD k 0) : (l == m) = false := by
  rw [beq_eq_false_iff_ne]
  rintro rfl
  exact ha rfl
theorem same_len (l m : List Nat) (h : l.length ≠ m.length) : (l == m) = false := by
  rw [beq_eq_false_iff_ne]
  rintro rfl
  exact h rfl

set_option maxHeartbeats 1600000 in
theorem same_any (a b : Option Addr) (len cap len2 cap2 : Nat) (l m : List Nat) (w : World) (hl : l.length = len) (hm : m.length = len2) (hlm : len ≤ 9223372036854775807) (hmm : len2 ≤ 9223372036854775807)
    (hL : Lies w a l) (hM : Lies w b m) :
    Calls Tryd.prog 29 #[.slice a len cap, .slice b len2 cap2] w fun e w' => e = .returned (.bool (l == m)) ∧ Drawn w w' := by
  by_cases hll : len = len2
  · subst hll
    have HN := Lib.hid hl
    have HM := Lib.hid hm
    clear hl hm
    go_enter Tryd.func29, Tryd.ntmps29
    go_wp2
    go_loopw [5] (fun i wr => ∃ k : Nat, k ≤ len ∧ i = .int .i64 k ∧ Hid (∀ j, j < k → l.getD j 0 = m.getD j 0) ∧ Drawn w wr) (fun i _ => len - (intOf i).toNat)
    case atStart => exact ⟨0, Nat.zero_le _, rfl, fun j hj => by omega, 0, rfl⟩
    case round =>
      obtain ⟨k, hk, rfl, hA, hD⟩ := hrel
      by_cases hlt : k < len
      · rcases hL with h0 | ⟨g, off, rfl, hlg, hcl⟩
        · have := HN.out; rw [h0] at this; simp at this; omega
        · rcases hM with h0 | ⟨g2, off2, rfl, hlg2, hcm⟩
          · have := HM.out; rw [h0] at this; simp at this; omega
          · have hx := hcl k (by rw [HN.out]; exact hlt)
            have hy := hcm k (by rw [HM.out]; exact hlt)
            obtain ⟨nq, rfl⟩ := hD
            obtain ⟨x, ex⟩ : ∃ x, l.getD k 0 = x := ⟨_, rfl⟩
            obtain ⟨y, ey⟩ : ∃ y, m.getD k 0 = y := ⟨_, rfl⟩
            rw [ex] at hx
            rw [ey] at hy
            have EX := Lib.hid ex
            have EY := Lib.hid ey
            have hlt0 : (k : Int) < (len : Int) := by omega
            clear hcl hcm ex ey
            by_cases hxy : x = y
            · subst hxy
              have HA2 := Lib.hid (show ∀ j, j < k + 1 → l.getD j 0 = m.getD j 0 from fun j hj => by
                by_cases hjk : j = k
                · subst hjk; rw [EX.out, EY.out]
                · exact hA.out j (by omega))
              go_wp2
              go_quiet (fail)
              go_wp2
              go_roundw
              case rel => exact ⟨k + 1, by omega, by go_num, HA2.out, _, rfl⟩
              case measure => simp [intOf]; omega
            · have hne : ((x : Int) != (y : Int)) = true := by rw [bne_iff_ne]; omega
              have hne2 : ((x : Int) == (y : Int)) = false := by rw [beq_eq_false_iff_ne]; omega
              have HF := Lib.hid (same_not l m k (by rw [EX.out, EY.out]; exact hxy))
              go_wp2
              go_quiet (fail)
              go_wp2
              go_ret
              exact ⟨by rw [HF.out]; rfl, _, World.drewN_drewN _ _ _⟩
      · obtain rfl : k = len := by omega
        have HF := Lib.hid (same_all l m (by rw [HN.out, HM.out]) (by rw [HN.out]; exact hA.out))
        go_wp2
        go_ret
        exact ⟨by rw [HF.out]; rfl, hD⟩
  · have HF := Lib.hid (same_len l m (by rw [hl, hm]; exact hll))
    have hne : ((len : Int) != (len2 : Int)) = true := by rw [bne_iff_ne]; omega
    have hne2 : (len != len2) = true := by rw [bne_iff_ne]; omega
    clear hl hm
    go_enter Tryd.func29, Tryd.ntmps29
    go_wp2
    go_ret
    exact ⟨by rw [HF.out]; rfl, 0, rfl⟩
end Go.Proofs.YtfnagfmbhcaphaaDoor
