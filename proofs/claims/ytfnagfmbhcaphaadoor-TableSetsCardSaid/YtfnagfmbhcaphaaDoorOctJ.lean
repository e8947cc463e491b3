/-
  The contracts of bytes.Equal and octet.Equal. Nothing here is a statement of the document.
-/
import Derived.Test.YtfnagfmbhcaphaaDoorOctH
import Derived.Laws.BytesArg
import Derived.Lib.Bytes
namespace Go.Proofs.YtfnagfmbhcaphaaDoor
open Go.RowKit
set_option linter.unusedVariables false

/-- Bytes as the model's numbers. -/
def intsOf (l : List Nat) : List Int := l.map Int.ofNat
theorem length_intsOf (l : List Nat) : (intsOf l).length = l.length := by simp [intsOf]
theorem getD_intsOf (l : List Nat) (i : Nat) (h : i < l.length) : (intsOf l).getD i 0 = ((l.getD i 0 : Nat) : Int) := by
  simp [intsOf, h]
/-- Bytes as a string. -/
def strOf (l : List Nat) : ByteArray := strOfNums (intsOf l)

theorem strOf_list (l : List Nat) : (strOf l).toList = l.map UInt8.ofNat := by
  rw [Lib.toList_data, strOf, strOfNums_data, intsOf, List.map_map]
  rfl

theorem strOf_inj {l m : List Nat} (hl : Bys l) (hm : Bys m) (h2 : l.map UInt8.ofNat = m.map UInt8.ofNat) : l = m := by
  have hlen : l.length = m.length := by simpa using congrArg List.length h2
  apply List.ext_getElem hlen
  intro j h1 h3
  have e : (l.map UInt8.ofNat)[j]'(by simpa using h1) = (m.map UInt8.ofNat)[j]'(by simpa using h3) := by simp only [h2]
  simp only [List.getElem_map] at e
  have e2 := congrArg UInt8.toNat e
  have a1 := hl _ (List.getElem_mem h1)
  have a2 := hm _ (List.getElem_mem h3)
  rw [UInt8.toNat_ofNat', UInt8.toNat_ofNat'] at e2
  omega

theorem strOf_beq {l m : List Nat} (hl : Bys l) (hm : Bys m) : ((strOf l).toList == (strOf m).toList) = (l == m) := by
  rw [strOf_list, strOf_list]
  by_cases h : l = m
  · subst h; simp
  · have h2 : l.map UInt8.ofNat ≠ m.map UInt8.ofNat := fun e => h (strOf_inj hl hm e)
    rw [beq_eq_false_iff_ne.2 h, beq_eq_false_iff_ne.2 h2]

theorem conv_bytes {w : World} {a : Option Addr} {l : List Nat} {len : Nat} (cap : Nat) (h : Lies w a l) (hl : l.length = len) :
    (convert 55 9 (.slice a len cap)).run Tryd.prog w = .ok (.string (strOf l)) w := by
  rcases h with rfl | ⟨b, off, rfl, _, hc⟩
  · obtain rfl : 0 = len := hl
    rw [run_convert_bytes_string w 55 9 5 _ 0 cap Tryd.underlying55 Tryd.underlying5 Tryd.underlying9]
    cases a <;> simp [Conv.bytesToString, loadCells]
    all_goals rfl
  · exact run_convert_bytes_arg w 55 5 Tryd.underlying55 Tryd.underlying5 b off len cap (intsOf l) (by rw [length_intsOf]; exact hl) (fun i hi => by
      rw [hc i (by omega), getD_intsOf l i (by omega)]) 9 Tryd.underlying9

set_option maxHeartbeats 400000 in
theorem bequal_any (a b : Option Addr) (len cap len2 cap2 : Nat) (l m : List Nat) (w : World) (hl : l.length = len) (hm : m.length = len2) (hB : Bys l) (hC : Bys m) (hL : Lies w a l) (hM : Lies w b m) :
    Calls Tryd.prog 61 #[.slice a len cap, .slice b len2 cap2] w fun e w' => e = .returned (.bool (l == m)) ∧ w = w' := by
  have k1 := conv_bytes cap hL hl
  have k2 := conv_bytes cap2 hM hm
  have HE := Lib.hid (strOf_beq hB hC)
  clear hl hm
  generalize strOf l = s at *
  generalize strOf m = t at *
  go_enter Tryd.func61, Tryd.ntmps61
  go_wp2
  go_ret
  refine ⟨?_, rfl⟩
  rw [← HE.out]
  rfl

set_option maxHeartbeats 400000 in
theorem equal_any (a b : Option Addr) (len cap len2 cap2 : Nat) (l m : List Nat) (w : World) (hl : l.length = len) (hm : m.length = len2) (hB : Bys l) (hC : Bys m) (hL : Lies w a l) (hM : Lies w b m) :
    Calls Tryd.prog 32 #[.slice a len cap, .slice b len2 cap2] w fun e w' => e = .returned (.bool (l == m)) ∧ w = w' := by
  have HL := Lib.hid hl
  have HM := Lib.hid hm
  clear hl hm
  go_enter Tryd.func32, Tryd.ntmps32
  go_wp2_with (go_at_call 61; refine (bequal_any _ _ _ _ _ _ l m _ HL.out HM.out hB hC hL hM).mono ?_; rintro e w' ⟨rfl, rfl⟩)
  go_ret
  exact ⟨rfl, rfl⟩
end Go.Proofs.YtfnagfmbhcaphaaDoor
