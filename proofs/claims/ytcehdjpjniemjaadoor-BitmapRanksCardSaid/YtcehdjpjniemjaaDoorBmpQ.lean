/-
  The walks of BitmapSets and BitmapRanks. Nothing here is a statement of the document.
-/
import Derived.Test.YtcehdjpjniemjaaDoorBmpP
import Derived.Test.YtcehdjpjniemjaaDoorBmpG
namespace Go.Proofs.YtcehdjpjniemjaaDoor
open Go.RowKit Go.Shelf
set_option linter.unusedVariables false

theorem bel_q {w a b : World} (h : Below w.heap.size w a) (k : Below a.heap.size a b) : Below w.heap.size w b := h.trans (k.mono h.size)

set_option maxRecDepth 100000 in
set_option maxHeartbeats 2000000 in
theorem sets_walk {s : Nat} (hs : s < 4294967296) (b : Int) (h1 : -9223372036854775808 ≤ b) (h2 : b ≤ 9223372036854775807) (w : World) (hT : Tz w) :
    Calls Tryd.prog 3 #[.int .u32 s, .int .i64 b] w fun e w' => e = .returned (.bool true) ∧ Below w.heap.size w w' := by
  have hR := fun w => brank_any hs b h1 h2 w
  have hRR := fun w => refrank_any hs b h1 h2 w
  have hH := fun w => bhas_any hs b h1 h2 w
  have hRH := fun w => refhas_any hs b h1 h2 w
  have hW := fun w => bwith_any hs b h1 h2 w
  have hL := fun w => bless_any hs b h1 h2 w
  have hSt : ∀ w, Calls Tryd.prog 11 #[.int .u32 s, .int .i64 b, .bool true] w fun e w' => e = .returned (.int .u32 ((withN s b : Nat) : Int)) ∧ w = w' := fun w => refset_any hs b true w
  have hSf : ∀ w, Calls Tryd.prog 11 #[.int .u32 s, .int .i64 b, .bool false] w fun e w' => e = .returned (.int .u32 ((lessN s b : Nat) : Int)) ∧ w = w' := fun w => refset_any hs b false w
  have hB := fun w hT => bits_any hs w hT
  have hRB := fun w => refbits_any hs w
  have hlen := bitsL_len s
  generalize bitsL s = L at *
  generalize hasN s b = hh at *
  generalize withN s b = ww at *
  generalize lessN s b = ll at *
  generalize rankN s (clampN b) = rr at *
  have HT := Lib.hid hT
  clear hT
  go_enter Tryd.func3, Tryd.ntmps3
  go_wp2_with fail
  refine (wakes7_any _).mono ?_
  rintro e w1 ⟨rfl, hb1⟩
  have ht1 := (HT.out.later hb1).drew
  have hb1 := hb1.drew
  go_wp2_with (first | (go_at_call 6; refine (hR _).mono ?_; rintro e w' ⟨rfl, rfl⟩) | (go_at_call 7; refine (hRR _).mono ?_; rintro e w' ⟨rfl, rfl⟩) | (go_at_call 8; refine (hH _).mono ?_; rintro e w' ⟨rfl, rfl⟩) | (go_at_call 9; refine (hRH _).mono ?_; rintro e w' ⟨rfl, rfl⟩) | (go_at_call 10; refine (hW _).mono ?_; rintro e w' ⟨rfl, rfl⟩) | (go_at_call 12; refine (hL _).mono ?_; rintro e w' ⟨rfl, rfl⟩) | (go_at_call 11; first | ((with_reducible refine (hSt _).mono ?_); rintro e w' ⟨rfl, rfl⟩) | ((with_reducible refine (hSf _).mono ?_); rintro e w' ⟨rfl, rfl⟩)) | (go_at_call 14; refine (hB _ ht1).mono ?_; rintro e w2 ⟨v1, rfl, ho1, hb2⟩))
  obtain ⟨a1, c1, rfl, hr1⟩ := own_ri ho1
  refine (hRB _).mono ?_
  rintro e w3 ⟨v2, rfl, ho2, hb3⟩
  obtain ⟨a2, c2, rfl, hr2⟩ := own_ri ho2
  have hr1 := hr1.later hb3
  clear ho1 ho2
  go_wp2_with fail
  refine (same_any a1 a2 L.length c1 c2 L rfl hlen w3 hr1 hr2).mono ?_
  rintro e w4 ⟨rfl, hb4⟩
  go_wp2
  go_ret
  exact ⟨rfl, bel_q (bel_q (bel_q hb1 hb2) hb3) hb4⟩
end Go.Proofs.YtcehdjpjniemjaaDoor
