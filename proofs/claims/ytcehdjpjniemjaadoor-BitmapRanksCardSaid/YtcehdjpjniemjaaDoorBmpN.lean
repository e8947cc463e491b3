/-
  The iterator over the bits of a set, and the contracts of bitmap.members, bitmap.Bits and of the reference's Bits. Nothing here is a statement of the document.
-/
import Derived.Test.YtcehdjpjniemjaaDoorBmpM
namespace Go.Proofs.YtcehdjpjniemjaaDoor
open Go.RowKit Go.Shelf
set_option linter.unusedVariables false

theorem members_any (s : Nat) (w : World) : Calls Tryd.prog 21 #[.int .u32 s] w fun e w' =>
    e = .returned (.func (.func 24) #[] #[.pointer (some ⟨w.heap.size, 0, none⟩)]) ∧ w' = w.alloc (.cells #[.int .u32 s] 22) := by
  have hmf : ∀ (fn : Fn) (first cap : Array Value) (w : World), (Instr.makeFunc fn first cap).run Tryd.prog w = .ok (.func fn first cap) w := fun _ _ _ _ => rfl
  go_enter Tryd.func21, Tryd.ntmps21
  go_wp2
  go_ret
  exact ⟨rfl, rfl⟩

def encB (L : List Nat) (k : Nat) : Array Value := #[.int .i64 ((L.getD k 0 : Nat) : Int)]

attribute [local go_sem] Oper.semAt_some
set_option maxRecDepth 100000 in
set_option maxHeartbeats 1000000 in
theorem members_tells {s : Nat} (hs : s < 4294967296) {S : List Nat} {w : World} {box : Nat} (hT : Tz w) (hb : Blk w box 22 #[.int .u32 s]) (hbS : box ∉ S) (h0S : 0 ∉ S) :
    TellsL 24 #[.pointer (some ⟨box, 0, none⟩)] S (bitsL s).length (encB (bitsL s)) w := by
  intro lo J Jx W hWk hlw hlo hJ hJx hY h0
  have n4 : box < lo := by have := hb.lt; omega
  have n5 : 0 < lo := by have := hT.lt; omega
  replace hT : Tz W := hT.low hWk (by have := hT.lt; omega) h0S
  replace hb := hWk.blk hb hbS hb.lt
  clear hlw hWk
  have hc0 : W.cell? ⟨box, 0, none⟩ = some (.int .u32 s) := hb.cell 0
  refine callsIn_of_wp Tryd.func24 rfl trivial ?_ rfl
  simp only [Tryd.ntmps24, List.size_toArray, List.length_cons, List.length_nil, Nat.reduceAdd, Nat.reduceSub, Array.replicate_succ, Array.replicate_zero, List.push_toArray, List.append_toArray, List.nil_append, List.cons_append]
  gi_wp2
  gi_loopw [3] (fun i wr => ∃ k r : Nat, k ≤ (bitsL s).length ∧ i = .int .u32 (r : Int) ∧ r < 4294967296 ∧ bitsL r = (bitsL s).drop k ∧ J k wr ∧ Tz wr) (fun i _ => (intOf i).toNat)
  case atStart => exact ⟨0, s, Nat.zero_le _, rfl, hs, by simp, h0, hT⟩
  case round =>
    obtain ⟨k, r, hk, rfl, hr, hbr, hJs, hTr⟩ := hrel
    by_cases hr0 : r = 0
    · subst hr0
      have hkk : k = (bitsL s).length := by
        rw [bitsL_zero] at hbr
        have := congrArg List.length hbr
        simp at this; omega
      subst hkk
      clear hY
      gi_wp2
      go_end0
      exact ⟨⟨_, rfl⟩, .inl hJs⟩
    · obtain ⟨hc, hlt, hst⟩ := least hr0 hr
      have hd0 : (bitsL s).drop k = Lib.ctz 32 r :: bitsL (r &&& (r - 1)) := by rw [← hbr, hst]
      have hkl : k < (bitsL s).length := by
        apply Classical.byContradiction; intro hn
        rw [List.drop_eq_nil_of_le (by omega)] at hd0; cases hd0
      have hgd : (bitsL s).getD k 0 = Lib.ctz 32 r := by
        have := congrArg (·[0]?) hd0
        simp at this
        simp [this]
      have hnx : bitsL (r &&& (r - 1)) = (bitsL s).drop (k + 1) := by
        rw [← List.tail_drop, hd0]; rfl
      obtain ⟨fn, tmps, assign, body, hy, hR⟩ := hY k wr hkl hJs
      unfold encB at hy
      rw [hgd] at hy
      have htz := tz32_any hr hr0 wr hTr
      have hx1 : ((r : Int) != 0) = true := by simp; omega
      have hsub : ((r : Int) - 1) % 4294967296 = ((r - 1 : Nat) : Int) := by omega
      have hand : bits .and .u32 (r : Int) ((r - 1 : Nat) : Int) = ((r &&& (r - 1) : Nat) : Int) := u32_and_nat r (r - 1) hr (by omega)
      have hand2 : bits .and .u32 (r : Int) ((r : Int) - 1) = ((r &&& (r - 1) : Nat) : Int) := by rw [show (r : Int) - 1 = ((r - 1 : Nat) : Int) by omega]; exact hand
      have HX := Lib.hid (And.intro hnx (And.intro hlt hTr))
      generalize Lib.ctz 32 r = c at *
      generalize hq : r &&& (r - 1) = q at *
      generalize r - 1 = r1 at *
      clear hJs hY hgd hd0 hst hnx hTr hq
      gi_wp2
      refine ⟨trivial, ?_⟩
      refine (callsIn_wide.2 htz).mono ?_
      rintro e1 w1 ⟨rfl, rfl⟩
      clear htz
      gi_wp2
      refine hR.mono ?_
      rintro e2 W4 ⟨hk4, ⟨rfl, hJ4⟩ | ⟨rfl, hJx4⟩⟩
      · have hT4 := HX.out.2.2.low hk4 (by omega) (by simp; exact ⟨by omega, h0S⟩)
        clear hy
        gi_wp2
        go_roundw
        case rel => exact ⟨k + 1, q, by omega, by first | rfl | rw [hand2], by have := HX.out.2.1; omega, HX.out.1, hJ4, hT4⟩
        case measure => have := HX.out.2.1; (try rw [hand2]); simp [intOf]; omega
      · gi_wp2
        refine bodyPost_ret (results_none rfl _ _ _) rfl ?_
        exact ⟨⟨_, rfl⟩, .inr ⟨k, by omega, hJx4⟩⟩
end Go.Proofs.YtcehdjpjniemjaaDoor
