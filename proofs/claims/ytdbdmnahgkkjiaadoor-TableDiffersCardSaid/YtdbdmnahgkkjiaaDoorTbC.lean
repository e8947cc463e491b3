/-
  slices.Backward of a table's rows: what it tells. Nothing here is a statement of the document.
-/
import Derived.Test.YtdbdmnahgkkjiaaDoorDskD
import Derived.Test.YtdbdmnahgkkjiaaDoorItB
import Derived.Deep.LoopGhost
namespace Go.Proofs.YtdbdmnahgkkjiaaDoor
open Go.RowKit Go.Shelf
set_option linter.unusedVariables false
set_option maxRecDepth 100000

theorem RowsAt.spot {w : World} {a : Option Addr} {L : List Rt} (h : RowsAt w a L) {i : Nat} (hi : i < L.length) : ∃ g o, a = some ⟨g, o, none⟩ ∧ Rws w g o L := by
  rcases h with rfl | h
  · simp at hi
  · exact h
theorem Rws.low {B : Nat} {S : List Nat} {w w' : World} {g o : Nat} {L : List Rt} (h : Rws w g o L) (k : KL B S w w') (hg : g ∉ S) (hB : g < B) : Rws w' g o L :=
  ⟨Nat.lt_of_lt_of_le h.lt k.size, fun i hi j hj => (World.cell?_of_block (w := w) (k.same g hB hg)).trans (h.row i hi j hj)⟩
def encT (L : List Rt) (k : Nat) : Array Value := #[.int .i64 ((L.length - 1 - k : Nat) : Int), .agg (rt L (L.length - 1 - k)).cs]
theorem backward_any (a : Option Addr) (n c : Nat) (w : World) : Calls Tryd.prog 61 #[.slice a n c] w fun e w' =>
    e = .returned (.func (.func 75) #[] #[.pointer (some ⟨w.heap.size, 0, none⟩)]) ∧ w' = (w.alloc (.cells #[.slice a n c] 22)) := by
  have hmf : ∀ (fn : Fn) (first cap : Array Value) (w : World), (Instr.makeFunc fn first cap).run Tryd.prog w = .ok (.func fn first cap) w := fun _ _ _ _ => rfl
  go_enter Tryd.func61, Tryd.ntmps61
  go_wp2
  go_ret
  exact ⟨by simp, rfl⟩

attribute [local go_sem ↓] load_b16_rule store_b16_rule load_ad_rule store_ad_rule load_px_rule store_px_rule eq_b16_rule eq_ad_rule eq_px_rule load_rt_rule store_rt_rule
attribute [local go_sem] Oper.semAt_some
set_option maxHeartbeats 2000000 in
theorem backward_low {w : World} {a : Option Addr} {n c box : Nat} {L : List Rt} {S : List Nat} (hn : L.length = n) (hm : n ≤ 9223372036854775807) (hR : L = [] ∨ ∃ g o, a = some ⟨g, o, none⟩ ∧ Rws w g o L ∧ g ∉ S) (hb : Blk w box 22 #[.slice a n c]) (hbS : box ∉ S) :
    TellsL 75 #[.pointer (some ⟨box, 0, none⟩)] S n (encT L) w := by
  intro lo J Jx W hWk hlw hlo hJ hJx hY h0
  have n4 : box < lo := by have := hb.lt; omega
  have hR2 : L = [] ∨ ∃ g o, a = some ⟨g, o, none⟩ ∧ Rws W g o L ∧ g < lo ∧ g ∉ S := by
    rcases hR with h | ⟨g, o, h1, h2, hgS⟩
    · exact .inl h
    · have := h2.lt
      exact .inr ⟨g, o, h1, h2.low hWk hgS h2.lt, by omega, hgS⟩
  replace hb := hWk.blk hb hbS hb.lt
  have cb : W.cell? ⟨box, 0, none⟩ = some (.slice a n c) := hb.cell 0
  have hYY : ∀ k W1, k < n → J k W1 → YieldAt Fence.wide 8 Tryd.prog lo #[.int .i64 ((n - 1 - k : Nat) : Int), .agg (rt L (n - 1 - k)).cs] W1 fun e W' => KL (lo + 1) (lo :: S) W1 W' ∧ ((e = .returned (.bool true) ∧ J (k + 1) W') ∨ (e = .returned (.bool false) ∧ Jx k W')) := fun k W1 hk hj => by
    have := hY k W1 hk hj
    unfold encT at this
    rwa [hn] at this
  have hw : wrap64 ((n : Int) - 1) = (n : Int) - 1 := by unfold wrap64; omega
  have H := Lib.hid (And.intro hb (And.intro hYY (And.intro hR2 hn)))
  clear hlw hWk hb hn hR hY hYY hR2
  refine callsIn_of_wp Tryd.func75 rfl trivial ?_ rfl
  simp only [Tryd.ntmps75, List.size_toArray, List.length_cons, List.length_nil, Nat.reduceAdd, Nat.reduceSub, Array.replicate_succ, Array.replicate_zero, List.push_toArray, List.append_toArray, List.nil_append, List.cons_append]
  gi_wp2
  gi_loopw [3] (fun i wr => ∃ k : Nat, k ≤ n ∧ i = .int .i64 ((n : Int) - 1 - (k : Int)) ∧ J k wr ∧ Blk wr box 22 #[.slice a n c] ∧ (L = [] ∨ ∃ g o, a = some ⟨g, o, none⟩ ∧ Rws wr g o L ∧ g < lo ∧ g ∉ S)) (fun i _ => (intOf i + 1).toNat)
  case atStart => exact ⟨0, Nat.zero_le _, by simp, h0, H.out.1, H.out.2.2.1⟩
  case round =>
    obtain ⟨k, hk, rfl, hJs, hbw, hR⟩ := hrel
    by_cases hlt : k < n
    · rcases hR with hnil | ⟨g, o, rfl, hrow, hgl, hgS⟩
      · have := H.out.2.2.2; rw [hnil] at this; simp at this; omega
      · obtain ⟨fn, tmps, assign, body, hy, hRd⟩ := H.out.2.1 k wr hlt hJs
        obtain ⟨m, hmm⟩ : ∃ m, n - 1 - k = m := ⟨_, rfl⟩
        have e1 : (n : Int) - 1 - (k : Int) = (m : Int) := by omega
        rw [hmm] at hy
        have hlm : m < L.length := by have := H.out.2.2.2; omega
        have LR := hrow.load hlm
        have cbw : wr.cell? ⟨box, 0, none⟩ = some (.slice (some ⟨g, o, none⟩) n c) := hbw.cell 0
        have d1 : decide (0 ≤ (m : Int)) = true := decide_eq_true (by omega)
        have dmn : m < n := by omega
        have w1 : wrap64 ((m : Int) - 1) = (m : Int) - 1 := by unfold wrap64; omega
        have HJ := Lib.hid (And.intro hrow (And.intro hbw (And.intro hmm (And.intro hgl hgS))))
        rw [e1]
        clear hJs hrow hbw hmm h0 e1 cb
        gi_wp2
        refine hRd.mono ?_
        rintro e2 W4 ⟨hk4, ⟨rfl, hJ4⟩ | ⟨rfl, hJx4⟩⟩
        · have hr4 := HJ.out.1.low hk4 (by simp [HJ.out.2.2.2.2]; omega) (by omega)
          have hb4 := hk4.blk HJ.out.2.1 (by simp [hbS]; omega) (by omega)
          have H4 := Lib.hid (And.intro hr4 (And.intro hb4 hJ4))
          clear hy hr4 hb4 hJ4
          gi_wp2
          refine ⟨⟨k + 1, hlt, ?_, H4.out.2.2, H4.out.2.1, .inr ⟨g, o, rfl, H4.out.1, HJ.out.2.2.2.1, HJ.out.2.2.2.2⟩⟩, ?_⟩
          · have := HJ.out.2.2.1
            congr 1
            omega
          · simp only [intOf]
            have := HJ.out.2.2.1
            omega
        · gi_wp2
          refine bodyPost_ret (results_none rfl _ _ _) rfl ?_
          exact ⟨⟨_, rfl⟩, .inr ⟨k, by omega, hJx4⟩⟩
    · obtain rfl : k = n := by omega
      have e1 : (k : Int) - 1 - (k : Int) = -1 := by omega
      rw [e1]
      have HJ := Lib.hid hJs
      clear hJs hR hbw cb h0
      gi_wp2
      go_end0
      exact ⟨⟨_, rfl⟩, .inl HJ.out⟩
end Go.Proofs.YtdbdmnahgkkjiaaDoor
