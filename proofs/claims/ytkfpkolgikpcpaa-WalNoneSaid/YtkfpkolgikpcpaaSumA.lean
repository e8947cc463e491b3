/-
  What a sum is, and the contracts of sum.On and Sum32 and of the reference's. Nothing here is a statement of the document.
-/
import Derived.Test.YtkfpkolgikpcpaaOctL
import Derived.Test.YtkfpkolgikpcpaaOctI
namespace Go.Proofs.Ytkfpkolgikpcpaa
open Go.RowKit
set_option linter.unusedVariables false

/-- A sum that goes on over a byte. -/
def stepS (n b : Nat) : Nat := (n * 257 + b) % 4294967291
/-- A sum that goes on over bytes. -/
def goS (n : Nat) (l : List Nat) : Nat := l.foldl stepS (n % 4294967291)

theorem stepS_lt (n b : Nat) : stepS n b < 4294967291 := Nat.mod_lt _ (by omega)
theorem foldS_lt : ∀ (l : List Nat) (n : Nat), n < 4294967291 → l.foldl stepS n < 4294967291
  | [], _, h => h
  | b :: l, n, _ => foldS_lt l (stepS n b) (stepS_lt _ _)
theorem goS_lt (n : Nat) (l : List Nat) : goS n l < 4294967291 := foldS_lt l _ (Nat.mod_lt _ (by omega))
theorem goS_nil (n : Nat) : goS n [] = n % 4294967291 := rfl
theorem goS_append (n : Nat) (l m : List Nat) : goS n (l ++ m) = goS (goS n l) m := by
  have h := goS_lt n l
  unfold goS at h ⊢
  rw [List.foldl_append, Nat.mod_eq_of_lt h]
theorem goS_snoc (n : Nat) (l : List Nat) (b : Nat) : goS n (l ++ [b]) = stepS (goS n l) b := by
  unfold goS; rw [List.foldl_append]; rfl
theorem goS_take (n : Nat) (l : List Nat) (k : Nat) (h : k < l.length) : goS n (l.take (k + 1)) = stepS (goS n (l.take k)) (l.getD k 0) := by
  rw [List.take_add_one]
  have : l[k]?.toList = [l.getD k 0] := by simp [h]
  rw [this, goS_snoc]

set_option maxHeartbeats 400000 in
theorem on_step {x v b : Nat} {w : World} (hx : w.heap[x]? = some (.cells #[.int .u64 (v : Int)] 134 (0, 0))) (hv : v < 4294967291) (hb : b < 256) :
    Calls Try.prog 96 #[.int .u8 (b : Int), .pointer (some ⟨x, 0, none⟩)] w fun e w' => e = .returned (.tuple #[]) ∧ w.setCell ⟨x, 0, none⟩ (.int .u64 ((stepS v b : Nat) : Int)) = w' := by
  have h0 := cell_of_one hx
  have hf := free_of_one hx
  have e : ((stepS v b : Nat) : Int) = ((v : Int) * 257 + (b : Int)) % 4294967291 := by unfold stepS; omega
  have HE := Lib.hid e
  clear e hx
  go_enter Try.func96, Try.ntmps96
  go_wp2
  go_end0
  refine ⟨rfl, ?_⟩
  rw [HE.out]

set_option maxHeartbeats 800000 in
theorem on_any (n : Nat) (a : Option Addr) (len cap : Nat) (l : List Nat) (w : World) (hl : l.length = len) (hlm : len ≤ 9223372036854775807) (hB : Bys l) (hL : Lies w a l) (hn : n ≤ 4294967295) :
    Calls Try.prog 92 #[.int .u32 (n : Int), .slice a len cap] w fun e w' => e = .returned (.int .u32 ((goS n l : Nat) : Int)) ∧ Below w.heap.size w w' := by
  have hmf : ∀ (fn : Fn) (first cap : Array Value) (w : World), (Instr.makeFunc fn first cap).run Try.prog w = .ok (.func fn first cap) w := fun _ _ _ _ => rfl
  have HN := Lib.hid hl
  clear hl
  obtain ⟨m, hm⟩ : ∃ m : Nat, n % 4294967291 = m := ⟨_, rfl⟩
  have em : (n : Int) % 4294967291 = (m : Int) := by omega
  have hm0 : goS n (l.take 0) = m := by rw [List.take_zero, goS_nil, hm]
  obtain ⟨W1, hW1⟩ : ∃ W1, (w.alloc (.cells #[.int .u64 0] 134)).setCell ⟨w.heap.size, 0, none⟩ (.int .u64 ((n : Int) % 4294967291)) = W1 := ⟨_, rfl⟩
  have hx : W1.heap[w.heap.size]? = some (.cells #[.int .u64 (m : Int)] 134 (0, 0)) := by rw [← hW1, em]; exact one_setCell (heap_alloc_new w _)
  have hb1 : Below w.heap.size w W1 := by rw [← hW1]; exact ((Below.refl _ _).alloc (Nat.le_refl _) _).setCell (Nat.le_refl _) _
  have H1 := Lib.hid (And.intro hx hb1)
  have HM := Lib.hid hm0
  clear hm0
  clear hx hb1 hm em
  go_enter Try.func92, Try.ntmps92
  go_wp2
  clear hW1
  go_loopw [14] (fun i wr => ∃ k : Nat, k ≤ len ∧ i = .int .i64 k ∧ wr.heap[w.heap.size]? = some (.cells #[.int .u64 ((goS n (l.take k) : Nat) : Int)] 134 (0, 0)) ∧ Below w.heap.size w wr) (fun i _ => len - (intOf i).toNat)
  case atStart => exact ⟨0, Nat.zero_le _, rfl, by rw [HM.out]; exact H1.out.1, H1.out.2⟩
  case round =>
    obtain ⟨k, hk, rfl, hX, hBw⟩ := hrel
    by_cases hlt : k < len
    · rcases hL with h0 | ⟨g, off, rfl, hlg, hcc⟩
      · have := HN.out; rw [h0] at this; simp at this; omega
      · have hc := (hBw.cell (p := ⟨g, off + k, none⟩) hlg).trans (hcc k (by rw [HN.out]; exact hlt))
        have hv := goS_lt n (l.take k)
        have HT := Lib.hid (goS_take n l k (by rw [HN.out]; exact hlt))
        have hb := hB.at k
        generalize l.getD k 0 = b at *
        generalize goS n (l.take k) = v at *
        have hX2 : (wr.setCell ⟨w.heap.size, 0, none⟩ (.int .u64 ((stepS v b : Nat) : Int))).heap[w.heap.size]? = some (.cells #[.int .u64 ((stepS v b : Nat) : Int)] 134 (0, 0)) := one_setCell hX
        have hB2 : Below w.heap.size w (wr.setCell ⟨w.heap.size, 0, none⟩ (.int .u64 ((stepS v b : Nat) : Int))) := hBw.setCell (Nat.le_refl _) _
        have HX := Lib.hid (And.intro hX2 hB2)
        have hstep := on_step hX hv hb
        have hlt0 : (k : Int) < (len : Int) := by omega
        clear hX2 hB2 hX hBw hcc
        go_wp2_with (go_at_call 96; refine hstep.mono ?_; rintro e w' ⟨rfl, rfl⟩)
        go_roundw
        case rel => exact ⟨k + 1, by omega, by go_num, by rw [HT.out]; exact HX.out.1, HX.out.2⟩
        case measure => simp [intOf]; omega
    · obtain rfl : k = len := by omega
      have hlt0 : ¬ ((k : Int) < (k : Int)) := by omega
      have e : l.take k = l := by rw [← HN.out, List.take_length]
      rw [e] at hX
      clear e
      have hv := goS_lt n l
      generalize hgg : goS n l = v at *
      have HG := Lib.hid hgg
      clear hgg
      have hc := cell_of_one hX
      go_wp2
      go_ret
      exact ⟨by rw [HG.out]; rfl, hBw⟩

set_option maxHeartbeats 400000 in
theorem sum_any (a : Option Addr) (len cap : Nat) (l : List Nat) (w : World) (hl : l.length = len) (hlm : len ≤ 9223372036854775807) (hB : Bys l) (hL : Lies w a l) :
    Calls Try.prog 81 #[.slice a len cap] w fun e w' => e = .returned (.int .u32 ((goS 1 l : Nat) : Int)) ∧ Below w.heap.size w w' := by
  have HN := Lib.hid hl
  clear hl
  go_enter Try.func81, Try.ntmps81
  go_wp2_with (go_at_call 92; refine (on_any 1 _ _ _ l _ HN.out hlm hB hL (by omega)).mono ?_; rintro e w' ⟨rfl, hb⟩)
  go_ret
  exact ⟨rfl, hb⟩
end Go.Proofs.Ytkfpkolgikpcpaa
