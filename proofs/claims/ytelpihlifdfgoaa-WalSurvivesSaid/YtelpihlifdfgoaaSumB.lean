/-
  The contracts of the reference's sums. Nothing here is a statement of the document.
-/
import Derived.Test.YtelpihlifdfgoaaOctC
import Derived.OpenShut
import Derived.ShutString
import Derived.ChangeOld
import Derived.Deep.QuietTactic
import Derived.BigQuiet
import Derived.BigRegion
import Derived.Laws.BytesArg
import Derived.Lib.Bytes
import Derived.Laws.AppendOwnNone
import Derived.Deep.RegionWith
namespace Go.Proofs.Ytelpihlifdfgoaa
open Go.RowKit
set_option linter.unusedVariables false

/-- The number that bytes make, the highest first, on top of what was there, by its lowest 64 bits. -/
def pile (v : Nat) (l : List Nat) : Nat := l.foldl (fun v b => v * 256 % 18446744073709551616 + b) v

theorem or_low (v b : Nat) (hb : b < 256) : v * 256 % 18446744073709551616 ||| b = v * 256 % 18446744073709551616 + b :=
  nat_join 8 _ _ (by omega) hb

set_option maxHeartbeats 400000 in
theorem tell_num {x v b : Nat} {w : World} (hx : w.heap[x]? = some (.cells #[.int .u64 (v : Int)] 135 (0, 0))) (hv : v ≤ 18446744073709551615) (hb : b < 256) :
    Calls Try.prog 88 #[.int .u8 (b : Int), .pointer (some ⟨x, 0, none⟩)] w fun e w' => e = .returned (.tuple #[]) ∧ w.setCell ⟨x, 0, none⟩ (.int .u64 ((v * 256 % 18446744073709551616 + b : Nat) : Int)) = w' := by
  have h0 := cell_of_one hx
  have hf := free_of_one hx
  have e := u64_or_nat (v * 256 % 18446744073709551616) b (by omega) (by omega)
  rw [or_low v b hb, ← show IntKind.u64.wrap ((v : Int) * 256) = ((v * 256 % 18446744073709551616 : Nat) : Int) from by rw [IntKind.wrap_u64]; omega] at e
  have HE := Lib.hid e
  clear e hx
  go_enter Try.func88, Try.ntmps88
  go_wp2
  rw [HE.out]
  go_end0
  exact ⟨rfl, rfl⟩

/-- Two worlds that differ at blocks p and x at most. -/
structure Two (p x : Nat) (w w' : World) : Prop where
  os : w'.os = w.os
  tape : w'.tape = w.tape
  output : w'.output = w.output
  size : w'.heap.size = w.heap.size
  block : ∀ k, k ≠ p → k ≠ x → w'.heap[k]? = w.heap[k]?

theorem Two.refl (p x : Nat) (w : World) : Two p x w w := ⟨rfl, rfl, rfl, rfl, fun _ _ _ => rfl⟩
theorem Two.trans {p x : Nat} {a b c : World} (h : Two p x a b) (k : Two p x b c) : Two p x a c :=
  ⟨k.os.trans h.os, k.tape.trans h.tape, k.output.trans h.output, k.size.trans h.size, fun i h1 h2 => (k.block i h1 h2).trans (h.block i h1 h2)⟩
theorem Two.setCell {p x : Nat} {a b : World} (h : Two p x a b) {q : Addr} (hq : q.block = p ∨ q.block = x) (v : Value) : Two p x a (b.setCell q v) :=
  h.trans ⟨rfl, rfl, rfl, by simp [World.setCell], fun k h1 h2 => Below.heap_setCell _ _ _ _ (by rcases hq with rfl | rfl <;> assumption)⟩

/-- What taking n bytes off leaves: where the reader stands, and its error. -/
def offTo (len j : Nat) (err n : Int) : Nat × Int :=
  if err ≠ 0 then (j, err) else if n < 0 then (j, 2) else if ((len - j : Nat) : Int) < n then (j, 7) else (j + n.toNat, 0)

/-- What comes off. -/
def came (L : List Nat) (j : Nat) (err n : Int) : List Nat :=
  if err ≠ 0 then [] else if n < 0 then [] else if ((L.length - j : Nat) : Int) < n then [] else (L.drop j).take n.toNat

theorem pile_snoc (v : Nat) (l : List Nat) (b : Nat) : pile v (l ++ [b]) = pile v l * 256 % 18446744073709551616 + b := by simp [pile]
theorem pile_le (v : Nat) (l : List Nat) (hl : Bys l) (hv : v ≤ 18446744073709551615) : pile v l ≤ 18446744073709551615 := by
  induction l generalizing v with
  | nil => exact hv
  | cons b l ih =>
    have hb : b < 256 := hl b (by simp)
    exact ih _ (fun n hn => hl n (by simp [hn])) (by show v * 256 % 18446744073709551616 + b ≤ 18446744073709551615; omega)
theorem take_more (L : List Nat) (j k : Nat) (h : j + k < L.length) : (L.drop j).take (k + 1) = (L.drop j).take k ++ [L.getD (j + k) 0] := by
  rw [List.take_add_one]
  simp [List.getElem?_drop, h]

theorem take_world {p g x j k v : Nat} {L : List Nat} {w wr : World} (hR : Rd wr p g L (j + k) 0)
    (hX2 : (wr.setCell ⟨p, 0, none⟩ (restV g L.length (j + k + 1))).heap[x]? = some (.cells #[.int .u64 (v : Int)] 135 (0, 0))) (hT : Two p x w wr) (hxg : x ≠ g)
    (hM : (L.drop j).take (k + 1) = (L.drop j).take k ++ [L.getD (j + k) 0]) (hP : pile 0 ((L.drop j).take k) = v) (hlt : j + k < L.length) (hxp : x ≠ p := by assumption) :
    Rd ((wr.setCell ⟨p, 0, none⟩ (restV g L.length (j + k + 1))).setCell ⟨x, 0, none⟩ (.int .u64 ((v * 256 % 18446744073709551616 + L.getD (j + k) 0 : Nat) : Int))) p g L (j + (k + 1)) 0 ∧
    ((wr.setCell ⟨p, 0, none⟩ (restV g L.length (j + k + 1))).setCell ⟨x, 0, none⟩ (.int .u64 ((v * 256 % 18446744073709551616 + L.getD (j + k) 0 : Nat) : Int))).heap[x]? = some (.cells #[.int .u64 ((pile 0 ((L.drop j).take (k + 1)) : Nat) : Int)] 135 (0, 0)) ∧
    Two p x w ((wr.setCell ⟨p, 0, none⟩ (restV g L.length (j + k + 1))).setCell ⟨x, 0, none⟩ (.int .u64 ((v * 256 % 18446744073709551616 + L.getD (j + k) 0 : Nat) : Int))) := by
  have h1 := hR.off hlt
  refine ⟨?_, ?_, (hT.setCell (.inl rfl) _).setCell (.inr rfl) _⟩
  · exact h1.kept (Below.heap_setCell _ _ _ _ (Ne.symm hxp)) (Below.heap_setCell _ _ _ _ (Ne.symm hxg))
  · rw [hM, pile_snoc, hP]
    exact one_setCell hX2

set_option maxHeartbeats 1600000 in
theorem take_num {p g j x : Nat} {L : List Nat} {n : Int} {w : World} (h : Rd w p g L j 0) (hB : Bys L) (hx : w.heap[x]? = some (.cells #[.int .u64 0] 135 (0, 0))) (hxp : x ≠ p) (hxg : x ≠ g)
    (h0 : 0 ≤ n) (hn : n ≤ ((L.length - j : Nat) : Int)) (hlm : L.length ≤ 281474976710000) :
    Calls Try.prog 87 #[.pointer (some ⟨p, 0, none⟩), .int .i64 n, .func (.func 88) #[] #[.pointer (some ⟨x, 0, none⟩)]] w fun e w' =>
      e = .returned (.tuple #[]) ∧ Rd w' p g L (j + n.toNat) 0 ∧ w'.heap[x]? = some (.cells #[.int .u64 ((pile 0 ((L.drop j).take n.toNat) : Nat) : Int)] 135 (0, 0)) ∧ Two p x w w' := by
  obtain ⟨n, rfl⟩ := Int.eq_ofNat_of_zero_le h0
  have hle := h.le
  have hlt : decide (((L.length - j : Nat) : Int) < (n : Int)) = false := by simp; omega
  have hlt2 : decide (L.length - j < n) = false := by simp; omega
  have hlt3 : decide ((n : Int) < 0) = false := by simp
  go_enter Try.func87, Try.ntmps87
  go_wp2_with (first | (go_at_call 94; refine (err_any h).mono ?_; rintro e w' ⟨rfl, rfl⟩) | (go_at_call 95; refine (left_any h).mono ?_; rintro e w' ⟨rfl, rfl⟩))
  go_loopw [10] (fun i wr => ∃ k : Nat, k ≤ n ∧ i = .int .i64 k ∧ Rd wr p g L (j + k) 0 ∧ wr.heap[x]? = some (.cells #[.int .u64 ((pile 0 ((L.drop j).take k) : Nat) : Int)] 135 (0, 0)) ∧ Two p x w wr) (fun i _ => n - (intOf i).toNat)
  case atStart => exact ⟨0, Nat.zero_le _, rfl, h, by simpa [pile] using hx, Two.refl _ _ _⟩
  case round =>
    obtain ⟨k, hk, rfl, hR, hX, hT⟩ := hrel
    clear h hx
    by_cases hk2 : k < n
    · have hv := pile_le 0 ((L.drop j).take k) (fun m hm => hB m (List.mem_of_mem_drop (List.mem_of_mem_take hm))) (by omega)
      have HM := Lib.hid (take_more L j k (by omega))
      generalize hgp : pile 0 ((L.drop j).take k) = v at *
      have HP := Lib.hid hgp
      clear hgp
      have hX2 : (wr.setCell ⟨p, 0, none⟩ (restV g L.length (j + k + 1))).heap[x]? = some (.cells #[.int .u64 (v : Int)] 135 (0, 0)) := (Below.heap_setCell _ _ _ _ hxp).trans hX
      go_wp2_with (first | (go_at_call 96; refine (next_any hR (by omega)).mono ?_; rintro e w' ⟨rfl, rfl⟩) | (go_at_call 88; refine (tell_num hX2 hv (hB.at _)).mono ?_; rintro e w' ⟨rfl, rfl⟩))
      have R := take_world hR hX2 hT hxg HM.out HP.out (by omega)
      clear hR hX hT hX2
      go_roundw
      case rel => first | exact ⟨k + 1, by omega, by go_num, R.1, R.2.1, R.2.2⟩ | ((repeat apply Exists.intro); exact ⟨⟨k + 1, by omega, by go_num, R.1, R.2.1, R.2.2⟩, rfl⟩)
      case measure => simp [intOf]; omega
    · obtain rfl : k = n := by omega
      go_wp2
      go_end0
      exact ⟨rfl, hR, hX, hT⟩

/-- Who is out of step takes nothing off. -/
theorem take_err {p g j : Nat} {L : List Nat} {err n : Int} {f : Value} {w : World} (h : Rd w p g L j err) (he : err ≠ 0) :
    Calls Try.prog 87 #[.pointer (some ⟨p, 0, none⟩), .int .i64 n, f] w fun e w' => e = .returned (.tuple #[]) ∧ w = w' := by
  have he2 : (err != 0) = true := by simpa using he
  have he3 : (err == 0) = false := by simpa using he
  go_enter Try.func87, Try.ntmps87
  go_wp2_with (go_at_call 94; refine (err_any h).mono ?_; rintro e w' ⟨rfl, rfl⟩)
  refine bodyPost_ret (results_none rfl _ _ _) rfl ?_
  exact ⟨rfl, rfl⟩
theorem take_nil {n : Int} {f : Value} {w : World} :
    Calls Try.prog 87 #[.pointer none, .int .i64 n, f] w fun e w' => e = .returned (.tuple #[]) ∧ w = w' := by
  go_enter Try.func87, Try.ntmps87
  go_wp2_with (go_at_call 94; refine (err_nil _).mono ?_; rintro e w' ⟨rfl, rfl⟩)
  refine bodyPost_ret (results_none rfl _ _ _) rfl ?_
  exact ⟨rfl, rfl⟩
theorem take_neg {p g j : Nat} {L : List Nat} {n : Int} {f : Value} {w : World} (h : Rd w p g L j 0) (hn : n < 0) :
    Calls Try.prog 87 #[.pointer (some ⟨p, 0, none⟩), .int .i64 n, f] w fun e w' => e = .returned (.tuple #[]) ∧ w.setCell ⟨p, 1, none⟩ (.int .i64 2) = w' := by
  have hc := h.cell1
  have hf := h.free 1
  have hn2 : decide (n < 0) = true := by simpa using hn
  go_enter Try.func87, Try.ntmps87
  go_wp2_with (go_at_call 94; refine (err_any h).mono ?_; rintro e w' ⟨rfl, rfl⟩)
  go_end0
  exact ⟨rfl, rfl⟩
theorem take_short {p g j : Nat} {L : List Nat} {n : Int} {f : Value} {w : World} (h : Rd w p g L j 0) (hn0 : 0 ≤ n) (hn : ((L.length - j : Nat) : Int) < n) :
    Calls Try.prog 87 #[.pointer (some ⟨p, 0, none⟩), .int .i64 n, f] w fun e w' => e = .returned (.tuple #[]) ∧ w.setCell ⟨p, 1, none⟩ (.int .i64 7) = w' := by
  have hc := h.cell1
  have hf := h.free 1
  have hn2 : decide (n < 0) = false := by simpa using hn0
  have hn3 : decide (((L.length - j : Nat) : Int) < n) = true := by simpa using hn
  go_enter Try.func87, Try.ntmps87
  go_wp2_with (first | (go_at_call 94; refine (err_any h).mono ?_; rintro e w' ⟨rfl, rfl⟩) | (go_at_call 95; refine (left_any h).mono ?_; rintro e w' ⟨rfl, rfl⟩))
  go_end0
  exact ⟨rfl, rfl⟩

/-! ### number, and the numbers of 8 to 64 bits -/

theorem Two.grown {p x : Nat} {w w1 w' : World} (hA : w.grownBy w1 none) (h : Two p x w1 w') (hx : w.heap.size ≤ x) : w.grownBy w' (some p) :=
  ⟨h.os.trans hA.os, h.tape.trans hA.tape, h.output.trans hA.output, by have := hA.size; have := h.size; omega,
    fun k hk hp => (h.block k (fun e => hp (by rw [e])) (Nat.ne_of_lt (Nat.lt_of_lt_of_le hk hx))).trans (hA.block k hk (by simp))⟩

theorem grown_set {w w1 : World} {p : Nat} (hA : w.grownBy w1 none) (i : Nat) (v : Value) : w.grownBy (w1.setCell ⟨p, i, none⟩ v) (some p) :=
  ⟨hA.os, hA.tape, hA.output, by have := hA.size; simpa [World.setCell] using this,
    fun k hk hp => (Below.heap_setCell _ _ _ _ (fun e => hp (by rw [e]))).trans (hA.block k hk (by simp))⟩

/-- The reader behind a call that took off, or was to take off, n bytes. -/
def Aft (w w' : World) (p g : Nat) (L : List Nat) (j : Nat) (err n : Int) : Prop :=
  Rd w' p g L (offTo L.length j err n).1 (offTo L.length j err n).2 ∧ w.grownBy w' (some p)

set_option maxHeartbeats 800000 in
theorem number_any {p g j : Nat} {L : List Nat} {err n : Int} {w : World} (h : Rd w p g L j err) (hB : Bys L) (hlm : L.length ≤ 281474976710000) :
    Calls Try.prog 73 #[.pointer (some ⟨p, 0, none⟩), .int .i64 n] w fun e w' =>
      e = .returned (.int .u64 ((pile 0 (came L j err n) : Nat) : Int)) ∧ Aft w w' p g L j err n := by
  have hmf : ∀ (fn : Fn) (first cap : Array Value) (w : World), (Instr.makeFunc fn first cap).run Try.prog w = .ok (.func fn first cap) w := fun _ _ _ _ => rfl
  have hb : Below w.heap.size w (w.alloc (.cells #[.int .u64 0] 135)) := (Below.refl _ _).alloc (Nat.le_refl _) _
  have h1 : Rd (w.alloc (.cells #[.int .u64 0] 135)) p g L j err := h.below hb
  have hx : (w.alloc (.cells #[.int .u64 0] 135)).heap[w.heap.size]? = some (.cells #[.int .u64 0] 135 (0, 0)) := heap_alloc_new w _
  have hG : w.grownBy (w.alloc (.cells #[.int .u64 0] 135)) none := World.grownBy_alloc _ _ _
  have hp := h.lt
  have hg := h.own.lt
  have hxc := cell_of_one hx
  have hxc2 : ∀ i v, ((w.alloc (.cells #[.int .u64 0] 135)).setCell ⟨p, i, none⟩ v).cell? ⟨w.heap.size, 0, none⟩ = some (.int .u64 0) := fun i v =>
    (World.cell?_setCell_other _ _ _ _ (by intro e; have := congrArg Addr.block e; simp at this; omega)).trans hxc
  by_cases he : err = 0
  · subst he
    by_cases hn : n < 0
    · have e1 : came L j 0 n = [] := by simp [came, hn]
      have e2 : offTo L.length j 0 n = (j, 2) := by simp [offTo, hn]
      unfold Aft
      rw [e1, e2]
      go_enter Try.func73, Try.ntmps73
      go_wp2_with (go_at_call 87; refine (take_neg h1 hn).mono ?_; rintro e w' ⟨rfl, rfl⟩)
      go_ret
      rw [← World.setCell_alloc_past _ _ _ _ hp]
      exact ⟨rfl, h1.err 2, grown_set hG _ _⟩
    · by_cases hs : ((L.length - j : Nat) : Int) < n
      · have e1 : came L j 0 n = [] := by simp [came, hn, hs]
        have e2 : offTo L.length j 0 n = (j, 7) := by simp [offTo, hn, hs]
        unfold Aft
        rw [e1, e2]
        go_enter Try.func73, Try.ntmps73
        go_wp2_with (go_at_call 87; refine (take_short h1 (by omega) hs).mono ?_; rintro e w' ⟨rfl, rfl⟩)
        go_ret
        rw [← World.setCell_alloc_past _ _ _ _ hp]
        exact ⟨rfl, h1.err 7, grown_set hG _ _⟩
      · have e1 : came L j 0 n = (L.drop j).take n.toNat := by simp [came, hn, hs]
        have e2 : offTo L.length j 0 n = (j + n.toNat, 0) := by simp [offTo, hn, hs]
        unfold Aft
        rw [e1, e2]
        generalize hv : pile 0 ((L.drop j).take n.toNat) = v
        have HV := Lib.hid hv
        clear hv e1 e2
        go_enter Try.func73, Try.ntmps73
        go_wp2_with (go_at_call 87; refine (take_num h1 hB hx (by omega) (by omega) (by omega) (by omega) hlm).mono ?_; rintro e w1 ⟨rfl, hR, hX, hT⟩; rw [HV.out] at hX; have hXc := cell_of_one hX; have HX := Lib.hid hX; clear hX)
        go_ret
        exact ⟨rfl, hR, hT.grown hG (Nat.le_refl _)⟩
  · have e1 : came L j err n = [] := by simp [came, he]
    have e2 : offTo L.length j err n = (j, err) := by simp [offTo, he]
    unfold Aft
    rw [e1, e2]
    go_enter Try.func73, Try.ntmps73
    go_wp2_with (go_at_call 87; refine (take_err h1 he).mono ?_; rintro e w' ⟨rfl, rfl⟩)
    go_ret
    exact ⟨rfl, h1, World.grownBy_alloc _ _ _⟩

theorem number_nil {n : Int} {w : World} :
    Calls Try.prog 73 #[.pointer none, .int .i64 n] w fun e w' => e = .returned (.int .u64 0) ∧ Below w.heap.size w w' := by
  have hmf : ∀ (fn : Fn) (first cap : Array Value) (w : World), (Instr.makeFunc fn first cap).run Try.prog w = .ok (.func fn first cap) w := fun _ _ _ _ => rfl
  go_enter Try.func73, Try.ntmps73
  go_wp2_with (go_at_call 87; refine (take_nil).mono ?_; rintro e w' ⟨rfl, rfl⟩)
  go_ret
  exact ⟨rfl, (Below.refl _ _).alloc (Nat.le_refl _) _⟩

set_option maxHeartbeats 400000 in
theorem u16_any {p g j : Nat} {L : List Nat} {err : Int} {w : World} (h : Rd w p g L j err) (hB : Bys L) (hlm : L.length ≤ 281474976710000) :
    Calls Try.prog 99 #[.pointer (some ⟨p, 0, none⟩)] w fun e w' =>
      e = .returned (.int .u16 ((pile 0 (came L j err 2) % 65536 : Nat) : Int)) ∧ Aft w w' p g L j err 2 := by
  go_enter Try.func99, Try.ntmps99
  go_wp2_with (go_at_call 73; refine (number_any h hB hlm).mono ?_; rintro e w' ⟨rfl, hA⟩)
  go_ret
  refine ⟨?_, hA⟩
  simp [IntKind.wrap_u16]
theorem u16_nil {w : World} :
    Calls Try.prog 99 #[.pointer none] w fun e w' => e = .returned (.int .u16 0) ∧ Below w.heap.size w w' := by
  go_enter Try.func99, Try.ntmps99
  go_wp2_with (go_at_call 73; refine (number_nil).mono ?_; rintro e w' ⟨rfl, hA⟩)
  go_ret
  exact ⟨rfl, hA⟩

set_option maxHeartbeats 400000 in
theorem u32_any {p g j : Nat} {L : List Nat} {err : Int} {w : World} (h : Rd w p g L j err) (hB : Bys L) (hlm : L.length ≤ 281474976710000) :
    Calls Try.prog 56 #[.pointer (some ⟨p, 0, none⟩)] w fun e w' =>
      e = .returned (.int .u32 ((pile 0 (came L j err 4) % 4294967296 : Nat) : Int)) ∧ Aft w w' p g L j err 4 := by
  go_enter Try.func56, Try.ntmps56
  go_wp2_with (go_at_call 73; refine (number_any h hB hlm).mono ?_; rintro e w' ⟨rfl, hA⟩)
  go_ret
  refine ⟨?_, hA⟩
  simp
theorem u32_nil {w : World} :
    Calls Try.prog 56 #[.pointer none] w fun e w' => e = .returned (.int .u32 0) ∧ Below w.heap.size w w' := by
  go_enter Try.func56, Try.ntmps56
  go_wp2_with (go_at_call 73; refine (number_nil).mono ?_; rintro e w' ⟨rfl, hA⟩)
  go_ret
  exact ⟨rfl, hA⟩

end Go.Proofs.Ytelpihlifdfgoaa
namespace Go.Proofs.Ytelpihlifdfgoaa
open Go.RowKit
set_option linter.unusedVariables false

theorem Aft.rd {w w' : World} {p g : Nat} {L : List Nat} {j j' : Nat} {err err' n : Int} (h : Aft w w' p g L j err n) (e : offTo L.length j err n = (j', err')) : Rd w' p g L j' err' := by
  have := h.1
  rw [e] at this
  exact this
theorem Aft.below {w0 w w' : World} {p g : Nat} {L : List Nat} {j : Nat} {err n : Int} {B : Nat} (h : Aft w w' p g L j err n) (hb : Below B w0 w) (hB : B ≤ w.heap.size) (hp : B ≤ p) : Below B w0 w' :=
  hb.grown h.2 hB (fun k hk => by cases hk; exact hp)

theorem bys3 : Bys [5, 0, 1] := by intro n hn; simp at hn; omega
theorem bys10 : Bys [1, 0] := by intro n hn; simp at hn; omega

end Go.Proofs.Ytelpihlifdfgoaa
namespace Go.Proofs.Ytelpihlifdfgoaa
open Go.RowKit
set_option linter.unusedVariables false

/-- In the variable at block x there is a slice of the call's own that holds these bytes. -/
def Out (w : World) (x : Nat) (l : List Nat) : Prop :=
  ∃ v, w.heap[x]? = some (.cells #[v] 29 (0, 0)) ∧ w.ownsRow (x + 1) 5 1 v l.length (l.map byc)

theorem out_next {x b : Nat} {l : List Nat} {w w1 : World} {v v' : Value} {o : Obj} (hx : w.heap[x]? = some (.cells #[v] 29 (0, 0))) (hown : w.ownsRow (x + 1) 5 1 v l.length (l.map byc))
    (hown' : w1.ownsRow (x + 1) 5 1 v' (l.length + 1) (l.map byc ++ [.int .u8 (b : Int)])) (hg : (w.alloc o).grownBy w1 v.ownBlock) :
    Out (w1.setCell ⟨x, 0, none⟩ v') x (l ++ [b]) ∧ Below x w (w1.setCell ⟨x, 0, none⟩ v') ∧ w1.cell? ⟨x, 0, none⟩ = some v ∧ w1.frozen? ⟨x, 0, none⟩ = false := by
  have hxl := lt_of_block hx
  have hne : some x ≠ v.ownBlock := fun e => by have := (hown.lt x e.symm).1; omega
  have hx1 : w1.heap[x]? = some (.cells #[v] 29 (0, 0)) := (hg.block x (by simp; omega) hne).trans ((Below.heap_alloc w o x hxl).trans hx)
  refine ⟨⟨v', one_setCell hx1, ?_⟩, ?_, cell_of_one hx1, free_of_one hx1⟩
  · have h := ownsRow_setCell_below hown' (a := ⟨x, 0, none⟩) (by show x < x + 1; omega) v'
    have e : (l ++ [b]).map byc = l.map byc ++ [.int .u8 (b : Int)] := by simp [byc]
    rw [e, List.length_append]
    exact h
  · exact (((Below.refl x w).alloc (by omega) o).grown hg (by simp; omega) (fun k hk => by have := (hown.lt k hk).1; omega)).setCell (Nat.le_refl _) _

set_option maxHeartbeats 800000 in
theorem tell_raw {x b : Nat} {l : List Nat} {w : World} (h : Out w x l) (hl : l.length ≤ 140737488300000) :
    Calls Try.prog 101 #[.int .u8 (b : Int), .pointer (some ⟨x, 0, none⟩)] w fun e w' => e = .returned (.tuple #[]) ∧ Out w' x (l ++ [b]) ∧ Below x w w' := by
  obtain ⟨i0, hi, hz0, hz1, hz2⟩ := info_parts Try.info5
  obtain ⟨v, hx, hown⟩ := h
  have h0 := cell_of_one hx
  have hxl := lt_of_block hx
  go_enter Try.func101, Try.ntmps101
  go_wp2_with (at_builtin; refine wpList_append_own _ rfl _ _ 29 rfl (x + 1) 5 i0 (.int .u8 0) 1 1 Try.underlying29 hi hz0 hz1 hz2 rfl (by decide) _ _ _ rfl (hown.alloc _) ⟨w.heap.size, 0, none⟩ 1 1 [.int .u8 (b : Int)] rfl rfl ?c1 ?c2 ?c3 ?c4 ?c5 ?_)
  case c1 =>
    intro j u hj
    match j, hj with
    | 0, hj => simp at hj; subst hj; simp [Addr.add]
  case c2 => intro u hu; simp at hu; subst hu; rfl
  case c3 => unfold maxLen; omega
  case c4 => omega
  case c5 => simp; omega
  intro v' w1 hown' hgrow _
  have R := out_next hx hown hown' hgrow
  have r3 := R.2.2.1
  have r4 := R.2.2.2
  have R1 := Lib.hid R.1
  have R2 := R.2.1
  obtain ⟨g', cap', rfl⟩ : ∃ g' cap', v' = .slice (some ⟨g', 0, none⟩) (l.length + 1) cap' := by
    rcases hown'.2 with ⟨_, h0⟩ | ⟨g', cap', cur, hv, _⟩
    · omega
    · exact ⟨g', cap', hv⟩
  clear R hown' hgrow hown hx h0
  go_wp2
  go_end0
  exact ⟨rfl, R1.out, R2⟩

/-- Below block x two worlds differ at block p at most. -/
structure Thru (p x : Nat) (w w' : World) : Prop where
  os : w'.os = w.os
  tape : w'.tape = w.tape
  output : w'.output = w.output
  size : w.heap.size ≤ w'.heap.size
  block : ∀ k, k < x → k ≠ p → w'.heap[k]? = w.heap[k]?
theorem Thru.refl (p x : Nat) (w : World) : Thru p x w w := ⟨rfl, rfl, rfl, Nat.le_refl _, fun _ _ _ => rfl⟩
theorem Thru.trans {p x : Nat} {a b c : World} (h : Thru p x a b) (k : Thru p x b c) : Thru p x a c :=
  ⟨k.os.trans h.os, k.tape.trans h.tape, k.output.trans h.output, Nat.le_trans h.size k.size, fun i h1 h2 => (k.block i h1 h2).trans (h.block i h1 h2)⟩
theorem Thru.set (p x i : Nat) (w : World) (v : Value) : Thru p x w (w.setCell ⟨p, i, none⟩ v) :=
  ⟨rfl, rfl, rfl, by simp [World.setCell], fun k h1 h2 => Below.heap_setCell _ _ _ _ h2⟩
theorem Thru.of {p x : Nat} {w w' : World} (h : Below x w w') : Thru p x w w' := ⟨h.os, h.tape, h.output, h.size, fun k hk _ => h.block k hk⟩

theorem Out.set {w : World} {p x i : Nat} {l : List Nat} (h : Out w x l) (hp : p < x) (v : Value) : Out (w.setCell ⟨p, i, none⟩ v) x l := by
  obtain ⟨u, hx, hown⟩ := h
  exact ⟨u, (Below.heap_setCell _ _ _ _ (Nat.ne_of_gt hp)).trans hx, ownsRow_setCell_below hown (a := ⟨p, i, none⟩) (by show p < x + 1; omega) v⟩

set_option maxHeartbeats 1600000 in
theorem take_raw {p g j x : Nat} {L : List Nat} {n : Int} {w : World} (h : Rd w p g L j 0) (hB : Bys L) (hx : Out w x []) (hxp : p < x) (hxg : g < x)
    (h0 : 0 ≤ n) (hn : n ≤ ((L.length - j : Nat) : Int)) (hlm : L.length ≤ 140737488300000) :
    Calls Try.prog 87 #[.pointer (some ⟨p, 0, none⟩), .int .i64 n, .func (.func 101) #[] #[.pointer (some ⟨x, 0, none⟩)]] w fun e w' =>
      e = .returned (.tuple #[]) ∧ Rd w' p g L (j + n.toNat) 0 ∧ Out w' x ((L.drop j).take n.toNat) ∧ Thru p x w w' := by
  obtain ⟨n, rfl⟩ := Int.eq_ofNat_of_zero_le h0
  have hle := h.le
  have hlt : decide (((L.length - j : Nat) : Int) < (n : Int)) = false := by simp; omega
  have hlt2 : decide (L.length - j < n) = false := by simp; omega
  have hlt3 : decide ((n : Int) < 0) = false := by simp
  go_enter Try.func87, Try.ntmps87
  go_wp2_with (first | (go_at_call 94; refine (err_any h).mono ?_; rintro e w' ⟨rfl, rfl⟩) | (go_at_call 95; refine (left_any h).mono ?_; rintro e w' ⟨rfl, rfl⟩))
  go_loopw [10] (fun i wr => ∃ k : Nat, k ≤ n ∧ i = .int .i64 k ∧ Rd wr p g L (j + k) 0 ∧ Out wr x ((L.drop j).take k) ∧ Thru p x w wr) (fun i _ => n - (intOf i).toNat)
  case atStart => exact ⟨0, Nat.zero_le _, rfl, h, by simpa using hx, Thru.refl _ _ _⟩
  case round =>
    obtain ⟨k, hk, rfl, hR, hX, hT⟩ := hrel
    clear h hx
    by_cases hk2 : k < n
    · have HM := Lib.hid (take_more L j k (by omega))
      have hlen : ((L.drop j).take k).length ≤ 140737488300000 := by simp; omega
      generalize htk : (L.drop j).take k = tk at *
      have HK := Lib.hid htk
      clear htk
      have hR2 := hR.off (by omega : j + k < L.length)
      have hX2 := hX.set hxp (i := 0) (restV g L.length (j + k + 1))
      have hT2 := hT.trans (Thru.set p x 0 wr (restV g L.length (j + k + 1)))
      go_wp2_with fail
      refine (next_any hR (by omega)).mono ?_
      rintro e w' ⟨rfl, rfl⟩
      go_wp2_with fail
      refine (tell_raw hX2 hlen).mono ?_
      rintro e w2 ⟨rfl, hX3, hB3⟩
      have hR3 : Rd w2 p g L (j + (k + 1)) 0 := hR2.kept (hB3.block p hxp) (hB3.block g hxg)
      have hT3 := hT2.trans (Thru.of hB3)
      have hX4 : Out w2 x ((L.drop j).take (k + 1)) := by rw [HM.out, List.getD_eq_getElem?_getD]; exact hX3
      clear hR hX hT hR2 hX2 hT2 hB3 hX3
      go_wp2
      go_roundw
      case rel => first | exact ⟨k + 1, by omega, by go_num, hR3, hX4, hT3⟩ | ((repeat apply Exists.intro); exact ⟨⟨k + 1, by omega, by go_num, hR3, hX4, hT3⟩, rfl⟩)
      case measure => simp [intOf]; omega
    · obtain rfl : k = n := by omega
      go_wp2
      go_end0
      exact ⟨rfl, hR, hX, hT⟩

/-- A slice of the call's own, as bytes that lie. -/
theorem owns_lies {w : World} {base : Nat} {v : Value} {l : List Nat} (h : w.ownsRow base 5 1 v l.length (l.map byc)) :
    ∃ a cap, v = .slice a l.length cap ∧ Lies w a l ∧ (∀ y, a = some y → base ≤ y.block) ∧ (a = none → cap = 0) := by
  rcases h.2 with ⟨rfl, h0⟩ | ⟨g, cap, cur, rfl, hb, hg, h1, h2, h3, h4⟩
  · exact ⟨none, 0, by rw [h0], .inl (List.eq_nil_of_length_eq_zero h0), by simp, fun _ => rfl⟩
  · refine ⟨some ⟨g, 0, none⟩, cap, rfl, .inr ⟨g, 0, rfl, lt_of_block hg, fun i hi => ?_⟩, fun y hy => by cases hy; exact hb, fun e => by cases e⟩
    rw [Nat.zero_add]
    have e : cur[i]? = (l.map byc)[i]? := by
      rw [← h4, Nat.mul_one, List.getElem?_take, if_pos hi]; simp
    simp only [World.cell?, hg, e]
    simp [byc, hi]

theorem Thru.grown {p x : Nat} {w w1 w' : World} (hA : w.grownBy w1 none) (h : Thru p x w1 w') (hx : w.heap.size ≤ x) : w.grownBy w' (some p) :=
  ⟨h.os.trans hA.os, h.tape.trans hA.tape, h.output.trans hA.output, Nat.le_trans hA.size h.size,
    fun k hk hp => (h.block k (by omega) (fun e => hp (by rw [e]))).trans (hA.block k hk (by simp))⟩

/-- What Raw hands back: bytes that lie in new memory, or nothing. -/
def Handed (w w' : World) (v : Value) (l : List Nat) : Prop := ∃ a cap, v = .slice a l.length cap ∧ Lies w' a l ∧ (∀ y, a = some y → w.heap.size ≤ y.block) ∧ (a = none → cap = 0)

theorem Out.handed {w w' : World} {l : List Nat} {v : Value} (hv : w'.heap[w.heap.size]? = some (.cells #[v] 29 (0, 0))) (hown : w'.ownsRow (w.heap.size + 1) 5 1 v l.length (l.map byc)) : Handed w w' v l := by
  obtain ⟨a, cap, h1, h2, h3, h4⟩ := owns_lies hown
  exact ⟨a, cap, h1, h2, fun y hy => by have := h3 y hy; omega, h4⟩

set_option maxHeartbeats 800000 in
theorem raw_any {p g j : Nat} {L : List Nat} {err n : Int} {w : World} (h : Rd w p g L j err) (hB : Bys L) (hlm : L.length ≤ 140737488300000) :
    Calls Try.prog 100 #[.pointer (some ⟨p, 0, none⟩), .int .i64 n] w fun e w' =>
      ∃ v, e = .returned v ∧ Handed w w' v (came L j err n) ∧ Aft w w' p g L j err n := by
  have hmf : ∀ (fn : Fn) (first cap : Array Value) (w : World), (Instr.makeFunc fn first cap).run Try.prog w = .ok (.func fn first cap) w := fun _ _ _ _ => rfl
  have hb : Below w.heap.size w (w.alloc (.cells #[.slice none 0 0] 29)) := (Below.refl _ _).alloc (Nat.le_refl _) _
  have h1 : Rd (w.alloc (.cells #[.slice none 0 0] 29)) p g L j err := h.below hb
  have hx : (w.alloc (.cells #[.slice none 0 0] 29)).heap[w.heap.size]? = some (.cells #[.slice none 0 0] 29 (0, 0)) := heap_alloc_new w _
  have hG : w.grownBy (w.alloc (.cells #[.slice none 0 0] 29)) none := World.grownBy_alloc _ _ _
  have hO : Out (w.alloc (.cells #[.slice none 0 0] 29)) w.heap.size [] := ⟨_, hx, World.ownsRow_nil _ _ _ _⟩
  have hp := h.lt
  have hg := h.own.lt
  have hxc := cell_of_one hx
  have hxc2 : ∀ i v, ((w.alloc (.cells #[.slice none 0 0] 29)).setCell ⟨p, i, none⟩ v).cell? ⟨w.heap.size, 0, none⟩ = some (.slice none 0 0) := fun i v =>
    (World.cell?_setCell_other _ _ _ _ (by intro e; have := congrArg Addr.block e; simp at this; omega)).trans hxc
  have hnil : ∀ w', Handed w w' (.slice none 0 0) [] := fun w' => ⟨none, 0, rfl, .inl rfl, by simp, fun _ => rfl⟩
  by_cases he : err = 0
  · subst he
    by_cases hn : n < 0
    · have e1 : came L j 0 n = [] := by simp [came, hn]
      have e2 : offTo L.length j 0 n = (j, 2) := by simp [offTo, hn]
      unfold Aft
      rw [e1, e2]
      go_enter Try.func100, Try.ntmps100
      go_wp2_with (go_at_call 87; refine (take_neg h1 hn).mono ?_; rintro e w' ⟨rfl, rfl⟩)
      go_ret
      rw [← World.setCell_alloc_past _ _ _ _ hp]
      exact ⟨_, rfl, hnil _, h1.err 2, grown_set hG _ _⟩
    · by_cases hs : ((L.length - j : Nat) : Int) < n
      · have e1 : came L j 0 n = [] := by simp [came, hn, hs]
        have e2 : offTo L.length j 0 n = (j, 7) := by simp [offTo, hn, hs]
        unfold Aft
        rw [e1, e2]
        go_enter Try.func100, Try.ntmps100
        go_wp2_with (go_at_call 87; refine (take_short h1 (by omega) hs).mono ?_; rintro e w' ⟨rfl, rfl⟩)
        go_ret
        rw [← World.setCell_alloc_past _ _ _ _ hp]
        exact ⟨_, rfl, hnil _, h1.err 7, grown_set hG _ _⟩
      · have e1 : came L j 0 n = (L.drop j).take n.toNat := by simp [came, hn, hs]
        have e2 : offTo L.length j 0 n = (j + n.toNat, 0) := by simp [offTo, hn, hs]
        unfold Aft
        rw [e1, e2]
        generalize hv : (L.drop j).take n.toNat = c
        have HV := Lib.hid hv
        clear hv e1 e2
        go_enter Try.func100, Try.ntmps100
        go_wp2_with fail
        refine (take_raw h1 hB hO hp hg (by omega) (by omega) hlm).mono ?_
        rintro e w1 ⟨rfl, hR, hX, hT⟩
        rw [HV.out] at hX
        obtain ⟨v, hvx, hvo⟩ := hX
        have hvc := cell_of_one hvx
        have hH := Out.handed hvx hvo
        have hA := hT.grown hG (Nat.le_refl _)
        clear hvx hvo hT
        go_wp2
        go_ret
        exact ⟨v, rfl, hH, hR, hA⟩
  · have e1 : came L j err n = [] := by simp [came, he]
    have e2 : offTo L.length j err n = (j, err) := by simp [offTo, he]
    unfold Aft
    rw [e1, e2]
    go_enter Try.func100, Try.ntmps100
    go_wp2_with (go_at_call 87; refine (take_err h1 he).mono ?_; rintro e w' ⟨rfl, rfl⟩)
    go_ret
    exact ⟨_, rfl, hnil _, h1, World.grownBy_alloc _ _ _⟩

theorem raw_nil {n : Int} {w : World} :
    Calls Try.prog 100 #[.pointer none, .int .i64 n] w fun e w' => e = .returned (.slice none 0 0) ∧ Below w.heap.size w w' := by
  have hmf : ∀ (fn : Fn) (first cap : Array Value) (w : World), (Instr.makeFunc fn first cap).run Try.prog w = .ok (.func fn first cap) w := fun _ _ _ _ => rfl
  go_enter Try.func100, Try.ntmps100
  go_wp2_with (go_at_call 87; refine (take_nil).mono ?_; rintro e w' ⟨rfl, rfl⟩)
  go_ret
  exact ⟨rfl, (Below.refl _ _).alloc (Nat.le_refl _) _⟩
end Go.Proofs.Ytelpihlifdfgoaa
namespace Go.Proofs.Ytelpihlifdfgoaa
open Go.RowKit
set_option linter.unusedVariables false

/-- WHAT THE WALK IS TOLD OF A SLICE OF INTEGERS THAT CAME IN: it is nil; or it leads to a row of 'cap' cells, the numbers 'zs' (the first 'len' are its elements, the rest its spare room), each fitting its kind. -/
def IsRow (k : IntKind) (w : World) (a : Option Addr) (len cap : Nat) (zs : List Int) : Prop :=
  (a = none ∧ len = 0 ∧ cap = 0 ∧ zs = []) ∨
  ∃ x, a = some x ∧ len ≤ cap ∧ cap ≤ maxLen ∧ zs.length = cap ∧ (∀ i, i < zs.length → w.cell? (x.add i) = some (.int k (zs.getD i 0))) ∧ ∀ n ∈ zs, (Lit.int k n).wf = true

/-- Numbers that lie at an address, of one kind. -/
def Nums (k : IntKind) (w : World) (a : Option Addr) (zs : List Int) : Prop :=
  zs = [] ∨ ∃ b off, a = some ⟨b, off, none⟩ ∧ b < w.heap.size ∧ ∀ i, i < zs.length → w.cell? ⟨b, off + i, none⟩ = some (.int k (zs.getD i 0))

theorem Nums.kept {k : IntKind} {w w' : World} {a : Option Addr} {zs : List Int} (h : Nums k w a zs) (hb : Below w.heap.size w w') : Nums k w' a zs := by
  rcases h with rfl | ⟨b, off, rfl, hlt, hc⟩
  · exact .inl rfl
  · exact .inr ⟨b, off, rfl, Nat.lt_of_lt_of_le hlt hb.size, fun i hi => (hb.cell (p := ⟨b, off + i, none⟩) hlt).trans (hc i hi)⟩

theorem IsRow.nums {k : IntKind} {w : World} {a : Option Addr} {len cap : Nat} {zs : List Int} (h : IsRow k w a len cap zs) :
    ∃ ys : List Int, ys.length = len ∧ len ≤ 9223372036854775807 ∧ Nums k w a ys ∧ ∀ n ∈ ys, (Lit.int k n).wf = true := by
  rcases h with ⟨rfl, rfl, rfl, rfl⟩ | ⟨x, rfl, hl, hm, hz, hc, hw⟩
  · exact ⟨[], rfl, by omega, .inl rfl, by simp⟩
  · refine ⟨zs.take len, by simp; omega, by unfold maxLen at hm; omega, ?_, fun n hn => hw n (List.mem_of_mem_take hn)⟩
    by_cases h0 : len = 0
    · subst h0; exact .inl (by simp)
    · have hc0 := hc 0 (by omega)
      obtain ⟨b, off, spot⟩ := x
      have hspot : spot = none := by simpa [Addr.add] using World.cell?_spot hc0
      subst hspot
      have hlt := World.block_lt_of_cell? w _ hc0
      refine .inr ⟨b, off, rfl, hlt, fun i hi => ?_⟩
      have hi2 : i < len := by simpa using (Nat.lt_of_lt_of_le hi (List.length_take_le _ _))
      have := hc i (by omega)
      rw [Addr.add_lit] at this
      rw [this]
      simp [hi2]

theorem IsRow.bytes {w : World} {a : Option Addr} {len cap : Nat} {zs : List Int} (h : IsRow .u8 w a len cap zs) :
    ∃ l : List Nat, l.length = len ∧ len ≤ 9223372036854775807 ∧ Lies w a l ∧ Bys l := by
  obtain ⟨ys, hl, hm, hN, hw⟩ := h.nums
  have hr : ∀ n ∈ ys, 0 ≤ n ∧ n ≤ 255 := fun n hn => bounds_u8 (hw n hn)
  refine ⟨ys.map Int.toNat, by simpa using hl, hm, ?_, ?_⟩
  · rcases hN with rfl | ⟨b, off, rfl, hlt, hc⟩
    · exact .inl rfl
    · refine .inr ⟨b, off, rfl, hlt, fun i hi => ?_⟩
      have hi2 : i < ys.length := by simpa using hi
      have hb := hr _ (List.getElem_mem hi2)
      rw [hc i hi2]
      simp [hi2]
      omega
  · intro n hn
    obtain ⟨m, hm, rfl⟩ := List.mem_map.1 hn
    have := hr m hm
    omega
end Go.Proofs.Ytelpihlifdfgoaa
namespace Go.Proofs.Ytelpihlifdfgoaa
open Go.RowKit
set_option linter.unusedVariables false

/-- What 'Both' has made when k bytes are laid. -/
def bothK (l m : List Nat) (k : Nat) : List Nat := (l ++ m).take k ++ List.replicate (l.length + m.length - k) 0

theorem bothK_zero (l m : List Nat) : bothK l m 0 = List.replicate (l.length + m.length) 0 := by simp [bothK]
theorem bothK_all (l m : List Nat) : bothK l m (l.length + m.length) = l ++ m := by
  rw [bothK, List.take_of_length_le (by simp)]; simp
theorem length_bothK (l m : List Nat) (k : Nat) (h : k ≤ l.length + m.length) : (bothK l m k).length = l.length + m.length := by
  simp [bothK]; omega
theorem bothK_succ (l m : List Nat) (k : Nat) (h : k < l.length + m.length) : bothK l m (k + 1) = (bothK l m k).set k ((l ++ m).getD k 0) := by
  have hk : k < (l ++ m).length := by simpa using h
  unfold bothK
  have e : l.length + m.length - k = (l.length + m.length - (k + 1)) + 1 := by omega
  rw [e, List.replicate_succ, List.take_add_one, List.getElem?_eq_getElem hk]
  have hl : ((l ++ m).take k).length = k := by simp at hk ⊢; omega
  rw [List.set_append_right _ _ (by omega), hl, Nat.sub_self, List.set_cons_zero, List.getD_eq_getElem?_getD, List.getElem?_eq_getElem hk]
  simp only [Option.toList_some, Option.getD_some, List.append_assoc, List.singleton_append]

theorem both_world {w wr : World} {l m : List Nat} {k v : Nat} (hOw : Own wr w.heap.size (bothK l m k)) (hBw : Below w.heap.size w wr) (hlt : k < l.length + m.length) (hv : (l ++ m).getD k 0 = v) :
    Own (wr.setCell ⟨w.heap.size, k, none⟩ (.int .u8 (v : Int))) w.heap.size (bothK l m (k + 1)) ∧ Below w.heap.size w (wr.setCell ⟨w.heap.size, k, none⟩ (.int .u8 (v : Int))) := by
  rw [bothK_succ l m k hlt, hv]
  exact ⟨hOw.set _, hBw.setCell (Nat.le_refl _) _⟩

/-- Draws alone. -/
def Drawn (w w' : World) : Prop := ∃ n, w' = w.drewN n
theorem Drawn.below {w w' : World} (h : Drawn w w') (B : Nat) : Below B w w' := by
  obtain ⟨n, rfl⟩ := h
  exact ⟨rfl, rfl, rfl, Nat.le_refl _, fun _ _ => rfl⟩

theorem same_all (l m : List Nat) (h : l.length = m.length) (ha : ∀ j, j < l.length → l.getD j 0 = m.getD j 0) : (l == m) = true := by
  rw [beq_iff_eq]
  apply List.ext_getElem h
  intro j h1 h2
  have := ha j h1
  simpa [h1, h2] using this
theorem same_not (l m : List Nat) (k : Nat) (ha : l.getD k 0 ≠ m.getD k 0) : (l == m) = false := by
  rw [beq_eq_false_iff_ne]
  rintro rfl
  exact ha rfl
theorem same_len (l m : List Nat) (h : l.length ≠ m.length) : (l == m) = false := by
  rw [beq_eq_false_iff_ne]
  rintro rfl
  exact h rfl

end Go.Proofs.Ytelpihlifdfgoaa
namespace Go.Proofs.Ytelpihlifdfgoaa
open Go.RowKit
set_option linter.unusedVariables false

/-- Bytes as the model's numbers. -/
def intsOf (l : List Nat) : List Int := l.map Int.ofNat
theorem length_intsOf (l : List Nat) : (intsOf l).length = l.length := by simp [intsOf]
theorem getD_intsOf (l : List Nat) (i : Nat) (h : i < l.length) : (intsOf l).getD i 0 = ((l.getD i 0 : Nat) : Int) := by
  simp [intsOf, h]
/-- Bytes as a string. -/
def strOf (l : List Nat) : ByteArray := strOfNums (intsOf l)

theorem strOf_list (l : List Nat) : (strOf l).toList = l.map UInt8.ofNat := by
  rw [Lib.toList_data, strOf, strOfNums_data, intsOf, List.map_map]
  rfl

theorem strOf_inj {l m : List Nat} (hl : Bys l) (hm : Bys m) (h2 : l.map UInt8.ofNat = m.map UInt8.ofNat) : l = m := by
  have hlen : l.length = m.length := by simpa using congrArg List.length h2
  apply List.ext_getElem hlen
  intro j h1 h3
  have e : (l.map UInt8.ofNat)[j]'(by simpa using h1) = (m.map UInt8.ofNat)[j]'(by simpa using h3) := by simp only [h2]
  simp only [List.getElem_map] at e
  have e2 := congrArg UInt8.toNat e
  have a1 := hl _ (List.getElem_mem h1)
  have a2 := hm _ (List.getElem_mem h3)
  rw [UInt8.toNat_ofNat', UInt8.toNat_ofNat'] at e2
  omega

theorem strOf_beq {l m : List Nat} (hl : Bys l) (hm : Bys m) : ((strOf l).toList == (strOf m).toList) = (l == m) := by
  rw [strOf_list, strOf_list]
  by_cases h : l = m
  · subst h; simp
  · have h2 : l.map UInt8.ofNat ≠ m.map UInt8.ofNat := fun e => h (strOf_inj hl hm e)
    rw [beq_eq_false_iff_ne.2 h, beq_eq_false_iff_ne.2 h2]

theorem conv_bytes {w : World} {a : Option Addr} {l : List Nat} {len : Nat} (cap : Nat) (h : Lies w a l) (hl : l.length = len) :
    (convert 29 9 (.slice a len cap)).run Try.prog w = .ok (.string (strOf l)) w := by
  rcases h with rfl | ⟨b, off, rfl, _, hc⟩
  · obtain rfl : 0 = len := hl
    rw [run_convert_bytes_string w 29 9 5 _ 0 cap Try.underlying29 Try.underlying5 Try.underlying9]
    cases a <;> simp [Conv.bytesToString, loadCells]
    all_goals rfl
  · exact run_convert_bytes_arg w 29 5 Try.underlying29 Try.underlying5 b off len cap (intsOf l) (by rw [length_intsOf]; exact hl) (fun i hi => by
      rw [hc i (by omega), getD_intsOf l i (by omega)]) 9 Try.underlying9

set_option maxHeartbeats 400000 in
theorem bequal_any (a b : Option Addr) (len cap len2 cap2 : Nat) (l m : List Nat) (w : World) (hl : l.length = len) (hm : m.length = len2) (hB : Bys l) (hC : Bys m) (hL : Lies w a l) (hM : Lies w b m) :
    Calls Try.prog 33 #[.slice a len cap, .slice b len2 cap2] w fun e w' => e = .returned (.bool (l == m)) ∧ w = w' := by
  have k1 := conv_bytes cap hL hl
  have k2 := conv_bytes cap2 hM hm
  have HE := Lib.hid (strOf_beq hB hC)
  clear hl hm
  generalize strOf l = s at *
  generalize strOf m = t at *
  go_enter Try.func33, Try.ntmps33
  go_wp2
  go_ret
  refine ⟨?_, rfl⟩
  rw [← HE.out]
  rfl

end Go.Proofs.Ytelpihlifdfgoaa
namespace Go.Proofs.Ytelpihlifdfgoaa
open Go.RowKit
set_option linter.unusedVariables false

/-- Bytes that lie somewhere, appended to a row of the call's own. -/
theorem wpList_append_got {w : World} {ops : Array Oper} {rest : List Oper} {o : Oper} {a : Act} {Q : Exit → Act → World → Prop} (hgd : o.guard = none) (s x : Operand)
    (ho : o.op = .call { callee := .builtin .append, args := #[s, x], argTypes := #[29, 29] })
    (base : Nat) (v : Value) (n : Nat) (xs : List Value) (hs : a.eval s = v) (hown : w.ownsRow base 5 1 v n xs) (ao : Option Addr) (cap : Nat) (l : List Nat)
    (hx : a.eval x = .slice ao l.length cap) (hL : Lies w ao l) (hcap : ao = none → cap = 0) (hlen : n + l.length ≤ 140737488355328) (hbase : base ≤ w.heap.size)
    (h : ∀ v' w', w'.ownsRow base 5 1 v' (n + l.length) (xs ++ l.map byc) → w.grownBy w' v.ownBlock → wpList Try.prog ops Q rest (a.put o.dst v') w') : wpList Try.prog ops Q (o :: rest) a w := by
  obtain ⟨i0, hi, hz0, hz1, hz2⟩ := info_parts Try.info5
  cases ao with
  | none =>
    have hc := hcap rfl
    obtain rfl : l = [] := by
      rcases hL with h | ⟨_, _, h, _⟩
      · exact h
      · cases h
    subst hc
    refine wpList_append_own_none hgd s x 29 ho base 5 i0 1 Try.underlying29 hi v n xs hs hown hx (h v w (by simpa using hown) (World.grownBy.refl _ _))
  | some ad =>
    refine wpList_append_own w hgd s x 29 ho base 5 i0 (.int .u8 0) 1 1 Try.underlying29 hi hz0 hz1 hz2 rfl (by decide) v n xs hs hown ad l.length cap (l.map byc) hx (by simp) ?_ (byc_one l) (by unfold maxLen; omega) (by omega) hbase (fun v' w' h1 h2 _ => h v' w' h1 h2)
    intro j u hj
    by_cases h0 : l = []
    · subst h0; simp at hj
    · obtain ⟨ad', e, hc⟩ := hL.cells (by rcases l with _ | _; exact absurd rfl h0; simp)
      cases e
      exact hc j u hj

/-- Two readers of the same bytes; from the one j bytes are off, and they lie, one behind the other, in a row of the call's own. -/
structure St (w0 w : World) (B p g p2 g2 : Nat) (L : List Nat) (j : Nat) (err : Int) (v : Value) : Prop where
  r : Rd w p g L j err
  s : Rd w p2 g2 L 0 0
  own : w.ownsRow B 5 1 v j ((L.take j).map byc)
  hb : Below w0.heap.size w0 w
  hB : B ≤ w.heap.size

theorem St.taken {w0 w w' : World} {B p g p2 g2 j : Nat} {L : List Nat} {err : Int} {v : Value} (h : St w0 w B p g p2 g2 L j err v) (h0 : w0.heap.size ≤ p) (h2 : p < g2) (h3 : g2 < p2) (h4 : p2 < B)
    (hg : w.grownBy w' (some p)) : w'.ownsRow B 5 1 v j ((L.take j).map byc) ∧ Rd w' p2 g2 L 0 0 ∧ Below w0.heap.size w0 w' ∧ B ≤ w'.heap.size := by
  have hs := h.hb.size
  have hB := h.hB
  refine ⟨h.own.kept hg ?_, h.s.kept (hg.block p2 h.s.lt (by intro e; cases e; omega)) (hg.block g2 h.s.own.lt (by intro e; cases e; omega)), h.hb.grown hg hs (fun k hk => by cases hk; exact h0), Nat.le_trans hB hg.size⟩
  cases hv : v.ownBlock with
  | none => exact .inl rfl
  | some k =>
    right
    intro e
    cases e
    have := (h.own.lt p hv).1
    omega

theorem St.joined {w0 w' w1 : World} {B p g p2 g2 j j' : Nat} {L c : List Nat} {err' : Int} {v v' : Value} (h1 : g < p) (h2 : p < g2) (h3 : g2 < p2) (h4 : p2 < B) (h0 : w0.heap.size ≤ B)
    (hr : Rd w' p g L j' err') (hs : Rd w' p2 g2 L 0 0) (hown : w'.ownsRow B 5 1 v j ((L.take j).map byc)) (hb : Below w0.heap.size w0 w') (hB : B ≤ w'.heap.size)
    (hown' : w1.ownsRow B 5 1 v' (j + c.length) ((L.take j).map byc ++ c.map byc)) (hg : w'.grownBy w1 v.ownBlock) (hc : L.take j ++ c = L.take j') (hj : j + c.length = j') : St w0 w1 B p g p2 g2 L j' err' v' := by
  have hne : ∀ k, k < B → some k ≠ v.ownBlock := fun k hk e => by have := (hown.lt k e.symm).1; omega
  refine ⟨hr.kept (hg.block p hr.lt (hne p (by omega))) (hg.block g hr.own.lt (hne g (by omega))), hs.kept (hg.block p2 hs.lt (hne p2 (by omega))) (hg.block g2 hs.own.lt (hne g2 (by omega))), ?_, hb.grown hg hb.size (fun k hk => by have := (hown.lt k hk).1; omega), Nat.le_trans hB hg.size⟩
  rw [← List.map_append, hc, hj] at hown'
  exact hown'
end Go.Proofs.Ytelpihlifdfgoaa
namespace Go.Proofs.Ytelpihlifdfgoaa
open Go.RowKit
set_option linter.unusedVariables false

theorem byte_bit (x k : Nat) : x / 2 ^ (8 * (k / 8)) % 256 / 2 ^ (k % 8) % 2 = x / 2 ^ k % 2 := by
  have h8 : k % 8 < 8 := Nat.mod_lt _ (by omega)
  have e : x / 2 ^ k = x / 2 ^ (8 * (k / 8)) / 2 ^ (k % 8) := by
    rw [Nat.div_div_eq_div_mul, ← Nat.pow_add]
    congr 2
    omega
  rw [e]
  generalize x / 2 ^ (8 * (k / 8)) = a
  have : k % 8 = 0 ∨ k % 8 = 1 ∨ k % 8 = 2 ∨ k % 8 = 3 ∨ k % 8 = 4 ∨ k % 8 = 5 ∨ k % 8 = 6 ∨ k % 8 = 7 := by omega
  rcases this with h | h | h | h | h | h | h | h <;> rw [h] <;> omega

theorem high_at (x n i : Nat) (hi : i < n) : (highB x n).getD (n - 1 - i) 0 = x / 2 ^ (8 * i) % 256 := by
  have h1 : n - 1 - i < (highB x n).length := by rw [length_highB]; omega
  rw [List.getD_eq_getElem?_getD, List.getElem?_eq_getElem h1]
  simp only [highB, List.getElem_map, List.getElem_range, Option.getD_some]
  rw [show n - 1 - (n - 1 - i) = i from by omega]

/-- A bit of what goes behind: below, of the number; from there on, of what stood ahead. -/
theorem bitB_behind (l : List Nat) (x n k : Nat) : bitB (l ++ highB x n) (k : Int) = if k < 8 * n then x / 2 ^ k % 2 == 1 else bitB l ((k - 8 * n : Nat) : Int) := by
  by_cases h : k < 8 * n
  · rw [if_pos h, bitB_some (by rw [List.length_append, length_highB]; omega), List.length_append, length_highB]
    have e : (l ++ highB x n).getD (l.length + n - 1 - k / 8) 0 = (highB x n).getD (n - 1 - k / 8) 0 := by
      rw [List.getD_eq_getElem?_getD, List.getD_eq_getElem?_getD, List.getElem?_append_right (by omega)]
      congr 2
      omega
    rw [e, high_at x n (k / 8) (by omega), byte_bit]
  · rw [if_neg h]
    by_cases h2 : k / 8 < l.length + n
    · rw [bitB_some (by rw [List.length_append, length_highB]; omega), bitB_some (by omega), List.length_append, length_highB]
      have e : (l ++ highB x n).getD (l.length + n - 1 - k / 8) 0 = l.getD (l.length - 1 - (k - 8 * n) / 8) 0 := by
        rw [List.getD_eq_getElem?_getD, List.getD_eq_getElem?_getD, List.getElem?_append_left (by omega)]
        congr 2
        omega
      rw [e, show (k - 8 * n) % 8 = k % 8 from by omega]
    · rw [bitB_none (by rw [List.length_append, length_highB]; simp; omega), bitB_none (by simp; omega)]

theorem bitB_nil (k : Int) : bitB [] k = false := by
  by_cases h : k < 0
  · exact bitB_neg h
  · exact bitB_none (by simp)

theorem low_bits (x k m : Nat) (h : k < m) : x % 2 ^ m / 2 ^ k % 2 = x / 2 ^ k % 2 := by
  have e : 2 ^ m = 2 ^ k * (2 * 2 ^ (m - k - 1)) := by
    rw [← Nat.pow_succ', ← Nat.pow_add]
    congr 1
    omega
  rw [e, Nat.mod_mul_right_div_self, Nat.mod_mul_right_mod]

theorem mask_u64 (x i : Nat) (hx : x < 18446744073709551616) : (bits .and .u64 ((x : Int) / 2 ^ i) 1 == 1) = (x / 2 ^ i % 2 == 1) := by
  have hd : x / 2 ^ i < 18446744073709551616 := Nat.lt_of_le_of_lt (Nat.div_le_self _ _) hx
  have e := u64_and_nat (x / 2 ^ i) 1 hd (by omega)
  have e2 : ((x / 2 ^ i : Nat) : Int) = (x : Int) / 2 ^ i := by simp
  rw [e2] at e
  have e1 : ((1 : Nat) : Int) = 1 := rfl
  rw [e1] at e
  rw [e, Nat.and_one_is_mod]
  rw [Bool.eq_iff_iff]; simp; omega
theorem mask_u16 (x i : Nat) (hx : x < 65536) : (bits .and .u16 ((x : Int) / 2 ^ i) 1 == 1) = (x / 2 ^ i % 2 == 1) := by
  have hd : x / 2 ^ i < 65536 := Nat.lt_of_le_of_lt (Nat.div_le_self _ _) hx
  have e := u16_and_nat (x / 2 ^ i) 1 hd (by omega)
  have e2 : ((x / 2 ^ i : Nat) : Int) = (x : Int) / 2 ^ i := by simp
  rw [e2] at e
  have e1 : ((1 : Nat) : Int) = 1 := rfl
  rw [e1] at e
  rw [e, Nat.and_one_is_mod]
  rw [Bool.eq_iff_iff]; simp; omega

end Go.Proofs.Ytelpihlifdfgoaa
namespace Go.Proofs.Ytelpihlifdfgoaa
open Go.RowKit
set_option linter.unusedVariables false
set_option maxRecDepth 100000

theorem high_bit_off (x n k : Nat) (h : x / 2 ^ k % 2 = 0) : highB (x % 2 ^ (k + 1)) n = highB (x % 2 ^ k) n := by
  have e : x % 2 ^ (k + 1) = x % 2 ^ k := by rw [Nat.mod_pow_succ, h]; omega
  rw [e]

theorem high_or (a k i : Nat) (ha : a < 2 ^ k) (hi : i ≠ k / 8) : (a + 2 ^ k) / 2 ^ (8 * i) % 256 = a / 2 ^ (8 * i) % 256 := by
  by_cases h : i < k / 8
  · have e : 2 ^ k = 2 ^ (8 * i) * (2 ^ (k - 8 * i - 8) * 256) := by
      rw [show (256 : Nat) = 2 ^ 8 from rfl, ← Nat.pow_add, ← Nat.pow_add]; congr 1; omega
    rw [e, Nat.add_mul_div_left _ _ (Nat.two_pow_pos _), Nat.add_mul_mod_self_right]
  · have h1 : 2 ^ (k + 1) ≤ 2 ^ (8 * i) := Nat.pow_le_pow_right (by omega) (by omega)
    have h2 : 2 ^ (k + 1) = 2 ^ k * 2 := Nat.pow_succ ..
    rw [Nat.div_eq_of_lt (by omega), Nat.div_eq_of_lt (by omega)]

theorem high_or_at (a k : Nat) (ha : a < 2 ^ k) : (a + 2 ^ k) / 2 ^ (8 * (k / 8)) % 256 = a / 2 ^ (8 * (k / 8)) % 256 + 2 ^ (k % 8) ∧ a / 2 ^ (8 * (k / 8)) % 256 < 2 ^ (k % 8) ∧ 2 ^ (k % 8) ≤ 128 := by
  have e : 2 ^ k = 2 ^ (8 * (k / 8)) * 2 ^ (k % 8) := by rw [← Nat.pow_add]; congr 1; omega
  have h1 : a / 2 ^ (8 * (k / 8)) < 2 ^ (k % 8) := by
    rw [Nat.div_lt_iff_lt_mul (Nat.two_pow_pos _), Nat.mul_comm, ← e]; exact ha
  have h2 : 2 ^ (k % 8) ≤ 2 ^ 7 := Nat.pow_le_pow_right (by omega) (by omega)
  have h3 : (2 : Nat) ^ 7 = 128 := rfl
  rw [e, Nat.add_mul_div_left _ _ (Nat.two_pow_pos _)]
  rw [h3] at h2
  clear e ha h3
  generalize a / 2 ^ (8 * (k / 8)) = b at *
  generalize 2 ^ (k % 8) = c at *
  omega

theorem high_bit_on (x n k : Nat) (h : x / 2 ^ k % 2 = 1) (hk : k / 8 < n) :
    highB (x % 2 ^ (k + 1)) n = (highB (x % 2 ^ k) n).set (n - 1 - k / 8) ((highB (x % 2 ^ k) n).getD (n - 1 - k / 8) 0 ||| 2 ^ (k % 8)) ∧ (highB (x % 2 ^ k) n).getD (n - 1 - k / 8) 0 < 256 ∧ 2 ^ (k % 8) ≤ 128 := by
  have e : x % 2 ^ (k + 1) = x % 2 ^ k + 2 ^ k := by rw [Nat.mod_pow_succ, h]; omega
  have ha : x % 2 ^ k < 2 ^ k := Nat.mod_lt _ (Nat.two_pow_pos _)
  rw [e]
  generalize x % 2 ^ k = a at *
  obtain ⟨h1, h2, h3⟩ := high_or_at a k ha
  rw [high_at a n (k / 8) hk]
  have h5 : a / 2 ^ (8 * (k / 8)) % 256 ||| 2 ^ (k % 8) = (a + 2 ^ k) / 2 ^ (8 * (k / 8)) % 256 := by
    rw [h1, Nat.or_comm, nat_join (k % 8) _ _ (by simp) h2, Nat.add_comm]
  refine ⟨?_, by omega, h3⟩
  apply List.ext_getElem
  · simp [highB]
  · intro j hj1 hj2
    have hjn : j < n := by simpa [highB] using hj1
    rw [List.getElem_set]
    by_cases hj : n - 1 - k / 8 = j
    · rw [if_pos hj, h5]
      subst hj
      simp only [highB, List.getElem_map, List.getElem_range]
      rw [show n - 1 - (n - 1 - k / 8) = k / 8 from by omega]
    · rw [if_neg hj]
      simp only [highB, List.getElem_map, List.getElem_range]
      exact high_or a k _ ha (by omega)

theorem high_mod (x n : Nat) : highB (x % 2 ^ (8 * n)) n = highB x n := by
  apply List.ext_getElem
  · simp [highB]
  · intro j hj1 hj2
    have hjn : j < n := by simpa [highB] using hj1
    simp only [highB, List.getElem_map, List.getElem_range]
    have e : 2 ^ (8 * n) = 2 ^ (8 * (n - 1 - j)) * (256 * 2 ^ (8 * j)) := by
      rw [show (256 : Nat) = 2 ^ 8 from rfl, ← Nat.pow_add, ← Nat.pow_add]; congr 1; omega
    rw [e, Nat.mod_mul_right_div_self, Nat.mod_mul_right_mod]

theorem Own.other {w : World} {g p i : Nat} {l : List Nat} (h : Own w g l) (hn : g ≠ p) (v : Value) : Own (w.setCell ⟨p, i, none⟩ v) g l :=
  (Below.heap_setCell _ _ _ _ hn).trans h

end Go.Proofs.Ytelpihlifdfgoaa
namespace Go.Proofs.Ytelpihlifdfgoaa
open Go.RowKit
set_option linter.unusedVariables false

/-- A sum that goes on over a byte. -/
def stepS (n b : Nat) : Nat := (n * 257 + b) % 4294967291
/-- A sum that goes on over bytes. -/
def goS (n : Nat) (l : List Nat) : Nat := l.foldl stepS (n % 4294967291)

theorem stepS_lt (n b : Nat) : stepS n b < 4294967291 := Nat.mod_lt _ (by omega)
theorem foldS_lt : ∀ (l : List Nat) (n : Nat), n < 4294967291 → l.foldl stepS n < 4294967291
  | [], _, h => h
  | b :: l, n, _ => foldS_lt l (stepS n b) (stepS_lt _ _)
theorem goS_lt (n : Nat) (l : List Nat) : goS n l < 4294967291 := foldS_lt l _ (Nat.mod_lt _ (by omega))
theorem goS_nil (n : Nat) : goS n [] = n % 4294967291 := rfl
theorem goS_append (n : Nat) (l m : List Nat) : goS n (l ++ m) = goS (goS n l) m := by
  have h := goS_lt n l
  unfold goS at h ⊢
  rw [List.foldl_append, Nat.mod_eq_of_lt h]
theorem goS_snoc (n : Nat) (l : List Nat) (b : Nat) : goS n (l ++ [b]) = stepS (goS n l) b := by
  unfold goS; rw [List.foldl_append]; rfl
theorem goS_take (n : Nat) (l : List Nat) (k : Nat) (h : k < l.length) : goS n (l.take (k + 1)) = stepS (goS n (l.take k)) (l.getD k 0) := by
  rw [List.take_add_one]
  have : l[k]?.toList = [l.getD k 0] := by simp [h]
  rw [this, goS_snoc]

set_option maxHeartbeats 400000 in
theorem on_step {x v b : Nat} {w : World} (hx : w.heap[x]? = some (.cells #[.int .u64 (v : Int)] 135 (0, 0))) (hv : v < 4294967291) (hb : b < 256) :
    Calls Try.prog 98 #[.int .u8 (b : Int), .pointer (some ⟨x, 0, none⟩)] w fun e w' => e = .returned (.tuple #[]) ∧ w.setCell ⟨x, 0, none⟩ (.int .u64 ((stepS v b : Nat) : Int)) = w' := by
  have h0 := cell_of_one hx
  have hf := free_of_one hx
  have e : ((stepS v b : Nat) : Int) = ((v : Int) * 257 + (b : Int)) % 4294967291 := by unfold stepS; omega
  have HE := Lib.hid e
  clear e hx
  go_enter Try.func98, Try.ntmps98
  go_wp2
  go_end0
  refine ⟨rfl, ?_⟩
  rw [HE.out]

set_option maxHeartbeats 800000 in
theorem on_any (n : Nat) (a : Option Addr) (len cap : Nat) (l : List Nat) (w : World) (hl : l.length = len) (hlm : len ≤ 9223372036854775807) (hB : Bys l) (hL : Lies w a l) (hn : n ≤ 4294967295) :
    Calls Try.prog 93 #[.int .u32 (n : Int), .slice a len cap] w fun e w' => e = .returned (.int .u32 ((goS n l : Nat) : Int)) ∧ Below w.heap.size w w' := by
  have hmf : ∀ (fn : Fn) (first cap : Array Value) (w : World), (Instr.makeFunc fn first cap).run Try.prog w = .ok (.func fn first cap) w := fun _ _ _ _ => rfl
  have HN := Lib.hid hl
  clear hl
  obtain ⟨m, hm⟩ : ∃ m : Nat, n % 4294967291 = m := ⟨_, rfl⟩
  have em : (n : Int) % 4294967291 = (m : Int) := by omega
  have hm0 : goS n (l.take 0) = m := by rw [List.take_zero, goS_nil, hm]
  obtain ⟨W1, hW1⟩ : ∃ W1, (w.alloc (.cells #[.int .u64 0] 135)).setCell ⟨w.heap.size, 0, none⟩ (.int .u64 ((n : Int) % 4294967291)) = W1 := ⟨_, rfl⟩
  have hx : W1.heap[w.heap.size]? = some (.cells #[.int .u64 (m : Int)] 135 (0, 0)) := by rw [← hW1, em]; exact one_setCell (heap_alloc_new w _)
  have hb1 : Below w.heap.size w W1 := by rw [← hW1]; exact ((Below.refl _ _).alloc (Nat.le_refl _) _).setCell (Nat.le_refl _) _
  have H1 := Lib.hid (And.intro hx hb1)
  have HM := Lib.hid hm0
  clear hm0
  clear hx hb1 hm em
  go_enter Try.func93, Try.ntmps93
  go_wp2
  clear hW1
  go_loopw [14] (fun i wr => ∃ k : Nat, k ≤ len ∧ i = .int .i64 k ∧ wr.heap[w.heap.size]? = some (.cells #[.int .u64 ((goS n (l.take k) : Nat) : Int)] 135 (0, 0)) ∧ Below w.heap.size w wr) (fun i _ => len - (intOf i).toNat)
  case atStart => exact ⟨0, Nat.zero_le _, rfl, by rw [HM.out]; exact H1.out.1, H1.out.2⟩
  case round =>
    obtain ⟨k, hk, rfl, hX, hBw⟩ := hrel
    by_cases hlt : k < len
    · rcases hL with h0 | ⟨g, off, rfl, hlg, hcc⟩
      · have := HN.out; rw [h0] at this; simp at this; omega
      · have hc := (hBw.cell (p := ⟨g, off + k, none⟩) hlg).trans (hcc k (by rw [HN.out]; exact hlt))
        have hv := goS_lt n (l.take k)
        have HT := Lib.hid (goS_take n l k (by rw [HN.out]; exact hlt))
        have hb := hB.at k
        generalize l.getD k 0 = b at *
        generalize goS n (l.take k) = v at *
        have hX2 : (wr.setCell ⟨w.heap.size, 0, none⟩ (.int .u64 ((stepS v b : Nat) : Int))).heap[w.heap.size]? = some (.cells #[.int .u64 ((stepS v b : Nat) : Int)] 135 (0, 0)) := one_setCell hX
        have hB2 : Below w.heap.size w (wr.setCell ⟨w.heap.size, 0, none⟩ (.int .u64 ((stepS v b : Nat) : Int))) := hBw.setCell (Nat.le_refl _) _
        have HX := Lib.hid (And.intro hX2 hB2)
        have hstep := on_step hX hv hb
        have hlt0 : (k : Int) < (len : Int) := by omega
        clear hX2 hB2 hX hBw hcc
        go_wp2_with (go_at_call 98; refine hstep.mono ?_; rintro e w' ⟨rfl, rfl⟩)
        go_roundw
        case rel => exact ⟨k + 1, by omega, by go_num, by rw [HT.out]; exact HX.out.1, HX.out.2⟩
        case measure => simp [intOf]; omega
    · obtain rfl : k = len := by omega
      have hlt0 : ¬ ((k : Int) < (k : Int)) := by omega
      have e : l.take k = l := by rw [← HN.out, List.take_length]
      rw [e] at hX
      clear e
      have hv := goS_lt n l
      generalize hgg : goS n l = v at *
      have HG := Lib.hid hgg
      clear hgg
      have hc := cell_of_one hX
      go_wp2
      go_ret
      exact ⟨by rw [HG.out]; rfl, hBw⟩

set_option maxHeartbeats 400000 in
theorem sum_any (a : Option Addr) (len cap : Nat) (l : List Nat) (w : World) (hl : l.length = len) (hlm : len ≤ 9223372036854775807) (hB : Bys l) (hL : Lies w a l) :
    Calls Try.prog 84 #[.slice a len cap] w fun e w' => e = .returned (.int .u32 ((goS 1 l : Nat) : Int)) ∧ Below w.heap.size w w' := by
  have HN := Lib.hid hl
  clear hl
  go_enter Try.func84, Try.ntmps84
  go_wp2_with (go_at_call 93; refine (on_any 1 _ _ _ l _ HN.out hlm hB hL (by omega)).mono ?_; rintro e w' ⟨rfl, hb⟩)
  go_ret
  exact ⟨rfl, hb⟩
end Go.Proofs.Ytelpihlifdfgoaa
namespace Go.Proofs.Ytelpihlifdfgoaa
open Go.RowKit
set_option linter.unusedVariables false

theorem shl_step (q i : Nat) : 2 * (q * 2 ^ i % 4294967291) % 4294967291 = q * 2 ^ (i + 1) % 4294967291 := by
  rw [Nat.pow_succ, ← Nat.mul_assoc]
  generalize q * 2 ^ i = t
  omega

end Go.Proofs.Ytelpihlifdfgoaa
