/-
  The contracts of octet's reader that take numbers off: the closure, take, number, U8 to U64. Nothing here is a statement of the document.
-/
import Derived.Test.YtfnagfmbhcaphaaDoorOctC
namespace Go.Proofs.YtfnagfmbhcaphaaDoor
open Go.RowKit
set_option linter.unusedVariables false

/-- The number that bytes make, the highest first, on top of what was there, by its lowest 64 bits. -/
def pile (v : Nat) (l : List Nat) : Nat := l.foldl (fun v b => v * 256 % 18446744073709551616 + b) v

theorem or_low (v b : Nat) (hb : b < 256) : v * 256 % 18446744073709551616 ||| b = v * 256 % 18446744073709551616 + b :=
  nat_join 8 _ _ (by omega) hb

set_option maxHeartbeats 400000 in
theorem tell_num {x v b : Nat} {w : World} (hx : w.heap[x]? = some (.cells #[.int .u64 (v : Int)] 128 (0, 0))) (hv : v ≤ 18446744073709551615) (hb : b < 256) :
    Calls Tryd.prog 96 #[.int .u8 (b : Int), .pointer (some ⟨x, 0, none⟩)] w fun e w' => e = .returned (.tuple #[]) ∧ w.setCell ⟨x, 0, none⟩ (.int .u64 ((v * 256 % 18446744073709551616 + b : Nat) : Int)) = w' := by
  have h0 := cell_of_one hx
  have hf := free_of_one hx
  have e := u64_or_nat (v * 256 % 18446744073709551616) b (by omega) (by omega)
  rw [or_low v b hb, ← show IntKind.u64.wrap ((v : Int) * 256) = ((v * 256 % 18446744073709551616 : Nat) : Int) from by rw [IntKind.wrap_u64]; omega] at e
  have HE := Lib.hid e
  clear e hx
  go_enter Tryd.func96, Tryd.ntmps96
  go_wp2
  rw [HE.out]
  go_end0
  exact ⟨rfl, rfl⟩

/-- Two worlds that differ at blocks p and x at most. -/
structure Two (p x : Nat) (w w' : World) : Prop where
  os : w'.os = w.os
  tape : w'.tape = w.tape
  output : w'.output = w.output
  size : w'.heap.size = w.heap.size
  block : ∀ k, k ≠ p → k ≠ x → w'.heap[k]? = w.heap[k]?

theorem Two.refl (p x : Nat) (w : World) : Two p x w w := ⟨rfl, rfl, rfl, rfl, fun _ _ _ => rfl⟩
theorem Two.trans {p x : Nat} {a b c : World} (h : Two p x a b) (k : Two p x b c) : Two p x a c :=
  ⟨k.os.trans h.os, k.tape.trans h.tape, k.output.trans h.output, k.size.trans h.size, fun i h1 h2 => (k.block i h1 h2).trans (h.block i h1 h2)⟩
theorem Two.setCell {p x : Nat} {a b : World} (h : Two p x a b) {q : Addr} (hq : q.block = p ∨ q.block = x) (v : Value) : Two p x a (b.setCell q v) :=
  h.trans ⟨rfl, rfl, rfl, by simp [World.setCell], fun k h1 h2 => Below.heap_setCell _ _ _ _ (by rcases hq with rfl | rfl <;> assumption)⟩

/-- What taking n bytes off leaves: where the reader stands, and its error. -/
def offTo (len j : Nat) (err n : Int) : Nat × Int :=
  if err ≠ 0 then (j, err) else if n < 0 then (j, 2) else if ((len - j : Nat) : Int) < n then (j, 7) else (j + n.toNat, 0)

/-- What comes off. -/
def came (L : List Nat) (j : Nat) (err n : Int) : List Nat :=
  if err ≠ 0 then [] else if n < 0 then [] else if ((L.length - j : Nat) : Int) < n then [] else (L.drop j).take n.toNat

theorem pile_snoc (v : Nat) (l : List Nat) (b : Nat) : pile v (l ++ [b]) = pile v l * 256 % 18446744073709551616 + b := by simp [pile]
theorem pile_le (v : Nat) (l : List Nat) (hl : Bys l) (hv : v ≤ 18446744073709551615) : pile v l ≤ 18446744073709551615 := by
  induction l generalizing v with
  | nil => exact hv
  | cons b l ih =>
    have hb : b < 256 := hl b (by simp)
    exact ih _ (fun n hn => hl n (by simp [hn])) (by show v * 256 % 18446744073709551616 + b ≤ 18446744073709551615; omega)
theorem take_more (L : List Nat) (j k : Nat) (h : j + k < L.length) : (L.drop j).take (k + 1) = (L.drop j).take k ++ [L.getD (j + k) 0] := by
  rw [List.take_add_one]
  simp [List.getElem?_drop, h]

theorem take_world {p g x j k v : Nat} {L : List Nat} {w wr : World} (hR : Rd wr p g L (j + k) 0)
    (hX2 : (wr.setCell ⟨p, 0, none⟩ (restV g L.length (j + k + 1))).heap[x]? = some (.cells #[.int .u64 (v : Int)] 128 (0, 0))) (hT : Two p x w wr) (hxg : x ≠ g)
    (hM : (L.drop j).take (k + 1) = (L.drop j).take k ++ [L.getD (j + k) 0]) (hP : pile 0 ((L.drop j).take k) = v) (hlt : j + k < L.length) (hxp : x ≠ p := by assumption) :
    Rd ((wr.setCell ⟨p, 0, none⟩ (restV g L.length (j + k + 1))).setCell ⟨x, 0, none⟩ (.int .u64 ((v * 256 % 18446744073709551616 + L.getD (j + k) 0 : Nat) : Int))) p g L (j + (k + 1)) 0 ∧
    ((wr.setCell ⟨p, 0, none⟩ (restV g L.length (j + k + 1))).setCell ⟨x, 0, none⟩ (.int .u64 ((v * 256 % 18446744073709551616 + L.getD (j + k) 0 : Nat) : Int))).heap[x]? = some (.cells #[.int .u64 ((pile 0 ((L.drop j).take (k + 1)) : Nat) : Int)] 128 (0, 0)) ∧
    Two p x w ((wr.setCell ⟨p, 0, none⟩ (restV g L.length (j + k + 1))).setCell ⟨x, 0, none⟩ (.int .u64 ((v * 256 % 18446744073709551616 + L.getD (j + k) 0 : Nat) : Int))) := by
  have h1 := hR.off hlt
  refine ⟨?_, ?_, (hT.setCell (.inl rfl) _).setCell (.inr rfl) _⟩
  · exact h1.kept (Below.heap_setCell _ _ _ _ (Ne.symm hxp)) (Below.heap_setCell _ _ _ _ (Ne.symm hxg))
  · rw [hM, pile_snoc, hP]
    exact one_setCell hX2

set_option maxHeartbeats 1600000 in
theorem take_num {p g j x : Nat} {L : List Nat} {n : Int} {w : World} (h : Rd w p g L j 0) (hB : Bys L) (hx : w.heap[x]? = some (.cells #[.int .u64 0] 128 (0, 0))) (hxp : x ≠ p) (hxg : x ≠ g)
    (h0 : 0 ≤ n) (hn : n ≤ ((L.length - j : Nat) : Int)) (hlm : L.length ≤ 281474976710000) :
    Calls Tryd.prog 94 #[.pointer (some ⟨p, 0, none⟩), .int .i64 n, .func (.func 96) #[] #[.pointer (some ⟨x, 0, none⟩)]] w fun e w' =>
      e = .returned (.tuple #[]) ∧ Rd w' p g L (j + n.toNat) 0 ∧ w'.heap[x]? = some (.cells #[.int .u64 ((pile 0 ((L.drop j).take n.toNat) : Nat) : Int)] 128 (0, 0)) ∧ Two p x w w' := by
  obtain ⟨n, rfl⟩ := Int.eq_ofNat_of_zero_le h0
  have hle := h.le
  have hlt : decide (((L.length - j : Nat) : Int) < (n : Int)) = false := by simp; omega
  have hlt2 : decide (L.length - j < n) = false := by simp; omega
  have hlt3 : decide ((n : Int) < 0) = false := by simp
  go_enter Tryd.func94, Tryd.ntmps94
  go_wp2_with (first | (go_at_call 91; refine (err_any h).mono ?_; rintro e w' ⟨rfl, rfl⟩) | (go_at_call 92; refine (left_any h).mono ?_; rintro e w' ⟨rfl, rfl⟩))
  go_loopw [10] (fun i wr => ∃ k : Nat, k ≤ n ∧ i = .int .i64 k ∧ Rd wr p g L (j + k) 0 ∧ wr.heap[x]? = some (.cells #[.int .u64 ((pile 0 ((L.drop j).take k) : Nat) : Int)] 128 (0, 0)) ∧ Two p x w wr) (fun i _ => n - (intOf i).toNat)
  case atStart => exact ⟨0, Nat.zero_le _, rfl, h, by simpa [pile] using hx, Two.refl _ _ _⟩
  case round =>
    obtain ⟨k, hk, rfl, hR, hX, hT⟩ := hrel
    clear h hx
    by_cases hk2 : k < n
    · have hv := pile_le 0 ((L.drop j).take k) (fun m hm => hB m (List.mem_of_mem_drop (List.mem_of_mem_take hm))) (by omega)
      have HM := Lib.hid (take_more L j k (by omega))
      generalize hgp : pile 0 ((L.drop j).take k) = v at *
      have HP := Lib.hid hgp
      clear hgp
      have hX2 : (wr.setCell ⟨p, 0, none⟩ (restV g L.length (j + k + 1))).heap[x]? = some (.cells #[.int .u64 (v : Int)] 128 (0, 0)) := (Below.heap_setCell _ _ _ _ hxp).trans hX
      go_wp2_with (first | (go_at_call 97; refine (next_any hR (by omega)).mono ?_; rintro e w' ⟨rfl, rfl⟩) | (go_at_call 96; refine (tell_num hX2 hv (hB.at _)).mono ?_; rintro e w' ⟨rfl, rfl⟩))
      have R := take_world hR hX2 hT hxg HM.out HP.out (by omega)
      clear hR hX hT hX2
      go_roundw
      case rel => first | exact ⟨k + 1, by omega, by go_num, R.1, R.2.1, R.2.2⟩ | ((repeat apply Exists.intro); exact ⟨⟨k + 1, by omega, by go_num, R.1, R.2.1, R.2.2⟩, rfl⟩)
      case measure => simp [intOf]; omega
    · obtain rfl : k = n := by omega
      go_wp2
      go_end0
      exact ⟨rfl, hR, hX, hT⟩

/-- Who is out of step takes nothing off. -/
theorem take_err {p g j : Nat} {L : List Nat} {err n : Int} {f : Value} {w : World} (h : Rd w p g L j err) (he : err ≠ 0) :
    Calls Tryd.prog 94 #[.pointer (some ⟨p, 0, none⟩), .int .i64 n, f] w fun e w' => e = .returned (.tuple #[]) ∧ w = w' := by
  have he2 : (err != 0) = true := by simpa using he
  have he3 : (err == 0) = false := by simpa using he
  go_enter Tryd.func94, Tryd.ntmps94
  go_wp2_with (go_at_call 91; refine (err_any h).mono ?_; rintro e w' ⟨rfl, rfl⟩)
  refine bodyPost_ret (results_none rfl _ _ _) rfl ?_
  exact ⟨rfl, rfl⟩
theorem take_nil {n : Int} {f : Value} {w : World} :
    Calls Tryd.prog 94 #[.pointer none, .int .i64 n, f] w fun e w' => e = .returned (.tuple #[]) ∧ w = w' := by
  go_enter Tryd.func94, Tryd.ntmps94
  go_wp2_with (go_at_call 91; refine (err_nil _).mono ?_; rintro e w' ⟨rfl, rfl⟩)
  refine bodyPost_ret (results_none rfl _ _ _) rfl ?_
  exact ⟨rfl, rfl⟩
theorem take_neg {p g j : Nat} {L : List Nat} {n : Int} {f : Value} {w : World} (h : Rd w p g L j 0) (hn : n < 0) :
    Calls Tryd.prog 94 #[.pointer (some ⟨p, 0, none⟩), .int .i64 n, f] w fun e w' => e = .returned (.tuple #[]) ∧ w.setCell ⟨p, 1, none⟩ (.int .i64 2) = w' := by
  have hc := h.cell1
  have hf := h.free 1
  have hn2 : decide (n < 0) = true := by simpa using hn
  go_enter Tryd.func94, Tryd.ntmps94
  go_wp2_with (go_at_call 91; refine (err_any h).mono ?_; rintro e w' ⟨rfl, rfl⟩)
  go_end0
  exact ⟨rfl, rfl⟩
theorem take_short {p g j : Nat} {L : List Nat} {n : Int} {f : Value} {w : World} (h : Rd w p g L j 0) (hn0 : 0 ≤ n) (hn : ((L.length - j : Nat) : Int) < n) :
    Calls Tryd.prog 94 #[.pointer (some ⟨p, 0, none⟩), .int .i64 n, f] w fun e w' => e = .returned (.tuple #[]) ∧ w.setCell ⟨p, 1, none⟩ (.int .i64 7) = w' := by
  have hc := h.cell1
  have hf := h.free 1
  have hn2 : decide (n < 0) = false := by simpa using hn0
  have hn3 : decide (((L.length - j : Nat) : Int) < n) = true := by simpa using hn
  go_enter Tryd.func94, Tryd.ntmps94
  go_wp2_with (first | (go_at_call 91; refine (err_any h).mono ?_; rintro e w' ⟨rfl, rfl⟩) | (go_at_call 92; refine (left_any h).mono ?_; rintro e w' ⟨rfl, rfl⟩))
  go_end0
  exact ⟨rfl, rfl⟩

/-! ### number, and the numbers of 8 to 64 bits -/

theorem Two.grown {p x : Nat} {w w1 w' : World} (hA : w.grownBy w1 none) (h : Two p x w1 w') (hx : w.heap.size ≤ x) : w.grownBy w' (some p) :=
  ⟨h.os.trans hA.os, h.tape.trans hA.tape, h.output.trans hA.output, by have := hA.size; have := h.size; omega,
    fun k hk hp => (h.block k (fun e => hp (by rw [e])) (Nat.ne_of_lt (Nat.lt_of_lt_of_le hk hx))).trans (hA.block k hk (by simp))⟩

theorem grown_set {w w1 : World} {p : Nat} (hA : w.grownBy w1 none) (i : Nat) (v : Value) : w.grownBy (w1.setCell ⟨p, i, none⟩ v) (some p) :=
  ⟨hA.os, hA.tape, hA.output, by have := hA.size; simpa [World.setCell] using this,
    fun k hk hp => (Below.heap_setCell _ _ _ _ (fun e => hp (by rw [e]))).trans (hA.block k hk (by simp))⟩

/-- The reader behind a call that took off, or was to take off, n bytes. -/
def Aft (w w' : World) (p g : Nat) (L : List Nat) (j : Nat) (err n : Int) : Prop :=
  Rd w' p g L (offTo L.length j err n).1 (offTo L.length j err n).2 ∧ w.grownBy w' (some p)

set_option maxHeartbeats 800000 in
theorem number_any {p g j : Nat} {L : List Nat} {err n : Int} {w : World} (h : Rd w p g L j err) (hB : Bys L) (hlm : L.length ≤ 281474976710000) :
    Calls Tryd.prog 93 #[.pointer (some ⟨p, 0, none⟩), .int .i64 n] w fun e w' =>
      e = .returned (.int .u64 ((pile 0 (came L j err n) : Nat) : Int)) ∧ Aft w w' p g L j err n := by
  have hmf : ∀ (fn : Fn) (first cap : Array Value) (w : World), (Instr.makeFunc fn first cap).run Tryd.prog w = .ok (.func fn first cap) w := fun _ _ _ _ => rfl
  have hb : Below w.heap.size w (w.alloc (.cells #[.int .u64 0] 128)) := (Below.refl _ _).alloc (Nat.le_refl _) _
  have h1 : Rd (w.alloc (.cells #[.int .u64 0] 128)) p g L j err := h.below hb
  have hx : (w.alloc (.cells #[.int .u64 0] 128)).heap[w.heap.size]? = some (.cells #[.int .u64 0] 128 (0, 0)) := heap_alloc_new w _
  have hG : w.grownBy (w.alloc (.cells #[.int .u64 0] 128)) none := World.grownBy_alloc _ _ _
  have hp := h.lt
  have hg := h.own.lt
  have hxc := cell_of_one hx
  have hxc2 : ∀ i v, ((w.alloc (.cells #[.int .u64 0] 128)).setCell ⟨p, i, none⟩ v).cell? ⟨w.heap.size, 0, none⟩ = some (.int .u64 0) := fun i v =>
    (World.cell?_setCell_other _ _ _ _ (by intro e; have := congrArg Addr.block e; simp at this; omega)).trans hxc
  by_cases he : err = 0
  · subst he
    by_cases hn : n < 0
    · have e1 : came L j 0 n = [] := by simp [came, hn]
      have e2 : offTo L.length j 0 n = (j, 2) := by simp [offTo, hn]
      unfold Aft
      rw [e1, e2]
      go_enter Tryd.func93, Tryd.ntmps93
      go_wp2_with (go_at_call 94; refine (take_neg h1 hn).mono ?_; rintro e w' ⟨rfl, rfl⟩)
      go_ret
      rw [← World.setCell_alloc_past _ _ _ _ hp]
      exact ⟨rfl, h1.err 2, grown_set hG _ _⟩
    · by_cases hs : ((L.length - j : Nat) : Int) < n
      · have e1 : came L j 0 n = [] := by simp [came, hn, hs]
        have e2 : offTo L.length j 0 n = (j, 7) := by simp [offTo, hn, hs]
        unfold Aft
        rw [e1, e2]
        go_enter Tryd.func93, Tryd.ntmps93
        go_wp2_with (go_at_call 94; refine (take_short h1 (by omega) hs).mono ?_; rintro e w' ⟨rfl, rfl⟩)
        go_ret
        rw [← World.setCell_alloc_past _ _ _ _ hp]
        exact ⟨rfl, h1.err 7, grown_set hG _ _⟩
      · have e1 : came L j 0 n = (L.drop j).take n.toNat := by simp [came, hn, hs]
        have e2 : offTo L.length j 0 n = (j + n.toNat, 0) := by simp [offTo, hn, hs]
        unfold Aft
        rw [e1, e2]
        generalize hv : pile 0 ((L.drop j).take n.toNat) = v
        have HV := Lib.hid hv
        clear hv e1 e2
        go_enter Tryd.func93, Tryd.ntmps93
        go_wp2_with (go_at_call 94; refine (take_num h1 hB hx (by omega) (by omega) (by omega) (by omega) hlm).mono ?_; rintro e w1 ⟨rfl, hR, hX, hT⟩; rw [HV.out] at hX; have hXc := cell_of_one hX; have HX := Lib.hid hX; clear hX)
        go_ret
        exact ⟨rfl, hR, hT.grown hG (Nat.le_refl _)⟩
  · have e1 : came L j err n = [] := by simp [came, he]
    have e2 : offTo L.length j err n = (j, err) := by simp [offTo, he]
    unfold Aft
    rw [e1, e2]
    go_enter Tryd.func93, Tryd.ntmps93
    go_wp2_with (go_at_call 94; refine (take_err h1 he).mono ?_; rintro e w' ⟨rfl, rfl⟩)
    go_ret
    exact ⟨rfl, h1, World.grownBy_alloc _ _ _⟩

theorem number_nil {n : Int} {w : World} :
    Calls Tryd.prog 93 #[.pointer none, .int .i64 n] w fun e w' => e = .returned (.int .u64 0) ∧ Below w.heap.size w w' := by
  have hmf : ∀ (fn : Fn) (first cap : Array Value) (w : World), (Instr.makeFunc fn first cap).run Tryd.prog w = .ok (.func fn first cap) w := fun _ _ _ _ => rfl
  go_enter Tryd.func93, Tryd.ntmps93
  go_wp2_with (go_at_call 94; refine (take_nil).mono ?_; rintro e w' ⟨rfl, rfl⟩)
  go_ret
  exact ⟨rfl, (Below.refl _ _).alloc (Nat.le_refl _) _⟩

set_option maxHeartbeats 400000 in
theorem u8_any {p g j : Nat} {L : List Nat} {err : Int} {w : World} (h : Rd w p g L j err) (hB : Bys L) (hlm : L.length ≤ 281474976710000) :
    Calls Tryd.prog 88 #[.pointer (some ⟨p, 0, none⟩)] w fun e w' =>
      e = .returned (.int .u8 ((pile 0 (came L j err 1) % 256 : Nat) : Int)) ∧ Aft w w' p g L j err 1 := by
  go_enter Tryd.func88, Tryd.ntmps88
  go_wp2_with (go_at_call 93; refine (number_any h hB hlm).mono ?_; rintro e w' ⟨rfl, hA⟩)
  go_ret
  refine ⟨?_, hA⟩
  simp
theorem u8_nil {w : World} :
    Calls Tryd.prog 88 #[.pointer none] w fun e w' => e = .returned (.int .u8 0) ∧ Below w.heap.size w w' := by
  go_enter Tryd.func88, Tryd.ntmps88
  go_wp2_with (go_at_call 93; refine (number_nil).mono ?_; rintro e w' ⟨rfl, hA⟩)
  go_ret
  exact ⟨rfl, hA⟩

end Go.Proofs.YtfnagfmbhcaphaaDoor
