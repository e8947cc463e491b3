/-
  The contracts of the reference's Both, Same, High, and of bytes.Equal, octet.Equal. Nothing here is a statement of the document.
-/
import Derived.Test.YtdbdmnahgkkjiaaDoorOctC
import Derived.OpenShut
import Derived.ShutString
import Derived.ChangeOld
import Derived.Deep.QuietTactic
import Derived.BigQuiet
import Derived.BigRegion
namespace Go.Proofs.YtdbdmnahgkkjiaaDoor
open Go.RowKit
set_option linter.unusedVariables false

/-- The number that bytes make, the highest first, on top of what was there, by its lowest 64 bits. -/
def pile (v : Nat) (l : List Nat) : Nat := l.foldl (fun v b => v * 256 % 18446744073709551616 + b) v

theorem or_low (v b : Nat) (hb : b < 256) : v * 256 % 18446744073709551616 ||| b = v * 256 % 18446744073709551616 + b :=
  nat_join 8 _ _ (by omega) hb

set_option maxHeartbeats 400000 in
theorem tell_num {x v b : Nat} {w : World} (hx : w.heap[x]? = some (.cells #[.int .u64 (v : Int)] 123 (0, 0))) (hv : v ≤ 18446744073709551615) (hb : b < 256) :
    Calls Tryd.prog 89 #[.int .u8 (b : Int), .pointer (some ⟨x, 0, none⟩)] w fun e w' => e = .returned (.tuple #[]) ∧ w.setCell ⟨x, 0, none⟩ (.int .u64 ((v * 256 % 18446744073709551616 + b : Nat) : Int)) = w' := by
  have h0 := cell_of_one hx
  have hf := free_of_one hx
  have e := u64_or_nat (v * 256 % 18446744073709551616) b (by omega) (by omega)
  rw [or_low v b hb, ← show IntKind.u64.wrap ((v : Int) * 256) = ((v * 256 % 18446744073709551616 : Nat) : Int) from by rw [IntKind.wrap_u64]; omega] at e
  have HE := Lib.hid e
  clear e hx
  go_enter Tryd.func89, Tryd.ntmps89
  go_wp2
  rw [HE.out]
  go_end0
  exact ⟨rfl, rfl⟩

/-- Two worlds that differ at blocks p and x at most. -/
structure Two (p x : Nat) (w w' : World) : Prop where
  os : w'.os = w.os
  tape : w'.tape = w.tape
  output : w'.output = w.output
  size : w'.heap.size = w.heap.size
  block : ∀ k, k ≠ p → k ≠ x → w'.heap[k]? = w.heap[k]?

theorem Two.refl (p x : Nat) (w : World) : Two p x w w := ⟨rfl, rfl, rfl, rfl, fun _ _ _ => rfl⟩
theorem Two.trans {p x : Nat} {a b c : World} (h : Two p x a b) (k : Two p x b c) : Two p x a c :=
  ⟨k.os.trans h.os, k.tape.trans h.tape, k.output.trans h.output, k.size.trans h.size, fun i h1 h2 => (k.block i h1 h2).trans (h.block i h1 h2)⟩
theorem Two.setCell {p x : Nat} {a b : World} (h : Two p x a b) {q : Addr} (hq : q.block = p ∨ q.block = x) (v : Value) : Two p x a (b.setCell q v) :=
  h.trans ⟨rfl, rfl, rfl, by simp [World.setCell], fun k h1 h2 => Below.heap_setCell _ _ _ _ (by rcases hq with rfl | rfl <;> assumption)⟩

/-- What taking n bytes off leaves: where the reader stands, and its error. -/
def offTo (len j : Nat) (err n : Int) : Nat × Int :=
  if err ≠ 0 then (j, err) else if n < 0 then (j, 2) else if ((len - j : Nat) : Int) < n then (j, 7) else (j + n.toNat, 0)

/-- What comes off. -/
def came (L : List Nat) (j : Nat) (err n : Int) : List Nat :=
  if err ≠ 0 then [] else if n < 0 then [] else if ((L.length - j : Nat) : Int) < n then [] else (L.drop j).take n.toNat

theorem pile_snoc (v : Nat) (l : List Nat) (b : Nat) : pile v (l ++ [b]) = pile v l * 256 % 18446744073709551616 + b := by simp [pile]
theorem pile_le (v : Nat) (l : List Nat) (hl : Bys l) (hv : v ≤ 18446744073709551615) : pile v l ≤ 18446744073709551615 := by
  induction l generalizing v with
  | nil => exact hv
  | cons b l ih =>
    have hb : b < 256 := hl b (by simp)
    exact ih _ (fun n hn => hl n (by simp [hn])) (by show v * 256 % 18446744073709551616 + b ≤ 18446744073709551615; omega)
theorem take_more (L : List Nat) (j k : Nat) (h : j + k < L.length) : (L.drop j).take (k + 1) = (L.drop j).take k ++ [L.getD (j + k) 0] := by
  rw [List.take_add_one]
  simp [List.getElem?_drop, h]

theorem take_world {p g x j k v : Nat} {L : List Nat} {w wr : World} (hR : Rd wr p g L (j + k) 0)
    (hX2 : (wr.setCell ⟨p, 0, none⟩ (restV g L.length (j + k + 1))).heap[x]? = some (.cells #[.int .u64 (v : Int)] 123 (0, 0))) (hT : Two p x w wr) (hxg : x ≠ g)
    (hM : (L.drop j).take (k + 1) = (L.drop j).take k ++ [L.getD (j + k) 0]) (hP : pile 0 ((L.drop j).take k) = v) (hlt : j + k < L.length) (hxp : x ≠ p := by assumption) :
    Rd ((wr.setCell ⟨p, 0, none⟩ (restV g L.length (j + k + 1))).setCell ⟨x, 0, none⟩ (.int .u64 ((v * 256 % 18446744073709551616 + L.getD (j + k) 0 : Nat) : Int))) p g L (j + (k + 1)) 0 ∧
    ((wr.setCell ⟨p, 0, none⟩ (restV g L.length (j + k + 1))).setCell ⟨x, 0, none⟩ (.int .u64 ((v * 256 % 18446744073709551616 + L.getD (j + k) 0 : Nat) : Int))).heap[x]? = some (.cells #[.int .u64 ((pile 0 ((L.drop j).take (k + 1)) : Nat) : Int)] 123 (0, 0)) ∧
    Two p x w ((wr.setCell ⟨p, 0, none⟩ (restV g L.length (j + k + 1))).setCell ⟨x, 0, none⟩ (.int .u64 ((v * 256 % 18446744073709551616 + L.getD (j + k) 0 : Nat) : Int))) := by
  have h1 := hR.off hlt
  refine ⟨?_, ?_, (hT.setCell (.inl rfl) _).setCell (.inr rfl) _⟩
  · exact h1.kept (Below.heap_setCell _ _ _ _ (Ne.symm hxp)) (Below.heap_setCell _ _ _ _ (Ne.symm hxg))
  · rw [hM, pile_snoc, hP]
    exact one_setCell hX2

set_option maxHeartbeats 1600000 in
theorem take_num {p g j x : Nat} {L : List Nat} {n : Int} {w : World} (h : Rd w p g L j 0) (hB : Bys L) (hx : w.heap[x]? = some (.cells #[.int .u64 0] 123 (0, 0))) (hxp : x ≠ p) (hxg : x ≠ g)
    (h0 : 0 ≤ n) (hn : n ≤ ((L.length - j : Nat) : Int)) (hlm : L.length ≤ 281474976710000) :
    Calls Tryd.prog 87 #[.pointer (some ⟨p, 0, none⟩), .int .i64 n, .func (.func 89) #[] #[.pointer (some ⟨x, 0, none⟩)]] w fun e w' =>
      e = .returned (.tuple #[]) ∧ Rd w' p g L (j + n.toNat) 0 ∧ w'.heap[x]? = some (.cells #[.int .u64 ((pile 0 ((L.drop j).take n.toNat) : Nat) : Int)] 123 (0, 0)) ∧ Two p x w w' := by
  obtain ⟨n, rfl⟩ := Int.eq_ofNat_of_zero_le h0
  have hle := h.le
  have hlt : decide (((L.length - j : Nat) : Int) < (n : Int)) = false := by simp; omega
  have hlt2 : decide (L.length - j < n) = false := by simp; omega
  have hlt3 : decide ((n : Int) < 0) = false := by simp
  go_enter Tryd.func87, Tryd.ntmps87
  go_wp2_with (first | (go_at_call 83; refine (err_any h).mono ?_; rintro e w' ⟨rfl, rfl⟩) | (go_at_call 84; refine (left_any h).mono ?_; rintro e w' ⟨rfl, rfl⟩))
  go_loopw [10] (fun i wr => ∃ k : Nat, k ≤ n ∧ i = .int .i64 k ∧ Rd wr p g L (j + k) 0 ∧ wr.heap[x]? = some (.cells #[.int .u64 ((pile 0 ((L.drop j).take k) : Nat) : Int)] 123 (0, 0)) ∧ Two p x w wr) (fun i _ => n - (intOf i).toNat)
  case atStart => exact ⟨0, Nat.zero_le _, rfl, h, by simpa [pile] using hx, Two.refl _ _ _⟩
  case round =>
    obtain ⟨k, hk, rfl, hR, hX, hT⟩ := hrel
    clear h hx
    by_cases hk2 : k < n
    · have hv := pile_le 0 ((L.drop j).take k) (fun m hm => hB m (List.mem_of_mem_drop (List.mem_of_mem_take hm))) (by omega)
      have HM := Lib.hid (take_more L j k (by omega))
      generalize hgp : pile 0 ((L.drop j).take k) = v at *
      have HP := Lib.hid hgp
      clear hgp
      have hX2 : (wr.setCell ⟨p, 0, none⟩ (restV g L.length (j + k + 1))).heap[x]? = some (.cells #[.int .u64 (v : Int)] 123 (0, 0)) := (Below.heap_setCell _ _ _ _ hxp).trans hX
      go_wp2_with (first | (go_at_call 90; refine (next_any hR (by omega)).mono ?_; rintro e w' ⟨rfl, rfl⟩) | (go_at_call 89; refine (tell_num hX2 hv (hB.at _)).mono ?_; rintro e w' ⟨rfl, rfl⟩))
      have R := take_world hR hX2 hT hxg HM.out HP.out (by omega)
      clear hR hX hT hX2
      go_roundw
      case rel => first | exact ⟨k + 1, by omega, by go_num, R.1, R.2.1, R.2.2⟩ | ((repeat apply Exists.intro); exact ⟨⟨k + 1, by omega, by go_num, R.1, R.2.1, R.2.2⟩, rfl⟩)
      case measure => simp [intOf]; omega
    · obtain rfl : k = n := by omega
      go_wp2
      go_end0
      exact ⟨rfl, hR, hX, hT⟩

/-- Who is out of step takes nothing off. -/
theorem take_err {p g j : Nat} {L : List Nat} {err n : Int} {f : Value} {w : World} (h : Rd w p g L j err) (he : err ≠ 0) :
    Calls Tryd.prog 87 #[.pointer (some ⟨p, 0, none⟩), .int .i64 n, f] w fun e w' => e = .returned (.tuple #[]) ∧ w = w' := by
  have he2 : (err != 0) = true := by simpa using he
  have he3 : (err == 0) = false := by simpa using he
  go_enter Tryd.func87, Tryd.ntmps87
  go_wp2_with (go_at_call 83; refine (err_any h).mono ?_; rintro e w' ⟨rfl, rfl⟩)
  refine bodyPost_ret (results_none rfl _ _ _) rfl ?_
  exact ⟨rfl, rfl⟩
theorem take_nil {n : Int} {f : Value} {w : World} :
    Calls Tryd.prog 87 #[.pointer none, .int .i64 n, f] w fun e w' => e = .returned (.tuple #[]) ∧ w = w' := by
  go_enter Tryd.func87, Tryd.ntmps87
  go_wp2_with (go_at_call 83; refine (err_nil _).mono ?_; rintro e w' ⟨rfl, rfl⟩)
  refine bodyPost_ret (results_none rfl _ _ _) rfl ?_
  exact ⟨rfl, rfl⟩
theorem take_neg {p g j : Nat} {L : List Nat} {n : Int} {f : Value} {w : World} (h : Rd w p g L j 0) (hn : n < 0) :
    Calls Tryd.prog 87 #[.pointer (some ⟨p, 0, none⟩), .int .i64 n, f] w fun e w' => e = .returned (.tuple #[]) ∧ w.setCell ⟨p, 1, none⟩ (.int .i64 2) = w' := by
  have hc := h.cell1
  have hf := h.free 1
  have hn2 : decide (n < 0) = true := by simpa using hn
  go_enter Tryd.func87, Tryd.ntmps87
  go_wp2_with (go_at_call 83; refine (err_any h).mono ?_; rintro e w' ⟨rfl, rfl⟩)
  go_end0
  exact ⟨rfl, rfl⟩
theorem take_short {p g j : Nat} {L : List Nat} {n : Int} {f : Value} {w : World} (h : Rd w p g L j 0) (hn0 : 0 ≤ n) (hn : ((L.length - j : Nat) : Int) < n) :
    Calls Tryd.prog 87 #[.pointer (some ⟨p, 0, none⟩), .int .i64 n, f] w fun e w' => e = .returned (.tuple #[]) ∧ w.setCell ⟨p, 1, none⟩ (.int .i64 7) = w' := by
  have hc := h.cell1
  have hf := h.free 1
  have hn2 : decide (n < 0) = false := by simpa using hn0
  have hn3 : decide (((L.length - j : Nat) : Int) < n) = true := by simpa using hn
  go_enter Tryd.func87, Tryd.ntmps87
  go_wp2_with (first | (go_at_call 83; refine (err_any h).mono ?_; rintro e w' ⟨rfl, rfl⟩) | (go_at_call 84; refine (left_any h).mono ?_; rintro e w' ⟨rfl, rfl⟩))
  go_end0
  exact ⟨rfl, rfl⟩

/-! ### number, and the numbers of 8 to 64 bits -/

theorem Two.grown {p x : Nat} {w w1 w' : World} (hA : w.grownBy w1 none) (h : Two p x w1 w') (hx : w.heap.size ≤ x) : w.grownBy w' (some p) :=
  ⟨h.os.trans hA.os, h.tape.trans hA.tape, h.output.trans hA.output, by have := hA.size; have := h.size; omega,
    fun k hk hp => (h.block k (fun e => hp (by rw [e])) (Nat.ne_of_lt (Nat.lt_of_lt_of_le hk hx))).trans (hA.block k hk (by simp))⟩

theorem grown_set {w w1 : World} {p : Nat} (hA : w.grownBy w1 none) (i : Nat) (v : Value) : w.grownBy (w1.setCell ⟨p, i, none⟩ v) (some p) :=
  ⟨hA.os, hA.tape, hA.output, by have := hA.size; simpa [World.setCell] using this,
    fun k hk hp => (Below.heap_setCell _ _ _ _ (fun e => hp (by rw [e]))).trans (hA.block k hk (by simp))⟩

/-- The reader behind a call that took off, or was to take off, n bytes. -/
def Aft (w w' : World) (p g : Nat) (L : List Nat) (j : Nat) (err n : Int) : Prop :=
  Rd w' p g L (offTo L.length j err n).1 (offTo L.length j err n).2 ∧ w.grownBy w' (some p)

set_option maxHeartbeats 800000 in
theorem number_any {p g j : Nat} {L : List Nat} {err n : Int} {w : World} (h : Rd w p g L j err) (hB : Bys L) (hlm : L.length ≤ 281474976710000) :
    Calls Tryd.prog 86 #[.pointer (some ⟨p, 0, none⟩), .int .i64 n] w fun e w' =>
      e = .returned (.int .u64 ((pile 0 (came L j err n) : Nat) : Int)) ∧ Aft w w' p g L j err n := by
  have hmf : ∀ (fn : Fn) (first cap : Array Value) (w : World), (Instr.makeFunc fn first cap).run Tryd.prog w = .ok (.func fn first cap) w := fun _ _ _ _ => rfl
  have hb : Below w.heap.size w (w.alloc (.cells #[.int .u64 0] 123)) := (Below.refl _ _).alloc (Nat.le_refl _) _
  have h1 : Rd (w.alloc (.cells #[.int .u64 0] 123)) p g L j err := h.below hb
  have hx : (w.alloc (.cells #[.int .u64 0] 123)).heap[w.heap.size]? = some (.cells #[.int .u64 0] 123 (0, 0)) := heap_alloc_new w _
  have hG : w.grownBy (w.alloc (.cells #[.int .u64 0] 123)) none := World.grownBy_alloc _ _ _
  have hp := h.lt
  have hg := h.own.lt
  have hxc := cell_of_one hx
  have hxc2 : ∀ i v, ((w.alloc (.cells #[.int .u64 0] 123)).setCell ⟨p, i, none⟩ v).cell? ⟨w.heap.size, 0, none⟩ = some (.int .u64 0) := fun i v =>
    (World.cell?_setCell_other _ _ _ _ (by intro e; have := congrArg Addr.block e; simp at this; omega)).trans hxc
  by_cases he : err = 0
  · subst he
    by_cases hn : n < 0
    · have e1 : came L j 0 n = [] := by simp [came, hn]
      have e2 : offTo L.length j 0 n = (j, 2) := by simp [offTo, hn]
      unfold Aft
      rw [e1, e2]
      go_enter Tryd.func86, Tryd.ntmps86
      go_wp2_with (go_at_call 87; refine (take_neg h1 hn).mono ?_; rintro e w' ⟨rfl, rfl⟩)
      go_ret
      rw [← World.setCell_alloc_past _ _ _ _ hp]
      exact ⟨rfl, h1.err 2, grown_set hG _ _⟩
    · by_cases hs : ((L.length - j : Nat) : Int) < n
      · have e1 : came L j 0 n = [] := by simp [came, hn, hs]
        have e2 : offTo L.length j 0 n = (j, 7) := by simp [offTo, hn, hs]
        unfold Aft
        rw [e1, e2]
        go_enter Tryd.func86, Tryd.ntmps86
        go_wp2_with (go_at_call 87; refine (take_short h1 (by omega) hs).mono ?_; rintro e w' ⟨rfl, rfl⟩)
        go_ret
        rw [← World.setCell_alloc_past _ _ _ _ hp]
        exact ⟨rfl, h1.err 7, grown_set hG _ _⟩
      · have e1 : came L j 0 n = (L.drop j).take n.toNat := by simp [came, hn, hs]
        have e2 : offTo L.length j 0 n = (j + n.toNat, 0) := by simp [offTo, hn, hs]
        unfold Aft
        rw [e1, e2]
        generalize hv : pile 0 ((L.drop j).take n.toNat) = v
        have HV := Lib.hid hv
        clear hv e1 e2
        go_enter Tryd.func86, Tryd.ntmps86
        go_wp2_with (go_at_call 87; refine (take_num h1 hB hx (by omega) (by omega) (by omega) (by omega) hlm).mono ?_; rintro e w1 ⟨rfl, hR, hX, hT⟩; rw [HV.out] at hX; have hXc := cell_of_one hX; have HX := Lib.hid hX; clear hX)
        go_ret
        exact ⟨rfl, hR, hT.grown hG (Nat.le_refl _)⟩
  · have e1 : came L j err n = [] := by simp [came, he]
    have e2 : offTo L.length j err n = (j, err) := by simp [offTo, he]
    unfold Aft
    rw [e1, e2]
    go_enter Tryd.func86, Tryd.ntmps86
    go_wp2_with (go_at_call 87; refine (take_err h1 he).mono ?_; rintro e w' ⟨rfl, rfl⟩)
    go_ret
    exact ⟨rfl, h1, World.grownBy_alloc _ _ _⟩

theorem number_nil {n : Int} {w : World} :
    Calls Tryd.prog 86 #[.pointer none, .int .i64 n] w fun e w' => e = .returned (.int .u64 0) ∧ Below w.heap.size w w' := by
  have hmf : ∀ (fn : Fn) (first cap : Array Value) (w : World), (Instr.makeFunc fn first cap).run Tryd.prog w = .ok (.func fn first cap) w := fun _ _ _ _ => rfl
  go_enter Tryd.func86, Tryd.ntmps86
  go_wp2_with (go_at_call 87; refine (take_nil).mono ?_; rintro e w' ⟨rfl, rfl⟩)
  go_ret
  exact ⟨rfl, (Below.refl _ _).alloc (Nat.le_refl _) _⟩

set_option maxHeartbeats 400000 in
theorem u8_any {p g j : Nat} {L : List Nat} {err : Int} {w : World} (h : Rd w p g L j err) (hB : Bys L) (hlm : L.length ≤ 281474976710000) :
    Calls Tryd.prog 80 #[.pointer (some ⟨p, 0, none⟩)] w fun e w' =>
      e = .returned (.int .u8 ((pile 0 (came L j err 1) % 256 : Nat) : Int)) ∧ Aft w w' p g L j err 1 := by
  go_enter Tryd.func80, Tryd.ntmps80
  go_wp2_with (go_at_call 86; refine (number_any h hB hlm).mono ?_; rintro e w' ⟨rfl, hA⟩)
  go_ret
  refine ⟨?_, hA⟩
  simp
theorem u8_nil {w : World} :
    Calls Tryd.prog 80 #[.pointer none] w fun e w' => e = .returned (.int .u8 0) ∧ Below w.heap.size w w' := by
  go_enter Tryd.func80, Tryd.ntmps80
  go_wp2_with (go_at_call 86; refine (number_nil).mono ?_; rintro e w' ⟨rfl, hA⟩)
  go_ret
  exact ⟨rfl, hA⟩

end Go.Proofs.YtdbdmnahgkkjiaaDoor
namespace Go.Proofs.YtdbdmnahgkkjiaaDoor
open Go.RowKit
set_option linter.unusedVariables false

theorem Aft.rd {w w' : World} {p g : Nat} {L : List Nat} {j j' : Nat} {err err' n : Int} (h : Aft w w' p g L j err n) (e : offTo L.length j err n = (j', err')) : Rd w' p g L j' err' := by
  have := h.1
  rw [e] at this
  exact this
theorem Aft.below {w0 w w' : World} {p g : Nat} {L : List Nat} {j : Nat} {err n : Int} {B : Nat} (h : Aft w w' p g L j err n) (hb : Below B w0 w) (hB : B ≤ w.heap.size) (hp : B ≤ p) : Below B w0 w' :=
  hb.grown h.2 hB (fun k hk => by cases hk; exact hp)

theorem bys3 : Bys [5, 0, 1] := by intro n hn; simp at hn; omega
theorem bys10 : Bys [1, 0] := by intro n hn; simp at hn; omega

end Go.Proofs.YtdbdmnahgkkjiaaDoor
namespace Go.Proofs.YtdbdmnahgkkjiaaDoor
open Go.RowKit
set_option linter.unusedVariables false

/-- WHAT THE WALK IS TOLD OF A SLICE OF INTEGERS THAT CAME IN: it is nil; or it leads to a row of 'cap' cells, the numbers 'zs' (the first 'len' are its elements, the rest its spare room), each fitting its kind. -/
def IsRow (k : IntKind) (w : World) (a : Option Addr) (len cap : Nat) (zs : List Int) : Prop :=
  (a = none ∧ len = 0 ∧ cap = 0 ∧ zs = []) ∨
  ∃ x, a = some x ∧ len ≤ cap ∧ cap ≤ maxLen ∧ zs.length = cap ∧ (∀ i, i < zs.length → w.cell? (x.add i) = some (.int k (zs.getD i 0))) ∧ ∀ n ∈ zs, (Lit.int k n).wf = true

/-- Numbers that lie at an address, of one kind. -/
def Nums (k : IntKind) (w : World) (a : Option Addr) (zs : List Int) : Prop :=
  zs = [] ∨ ∃ b off, a = some ⟨b, off, none⟩ ∧ b < w.heap.size ∧ ∀ i, i < zs.length → w.cell? ⟨b, off + i, none⟩ = some (.int k (zs.getD i 0))

theorem Nums.kept {k : IntKind} {w w' : World} {a : Option Addr} {zs : List Int} (h : Nums k w a zs) (hb : Below w.heap.size w w') : Nums k w' a zs := by
  rcases h with rfl | ⟨b, off, rfl, hlt, hc⟩
  · exact .inl rfl
  · exact .inr ⟨b, off, rfl, Nat.lt_of_lt_of_le hlt hb.size, fun i hi => (hb.cell (p := ⟨b, off + i, none⟩) hlt).trans (hc i hi)⟩

theorem IsRow.nums {k : IntKind} {w : World} {a : Option Addr} {len cap : Nat} {zs : List Int} (h : IsRow k w a len cap zs) :
    ∃ ys : List Int, ys.length = len ∧ len ≤ 9223372036854775807 ∧ Nums k w a ys ∧ ∀ n ∈ ys, (Lit.int k n).wf = true := by
  rcases h with ⟨rfl, rfl, rfl, rfl⟩ | ⟨x, rfl, hl, hm, hz, hc, hw⟩
  · exact ⟨[], rfl, by omega, .inl rfl, by simp⟩
  · refine ⟨zs.take len, by simp; omega, by unfold maxLen at hm; omega, ?_, fun n hn => hw n (List.mem_of_mem_take hn)⟩
    by_cases h0 : len = 0
    · subst h0; exact .inl (by simp)
    · have hc0 := hc 0 (by omega)
      obtain ⟨b, off, spot⟩ := x
      have hspot : spot = none := by simpa [Addr.add] using World.cell?_spot hc0
      subst hspot
      have hlt := World.block_lt_of_cell? w _ hc0
      refine .inr ⟨b, off, rfl, hlt, fun i hi => ?_⟩
      have hi2 : i < len := by simpa using (Nat.lt_of_lt_of_le hi (List.length_take_le _ _))
      have := hc i (by omega)
      rw [Addr.add_lit] at this
      rw [this]
      simp [hi2]

theorem IsRow.bytes {w : World} {a : Option Addr} {len cap : Nat} {zs : List Int} (h : IsRow .u8 w a len cap zs) :
    ∃ l : List Nat, l.length = len ∧ len ≤ 9223372036854775807 ∧ Lies w a l ∧ Bys l := by
  obtain ⟨ys, hl, hm, hN, hw⟩ := h.nums
  have hr : ∀ n ∈ ys, 0 ≤ n ∧ n ≤ 255 := fun n hn => bounds_u8 (hw n hn)
  refine ⟨ys.map Int.toNat, by simpa using hl, hm, ?_, ?_⟩
  · rcases hN with rfl | ⟨b, off, rfl, hlt, hc⟩
    · exact .inl rfl
    · refine .inr ⟨b, off, rfl, hlt, fun i hi => ?_⟩
      have hi2 : i < ys.length := by simpa using hi
      have hb := hr _ (List.getElem_mem hi2)
      rw [hc i hi2]
      simp [hi2]
      omega
  · intro n hn
    obtain ⟨m, hm, rfl⟩ := List.mem_map.1 hn
    have := hr m hm
    omega
end Go.Proofs.YtdbdmnahgkkjiaaDoor
namespace Go.Proofs.YtdbdmnahgkkjiaaDoor
open Go.RowKit
set_option linter.unusedVariables false

/-- What 'Both' has made when k bytes are laid. -/
def bothK (l m : List Nat) (k : Nat) : List Nat := (l ++ m).take k ++ List.replicate (l.length + m.length - k) 0

theorem bothK_zero (l m : List Nat) : bothK l m 0 = List.replicate (l.length + m.length) 0 := by simp [bothK]
theorem bothK_all (l m : List Nat) : bothK l m (l.length + m.length) = l ++ m := by
  rw [bothK, List.take_of_length_le (by simp)]; simp
theorem length_bothK (l m : List Nat) (k : Nat) (h : k ≤ l.length + m.length) : (bothK l m k).length = l.length + m.length := by
  simp [bothK]; omega
theorem bothK_succ (l m : List Nat) (k : Nat) (h : k < l.length + m.length) : bothK l m (k + 1) = (bothK l m k).set k ((l ++ m).getD k 0) := by
  have hk : k < (l ++ m).length := by simpa using h
  unfold bothK
  have e : l.length + m.length - k = (l.length + m.length - (k + 1)) + 1 := by omega
  rw [e, List.replicate_succ, List.take_add_one, List.getElem?_eq_getElem hk]
  have hl : ((l ++ m).take k).length = k := by simp at hk ⊢; omega
  rw [List.set_append_right _ _ (by omega), hl, Nat.sub_self, List.set_cons_zero, List.getD_eq_getElem?_getD, List.getElem?_eq_getElem hk]
  simp only [Option.toList_some, Option.getD_some, List.append_assoc, List.singleton_append]

theorem both_world {w wr : World} {l m : List Nat} {k v : Nat} (hOw : Own wr w.heap.size (bothK l m k)) (hBw : Below w.heap.size w wr) (hlt : k < l.length + m.length) (hv : (l ++ m).getD k 0 = v) :
    Own (wr.setCell ⟨w.heap.size, k, none⟩ (.int .u8 (v : Int))) w.heap.size (bothK l m (k + 1)) ∧ Below w.heap.size w (wr.setCell ⟨w.heap.size, k, none⟩ (.int .u8 (v : Int))) := by
  rw [bothK_succ l m k hlt, hv]
  exact ⟨hOw.set _, hBw.setCell (Nat.le_refl _) _⟩

set_option maxRecDepth 100000 in
set_option maxHeartbeats 1600000 in
theorem both_any (a b : Option Addr) (len cap len2 cap2 : Nat) (l m : List Nat) (w : World) (hl : l.length = len) (hm : m.length = len2) (hlm : len ≤ 140737488300000) (hmm : len2 ≤ 140737488300000)
    (hL : Lies w a l) (hM : Lies w b m) :
    Calls Tryd.prog 35 #[.slice a len cap, .slice b len2 cap2] w fun e w' =>
      e = .returned (.slice (some ⟨w.heap.size, 0, none⟩) (len + len2) (len + len2)) ∧ Own w' w.heap.size (l ++ m) ∧ Below w.heap.size w w' := by
  obtain ⟨i0, hi, hz0, hz1, hz2⟩ := info_parts Tryd.info5
  have hmk := run_make (P := Tryd.prog) w 39 5 i0 (.int .u8 0) Tryd.underlying39 hi hz0 .i64 .i64 ((len : Int) + (len2 : Int)) ((len : Int) + (len2 : Int)) (by omega) (by omega) (by rw [hz2]; omega) (by omega)
  rw [hz1, show ((len : Int) + (len2 : Int)).toNat = len + len2 from by omega, Nat.mul_one, made_bytes] at hmk
  have hO1 : Own (w.alloc (.cells ((List.replicate (len + len2) 0).map byc).toArray 5)) w.heap.size (bothK l m 0) := by
    rw [bothK_zero, hl, hm]; exact heap_alloc_new w _
  have hb1 : Below w.heap.size w (w.alloc (.cells ((List.replicate (len + len2) 0).map byc).toArray 5)) := (Below.refl _ _).alloc (Nat.le_refl _) _
  have HN := Lib.hid hl
  have HM := Lib.hid hm
  clear hl hm hi hz0 hz1 hz2
  generalize w.alloc (.cells ((List.replicate (len + len2) 0).map byc).toArray 5) = w1 at *
  go_enter Tryd.func35, Tryd.ntmps35
  go_wp2
  go_loopw [6] (fun i wr => ∃ k : Nat, k ≤ len + len2 ∧ i = .int .i64 k ∧ Own wr w.heap.size (bothK l m k) ∧ Below w.heap.size w wr) (fun i _ => len + len2 - (intOf i).toNat)
  case atStart => exact ⟨0, Nat.zero_le _, rfl, hO1, hb1⟩
  case round =>
    obtain ⟨k, hk, rfl, hOw, hBw⟩ := hrel
    by_cases hlt : k < len + len2
    · have hc := hOw.cell (i := k) (by rw [length_bothK _ _ _ (by rw [HN.out, HM.out]; omega), HN.out, HM.out]; omega)
      have hf := hOw.free k
      have hL2 := hL.kept hBw
      have hM2 := hM.kept hBw
      by_cases h1 : k < len
      · rcases hL2 with h0 | ⟨g, off, rfl, hlg, hcc⟩
        · have := HN.out; rw [h0] at this; simp at this; omega
        · have hcx := hcc k (by rw [HN.out]; exact h1)
          obtain ⟨v, hv⟩ : ∃ v, l.getD k 0 = v := ⟨_, rfl⟩
          have hv2 : (l ++ m).getD k 0 = v := by rw [List.getD_eq_getElem?_getD, List.getElem?_append_left (by rw [HN.out]; exact h1), ← List.getD_eq_getElem?_getD]; exact hv
          rw [hv] at hcx
          have R := both_world hOw hBw (by rw [HN.out, HM.out]; exact hlt) hv2
          have HR := Lib.hid R
          clear R hcc hL hM hM2 hOw hBw hv hv2 hO1 hb1
          go_wp2
          go_roundw
          case rel => exact ⟨k + 1, by omega, by go_num, HR.out.1, HR.out.2⟩
          case measure => simp [intOf]; omega
      · rcases hM2 with h0 | ⟨g, off, rfl, hlg, hcc⟩
        · have := HM.out; rw [h0] at this; simp at this; omega
        · have hcx := hcc (k - len) (by rw [HM.out]; omega)
          obtain ⟨v, hv⟩ : ∃ v, m.getD (k - len) 0 = v := ⟨_, rfl⟩
          have hv2 : (l ++ m).getD k 0 = v := by rw [List.getD_eq_getElem?_getD, List.getElem?_append_right (by rw [HN.out]; omega), ← List.getD_eq_getElem?_getD, HN.out]; exact hv
          rw [hv] at hcx
          have R := both_world hOw hBw (by rw [HN.out, HM.out]; exact hlt) hv2
          have HR := Lib.hid R
          clear R hcc hL hM hL2 hOw hBw hv hv2 hO1 hb1
          go_wp2
          go_roundw
          case rel => exact ⟨k + 1, by omega, by go_num, HR.out.1, HR.out.2⟩
          case measure => simp [intOf]; omega
    · obtain rfl : k = len + len2 := by omega
      have e := bothK_all l m
      rw [HN.out, HM.out] at e
      rw [e] at hOw
      clear e
      go_wp2
      go_ret
      exact ⟨rfl, hOw, hBw⟩

/-- Draws alone. -/
def Drawn (w w' : World) : Prop := ∃ n, w' = w.drewN n
theorem Drawn.below {w w' : World} (h : Drawn w w') (B : Nat) : Below B w w' := by
  obtain ⟨n, rfl⟩ := h
  exact ⟨rfl, rfl, rfl, Nat.le_refl _, fun _ _ => rfl⟩

theorem same_all (l m : List Nat) (h : l.length = m.length) (ha : ∀ j, j < l.length → l.getD j 0 = m.getD j 0) : (l == m) = true := by
  rw [beq_iff_eq]
  apply List.ext_getElem h
  intro j h1 h2
  have := ha j h1
  simpa [h1, h2] using this
theorem same_not (l m : List Nat) (k : Nat) (ha : l.getD k 0 ≠ m.getD k 0) : (l == m) = false := by
  rw [beq_eq_false_iff_ne]
  rintro rfl
  exact ha rfl
theorem same_len (l m : List Nat) (h : l.length ≠ m.length) : (l == m) = false := by
  rw [beq_eq_false_iff_ne]
  rintro rfl
  exact h rfl

set_option maxHeartbeats 1600000 in
theorem same_any (a b : Option Addr) (len cap len2 cap2 : Nat) (l m : List Nat) (w : World) (hl : l.length = len) (hm : m.length = len2) (hlm : len ≤ 9223372036854775807) (hmm : len2 ≤ 9223372036854775807)
    (hL : Lies w a l) (hM : Lies w b m) :
    Calls Tryd.prog 16 #[.slice a len cap, .slice b len2 cap2] w fun e w' => e = .returned (.bool (l == m)) ∧ Drawn w w' := by
  by_cases hll : len = len2
  · subst hll
    have HN := Lib.hid hl
    have HM := Lib.hid hm
    clear hl hm
    go_enter Tryd.func16, Tryd.ntmps16
    go_wp2
    go_loopw [5] (fun i wr => ∃ k : Nat, k ≤ len ∧ i = .int .i64 k ∧ Hid (∀ j, j < k → l.getD j 0 = m.getD j 0) ∧ Drawn w wr) (fun i _ => len - (intOf i).toNat)
    case atStart => exact ⟨0, Nat.zero_le _, rfl, fun j hj => by omega, 0, rfl⟩
    case round =>
      obtain ⟨k, hk, rfl, hA, hD⟩ := hrel
      by_cases hlt : k < len
      · rcases hL with h0 | ⟨g, off, rfl, hlg, hcl⟩
        · have := HN.out; rw [h0] at this; simp at this; omega
        · rcases hM with h0 | ⟨g2, off2, rfl, hlg2, hcm⟩
          · have := HM.out; rw [h0] at this; simp at this; omega
          · have hx := hcl k (by rw [HN.out]; exact hlt)
            have hy := hcm k (by rw [HM.out]; exact hlt)
            obtain ⟨nq, rfl⟩ := hD
            obtain ⟨x, ex⟩ : ∃ x, l.getD k 0 = x := ⟨_, rfl⟩
            obtain ⟨y, ey⟩ : ∃ y, m.getD k 0 = y := ⟨_, rfl⟩
            rw [ex] at hx
            rw [ey] at hy
            have EX := Lib.hid ex
            have EY := Lib.hid ey
            have hlt0 : (k : Int) < (len : Int) := by omega
            clear hcl hcm ex ey
            by_cases hxy : x = y
            · subst hxy
              have HA2 := Lib.hid (show ∀ j, j < k + 1 → l.getD j 0 = m.getD j 0 from fun j hj => by
                by_cases hjk : j = k
                · subst hjk; rw [EX.out, EY.out]
                · exact hA.out j (by omega))
              go_wp2
              go_quiet (fail)
              go_wp2
              go_roundw
              case rel => exact ⟨k + 1, by omega, by go_num, HA2.out, _, rfl⟩
              case measure => simp [intOf]; omega
            · have hne : ((x : Int) != (y : Int)) = true := by rw [bne_iff_ne]; omega
              have hne2 : ((x : Int) == (y : Int)) = false := by rw [beq_eq_false_iff_ne]; omega
              have HF := Lib.hid (same_not l m k (by rw [EX.out, EY.out]; exact hxy))
              go_wp2
              go_quiet (fail)
              go_wp2
              go_ret
              exact ⟨by rw [HF.out]; rfl, _, World.drewN_drewN _ _ _⟩
      · obtain rfl : k = len := by omega
        have HF := Lib.hid (same_all l m (by rw [HN.out, HM.out]) (by rw [HN.out]; exact hA.out))
        go_wp2
        go_ret
        exact ⟨by rw [HF.out]; rfl, hD⟩
  · have HF := Lib.hid (same_len l m (by rw [hl, hm]; exact hll))
    have hne : ((len : Int) != (len2 : Int)) = true := by rw [bne_iff_ne]; omega
    have hne2 : (len != len2) = true := by rw [bne_iff_ne]; omega
    clear hl hm
    go_enter Tryd.func16, Tryd.ntmps16
    go_wp2
    go_ret
    exact ⟨by rw [HF.out]; rfl, 0, rfl⟩
end Go.Proofs.YtdbdmnahgkkjiaaDoor
