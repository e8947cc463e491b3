/-
  What a disk holds, as plain data; how it lies in memory; and the contracts of disk's functions that only read, or turn one field. Nothing here is a statement of the document.
-/
import Derived.Test.YtikdgbmdepplgaaGreatDoorOctH
import Derived.Laws.BytesArg
import Derived.Lib.Bytes
import Derived.Lib.BytesEntry
import Derived.Laws.Externs
import Derived.Test.YtikdgbmdepplgaaGreatDoorRows
import Derived.WalkKit
import Derived.ProofKit
import Derived.Lib.Hide
import Derived.Outline
import Derived.Deep.MidRow
import Derived.Deep.WholeRow
import Derived.Laws.AppendOwn
import Derived.Laws.CopyOwn
import Derived.Deep.QuietTactic
import Derived.BigQuiet
import Derived.Laws.OwnMore
namespace Go.Proofs.YtikdgbmdepplgaaGreatDoor
open Go.RowKit
set_option linter.unusedVariables false

/-- Bytes as the model's numbers. -/
def intsOf (l : List Nat) : List Int := l.map Int.ofNat
theorem length_intsOf (l : List Nat) : (intsOf l).length = l.length := by simp [intsOf]
theorem getD_intsOf (l : List Nat) (i : Nat) (h : i < l.length) : (intsOf l).getD i 0 = ((l.getD i 0 : Nat) : Int) := by
  simp [intsOf, h]
/-- Bytes as a string. -/
def strOf (l : List Nat) : ByteArray := strOfNums (intsOf l)

theorem strOf_list (l : List Nat) : (strOf l).toList = l.map UInt8.ofNat := by
  rw [Lib.toList_data, strOf, strOfNums_data, intsOf, List.map_map]
  rfl

theorem strOf_inj {l m : List Nat} (hl : Bys l) (hm : Bys m) (h2 : l.map UInt8.ofNat = m.map UInt8.ofNat) : l = m := by
  have hlen : l.length = m.length := by simpa using congrArg List.length h2
  apply List.ext_getElem hlen
  intro j h1 h3
  have e : (l.map UInt8.ofNat)[j]'(by simpa using h1) = (m.map UInt8.ofNat)[j]'(by simpa using h3) := by simp only [h2]
  simp only [List.getElem_map] at e
  have e2 := congrArg UInt8.toNat e
  have a1 := hl _ (List.getElem_mem h1)
  have a2 := hm _ (List.getElem_mem h3)
  rw [UInt8.toNat_ofNat', UInt8.toNat_ofNat'] at e2
  omega

theorem strOf_beq {l m : List Nat} (hl : Bys l) (hm : Bys m) : ((strOf l).toList == (strOf m).toList) = (l == m) := by
  rw [strOf_list, strOf_list]
  by_cases h : l = m
  · subst h; simp
  · have h2 : l.map UInt8.ofNat ≠ m.map UInt8.ofNat := fun e => h (strOf_inj hl hm e)
    rw [beq_eq_false_iff_ne.2 h, beq_eq_false_iff_ne.2 h2]

theorem conv_bytes {w : World} {a : Option Addr} {l : List Nat} {len : Nat} (cap : Nat) (h : Lies w a l) (hl : l.length = len) :
    (convert 30 9 (.slice a len cap)).run Tryz.prog w = .ok (.string (strOf l)) w := by
  rcases h with rfl | ⟨b, off, rfl, _, hc⟩
  · obtain rfl : 0 = len := hl
    rw [run_convert_bytes_string w 30 9 5 _ 0 cap Tryz.underlying30 Tryz.underlying5 Tryz.underlying9]
    cases a <;> simp [Conv.bytesToString, loadCells]
    all_goals rfl
  · exact run_convert_bytes_arg w 30 5 Tryz.underlying30 Tryz.underlying5 b off len cap (intsOf l) (by rw [length_intsOf]; exact hl) (fun i hi => by
      rw [hc i (by omega), getD_intsOf l i (by omega)]) 9 Tryz.underlying9

set_option maxHeartbeats 400000 in
theorem bequal_any (a b : Option Addr) (len cap len2 cap2 : Nat) (l m : List Nat) (w : World) (hl : l.length = len) (hm : m.length = len2) (hB : Bys l) (hC : Bys m) (hL : Lies w a l) (hM : Lies w b m) :
    Calls Tryz.prog 38 #[.slice a len cap, .slice b len2 cap2] w fun e w' => e = .returned (.bool (l == m)) ∧ w = w' := by
  have k1 := conv_bytes cap hL hl
  have k2 := conv_bytes cap2 hM hm
  have HE := Lib.hid (strOf_beq hB hC)
  clear hl hm
  generalize strOf l = s at *
  generalize strOf m = t at *
  go_enter Tryz.func38, Tryz.ntmps38
  go_wp2
  go_ret
  refine ⟨?_, rfl⟩
  rw [← HE.out]
  rfl

set_option maxHeartbeats 400000 in
theorem equal_any (a b : Option Addr) (len cap len2 cap2 : Nat) (l m : List Nat) (w : World) (hl : l.length = len) (hm : m.length = len2) (hB : Bys l) (hC : Bys m) (hL : Lies w a l) (hM : Lies w b m) :
    Calls Tryz.prog 13 #[.slice a len cap, .slice b len2 cap2] w fun e w' => e = .returned (.bool (l == m)) ∧ w = w' := by
  have HL := Lib.hid hl
  have HM := Lib.hid hm
  clear hl hm
  go_enter Tryz.func13, Tryz.ntmps13
  go_wp2_with (go_at_call 38; refine (bequal_any _ _ _ _ _ _ l m _ HL.out HM.out hB hC hL hM).mono ?_; rintro e w' ⟨rfl, rfl⟩)
  go_ret
  exact ⟨rfl, rfl⟩
end Go.Proofs.YtikdgbmdepplgaaGreatDoor
namespace Go.Proofs.YtikdgbmdepplgaaGreatDoor
open Go.RowKit
set_option linter.unusedVariables false

/-- Which of two numbers comes first. -/
def cmpN (x y : Nat) : Int := if x < y then -1 else if y < x then 1 else 0

/-- Which of two rows of bytes comes first. -/
def cmpB : List Nat → List Nat → Int
  | [], [] => 0
  | [], _ :: _ => -1
  | _ :: _, [] => 1
  | a :: l, b :: m => if a < b then -1 else if b < a then 1 else cmpB l m

theorem compare_bytes : ∀ (l m : List Nat), Bys l → Bys m → Lib.compareBytes (l.map UInt8.ofNat) (m.map UInt8.ofNat) = cmpB l m
  | [], [], _, _ => rfl
  | [], _ :: _, _, _ => rfl
  | _ :: _, [], _, _ => rfl
  | a :: l, b :: m, hl, hm => by
    have ih := compare_bytes l m (fun n h => hl n (by simp [h])) (fun n h => hm n (by simp [h]))
    have ha : a < 256 := hl a (by simp)
    have hb : b < 256 := hm b (by simp)
    have e1 : (UInt8.ofNat a < UInt8.ofNat b) ↔ a < b := by
      rw [UInt8.lt_iff_toNat_lt, UInt8.toNat_ofNat', UInt8.toNat_ofNat']; omega
    have e2 : (UInt8.ofNat b < UInt8.ofNat a) ↔ b < a := by
      rw [UInt8.lt_iff_toNat_lt, UInt8.toNat_ofNat', UInt8.toNat_ofNat']; omega
    simp only [List.map_cons, Lib.compareBytes, cmpB, e1, e2, ih]

theorem load_bytes {w : World} {ao : Option Addr} {l : List Nat} (h : Lies w ao l) (cap : Nat) :
    (Extern.Bytes.bytesOf (.slice ao l.length cap)).run Tryz.prog w = .ok (strOf l) w := by
  rcases h with rfl | ⟨b, off, rfl, _, hc⟩
  · cases ao <;> rfl
  · have h := Lib.run_loadBytesX (P := Tryz.prog) w (intsOf l) ⟨b, off, none⟩ ByteArray.empty (fun j x hj => by
      have hjl : j < l.length := by
        have := (List.getElem?_eq_some_iff.1 hj).1
        simpa [intsOf] using this
      rw [Addr.add_lit, hc j hjl]
      have : (intsOf l)[j]? = some ((l.getD j 0 : Nat) : Int) := by simp [intsOf, hjl]
      rw [this] at hj
      cases hj
      rfl)
    rw [length_intsOf] at h
    refine h.trans ?_
    congr 1
    show ByteArray.mk (#[] ++ _) = _
    simp [strOf, strOfNums, Lib.bytesOf]

set_option maxHeartbeats 400000 in
theorem bcompare_any (a b : Option Addr) (len cap len2 cap2 : Nat) (l m : List Nat) (w : World) (hl : l.length = len) (hm : m.length = len2) (hB : Bys l) (hC : Bys m) (hL : Lies w a l) (hM : Lies w b m) :
    Calls Tryz.prog 92 #[.slice a len cap, .slice b len2 cap2] w fun e w' => e = .returned (.int .i64 (cmpB l m)) ∧ w = w' := by
  have hrun : (callFunc 101 #[.slice a len cap, .slice b len2 cap2]).run Tryz.prog w = .ok (.value (.int .i64 (cmpB l m))) w := by
    subst hl
    subst hm
    rw [run_callFunc_extern Tryz.func101 (by kernel_rfl) (by kernel_rfl) (by kernel_rfl) (e := Extern.BytealgCompare.compare) (by kernel_rfl)]
    change (Sem.run Tryz.prog (do pure (goInt (Extern.BytealgCompare.cmp (← Extern.Bytes.bytesOf (.slice a l.length cap)) (← Extern.Bytes.bytesOf (.slice b m.length cap2))))) w).andThen _ = _
    simp only [Sem.run_bind, load_bytes hL, load_bytes hM, Result.andThen, Sem.run_pure]
    rw [Lib.cmp_eq, ← Lib.toList_data, ← Lib.toList_data, strOf_list, strOf_list, compare_bytes l m hB hC]
    rfl
  clear hl hm
  go_enter Tryz.func92, Tryz.ntmps92
  go_wp2
  go_ret
  exact ⟨rfl, rfl⟩

theorem cmpB_append : ∀ (l m p q : List Nat), l.length = m.length → cmpB (l ++ p) (m ++ q) = if cmpB l m = 0 then cmpB p q else cmpB l m
  | [], [], p, q, _ => by simp [cmpB]
  | [], _ :: _, _, _, h => by simp at h
  | _ :: _, [], _, _, h => by simp at h
  | a :: l, b :: m, p, q, h => by
    have ih := cmpB_append l m p q (by simpa using h)
    simp only [List.cons_append, cmpB]
    by_cases h1 : a < b
    · simp [h1]
    · by_cases h2 : b < a
      · simp [h1, h2]
      · simp [h1, h2, ih]

theorem cmpB_zero : ∀ (l m : List Nat), (l == m) = (cmpB l m == 0)
  | [], [] => rfl
  | [], _ :: _ => rfl
  | _ :: _, [] => rfl
  | a :: l, b :: m => by
    have ih := cmpB_zero l m
    simp only [cmpB, List.cons_beq_cons]
    by_cases h1 : a < b
    · have : (a == b) = false := by simp; omega
      simp [h1, this]
    · by_cases h2 : b < a
      · have : (a == b) = false := by simp; omega
        simp [h1, h2, this]
      · have : (a == b) = true := by simp; omega
        simp only [h1, h2, this, ih, if_false, Bool.true_and]

theorem highB_cons (x n : Nat) : highB x (n + 1) = (x / 2 ^ (8 * n) % 256) :: highB x n := by
  apply List.ext_getElem
  · simp [highB]
  · intro j h1 h2
    have hj : j < n + 1 := by simpa [highB] using h1
    cases j with
    | zero => simp [highB]
    | succ j =>
      simp only [highB, List.getElem_map, List.getElem_range, List.getElem_cons_succ]
      rw [show n + 1 - 1 - (j + 1) = n - 1 - j from by omega]

theorem cmpB_high (a b : Nat) : ∀ n, cmpB (highB a n) (highB b n) = cmpN (a % 2 ^ (8 * n)) (b % 2 ^ (8 * n))
  | 0 => by simp [highB, cmpB, cmpN, Nat.mod_one]
  | n + 1 => by
    have ih := cmpB_high a b n
    rw [highB_cons, highB_cons]
    simp only [cmpB, ih]
    have e : 2 ^ (8 * (n + 1)) = 2 ^ (8 * n) * 256 := by rw [show 8 * (n + 1) = 8 * n + 8 from by omega, Nat.pow_add]
    have ea := Nat.mod_mul (x := a) (a := 2 ^ (8 * n)) (b := 256)
    have eb := Nat.mod_mul (x := b) (a := 2 ^ (8 * n)) (b := 256)
    rw [e, ea, eb]
    have la : a % 2 ^ (8 * n) < 2 ^ (8 * n) := Nat.mod_lt _ (Nat.two_pow_pos _)
    have lb : b % 2 ^ (8 * n) < 2 ^ (8 * n) := Nat.mod_lt _ (Nat.two_pow_pos _)
    generalize a % 2 ^ (8 * n) = p at *
    generalize b % 2 ^ (8 * n) = q at *
    generalize a / 2 ^ (8 * n) % 256 = x at *
    generalize b / 2 ^ (8 * n) % 256 = y at *
    generalize 2 ^ (8 * n) = t at *
    unfold cmpN
    by_cases h1 : x < y
    · have h2 : p + t * x < q + t * y := by
        have : t * x + t ≤ t * y := by
          have := Nat.mul_le_mul_left t (show x + 1 ≤ y from h1)
          rw [Nat.mul_add, Nat.mul_one] at this
          exact this
        omega
      simp [h1, h2]
    · by_cases h2 : y < x
      · have h3 : q + t * y < p + t * x := by
          have : t * y + t ≤ t * x := by
            have := Nat.mul_le_mul_left t (show y + 1 ≤ x from h2)
            rw [Nat.mul_add, Nat.mul_one] at this
            exact this
          omega
        have h4 : ¬ p + t * x < q + t * y := by omega
        simp [h1, h2, h3, h4]
      · obtain rfl : x = y := by omega
        simp
end Go.Proofs.YtikdgbmdepplgaaGreatDoor
namespace Go.Proofs.YtikdgbmdepplgaaGreatDoor
open Go.RowKit
set_option linter.unusedVariables false

/-! ### Memory -/

/-- Only blocks of S have changed; new ones may have been made. -/
structure Kept (S : List Nat) (w w' : World) : Prop where
  os : w'.os = w.os
  tape : w'.tape = w.tape
  output : w'.output = w.output
  size : w.heap.size ≤ w'.heap.size
  block : ∀ k, k < w.heap.size → k ∉ S → w'.heap[k]? = w.heap[k]?

theorem Kept.refl (S : List Nat) (w : World) : Kept S w w := ⟨rfl, rfl, rfl, Nat.le_refl _, fun _ _ _ => rfl⟩
theorem Kept.trans {S : List Nat} {a b c : World} (h : Kept S a b) (k : Kept S b c) : Kept S a c :=
  ⟨k.os.trans h.os, k.tape.trans h.tape, k.output.trans h.output, Nat.le_trans h.size k.size, fun i hi hn => (k.block i (Nat.lt_of_lt_of_le hi h.size) hn).trans (h.block i hi hn)⟩
/-- The second step may have changed blocks that the first one made. -/
theorem Kept.trans2 {S T : List Nat} {a b c : World} (h : Kept S a b) (k : Kept T b c) (hT : ∀ i ∈ T, i ∈ S ∨ a.heap.size ≤ i) : Kept S a c :=
  ⟨k.os.trans h.os, k.tape.trans h.tape, k.output.trans h.output, Nat.le_trans h.size k.size, fun i hi hn =>
    (k.block i (Nat.lt_of_lt_of_le hi h.size) (fun hm => by rcases hT i hm with h1 | h1; exact hn h1; omega)).trans (h.block i hi hn)⟩
theorem Kept.more {S T : List Nat} {a b : World} (h : Kept S a b) (hT : ∀ i ∈ S, i ∈ T) : Kept T a b :=
  ⟨h.os, h.tape, h.output, h.size, fun i hi hn => h.block i hi (fun hm => hn (hT i hm))⟩
theorem Kept.drew {S : List Nat} {a b : World} (h : Kept S a b) : Kept S a b.drew := ⟨h.os, h.tape, h.output, h.size, h.block⟩
theorem Kept.drewN {S : List Nat} {a b : World} (h : Kept S a b) (n : Nat) : Kept S a (b.drewN n) := ⟨h.os, h.tape, h.output, h.size, h.block⟩
theorem Kept.alloc {S : List Nat} {a b : World} (h : Kept S a b) (o : Obj) : Kept S a (b.alloc o) :=
  h.trans ⟨rfl, rfl, rfl, by simp, fun k hk _ => Below.heap_alloc _ _ _ hk⟩
theorem Kept.setCell {S : List Nat} {a b : World} (h : Kept S a b) {p : Addr} (hp : p.block ∈ S ∨ a.heap.size ≤ p.block) (v : Value) : Kept S a (b.setCell p v) :=
  h.trans2 (T := [p.block]) ⟨rfl, rfl, rfl, by simp [World.setCell], fun k hk hn => Below.heap_setCell _ _ _ _ (by simpa using hn)⟩ (by simpa using hp)
theorem Kept.setRow {S : List Nat} {a b : World} (h : Kept S a b) {g : Nat} (hp : g ∈ S ∨ a.heap.size ≤ g) (cs : Array Value) : Kept S a (b.setRow g cs) :=
  h.trans2 (T := [g]) ⟨rfl, rfl, rfl, by simp, fun k hk hn => setRow_other b g k cs (by simpa using hn)⟩ (by simpa using hp)
theorem Kept.grown {S : List Nat} {a b c : World} {row : Option Nat} (h : Kept S a b) (hg : b.grownBy c row) (hr : ∀ k, row = some k → k ∈ S ∨ a.heap.size ≤ k) : Kept S a c :=
  h.trans2 (T := row.toList) ⟨hg.os, hg.tape, hg.output, hg.size, fun k hk hn => hg.block k hk (fun e => hn (by simp [← e]))⟩ (by intro i hi; exact hr i (by simpa using hi))
theorem Kept.of_below {a b : World} (S : List Nat) (h : Below a.heap.size a b) : Kept S a b := ⟨h.os, h.tape, h.output, h.size, fun k hk _ => h.block k hk⟩
theorem Kept.below {S : List Nat} {a b : World} {B : Nat} (h : Kept S a b) (hS : ∀ k ∈ S, B ≤ k) (hB : B ≤ a.heap.size) : Below B a b :=
  ⟨h.os, h.tape, h.output, h.size, fun k hk => h.block k (by omega) (fun hm => by have := hS k hm; omega)⟩
theorem Kept.blk {S : List Nat} {a b : World} (h : Kept S a b) {g : Nat} {o : Obj} (hg : a.heap[g]? = some o) (hn : g ∉ S) : b.heap[g]? = some o :=
  (h.block g (Array.getElem?_eq_some_iff.1 hg).1 hn).trans hg

/-- Block g holds just these cells. -/
def Blk (w : World) (g : Nat) (t : TypeId) (cs : Array Value) : Prop := w.heap[g]? = some (.cells cs t (0, 0))
theorem Blk.lt {w : World} {g : Nat} {t : TypeId} {cs : Array Value} (h : Blk w g t cs) : g < w.heap.size := (Array.getElem?_eq_some_iff.1 h).1
theorem Blk.cell {w : World} {g : Nat} {t : TypeId} {cs : Array Value} (h : Blk w g t cs) (i : Nat) : w.cell? ⟨g, i, none⟩ = cs[i]? := cell_of_row w g i cs t (0, 0) h
theorem Blk.free {w : World} {g : Nat} {t : TypeId} {cs : Array Value} (h : Blk w g t cs) (i : Nat) : w.frozen? ⟨g, i, none⟩ = false := frozen_of_row w g i cs t h
theorem Blk.new (w : World) (t : TypeId) (cs : Array Value) : Blk (w.alloc (.cells cs t)) w.heap.size t cs := heap_alloc_new w _
theorem Blk.alloc {w : World} {g : Nat} {t : TypeId} {cs : Array Value} (h : Blk w g t cs) (o : Obj) : Blk (w.alloc o) g t cs := (Below.heap_alloc w o g h.lt).trans h
theorem Blk.drew {w : World} {g : Nat} {t : TypeId} {cs : Array Value} (h : Blk w g t cs) : Blk w.drew g t cs := h
theorem Blk.set {w : World} {g : Nat} {t : TypeId} {cs : Array Value} (h : Blk w g t cs) (i : Nat) (v : Value) : Blk (w.setCell ⟨g, i, none⟩ v) g t (cs.setIfInBounds i v) := heap_setCell_same w g i cs t v h
theorem Blk.far {w : World} {g : Nat} {t : TypeId} {cs : Array Value} (h : Blk w g t cs) {p : Addr} (hp : g ≠ p.block) (v : Value) : Blk (w.setCell p v) g t cs := (Below.heap_setCell w p v g hp).trans h
theorem Blk.row {w : World} {g : Nat} {t : TypeId} {cs : Array Value} (h : Blk w g t cs) (cs' : Array Value) : Blk (w.setRow g cs') g t cs' := setRow_heap w g cs cs' t _ h
theorem Blk.kept {w w' : World} {g : Nat} {t : TypeId} {cs : Array Value} {S : List Nat} (h : Blk w g t cs) (k : Kept S w w') (hn : g ∉ S) : Blk w' g t cs := k.blk h hn
theorem Blk.ne {w : World} {g g' : Nat} {t t' : TypeId} {cs cs' : Array Value} (h : Blk w g t cs) (h' : Blk w g' t' cs') (ht : t ≠ t') : g ≠ g' := by
  rintro rfl
  unfold Blk at h h'
  rw [h] at h'
  injection h' with h'
  injection h' with _ e
  exact ht e

/-- Cells laid over others from a place on. -/
def over (C : Array Value) (o : Nat) (vs : Array Value) : Array Value := (splice C.toList o vs.toList).toArray
theorem size_over {C : Array Value} {o : Nat} {vs : Array Value} (h : o + vs.size ≤ C.size) : (over C o vs).size = C.size := by
  have := length_splice C.toList o vs.toList (by simpa using h)
  simpa [over] using this
theorem splice_get {α : Type} {L : List α} {o : Nat} {cs : List α} (h : o + cs.length ≤ L.length) (i : Nat) : (splice L o cs)[i]? = if i < o then L[i]? else if i < o + cs.length then cs[i - o]? else L[i]? := by
  unfold splice
  by_cases h1 : i < o
  · rw [if_pos h1, List.getElem?_append_left (by simp; omega), List.getElem?_take, if_pos h1]
  · have e : (L.take o).length = o := by simp; omega
    rw [if_neg h1, List.getElem?_append_right (by omega), e]
    by_cases h2 : i < o + cs.length
    · rw [if_pos h2, List.getElem?_append_left (by omega)]
    · rw [if_neg h2, List.getElem?_append_right (by omega), List.getElem?_drop]
      congr 1
      omega
theorem over_get {C vs : Array Value} {o : Nat} (h : o + vs.size ≤ C.size) (i : Nat) : (over C o vs)[i]? = if i < o then C[i]? else if i < o + vs.size then vs[i - o]? else C[i]? := by
  have e : (over C o vs)[i]? = (splice C.toList o vs.toList)[i]? := by simp [over]
  rw [e, splice_get (by simpa using h)]
  simp
theorem setCells_row {g : Nat} {t : TypeId} (vs : List Value) : ∀ (o : Nat) (w : World) (C : Array Value), Blk w g t C → o + vs.length ≤ C.size → w.setCells g o vs = w.setRow g (splice C.toList o vs).toArray := by
  induction vs with
  | nil =>
    intro o w C h _
    have e : (splice C.toList o []).toArray = C := by simp [splice]
    rw [e]
    show w = w.setRow g C
    unfold Blk at h
    have hlt := (Array.getElem?_eq_some_iff.1 h).1
    have hw : (w.setRow g C).heap = w.heap := by
      apply Array.ext_getElem?
      intro i
      by_cases hi : i = g
      · subst hi; rw [setRow_heap w i C C t _ h, h]
      · exact setRow_other w g i C hi
    cases w
    simp only [World.setRow] at hw ⊢
    simp only [hw]
  | cons v r ih =>
    intro o w C h hl
    simp only [List.length_cons] at hl
    rw [World.setCells, ih (o + 1) _ _ (h.set o v) (by simp; omega), setCell_eq_setRow w g o C t (0, 0) v h]
    have e1 : ((w.setRow g (C.setIfInBounds o v)).setRow g (splice (C.setIfInBounds o v).toList (o + 1) r).toArray) = w.setRow g (splice (C.setIfInBounds o v).toList (o + 1) r).toArray := by
      simp only [World.setRow]
      congr 1
      apply Array.ext_getElem?
      intro i
      simp only [Array.getElem?_modify]
      by_cases hi : g = i
      · subst hi
        unfold Blk at h
        simp [h]
      · simp [hi]
    rw [e1]
    congr 2
    apply List.ext_getElem?
    intro i
    rw [splice_get (by simp; omega), splice_get (by simp; omega)]
    simp only [List.length_cons, Array.toList_setIfInBounds]
    by_cases h1 : i < o
    · rw [if_pos (by omega), if_pos h1, List.getElem?_set_ne (by omega)]
    · rw [if_neg h1]
      by_cases h2 : i = o
      · subst h2
        rw [if_pos (by omega), if_pos (by omega), Nat.sub_self]
        have : i < C.size := by omega
        simp [this]
      · rw [if_neg (by omega), List.getElem?_set_ne (by omega)]
        obtain ⟨j, rfl⟩ : ∃ j, i = o + 1 + j := ⟨i - (o + 1), by omega⟩
        rw [show o + 1 + j - (o + 1) = j from by omega, show o + 1 + j - o = j + 1 from by omega, List.getElem?_cons_succ]
        by_cases h3 : j < r.length
        · rw [if_pos (by omega), if_pos (by omega)]
        · rw [if_neg (by omega), if_neg (by omega)]
theorem setCells_over {w : World} {g : Nat} {t : TypeId} {C : Array Value} (h : Blk w g t C) (o : Nat) (vs : Array Value) (hl : o + vs.size ≤ C.size) : w.setCells g o vs.toList = w.setRow g (over C o vs) :=
  setCells_row vs.toList o w C h (by simpa using hl)

section
variable {P : Program}
/-- A load of several cells out of a block that is known. -/
theorem wpList_load_blk {ops : Array Oper} {rest : List Oper} {op : Oper} {a : Act} {w : World} {Q : Exit → Act → World → Prop} (hgd : op.guard = none) (ty : TypeId) (x : Operand) (ho : op.op = .load ty x)
    (g o : Nat) (hx : a.eval x = .pointer (some ⟨g, o, none⟩)) (vs C : Array Value) (t : TypeId) (h : Blk w g t C) (hv : ∀ j, j < vs.size → C[o + j]? = vs[j]?) (d : TypeDesc)
    (hu : P.underlying ty = some d) (hd : d.isRow = true) (hi : (P.info? ty).map (·.size) = some vs.size)
    (hK : wpList P ops Q rest (a.put op.dst (.agg vs)) w) : wpList P ops Q (op :: rest) a w :=
  wpList_load_mid hgd ty x ho g o hx vs.toList d (fun j v hj => by
    have hl : j < vs.size := by simpa using (List.getElem?_eq_some_iff.1 hj).1
    rw [h.cell, hv j hl]; simpa using hj) hu hd (by simpa using hi) hK
/-- A store of several cells into a block that is known. -/
theorem wpList_store_blk {ops : Array Oper} {rest : List Oper} {op : Oper} {a : Act} {w : World} {Q : Exit → Act → World → Prop} (hgd : op.guard = none) (ty : TypeId) (x y : Operand) (ho : op.op = .store ty x y)
    (g o : Nat) (vs C : Array Value) (t : TypeId) (hx : a.eval x = .pointer (some ⟨g, o, none⟩)) (hy : a.eval y = .agg vs) (h : Blk w g t C) (hl : o + vs.size ≤ C.size)
    (hi : (P.info? ty).map (·.size) = some vs.size) (h1 : vs.all (·.oneCell') = true)
    (hK : wpList P ops Q rest (a.put op.dst undef) (w.setRow g (over C o vs))) : wpList P ops Q (op :: rest) a w := by
  refine wpList_store_mid hgd ty x y ho g o vs hx hy (fun j hj => ⟨?_, h.free _⟩) hi h1 ?_
  · rw [h.cell, Array.getElem?_eq_getElem (by omega)]; rfl
  · rw [setCells_over h o vs hl]; exact hK
end

/-! ### Blocks, rows, disks -/

/-- A block: 64 numbers. -/
structure Bk where
  l : List Int
  len : l.length = 64
def Bk.zero : Bk := ⟨List.replicate 64 0, rfl⟩
def Bk.cs (b : Bk) : Array Value := (b.l.map (Value.int .u8)).toArray
theorem Bk.size (b : Bk) : b.cs.size = 64 := by simp [Bk.cs, b.len]
theorem Bk.one (b : Bk) : b.cs.all (·.oneCell') = true := by
  rw [Array.all_eq_true_iff_forall_mem]
  intro v hv
  simp only [Bk.cs, List.mem_toArray, List.mem_map] at hv
  obtain ⟨n, _, rfl⟩ := hv
  rfl
theorem Bk.inj {a b : Bk} (h : a.cs = b.cs) : a = b := by
  obtain ⟨l, hl⟩ := a
  obtain ⟨m, hm⟩ := b
  have : l = m := by
    have h2 : l.map (Value.int .u8) = m.map (Value.int .u8) := by simpa [Bk.cs] using h
    exact (List.map_inj_right (fun x y e => by injection e)).1 h2
  subst this; rfl

/-- A row of a buffer: a sector and a block. -/
structure Rw where
  s : Nat
  b : Bk
def Rw.cs (r : Rw) : Array Value := #[Value.int .i64 (r.s : Int)] ++ r.b.cs
theorem Rw.size (r : Rw) : r.cs.size = 65 := by simp [Rw.cs, r.b.size]
theorem Rw.one (r : Rw) : r.cs.all (·.oneCell') = true := by
  have := r.b.one
  rw [Array.all_eq_true_iff_forall_mem] at this ⊢
  intro v hv
  rcases Array.mem_append.1 hv with h | h
  · obtain rfl : v = Value.int .i64 (r.s : Int) := by simpa using h
    rfl
  · exact this v h

/-- Blocks, one behind the other, as cells; rows likewise. -/
def pcs (l : List Bk) : List Value := l.flatMap fun b => b.cs.toList
def rcs (l : List Rw) : List Value := l.flatMap fun r => r.cs.toList
theorem pcs_length (l : List Bk) : (pcs l).length = l.length * 64 := by
  induction l with
  | nil => rfl
  | cons b l ih => simp only [pcs, List.flatMap_cons, List.length_append, List.length_cons] at ih ⊢; rw [ih]; have := b.size; simp; omega
theorem rcs_length (l : List Rw) : (rcs l).length = l.length * 65 := by
  induction l with
  | nil => rfl
  | cons b l ih => simp only [rcs, List.flatMap_cons, List.length_append, List.length_cons] at ih ⊢; rw [ih]; have := b.size; simp; omega
theorem pcs_one (l : List Bk) : ∀ v ∈ pcs l, v.oneCell' = true := by
  intro v hv
  obtain ⟨b, _, hb⟩ := List.mem_flatMap.1 hv
  exact Array.all_eq_true_iff_forall_mem.1 b.one v (by simpa using hb)
theorem rcs_one (l : List Rw) : ∀ v ∈ rcs l, v.oneCell' = true := by
  intro v hv
  obtain ⟨b, _, hb⟩ := List.mem_flatMap.1 hv
  exact Array.all_eq_true_iff_forall_mem.1 b.one v (by simpa using hb)
theorem flat_get {α : Type} {f : α → Array Value} {n : Nat} (hf : ∀ x, (f x).size = n) : ∀ (l : List α) (k : Nat) (x : α), l[k]? = some x → ∀ j, j < n → (l.flatMap fun y => (f y).toList)[k * n + j]? = (f x)[j]? := by
  intro l
  induction l with
  | nil => intro k x h; simp at h
  | cons y l ih =>
    intro k x h j hj
    rw [List.flatMap_cons]
    cases k with
    | zero =>
      simp only [List.getElem?_cons_zero, Option.some.injEq] at h
      subst h
      rw [List.getElem?_append_left (by simp [hf]; omega)]
      simp
    | succ k =>
      rw [List.getElem?_append_right (by simp [hf]; rw [Nat.add_mul]; omega)]
      simp only [List.getElem?_cons_succ] at h
      have := ih k x h j hj
      simp only [Array.length_toList, hf]
      rw [show (k + 1) * n + j - n = k * n + j from by rw [Nat.add_mul]; omega]
      exact this
theorem pcs_get {l : List Bk} {k : Nat} {b : Bk} (h : l[k]? = some b) {j : Nat} (hj : j < 64) : (pcs l)[k * 64 + j]? = b.cs[j]? := flat_get Bk.size l k b h j hj
theorem rcs_get {l : List Rw} {k : Nat} {r : Rw} (h : l[k]? = some r) {j : Nat} (hj : j < 65) : (rcs l)[k * 65 + j]? = r.cs[j]? := flat_get Rw.size l k r h j hj
theorem flat_set {α : Type} {f : α → Array Value} {n : Nat} (hf : ∀ x, (f x).size = n) : ∀ (l : List α) (k : Nat) (x : α), k < l.length → splice (l.flatMap fun y => (f y).toList) (k * n) (f x).toList = (l.set k x).flatMap fun y => (f y).toList := by
  intro l
  induction l with
  | nil => intro k x h; simp at h
  | cons y l ih =>
    intro k x h
    cases k with
    | zero =>
      simp [splice, List.set_cons_zero, List.flatMap_cons, hf]
    | succ k =>
      have := ih k x (by simpa using h)
      rw [List.set_cons_succ, List.flatMap_cons, List.flatMap_cons, ← this]
      have e : (k + 1) * n = (f y).toList.length + k * n := by simp [hf]; rw [Nat.add_mul]; omega
      rw [e]
      simp only [splice, Nat.add_assoc, List.take_append, List.drop_append]
      simp [List.take_of_length_le, List.drop_eq_nil_of_le, Nat.add_assoc]
theorem pcs_set {l : List Bk} {k : Nat} (b : Bk) (h : k < l.length) : splice (pcs l) (k * 64) b.cs.toList = pcs (l.set k b) := flat_set Bk.size l k b h
theorem rcs_set {l : List Rw} {k : Nat} (r : Rw) (h : k < l.length) : splice (rcs l) (k * 65) r.cs.toList = rcs (l.set k r) := flat_set Rw.size l k r h
theorem rcs_append (l m : List Rw) : rcs (l ++ m) = rcs l ++ rcs m := by simp [rcs]
theorem rcs_one_row (r : Rw) : rcs [r] = r.cs.toList := by simp [rcs]
theorem rcs_drop (l : List Rw) (k : Nat) : (rcs l).drop (k * 65) = rcs (l.drop k) := by
  induction l generalizing k with
  | nil => simp [rcs]
  | cons r l ih =>
    cases k with
    | zero => simp
    | succ k =>
      have e : (k + 1) * 65 = r.cs.toList.length + k * 65 := by have := r.size; simp [this]; omega
      rw [List.drop_succ_cons, ← ih k]
      show (r.cs.toList ++ rcs l).drop _ = _
      rw [e, List.drop_append]
      simp
end Go.Proofs.YtikdgbmdepplgaaGreatDoor
namespace Go.Proofs.YtikdgbmdepplgaaGreatDoor
open Go.RowKit
set_option linter.unusedVariables false

/-- What a disk holds. -/
structure Dk where
  plate : List Bk
  rows : List Rw
  fuse : Option Nat
  flaw : Option Nat
  dead : Bool
  ops : Int

def cdB (o : Option Nat) : Bool := o.isSome
def cdI (o : Option Nat) : Int := ((o.getD 0 : Nat) : Int)

/-- A disk's own cells. -/
def dcs (pb : Nat) (bv : Value) (D : Dk) : Array Value :=
  #[.slice (some ⟨pb, 0, none⟩) D.plate.length D.plate.length, bv, .bool (cdB D.fuse), .int .i64 (cdI D.fuse), .bool (cdB D.flaw), .int .i64 (cdI D.flaw), .bool D.dead, .int .i64 D.ops]

/-- What holds of every disk. -/
structure Dk.Ok (D : Dk) : Prop where
  pos : 1 ≤ D.plate.length
  max : D.plate.length ≤ 2048
  held : D.rows.length ≤ 8
  at_ : ∀ r ∈ D.rows, r.s < D.plate.length
  once : (D.rows.map (·.s)).Nodup
  fuse : ∀ n, D.fuse = some n → n ≤ 9223372036854775807
  flaw : ∀ n, D.flaw = some n → n ≤ 9223372036854775807

/-- The blocks of a disk. -/
def fp (p pb : Nat) (bv : Value) : List Nat := p :: pb :: bv.ownBlock.toList

/-- Only a disk's blocks have changed; its buffer is where it was, or new. -/
structure Goes (w w' : World) (p pb : Nat) (bv bv' : Value) : Prop where
  kept : Kept (fp p pb bv) w w'
  new : ∀ k, bv'.ownBlock = some k → bv.ownBlock = some k ∨ w.heap.size ≤ k

theorem Goes.refl (w : World) (p pb : Nat) (bv : Value) : Goes w w p pb bv bv := ⟨Kept.refl _ _, fun k h => .inl h⟩
theorem Goes.trans {w w' w2 : World} {p pb : Nat} {bv bv' bv2 : Value} (h : Goes w w' p pb bv bv') (k : Goes w' w2 p pb bv' bv2) : Goes w w2 p pb bv bv2 := by
  refine ⟨h.kept.trans2 k.kept (fun i hi => ?_), fun i hi => ?_⟩
  · simp only [fp, List.mem_cons, Option.mem_toList] at hi ⊢
    rcases hi with rfl | rfl | hi
    · exact .inl (.inl rfl)
    · exact .inl (.inr (.inl rfl))
    · rcases h.new i hi with h1 | h1
      · exact .inl (.inr (.inr h1))
      · exact .inr h1
  · rcases k.new i hi with h1 | h1
    · exact h.new i h1
    · exact .inr (Nat.le_trans h.kept.size h1)
theorem Goes.alloc {w w' : World} {p pb : Nat} {bv bv' : Value} (h : Goes w w' p pb bv bv') (o : Obj) : Goes w (w'.alloc o) p pb bv bv' := ⟨h.kept.alloc o, h.new⟩
theorem Goes.drew {w w' : World} {p pb : Nat} {bv bv' : Value} (h : Goes w w' p pb bv bv') : Goes w w'.drew p pb bv bv' := ⟨h.kept.drew, h.new⟩
theorem Goes.later {w w' w2 : World} {p pb : Nat} {bv bv' : Value} (h : Goes w w' p pb bv bv') (k : Below w'.heap.size w' w2) : Goes w w2 p pb bv bv' :=
  ⟨h.kept.trans (Kept.of_below _ k), h.new⟩
theorem Goes.setCell {w w' : World} {p pb : Nat} {bv bv' : Value} (h : Goes w w' p pb bv bv') (i : Nat) (v : Value) : Goes w (w'.setCell ⟨p, i, none⟩ v) p pb bv bv' :=
  ⟨h.kept.setCell (.inl (by simp [fp])) v, h.new⟩

section
variable {w w' : World} {B p pb : Nat} {bv : Value} {D : Dk}
end

/-! ### What only reads -/

/-! ### Countdowns -/

def cdOf (n : Int) : Option Nat := if n < 0 then none else some n.toNat
/-! ### reach -/

/-- Why a sector can't be asked for. -/
def reachE (D : Dk) (i : Int) : Int := if D.dead then 9 else if 0 ≤ i ∧ i < D.plate.length then 0 else 2

end Go.Proofs.YtikdgbmdepplgaaGreatDoor
