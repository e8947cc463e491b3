/-
  The contracts of cmp.Compare at two kinds and of bytes.Compare; rows of bytes in order. Nothing here is a statement of the document.
-/
import Derived.Test.YtgnpoehcmlmajaaOctE
import Derived.OpenShut
import Derived.ShutString
import Derived.ChangeOld
import Derived.Deep.QuietTactic
import Derived.BigQuiet
import Derived.BigRegion
import Derived.Laws.BytesArg
import Derived.Lib.Bytes
import Derived.Laws.AppendOwnNone
import Derived.Deep.RegionWith
import Derived.Lib.BytesEntry
import Derived.Laws.Externs
namespace Go.Proofs.Ytgnpoehcmlmajaa
open Go.RowKit
set_option linter.unusedVariables false

/-- In the variable at block x there is a slice of the call's own that holds these bytes. -/
def Out (w : World) (x : Nat) (l : List Nat) : Prop :=
  ∃ v, w.heap[x]? = some (.cells #[v] 44 (0, 0)) ∧ w.ownsRow (x + 1) 5 1 v l.length (l.map byc)

theorem out_next {x b : Nat} {l : List Nat} {w w1 : World} {v v' : Value} {o : Obj} (hx : w.heap[x]? = some (.cells #[v] 44 (0, 0))) (hown : w.ownsRow (x + 1) 5 1 v l.length (l.map byc))
    (hown' : w1.ownsRow (x + 1) 5 1 v' (l.length + 1) (l.map byc ++ [.int .u8 (b : Int)])) (hg : (w.alloc o).grownBy w1 v.ownBlock) :
    Out (w1.setCell ⟨x, 0, none⟩ v') x (l ++ [b]) ∧ Below x w (w1.setCell ⟨x, 0, none⟩ v') ∧ w1.cell? ⟨x, 0, none⟩ = some v ∧ w1.frozen? ⟨x, 0, none⟩ = false := by
  have hxl := lt_of_block hx
  have hne : some x ≠ v.ownBlock := fun e => by have := (hown.lt x e.symm).1; omega
  have hx1 : w1.heap[x]? = some (.cells #[v] 44 (0, 0)) := (hg.block x (by simp; omega) hne).trans ((Below.heap_alloc w o x hxl).trans hx)
  refine ⟨⟨v', one_setCell hx1, ?_⟩, ?_, cell_of_one hx1, free_of_one hx1⟩
  · have h := ownsRow_setCell_below hown' (a := ⟨x, 0, none⟩) (by show x < x + 1; omega) v'
    have e : (l ++ [b]).map byc = l.map byc ++ [.int .u8 (b : Int)] := by simp [byc]
    rw [e, List.length_append]
    exact h
  · exact (((Below.refl x w).alloc (by omega) o).grown hg (by simp; omega) (fun k hk => by have := (hown.lt k hk).1; omega)).setCell (Nat.le_refl _) _

/-- Below block x two worlds differ at block p at most. -/
structure Thru (p x : Nat) (w w' : World) : Prop where
  os : w'.os = w.os
  tape : w'.tape = w.tape
  output : w'.output = w.output
  size : w.heap.size ≤ w'.heap.size
  block : ∀ k, k < x → k ≠ p → w'.heap[k]? = w.heap[k]?
theorem Thru.refl (p x : Nat) (w : World) : Thru p x w w := ⟨rfl, rfl, rfl, Nat.le_refl _, fun _ _ _ => rfl⟩
theorem Thru.trans {p x : Nat} {a b c : World} (h : Thru p x a b) (k : Thru p x b c) : Thru p x a c :=
  ⟨k.os.trans h.os, k.tape.trans h.tape, k.output.trans h.output, Nat.le_trans h.size k.size, fun i h1 h2 => (k.block i h1 h2).trans (h.block i h1 h2)⟩
theorem Thru.set (p x i : Nat) (w : World) (v : Value) : Thru p x w (w.setCell ⟨p, i, none⟩ v) :=
  ⟨rfl, rfl, rfl, by simp [World.setCell], fun k h1 h2 => Below.heap_setCell _ _ _ _ h2⟩
theorem Thru.of {p x : Nat} {w w' : World} (h : Below x w w') : Thru p x w w' := ⟨h.os, h.tape, h.output, h.size, fun k hk _ => h.block k hk⟩

theorem Out.set {w : World} {p x i : Nat} {l : List Nat} (h : Out w x l) (hp : p < x) (v : Value) : Out (w.setCell ⟨p, i, none⟩ v) x l := by
  obtain ⟨u, hx, hown⟩ := h
  exact ⟨u, (Below.heap_setCell _ _ _ _ (Nat.ne_of_gt hp)).trans hx, ownsRow_setCell_below hown (a := ⟨p, i, none⟩) (by show p < x + 1; omega) v⟩

/-- A slice of the call's own, as bytes that lie. -/
theorem owns_lies {w : World} {base : Nat} {v : Value} {l : List Nat} (h : w.ownsRow base 5 1 v l.length (l.map byc)) :
    ∃ a cap, v = .slice a l.length cap ∧ Lies w a l ∧ (∀ y, a = some y → base ≤ y.block) ∧ (a = none → cap = 0) := by
  rcases h.2 with ⟨rfl, h0⟩ | ⟨g, cap, cur, rfl, hb, hg, h1, h2, h3, h4⟩
  · exact ⟨none, 0, by rw [h0], .inl (List.eq_nil_of_length_eq_zero h0), by simp, fun _ => rfl⟩
  · refine ⟨some ⟨g, 0, none⟩, cap, rfl, .inr ⟨g, 0, rfl, lt_of_block hg, fun i hi => ?_⟩, fun y hy => by cases hy; exact hb, fun e => by cases e⟩
    rw [Nat.zero_add]
    have e : cur[i]? = (l.map byc)[i]? := by
      rw [← h4, Nat.mul_one, List.getElem?_take, if_pos hi]; simp
    simp only [World.cell?, hg, e]
    simp [byc, hi]

theorem Thru.grown {p x : Nat} {w w1 w' : World} (hA : w.grownBy w1 none) (h : Thru p x w1 w') (hx : w.heap.size ≤ x) : w.grownBy w' (some p) :=
  ⟨h.os.trans hA.os, h.tape.trans hA.tape, h.output.trans hA.output, Nat.le_trans hA.size h.size,
    fun k hk hp => (h.block k (by omega) (fun e => hp (by rw [e]))).trans (hA.block k hk (by simp))⟩

/-- What Raw hands back: bytes that lie in new memory, or nothing. -/
def Handed (w w' : World) (v : Value) (l : List Nat) : Prop := ∃ a cap, v = .slice a l.length cap ∧ Lies w' a l ∧ (∀ y, a = some y → w.heap.size ≤ y.block) ∧ (a = none → cap = 0)

theorem Out.handed {w w' : World} {l : List Nat} {v : Value} (hv : w'.heap[w.heap.size]? = some (.cells #[v] 44 (0, 0))) (hown : w'.ownsRow (w.heap.size + 1) 5 1 v l.length (l.map byc)) : Handed w w' v l := by
  obtain ⟨a, cap, h1, h2, h3, h4⟩ := owns_lies hown
  exact ⟨a, cap, h1, h2, fun y hy => by have := h3 y hy; omega, h4⟩

end Go.Proofs.Ytgnpoehcmlmajaa
namespace Go.Proofs.Ytgnpoehcmlmajaa
open Go.RowKit
set_option linter.unusedVariables false

set_option maxHeartbeats 400000 in
theorem refbit_any (a : Option Addr) (len cap : Nat) (l : List Nat) (k : Int) (w : World) (hl : l.length = len) (hlm : len ≤ 281474976710000) (hB : Bys l) (hL : Lies w a l)
    (h1 : -9223372036854775808 ≤ k) (h2 : k ≤ 9223372036854775807) :
    Calls Try.prog 86 #[.slice a len cap, .int .i64 k] w fun e w' => e = .returned (.bool (bitB l k)) ∧ w = w' := by
  have Hl := Lib.hid hl
  clear hl
  by_cases hk : k < 0
  · have Hr := Lib.hid (bitB_neg (l := l) hk)
    have hk' : decide (0 ≤ k) = false := by simpa using hk
    go_enter Try.func86, Try.ntmps86
    go_wp2
    go_ret
    exact ⟨by rw [Hr.out]; rfl, rfl⟩
  · obtain ⟨n, rfl⟩ := Int.eq_ofNat_of_zero_le (by omega : 0 ≤ k)
    have hk' : decide ((0 : Int) ≤ (n : Int)) = true := by simp
    by_cases hn : n / 8 < len
    · have hn' : decide ((n : Int) < 8 * (len : Int)) = true := by simp; omega
      rcases hL with hL | ⟨b, off, rfl, hlt, hc⟩
      · have := Hl.out; rw [hL] at this; simp at this; omega
      · have hlen := Hl.out
        have hc' := hc (len - 1 - n / 8) (by omega)
        have hx := hB.at (len - 1 - n / 8)
        have Hr := Lib.hid (bitB_some (l := l) (k := n) (by omega))
        have Hm := Lib.hid (mask_u8 (l.getD (len - 1 - n / 8) 0) (n % 8) hx)
        clear hlen hc
        generalize hg : l.getD (len - 1 - n / 8) 0 = x at *
        have Hg := Lib.hid hg
        clear hg
        go_enter Try.func86, Try.ntmps86
        go_wp2
        go_ret
        refine ⟨?_, rfl⟩
        have e := Hm.out
        rw [Hr.out, Hl.out, Hg.out, ← e]
        rfl
    · have hn' : decide ((n : Int) < 8 * (len : Int)) = false := by simp; omega
      have Hr := Lib.hid (bitB_none (l := l) (k := (n : Int)) (by have := Hl.out; simp; omega))
      go_enter Try.func86, Try.ntmps86
      go_wp2
      go_ret
      exact ⟨by rw [Hr.out]; rfl, rfl⟩

/-- WHAT THE WALK IS TOLD OF A SLICE OF INTEGERS THAT CAME IN: it is nil; or it leads to a row of 'cap' cells, the numbers 'zs' (the first 'len' are its elements, the rest its spare room), each fitting its kind. -/
def IsRow (k : IntKind) (w : World) (a : Option Addr) (len cap : Nat) (zs : List Int) : Prop :=
  (a = none ∧ len = 0 ∧ cap = 0 ∧ zs = []) ∨
  ∃ x, a = some x ∧ len ≤ cap ∧ cap ≤ maxLen ∧ zs.length = cap ∧ (∀ i, i < zs.length → w.cell? (x.add i) = some (.int k (zs.getD i 0))) ∧ ∀ n ∈ zs, (Lit.int k n).wf = true

/-- Numbers that lie at an address, of one kind. -/
def Nums (k : IntKind) (w : World) (a : Option Addr) (zs : List Int) : Prop :=
  zs = [] ∨ ∃ b off, a = some ⟨b, off, none⟩ ∧ b < w.heap.size ∧ ∀ i, i < zs.length → w.cell? ⟨b, off + i, none⟩ = some (.int k (zs.getD i 0))

theorem Nums.kept {k : IntKind} {w w' : World} {a : Option Addr} {zs : List Int} (h : Nums k w a zs) (hb : Below w.heap.size w w') : Nums k w' a zs := by
  rcases h with rfl | ⟨b, off, rfl, hlt, hc⟩
  · exact .inl rfl
  · exact .inr ⟨b, off, rfl, Nat.lt_of_lt_of_le hlt hb.size, fun i hi => (hb.cell (p := ⟨b, off + i, none⟩) hlt).trans (hc i hi)⟩

theorem IsRow.nums {k : IntKind} {w : World} {a : Option Addr} {len cap : Nat} {zs : List Int} (h : IsRow k w a len cap zs) :
    ∃ ys : List Int, ys.length = len ∧ len ≤ 9223372036854775807 ∧ Nums k w a ys ∧ ∀ n ∈ ys, (Lit.int k n).wf = true := by
  rcases h with ⟨rfl, rfl, rfl, rfl⟩ | ⟨x, rfl, hl, hm, hz, hc, hw⟩
  · exact ⟨[], rfl, by omega, .inl rfl, by simp⟩
  · refine ⟨zs.take len, by simp; omega, by unfold maxLen at hm; omega, ?_, fun n hn => hw n (List.mem_of_mem_take hn)⟩
    by_cases h0 : len = 0
    · subst h0; exact .inl (by simp)
    · have hc0 := hc 0 (by omega)
      obtain ⟨b, off, spot⟩ := x
      have hspot : spot = none := by simpa [Addr.add] using World.cell?_spot hc0
      subst hspot
      have hlt := World.block_lt_of_cell? w _ hc0
      refine .inr ⟨b, off, rfl, hlt, fun i hi => ?_⟩
      have hi2 : i < len := by simpa using (Nat.lt_of_lt_of_le hi (List.length_take_le _ _))
      have := hc i (by omega)
      rw [Addr.add_lit] at this
      rw [this]
      simp [hi2]

theorem IsRow.bytes {w : World} {a : Option Addr} {len cap : Nat} {zs : List Int} (h : IsRow .u8 w a len cap zs) :
    ∃ l : List Nat, l.length = len ∧ len ≤ 9223372036854775807 ∧ Lies w a l ∧ Bys l := by
  obtain ⟨ys, hl, hm, hN, hw⟩ := h.nums
  have hr : ∀ n ∈ ys, 0 ≤ n ∧ n ≤ 255 := fun n hn => bounds_u8 (hw n hn)
  refine ⟨ys.map Int.toNat, by simpa using hl, hm, ?_, ?_⟩
  · rcases hN with rfl | ⟨b, off, rfl, hlt, hc⟩
    · exact .inl rfl
    · refine .inr ⟨b, off, rfl, hlt, fun i hi => ?_⟩
      have hi2 : i < ys.length := by simpa using hi
      have hb := hr _ (List.getElem_mem hi2)
      rw [hc i hi2]
      simp [hi2]
      omega
  · intro n hn
    obtain ⟨m, hm, rfl⟩ := List.mem_map.1 hn
    have := hr m hm
    omega
end Go.Proofs.Ytgnpoehcmlmajaa
namespace Go.Proofs.Ytgnpoehcmlmajaa
open Go.RowKit
set_option linter.unusedVariables false

/-- What 'Both' has made when k bytes are laid. -/
def bothK (l m : List Nat) (k : Nat) : List Nat := (l ++ m).take k ++ List.replicate (l.length + m.length - k) 0

theorem bothK_zero (l m : List Nat) : bothK l m 0 = List.replicate (l.length + m.length) 0 := by simp [bothK]
theorem bothK_all (l m : List Nat) : bothK l m (l.length + m.length) = l ++ m := by
  rw [bothK, List.take_of_length_le (by simp)]; simp
theorem length_bothK (l m : List Nat) (k : Nat) (h : k ≤ l.length + m.length) : (bothK l m k).length = l.length + m.length := by
  simp [bothK]; omega
theorem bothK_succ (l m : List Nat) (k : Nat) (h : k < l.length + m.length) : bothK l m (k + 1) = (bothK l m k).set k ((l ++ m).getD k 0) := by
  have hk : k < (l ++ m).length := by simpa using h
  unfold bothK
  have e : l.length + m.length - k = (l.length + m.length - (k + 1)) + 1 := by omega
  rw [e, List.replicate_succ, List.take_add_one, List.getElem?_eq_getElem hk]
  have hl : ((l ++ m).take k).length = k := by simp at hk ⊢; omega
  rw [List.set_append_right _ _ (by omega), hl, Nat.sub_self, List.set_cons_zero, List.getD_eq_getElem?_getD, List.getElem?_eq_getElem hk]
  simp only [Option.toList_some, Option.getD_some, List.append_assoc, List.singleton_append]

theorem both_world {w wr : World} {l m : List Nat} {k v : Nat} (hOw : Own wr w.heap.size (bothK l m k)) (hBw : Below w.heap.size w wr) (hlt : k < l.length + m.length) (hv : (l ++ m).getD k 0 = v) :
    Own (wr.setCell ⟨w.heap.size, k, none⟩ (.int .u8 (v : Int))) w.heap.size (bothK l m (k + 1)) ∧ Below w.heap.size w (wr.setCell ⟨w.heap.size, k, none⟩ (.int .u8 (v : Int))) := by
  rw [bothK_succ l m k hlt, hv]
  exact ⟨hOw.set _, hBw.setCell (Nat.le_refl _) _⟩

/-- Draws alone. -/
def Drawn (w w' : World) : Prop := ∃ n, w' = w.drewN n
theorem Drawn.below {w w' : World} (h : Drawn w w') (B : Nat) : Below B w w' := by
  obtain ⟨n, rfl⟩ := h
  exact ⟨rfl, rfl, rfl, Nat.le_refl _, fun _ _ => rfl⟩

theorem same_all (l m : List Nat) (h : l.length = m.length) (ha : ∀ j, j < l.length → l.getD j 0 = m.getD j 0) : (l == m) = true := by
  rw [beq_iff_eq]
  apply List.ext_getElem h
  intro j h1 h2
  have := ha j h1
  simpa [h1, h2] using this
theorem same_not (l m : List Nat) (k : Nat) (ha : l.getD k 0 ≠ m.getD k 0) : (l == m) = false := by
  rw [beq_eq_false_iff_ne]
  rintro rfl
  exact ha rfl
theorem same_len (l m : List Nat) (h : l.length ≠ m.length) : (l == m) = false := by
  rw [beq_eq_false_iff_ne]
  rintro rfl
  exact h rfl

end Go.Proofs.Ytgnpoehcmlmajaa
namespace Go.Proofs.Ytgnpoehcmlmajaa
open Go.RowKit
set_option linter.unusedVariables false

/-- Bytes as the model's numbers. -/
def intsOf (l : List Nat) : List Int := l.map Int.ofNat
theorem length_intsOf (l : List Nat) : (intsOf l).length = l.length := by simp [intsOf]
theorem getD_intsOf (l : List Nat) (i : Nat) (h : i < l.length) : (intsOf l).getD i 0 = ((l.getD i 0 : Nat) : Int) := by
  simp [intsOf, h]
/-- Bytes as a string. -/
def strOf (l : List Nat) : ByteArray := strOfNums (intsOf l)

theorem strOf_list (l : List Nat) : (strOf l).toList = l.map UInt8.ofNat := by
  rw [Lib.toList_data, strOf, strOfNums_data, intsOf, List.map_map]
  rfl

theorem strOf_inj {l m : List Nat} (hl : Bys l) (hm : Bys m) (h2 : l.map UInt8.ofNat = m.map UInt8.ofNat) : l = m := by
  have hlen : l.length = m.length := by simpa using congrArg List.length h2
  apply List.ext_getElem hlen
  intro j h1 h3
  have e : (l.map UInt8.ofNat)[j]'(by simpa using h1) = (m.map UInt8.ofNat)[j]'(by simpa using h3) := by simp only [h2]
  simp only [List.getElem_map] at e
  have e2 := congrArg UInt8.toNat e
  have a1 := hl _ (List.getElem_mem h1)
  have a2 := hm _ (List.getElem_mem h3)
  rw [UInt8.toNat_ofNat', UInt8.toNat_ofNat'] at e2
  omega

theorem strOf_beq {l m : List Nat} (hl : Bys l) (hm : Bys m) : ((strOf l).toList == (strOf m).toList) = (l == m) := by
  rw [strOf_list, strOf_list]
  by_cases h : l = m
  · subst h; simp
  · have h2 : l.map UInt8.ofNat ≠ m.map UInt8.ofNat := fun e => h (strOf_inj hl hm e)
    rw [beq_eq_false_iff_ne.2 h, beq_eq_false_iff_ne.2 h2]

theorem conv_bytes {w : World} {a : Option Addr} {l : List Nat} {len : Nat} (cap : Nat) (h : Lies w a l) (hl : l.length = len) :
    (convert 44 9 (.slice a len cap)).run Try.prog w = .ok (.string (strOf l)) w := by
  rcases h with rfl | ⟨b, off, rfl, _, hc⟩
  · obtain rfl : 0 = len := hl
    rw [run_convert_bytes_string w 44 9 5 _ 0 cap Try.underlying44 Try.underlying5 Try.underlying9]
    cases a <;> simp [Conv.bytesToString, loadCells]
    all_goals rfl
  · exact run_convert_bytes_arg w 44 5 Try.underlying44 Try.underlying5 b off len cap (intsOf l) (by rw [length_intsOf]; exact hl) (fun i hi => by
      rw [hc i (by omega), getD_intsOf l i (by omega)]) 9 Try.underlying9

set_option maxHeartbeats 400000 in
theorem bequal_any (a b : Option Addr) (len cap len2 cap2 : Nat) (l m : List Nat) (w : World) (hl : l.length = len) (hm : m.length = len2) (hB : Bys l) (hC : Bys m) (hL : Lies w a l) (hM : Lies w b m) :
    Calls Try.prog 37 #[.slice a len cap, .slice b len2 cap2] w fun e w' => e = .returned (.bool (l == m)) ∧ w = w' := by
  have k1 := conv_bytes cap hL hl
  have k2 := conv_bytes cap2 hM hm
  have HE := Lib.hid (strOf_beq hB hC)
  clear hl hm
  generalize strOf l = s at *
  generalize strOf m = t at *
  go_enter Try.func37, Try.ntmps37
  go_wp2
  go_ret
  refine ⟨?_, rfl⟩
  rw [← HE.out]
  rfl

end Go.Proofs.Ytgnpoehcmlmajaa
namespace Go.Proofs.Ytgnpoehcmlmajaa
open Go.RowKit
set_option linter.unusedVariables false

/-- Bytes that lie somewhere, appended to a row of the call's own. -/
theorem wpList_append_got {w : World} {ops : Array Oper} {rest : List Oper} {o : Oper} {a : Act} {Q : Exit → Act → World → Prop} (hgd : o.guard = none) (s x : Operand)
    (ho : o.op = .call { callee := .builtin .append, args := #[s, x], argTypes := #[44, 44] })
    (base : Nat) (v : Value) (n : Nat) (xs : List Value) (hs : a.eval s = v) (hown : w.ownsRow base 5 1 v n xs) (ao : Option Addr) (cap : Nat) (l : List Nat)
    (hx : a.eval x = .slice ao l.length cap) (hL : Lies w ao l) (hcap : ao = none → cap = 0) (hlen : n + l.length ≤ 140737488355328) (hbase : base ≤ w.heap.size)
    (h : ∀ v' w', w'.ownsRow base 5 1 v' (n + l.length) (xs ++ l.map byc) → w.grownBy w' v.ownBlock → wpList Try.prog ops Q rest (a.put o.dst v') w') : wpList Try.prog ops Q (o :: rest) a w := by
  obtain ⟨i0, hi, hz0, hz1, hz2⟩ := info_parts Try.info5
  cases ao with
  | none =>
    have hc := hcap rfl
    obtain rfl : l = [] := by
      rcases hL with h | ⟨_, _, h, _⟩
      · exact h
      · cases h
    subst hc
    refine wpList_append_own_none hgd s x 44 ho base 5 i0 1 Try.underlying44 hi v n xs hs hown hx (h v w (by simpa using hown) (World.grownBy.refl _ _))
  | some ad =>
    refine wpList_append_own w hgd s x 44 ho base 5 i0 (.int .u8 0) 1 1 Try.underlying44 hi hz0 hz1 hz2 rfl (by decide) v n xs hs hown ad l.length cap (l.map byc) hx (by simp) ?_ (byc_one l) (by unfold maxLen; omega) (by omega) hbase (fun v' w' h1 h2 _ => h v' w' h1 h2)
    intro j u hj
    by_cases h0 : l = []
    · subst h0; simp at hj
    · obtain ⟨ad', e, hc⟩ := hL.cells (by rcases l with _ | _; exact absurd rfl h0; simp)
      cases e
      exact hc j u hj

/-- Two readers of the same bytes; from the one j bytes are off, and they lie, one behind the other, in a row of the call's own. -/
structure St (w0 w : World) (B p g p2 g2 : Nat) (L : List Nat) (j : Nat) (err : Int) (v : Value) : Prop where
  r : Rd w p g L j err
  s : Rd w p2 g2 L 0 0
  own : w.ownsRow B 5 1 v j ((L.take j).map byc)
  hb : Below w0.heap.size w0 w
  hB : B ≤ w.heap.size

theorem St.taken {w0 w w' : World} {B p g p2 g2 j : Nat} {L : List Nat} {err : Int} {v : Value} (h : St w0 w B p g p2 g2 L j err v) (h0 : w0.heap.size ≤ p) (h2 : p < g2) (h3 : g2 < p2) (h4 : p2 < B)
    (hg : w.grownBy w' (some p)) : w'.ownsRow B 5 1 v j ((L.take j).map byc) ∧ Rd w' p2 g2 L 0 0 ∧ Below w0.heap.size w0 w' ∧ B ≤ w'.heap.size := by
  have hs := h.hb.size
  have hB := h.hB
  refine ⟨h.own.kept hg ?_, h.s.kept (hg.block p2 h.s.lt (by intro e; cases e; omega)) (hg.block g2 h.s.own.lt (by intro e; cases e; omega)), h.hb.grown hg hs (fun k hk => by cases hk; exact h0), Nat.le_trans hB hg.size⟩
  cases hv : v.ownBlock with
  | none => exact .inl rfl
  | some k =>
    right
    intro e
    cases e
    have := (h.own.lt p hv).1
    omega

theorem St.joined {w0 w' w1 : World} {B p g p2 g2 j j' : Nat} {L c : List Nat} {err' : Int} {v v' : Value} (h1 : g < p) (h2 : p < g2) (h3 : g2 < p2) (h4 : p2 < B) (h0 : w0.heap.size ≤ B)
    (hr : Rd w' p g L j' err') (hs : Rd w' p2 g2 L 0 0) (hown : w'.ownsRow B 5 1 v j ((L.take j).map byc)) (hb : Below w0.heap.size w0 w') (hB : B ≤ w'.heap.size)
    (hown' : w1.ownsRow B 5 1 v' (j + c.length) ((L.take j).map byc ++ c.map byc)) (hg : w'.grownBy w1 v.ownBlock) (hc : L.take j ++ c = L.take j') (hj : j + c.length = j') : St w0 w1 B p g p2 g2 L j' err' v' := by
  have hne : ∀ k, k < B → some k ≠ v.ownBlock := fun k hk e => by have := (hown.lt k e.symm).1; omega
  refine ⟨hr.kept (hg.block p hr.lt (hne p (by omega))) (hg.block g hr.own.lt (hne g (by omega))), hs.kept (hg.block p2 hs.lt (hne p2 (by omega))) (hg.block g2 hs.own.lt (hne g2 (by omega))), ?_, hb.grown hg hb.size (fun k hk => by have := (hown.lt k hk).1; omega), Nat.le_trans hB hg.size⟩
  rw [← List.map_append, hc, hj] at hown'
  exact hown'
end Go.Proofs.Ytgnpoehcmlmajaa
namespace Go.Proofs.Ytgnpoehcmlmajaa
open Go.RowKit
set_option linter.unusedVariables false

theorem byte_bit (x k : Nat) : x / 2 ^ (8 * (k / 8)) % 256 / 2 ^ (k % 8) % 2 = x / 2 ^ k % 2 := by
  have h8 : k % 8 < 8 := Nat.mod_lt _ (by omega)
  have e : x / 2 ^ k = x / 2 ^ (8 * (k / 8)) / 2 ^ (k % 8) := by
    rw [Nat.div_div_eq_div_mul, ← Nat.pow_add]
    congr 2
    omega
  rw [e]
  generalize x / 2 ^ (8 * (k / 8)) = a
  have : k % 8 = 0 ∨ k % 8 = 1 ∨ k % 8 = 2 ∨ k % 8 = 3 ∨ k % 8 = 4 ∨ k % 8 = 5 ∨ k % 8 = 6 ∨ k % 8 = 7 := by omega
  rcases this with h | h | h | h | h | h | h | h <;> rw [h] <;> omega

theorem high_at (x n i : Nat) (hi : i < n) : (highB x n).getD (n - 1 - i) 0 = x / 2 ^ (8 * i) % 256 := by
  have h1 : n - 1 - i < (highB x n).length := by rw [length_highB]; omega
  rw [List.getD_eq_getElem?_getD, List.getElem?_eq_getElem h1]
  simp only [highB, List.getElem_map, List.getElem_range, Option.getD_some]
  rw [show n - 1 - (n - 1 - i) = i from by omega]

/-- A bit of what goes behind: below, of the number; from there on, of what stood ahead. -/
theorem bitB_behind (l : List Nat) (x n k : Nat) : bitB (l ++ highB x n) (k : Int) = if k < 8 * n then x / 2 ^ k % 2 == 1 else bitB l ((k - 8 * n : Nat) : Int) := by
  by_cases h : k < 8 * n
  · rw [if_pos h, bitB_some (by rw [List.length_append, length_highB]; omega), List.length_append, length_highB]
    have e : (l ++ highB x n).getD (l.length + n - 1 - k / 8) 0 = (highB x n).getD (n - 1 - k / 8) 0 := by
      rw [List.getD_eq_getElem?_getD, List.getD_eq_getElem?_getD, List.getElem?_append_right (by omega)]
      congr 2
      omega
    rw [e, high_at x n (k / 8) (by omega), byte_bit]
  · rw [if_neg h]
    by_cases h2 : k / 8 < l.length + n
    · rw [bitB_some (by rw [List.length_append, length_highB]; omega), bitB_some (by omega), List.length_append, length_highB]
      have e : (l ++ highB x n).getD (l.length + n - 1 - k / 8) 0 = l.getD (l.length - 1 - (k - 8 * n) / 8) 0 := by
        rw [List.getD_eq_getElem?_getD, List.getD_eq_getElem?_getD, List.getElem?_append_left (by omega)]
        congr 2
        omega
      rw [e, show (k - 8 * n) % 8 = k % 8 from by omega]
    · rw [bitB_none (by rw [List.length_append, length_highB]; simp; omega), bitB_none (by simp; omega)]

theorem bitB_nil (k : Int) : bitB [] k = false := by
  by_cases h : k < 0
  · exact bitB_neg h
  · exact bitB_none (by simp)

theorem low_bits (x k m : Nat) (h : k < m) : x % 2 ^ m / 2 ^ k % 2 = x / 2 ^ k % 2 := by
  have e : 2 ^ m = 2 ^ k * (2 * 2 ^ (m - k - 1)) := by
    rw [← Nat.pow_succ', ← Nat.pow_add]
    congr 1
    omega
  rw [e, Nat.mod_mul_right_div_self, Nat.mod_mul_right_mod]

theorem mask_u64 (x i : Nat) (hx : x < 18446744073709551616) : (bits .and .u64 ((x : Int) / 2 ^ i) 1 == 1) = (x / 2 ^ i % 2 == 1) := by
  have hd : x / 2 ^ i < 18446744073709551616 := Nat.lt_of_le_of_lt (Nat.div_le_self _ _) hx
  have e := u64_and_nat (x / 2 ^ i) 1 hd (by omega)
  have e2 : ((x / 2 ^ i : Nat) : Int) = (x : Int) / 2 ^ i := by simp
  rw [e2] at e
  have e1 : ((1 : Nat) : Int) = 1 := rfl
  rw [e1] at e
  rw [e, Nat.and_one_is_mod]
  rw [Bool.eq_iff_iff]; simp; omega
theorem mask_u16 (x i : Nat) (hx : x < 65536) : (bits .and .u16 ((x : Int) / 2 ^ i) 1 == 1) = (x / 2 ^ i % 2 == 1) := by
  have hd : x / 2 ^ i < 65536 := Nat.lt_of_le_of_lt (Nat.div_le_self _ _) hx
  have e := u16_and_nat (x / 2 ^ i) 1 hd (by omega)
  have e2 : ((x / 2 ^ i : Nat) : Int) = (x : Int) / 2 ^ i := by simp
  rw [e2] at e
  have e1 : ((1 : Nat) : Int) = 1 := rfl
  rw [e1] at e
  rw [e, Nat.and_one_is_mod]
  rw [Bool.eq_iff_iff]; simp; omega

end Go.Proofs.Ytgnpoehcmlmajaa
namespace Go.Proofs.Ytgnpoehcmlmajaa
open Go.RowKit
set_option linter.unusedVariables false
set_option maxRecDepth 100000

theorem high_bit_off (x n k : Nat) (h : x / 2 ^ k % 2 = 0) : highB (x % 2 ^ (k + 1)) n = highB (x % 2 ^ k) n := by
  have e : x % 2 ^ (k + 1) = x % 2 ^ k := by rw [Nat.mod_pow_succ, h]; omega
  rw [e]

theorem high_or (a k i : Nat) (ha : a < 2 ^ k) (hi : i ≠ k / 8) : (a + 2 ^ k) / 2 ^ (8 * i) % 256 = a / 2 ^ (8 * i) % 256 := by
  by_cases h : i < k / 8
  · have e : 2 ^ k = 2 ^ (8 * i) * (2 ^ (k - 8 * i - 8) * 256) := by
      rw [show (256 : Nat) = 2 ^ 8 from rfl, ← Nat.pow_add, ← Nat.pow_add]; congr 1; omega
    rw [e, Nat.add_mul_div_left _ _ (Nat.two_pow_pos _), Nat.add_mul_mod_self_right]
  · have h1 : 2 ^ (k + 1) ≤ 2 ^ (8 * i) := Nat.pow_le_pow_right (by omega) (by omega)
    have h2 : 2 ^ (k + 1) = 2 ^ k * 2 := Nat.pow_succ ..
    rw [Nat.div_eq_of_lt (by omega), Nat.div_eq_of_lt (by omega)]

theorem high_or_at (a k : Nat) (ha : a < 2 ^ k) : (a + 2 ^ k) / 2 ^ (8 * (k / 8)) % 256 = a / 2 ^ (8 * (k / 8)) % 256 + 2 ^ (k % 8) ∧ a / 2 ^ (8 * (k / 8)) % 256 < 2 ^ (k % 8) ∧ 2 ^ (k % 8) ≤ 128 := by
  have e : 2 ^ k = 2 ^ (8 * (k / 8)) * 2 ^ (k % 8) := by rw [← Nat.pow_add]; congr 1; omega
  have h1 : a / 2 ^ (8 * (k / 8)) < 2 ^ (k % 8) := by
    rw [Nat.div_lt_iff_lt_mul (Nat.two_pow_pos _), Nat.mul_comm, ← e]; exact ha
  have h2 : 2 ^ (k % 8) ≤ 2 ^ 7 := Nat.pow_le_pow_right (by omega) (by omega)
  have h3 : (2 : Nat) ^ 7 = 128 := rfl
  rw [e, Nat.add_mul_div_left _ _ (Nat.two_pow_pos _)]
  rw [h3] at h2
  clear e ha h3
  generalize a / 2 ^ (8 * (k / 8)) = b at *
  generalize 2 ^ (k % 8) = c at *
  omega

theorem high_bit_on (x n k : Nat) (h : x / 2 ^ k % 2 = 1) (hk : k / 8 < n) :
    highB (x % 2 ^ (k + 1)) n = (highB (x % 2 ^ k) n).set (n - 1 - k / 8) ((highB (x % 2 ^ k) n).getD (n - 1 - k / 8) 0 ||| 2 ^ (k % 8)) ∧ (highB (x % 2 ^ k) n).getD (n - 1 - k / 8) 0 < 256 ∧ 2 ^ (k % 8) ≤ 128 := by
  have e : x % 2 ^ (k + 1) = x % 2 ^ k + 2 ^ k := by rw [Nat.mod_pow_succ, h]; omega
  have ha : x % 2 ^ k < 2 ^ k := Nat.mod_lt _ (Nat.two_pow_pos _)
  rw [e]
  generalize x % 2 ^ k = a at *
  obtain ⟨h1, h2, h3⟩ := high_or_at a k ha
  rw [high_at a n (k / 8) hk]
  have h5 : a / 2 ^ (8 * (k / 8)) % 256 ||| 2 ^ (k % 8) = (a + 2 ^ k) / 2 ^ (8 * (k / 8)) % 256 := by
    rw [h1, Nat.or_comm, nat_join (k % 8) _ _ (by simp) h2, Nat.add_comm]
  refine ⟨?_, by omega, h3⟩
  apply List.ext_getElem
  · simp [highB]
  · intro j hj1 hj2
    have hjn : j < n := by simpa [highB] using hj1
    rw [List.getElem_set]
    by_cases hj : n - 1 - k / 8 = j
    · rw [if_pos hj, h5]
      subst hj
      simp only [highB, List.getElem_map, List.getElem_range]
      rw [show n - 1 - (n - 1 - k / 8) = k / 8 from by omega]
    · rw [if_neg hj]
      simp only [highB, List.getElem_map, List.getElem_range]
      exact high_or a k _ ha (by omega)

theorem high_mod (x n : Nat) : highB (x % 2 ^ (8 * n)) n = highB x n := by
  apply List.ext_getElem
  · simp [highB]
  · intro j hj1 hj2
    have hjn : j < n := by simpa [highB] using hj1
    simp only [highB, List.getElem_map, List.getElem_range]
    have e : 2 ^ (8 * n) = 2 ^ (8 * (n - 1 - j)) * (256 * 2 ^ (8 * j)) := by
      rw [show (256 : Nat) = 2 ^ 8 from rfl, ← Nat.pow_add, ← Nat.pow_add]; congr 1; omega
    rw [e, Nat.mod_mul_right_div_self, Nat.mod_mul_right_mod]

set_option maxHeartbeats 1600000 in
theorem high_any (x : Nat) (m : Int) (w : World) (hx : x ≤ 18446744073709551615) (hm0 : 0 ≤ m) (hm8 : m ≤ 8) :
    Calls Try.prog 66 #[.int .u64 x, .int .i64 m] w fun e w' =>
      e = .returned (.slice (some ⟨w.heap.size, 0, none⟩) m.toNat m.toNat) ∧ Own w' w.heap.size (highB x m.toNat) ∧ Below w.heap.size w w' := by
  obtain ⟨n, rfl⟩ := Int.eq_ofNat_of_zero_le hm0
  obtain ⟨i0, hi, hz0, hz1, hz2⟩ := info_parts Try.info5
  have hmk := run_make (P := Try.prog) w 44 5 i0 (.int .u8 0) Try.underlying44 hi hz0 .i64 .i64 (n : Int) (n : Int) (by omega) (by omega) (by rw [hz2]; omega) (by omega)
  rw [hz1, show (n : Int).toNat = n from by omega, Nat.mul_one, made_bytes] at hmk
  have hO1 : Own (w.alloc (.cells ((List.replicate n 0).map byc).toArray 5)) w.heap.size (highB (x % 2 ^ 0) n) := by
    have e : highB (x % 2 ^ 0) n = List.replicate n 0 := by
      apply List.ext_getElem
      · simp [highB]
      · intro j h1 h2; simp [highB, Nat.mod_one]
    rw [e]; exact heap_alloc_new w _
  have hb1 : Below w.heap.size w (w.alloc (.cells ((List.replicate n 0).map byc).toArray 5)) := (Below.refl _ _).alloc (Nat.le_refl _) _
  clear hi hz0 hz1 hz2
  generalize w.alloc (.cells ((List.replicate n 0).map byc).toArray 5) = w1 at *
  go_enter Try.func66, Try.ntmps66
  go_wp2
  go_loopw [6] (fun i wr => ∃ k : Nat, k ≤ 8 * n ∧ i = .int .i64 k ∧ Own wr w.heap.size (highB (x % 2 ^ k) n) ∧ Below w.heap.size w wr) (fun i _ => 8 * n - (intOf i).toNat)
  case atStart => exact ⟨0, Nat.zero_le _, rfl, hO1, hb1⟩
  case round =>
    obtain ⟨k, hk, rfl, hOw, hBw⟩ := hrel
    clear hO1 hb1
    by_cases hlt : k < 8 * n
    · have hms := mask_u64 x k (by omega)
      by_cases hbit : x / 2 ^ k % 2 = 1
      · rw [hbit] at hms
        have hms2 : (bits .and .u64 ((x : Int) / 2 ^ k) 1 == 1) = true := hms
        have hc := hOw.cell (i := n - 1 - k / 8) (by rw [length_highB]; omega)
        have hf := hOw.free (n - 1 - k / 8)
        obtain ⟨h1, h2, h3⟩ := high_bit_on x n k hbit (by omega)
        generalize hv : (highB (x % 2 ^ k) n).getD (n - 1 - k / 8) 0 = v at *
        clear hms hv
        have H1 := Lib.hid h1
        clear h1 hbit
        have eo : bits .or .u8 (v : Int) (2 ^ (k % 8) % 256) = ((v ||| 2 ^ (k % 8) : Nat) : Int) := by
          have e := u8_or_nat v (2 ^ (k % 8)) h2 (by omega)
          rw [← e]
          congr 1
          have e2 : (2 : Int) ^ (k % 8) = ((2 ^ (k % 8) : Nat) : Int) := by simp
          rw [e2]
          clear e e2
          generalize 2 ^ (k % 8) = c at h3 ⊢
          omega
        have R : Own (wr.setCell ⟨w.heap.size, n - 1 - k / 8, none⟩ (.int .u8 (bits .or .u8 (v : Int) (2 ^ (k % 8) % 256)))).drew w.heap.size (highB (x % 2 ^ (k + 1)) n) ∧ Below w.heap.size w (wr.setCell ⟨w.heap.size, n - 1 - k / 8, none⟩ (.int .u8 (bits .or .u8 (v : Int) (2 ^ (k % 8) % 256)))).drew := by
          rw [eo, H1.out]
          exact ⟨(hOw.set _).drew, (hBw.setCell (Nat.le_refl _) _).drew⟩
        have HR := Lib.hid R
        clear R eo H1 hOw hBw h2 h3
        go_wp2
        go_region
        all_goals go_wp2
        all_goals go_roundw
        case rel => exact ⟨k + 1, by omega, by go_num, HR.out.1, HR.out.2⟩
        case measure => simp [intOf]; omega
      · have hb0 : x / 2 ^ k % 2 = 0 := by omega
        rw [hb0] at hms
        have hms2 : (bits .and .u64 ((x : Int) / 2 ^ k) 1 == 1) = false := hms
        rw [← high_bit_off x n k hb0] at hOw
        clear hms hb0 hbit
        go_wp2
        go_roundw
        case rel => exact ⟨k + 1, by omega, by go_num, hOw, hBw⟩
        case measure => simp [intOf]; omega
    · obtain rfl : k = 8 * n := by omega
      rw [high_mod] at hOw
      go_wp2
      go_ret
      exact ⟨rfl, hOw, hBw⟩
theorem Own.other {w : World} {g p i : Nat} {l : List Nat} (h : Own w g l) (hn : g ≠ p) (v : Value) : Own (w.setCell ⟨p, i, none⟩ v) g l :=
  (Below.heap_setCell _ _ _ _ hn).trans h

end Go.Proofs.Ytgnpoehcmlmajaa
namespace Go.Proofs.Ytgnpoehcmlmajaa
open Go.RowKit
set_option linter.unusedVariables false

/-- Which of two numbers comes first. -/
def cmpN (x y : Nat) : Int := if x < y then -1 else if y < x then 1 else 0

/-- Which of two rows of bytes comes first. -/
def cmpB : List Nat → List Nat → Int
  | [], [] => 0
  | [], _ :: _ => -1
  | _ :: _, [] => 1
  | a :: l, b :: m => if a < b then -1 else if b < a then 1 else cmpB l m

theorem compare_bytes : ∀ (l m : List Nat), Bys l → Bys m → Lib.compareBytes (l.map UInt8.ofNat) (m.map UInt8.ofNat) = cmpB l m
  | [], [], _, _ => rfl
  | [], _ :: _, _, _ => rfl
  | _ :: _, [], _, _ => rfl
  | a :: l, b :: m, hl, hm => by
    have ih := compare_bytes l m (fun n h => hl n (by simp [h])) (fun n h => hm n (by simp [h]))
    have ha : a < 256 := hl a (by simp)
    have hb : b < 256 := hm b (by simp)
    have e1 : (UInt8.ofNat a < UInt8.ofNat b) ↔ a < b := by
      rw [UInt8.lt_iff_toNat_lt, UInt8.toNat_ofNat', UInt8.toNat_ofNat']; omega
    have e2 : (UInt8.ofNat b < UInt8.ofNat a) ↔ b < a := by
      rw [UInt8.lt_iff_toNat_lt, UInt8.toNat_ofNat', UInt8.toNat_ofNat']; omega
    simp only [List.map_cons, Lib.compareBytes, cmpB, e1, e2, ih]

theorem load_bytes {w : World} {ao : Option Addr} {l : List Nat} (h : Lies w ao l) (cap : Nat) :
    (Extern.Bytes.bytesOf (.slice ao l.length cap)).run Try.prog w = .ok (strOf l) w := by
  rcases h with rfl | ⟨b, off, rfl, _, hc⟩
  · cases ao <;> rfl
  · have h := Lib.run_loadBytesX (P := Try.prog) w (intsOf l) ⟨b, off, none⟩ ByteArray.empty (fun j x hj => by
      have hjl : j < l.length := by
        have := (List.getElem?_eq_some_iff.1 hj).1
        simpa [intsOf] using this
      rw [Addr.add_lit, hc j hjl]
      have : (intsOf l)[j]? = some ((l.getD j 0 : Nat) : Int) := by simp [intsOf, hjl]
      rw [this] at hj
      cases hj
      rfl)
    rw [length_intsOf] at h
    refine h.trans ?_
    congr 1
    show ByteArray.mk (#[] ++ _) = _
    simp [strOf, strOfNums, Lib.bytesOf]

theorem cmpB_append : ∀ (l m p q : List Nat), l.length = m.length → cmpB (l ++ p) (m ++ q) = if cmpB l m = 0 then cmpB p q else cmpB l m
  | [], [], p, q, _ => by simp [cmpB]
  | [], _ :: _, _, _, h => by simp at h
  | _ :: _, [], _, _, h => by simp at h
  | a :: l, b :: m, p, q, h => by
    have ih := cmpB_append l m p q (by simpa using h)
    simp only [List.cons_append, cmpB]
    by_cases h1 : a < b
    · simp [h1]
    · by_cases h2 : b < a
      · simp [h1, h2]
      · simp [h1, h2, ih]

theorem cmpB_zero : ∀ (l m : List Nat), (l == m) = (cmpB l m == 0)
  | [], [] => rfl
  | [], _ :: _ => rfl
  | _ :: _, [] => rfl
  | a :: l, b :: m => by
    have ih := cmpB_zero l m
    simp only [cmpB, List.cons_beq_cons]
    by_cases h1 : a < b
    · have : (a == b) = false := by simp; omega
      simp [h1, this]
    · by_cases h2 : b < a
      · have : (a == b) = false := by simp; omega
        simp [h1, h2, this]
      · have : (a == b) = true := by simp; omega
        simp only [h1, h2, this, ih, if_false, Bool.true_and]

theorem highB_cons (x n : Nat) : highB x (n + 1) = (x / 2 ^ (8 * n) % 256) :: highB x n := by
  apply List.ext_getElem
  · simp [highB]
  · intro j h1 h2
    have hj : j < n + 1 := by simpa [highB] using h1
    cases j with
    | zero => simp [highB]
    | succ j =>
      simp only [highB, List.getElem_map, List.getElem_range, List.getElem_cons_succ]
      rw [show n + 1 - 1 - (j + 1) = n - 1 - j from by omega]

theorem cmpB_high (a b : Nat) : ∀ n, cmpB (highB a n) (highB b n) = cmpN (a % 2 ^ (8 * n)) (b % 2 ^ (8 * n))
  | 0 => by simp [highB, cmpB, cmpN, Nat.mod_one]
  | n + 1 => by
    have ih := cmpB_high a b n
    rw [highB_cons, highB_cons]
    simp only [cmpB, ih]
    have e : 2 ^ (8 * (n + 1)) = 2 ^ (8 * n) * 256 := by rw [show 8 * (n + 1) = 8 * n + 8 from by omega, Nat.pow_add]
    have ea := Nat.mod_mul (x := a) (a := 2 ^ (8 * n)) (b := 256)
    have eb := Nat.mod_mul (x := b) (a := 2 ^ (8 * n)) (b := 256)
    rw [e, ea, eb]
    have la : a % 2 ^ (8 * n) < 2 ^ (8 * n) := Nat.mod_lt _ (Nat.two_pow_pos _)
    have lb : b % 2 ^ (8 * n) < 2 ^ (8 * n) := Nat.mod_lt _ (Nat.two_pow_pos _)
    generalize a % 2 ^ (8 * n) = p at *
    generalize b % 2 ^ (8 * n) = q at *
    generalize a / 2 ^ (8 * n) % 256 = x at *
    generalize b / 2 ^ (8 * n) % 256 = y at *
    generalize 2 ^ (8 * n) = t at *
    unfold cmpN
    by_cases h1 : x < y
    · have h2 : p + t * x < q + t * y := by
        have : t * x + t ≤ t * y := by
          have := Nat.mul_le_mul_left t (show x + 1 ≤ y from h1)
          rw [Nat.mul_add, Nat.mul_one] at this
          exact this
        omega
      simp [h1, h2]
    · by_cases h2 : y < x
      · have h3 : q + t * y < p + t * x := by
          have : t * y + t ≤ t * x := by
            have := Nat.mul_le_mul_left t (show y + 1 ≤ x from h2)
            rw [Nat.mul_add, Nat.mul_one] at this
            exact this
          omega
        have h4 : ¬ p + t * x < q + t * y := by omega
        simp [h1, h2, h3, h4]
      · obtain rfl : x = y := by omega
        simp
end Go.Proofs.Ytgnpoehcmlmajaa
