/-
  A region that draws its order, walked once in the order of the text: where each operation gives its value in every world that meets S and leaves a world that meets S. Nothing here is a statement of the document.
-/
import Derived.Test.YtikdgbmdepplgaaGreatDoorPfxA
import Derived.Laws.Rows
import Derived.Test.YtikdgbmdepplgaaGreatDoorRows
import Derived.WalkKit
import Derived.Shelf.Abstract
namespace Go.Proofs.YtikdgbmdepplgaaGreatDoor
open Go.RowKit
set_option linter.unusedVariables false
set_option maxRecDepth 100000

theorem bel_trans {w a b : World} (h : Below w.heap.size w a) (k : Below a.heap.size a b) : Below w.heap.size w b := h.trans (k.mono h.size)
theorem bel_drew {w a : World} {B : Nat} (h : Below B w a) : Below B w a.drew := ⟨h.os, h.tape, h.output, h.size, h.block⟩

theorem cell_lt {w : World} {p : Addr} {v : Value} (h : w.cell? p = some v) : p.block < w.heap.size := by
  obtain ⟨b, o, s⟩ := p
  rcases Nat.lt_or_ge b w.heap.size with h1 | h1
  · exact h1
  · unfold World.cell? at h
    rw [Array.getElem?_eq_none h1] at h
    cases s <;> simp at h
theorem td (n k : Nat) : ((n : Int)).tdiv (k : Int) = ((n / k : Nat) : Int) := by rw [Int.tdiv_eq_ediv_of_nonneg (by omega)]; simp
theorem tm (n k : Nat) : ((n : Int)).tmod (k : Int) = ((n % k : Nat) : Int) := by rw [Int.tmod_eq_emod_of_nonneg (by omega)]; simp
/-- What the package's own row of widths holds. -/
def Wid (w : World) : Prop := ∀ j : Nat, j < 7 → w.cell? ⟨0, j, none⟩ = some (.int .i64 ((wid (j : Int) : Nat) : Int))
theorem Wid.later {w w' : World} (h : Wid w) (k : Below w.heap.size w w') : Wid w' := fun j hj => (k.cell (p := ⟨0, j, none⟩) (cell_lt (h j hj))).trans (h j hj)
theorem Wid.drew {w : World} (h : Wid w) : Wid w.drew := h

set_option maxHeartbeats 400000 in
theorem width_any (v : Int) (w : World) (hW : Wid w) : Calls Tryz.prog 77 #[.int .i64 v] w fun e w' => e = .returned (.int .i64 ((wid v : Nat) : Int)) ∧ w = w' := by
  by_cases h1 : v < 0
  · have hv : wid v = 0 := by unfold wid; rw [if_neg (by omega), if_neg (by omega)]
    have HV := Lib.hid hv
    have d1 : decide (v < 0) = true := by simpa using h1
    clear hv
    go_enter Tryz.func77, Tryz.ntmps77
    go_wp2
    go_ret
    exact ⟨by rw [HV.out]; rfl, rfl⟩
  · have d1 : decide (v < 0) = false := by simpa using h1
    by_cases h2 : 7 ≤ v
    · have hv : wid v = 0 := by unfold wid; rw [if_neg (by omega), if_neg (by omega)]
      have HV := Lib.hid hv
      have d2 : decide (7 ≤ v) = true := by simpa using h2
      clear hv
      go_enter Tryz.func77, Tryz.ntmps77
      go_wp2
      go_ret
      exact ⟨by rw [HV.out]; rfl, rfl⟩
    · have d2 : decide (7 ≤ v) = false := by simpa using h2
      obtain ⟨n, rfl⟩ := Int.eq_ofNat_of_zero_le (by omega : 0 ≤ v)
      have hc := hW n (by omega)
      generalize wid (n : Int) = x at *
      go_enter Tryz.func77, Tryz.ntmps77
      go_wp2
      go_ret
      exact ⟨rfl, rfl⟩

theorem within_any (b n : Int) (w : World) : Calls Tryz.prog 76 #[.int .i64 b, .int .i64 n] w fun e w' => e = .returned (.bool (decide (0 ≤ b ∧ b ≤ n))) ∧ w = w' := by
  by_cases h1 : 0 ≤ b
  · have d1 : decide (0 ≤ b) = true := by simpa using h1
    go_enter Tryz.func76, Tryz.ntmps76
    go_wp2
    go_ret
    exact ⟨by simp [h1], rfl⟩
  · have d1 : decide (0 ≤ b) = false := by simpa using h1
    go_enter Tryz.func76, Tryz.ntmps76
    go_wp2
    go_ret
    exact ⟨by simp [h1], rfl⟩

/-- How many bytes so many bits fill. -/
def fill8 (n : Nat) : Nat := (n + 7) / 8
theorem filled_any (n : Nat) (hn : n ≤ 255) (w : World) : Calls Tryz.prog 79 #[.int .i64 (n : Int)] w fun e w' => e = .returned (.int .i64 ((fill8 n : Nat) : Int)) ∧ w = w' := by
  have hf : (((n : Int) + 7) / 8) = ((fill8 n : Nat) : Int) := by unfold fill8; omega
  have HF := Lib.hid hf
  clear hf
  go_enter Tryz.func79, Tryz.ntmps79
  go_wp2
  go_ret
  exact ⟨by rw [← HF.out]; rfl, rfl⟩

/-- A bit as a number. -/
def btI (b : B16) (i : Nat) : Int := ((bt b i).toNat : Int)
theorem bit_num (x k : Nat) : x / 2 ^ k % 2 = (x.testBit k).toNat := by
  rw [Nat.testBit_eq_decide_div_mod_eq]
  by_cases h : x / 2 ^ k % 2 = 1
  · simp [h]
  · have : x / 2 ^ k % 2 = 0 := by omega
    simp [this]
theorem btI_num (b : B16) (i : Nat) : ((b.at (i / 8) : Int) / 2 ^ (7 - i % 8)).tmod 2 = btI b i := by
  unfold btI bt
  rw [← bit_num]
  have : ((b.at (i / 8) : Int) / 2 ^ (7 - i % 8)) = ((b.at (i / 8) / 2 ^ (7 - i % 8) : Nat) : Int) := by simp
  rw [this]
  exact tm _ 2
/-! ### kept -/
/-- The first k bytes are kept to their first bits, the others stand as they were. -/
def keptK (b : B16) (n k : Nat) : B16 :=
  ⟨(List.range 16).map fun i => if i < k then keepN (b.at i) (stayN n i) else b.at i, by simp, fun m hm => by
    obtain ⟨i, _, rfl⟩ := List.mem_map.1 hm
    split
    · exact Nat.lt_of_le_of_lt (keepN_le _ _) (b.lt i)
    · exact b.lt i⟩
theorem keptK_at (b : B16) (n k i : Nat) (h : i < 16) : (keptK b n k).at i = if i < k then keepN (b.at i) (stayN n i) else b.at i := by
  simp [keptK, B16.at, h]
theorem keptK_zero (b : B16) (n : Nat) : keptK b n 0 = b := B16.ext_at fun i hi => by rw [keptK_at _ _ _ _ hi]; simp
theorem keptK_all (b : B16) (n : Nat) : keptK b n 16 = keptB b n := B16.ext_at fun i hi => by rw [keptK_at _ _ _ _ hi, keptB_at _ _ _ hi, if_pos hi]
theorem B16.set_cs (a b : B16) (k x : Nat) (h : ∀ i, i < 16 → b.at i = if i = k then x else a.at i) : a.cs.setIfInBounds k (.int .u8 (x : Int)) = b.cs := by
  apply Array.ext_getElem?
  intro i
  by_cases hi : i < 16
  · rw [b.get i hi, h i hi, Array.getElem?_setIfInBounds]
    by_cases hk : k = i
    · subst hk
      rw [if_pos rfl, if_pos (by rw [B16.size]; exact hi), if_pos rfl]
    · rw [if_neg hk, a.get i hi, if_neg (fun e => hk e.symm)]
  · rw [Array.getElem?_eq_none (by simp [B16.size]; omega), Array.getElem?_eq_none (by rw [B16.size]; omega)]
theorem keep_and : ∀ x, x < 256 → ∀ t, t ≤ 8 → x &&& (255 * 2 ^ t % 256) = x / 2 ^ t * 2 ^ t := by decide +kernel
theorem keep_num (x s : Nat) (hx : x < 256) (hs : s ≤ 8) : bits .and .u8 (x : Int) (255 * 2 ^ (8 - s) % 256) = ((keepN x s : Nat) : Int) := by
  have h := u8_and_nat x (255 * 2 ^ (8 - s) % 256) hx (Nat.mod_lt _ (by omega))
  rw [keep_and x hx (8 - s) (by omega)] at h
  unfold keepN
  rw [← h]
  congr 1

attribute [local go_sem ↓] load_b16_rule store_b16_rule
set_option maxHeartbeats 1600000 in
theorem kept_any (b : B16) (n : Nat) (hn : n ≤ 255) (w : World) : Calls Tryz.prog 78 #[.agg b.cs, .int .i64 (n : Int)] w fun e w' => e = .returned (.agg (keptB b n).cs) ∧ Below w.heap.size w w' := by
  obtain ⟨W1, hW1⟩ : ∃ W1, (w.alloc (.cells b.cs 42)).alloc (.cells B16.zero.cs 42) = W1 := ⟨_, rfl⟩
  have hb1 : Below w.heap.size w W1 := by rw [← hW1]; exact ((Below.refl _ _).alloc (Nat.le_refl _) _).alloc (by simp) _
  have b1 : Blk W1 w.heap.size 42 (keptK b n 0).cs := by rw [← hW1, keptK_zero]; exact (Blk.new w _ _).alloc _
  have b2 : Blk W1 (w.heap.size + 1) 42 B16.zero.cs := by
    have := Blk.new (w.alloc (.cells b.cs 42)) 42 B16.zero.cs
    rw [World.size_alloc] at this
    rw [← hW1]; exact this
  have H1 := Lib.hid (And.intro hb1 (And.intro b1 b2))
  clear hb1 b1 b2
  go_enter Tryz.func78, Tryz.ntmps78
  go_wp2_with (with_reducible refine wpList_alloc_z rfl 42 rfl B16.zero.cs 16 z_b16 ?_)
  clear hW1
  go_loopw [5, 6, 7] (fun i s k wr => ∃ m : Nat, m ≤ 16 ∧ k = .int .i64 m ∧ Blk wr w.heap.size 42 (keptK b n m).cs ∧ Blk wr (w.heap.size + 1) 42 B16.zero.cs ∧ Below w.heap.size w wr) (fun i s k _ => 16 - (intOf k).toNat)
  case atStart => exact ⟨0, Nat.zero_le _, rfl, H1.out.2.1, H1.out.2.2, H1.out.1⟩
  case round =>
    obtain ⟨m, hm, rfl, hA, hZ, hB⟩ := hrel
    by_cases hlt : m < 16
    · have hc : wr.cell? ⟨w.heap.size, m, none⟩ = some (.int .u8 (b.at m : Int)) := by
        rw [hA.cell, (keptK b n m).get m hlt, keptK_at _ _ _ _ hlt, if_neg (by omega)]
      have hf := hA.free m
      have hx := b.lt m
      have hs : stayN n m ≤ 8 := by unfold stayN; omega
      obtain ⟨t, ht⟩ : ∃ t : Int, (if (n : Int) - 8 * (m : Int) < 0 then 0 else (n : Int) - 8 * (m : Int)) = t := ⟨_, rfl⟩
      have es : (if 8 < t then 8 else t) = ((stayN n m : Nat) : Int) := by rw [← ht]; unfold stayN; split <;> split <;> omega
      have hk := keep_num (b.at m) (stayN n m) hx hs
      have hr : ∀ i, i < 16 → (keptK b n (m + 1)).at i = if i = m then keepN (b.at m) (stayN n m) else (keptK b n m).at i := fun i hi => by
        rw [keptK_at _ _ _ _ hi, keptK_at _ _ _ _ hi]
        by_cases h1 : i = m
        · subst h1; rw [if_pos (by omega), if_pos rfl]
        · rw [if_neg h1]
          by_cases h2 : i < m
          · rw [if_pos (by omega), if_pos h2]
          · rw [if_neg (by omega), if_neg h2]
      have hA2 := hA.set m (.int .u8 ((keepN (b.at m) (stayN n m) : Nat) : Int))
      rw [B16.set_cs _ _ _ _ hr] at hA2
      have hZ2 := hZ.far (p := ⟨w.heap.size, m, none⟩) (by simp) (.int .u8 ((keepN (b.at m) (stayN n m) : Nat) : Int))
      have hB2 := hB.setCell (p := ⟨w.heap.size, m, none⟩) (Nat.le_refl _) (.int .u8 ((keepN (b.at m) (stayN n m) : Nat) : Int))
      generalize keepN (b.at m) (stayN n m) = y at *
      generalize stayN n m = s at *
      generalize b.at m = x at *
      have HE := Lib.hid (And.intro hA2 (And.intro hZ2 hB2))
      have hm2 : (m : Int) < 16 := by omega
      clear hA hZ hB hA2 hZ2 hB2 hr
      go_wp2
      clear ht es
      have hs2 : (s : Int) ≤ 8 := by omega
      have hz : decide ((8 : Int) - (s : Int) < 0) = false := by simp; omega
      go_region
      go_wp2
      go_roundw
      case rel => exact ⟨m + 1, by omega, by go_num, HE.out.1.drew, HE.out.2.1.drew, bel_drew HE.out.2.2⟩
      case measure => simp [intOf]; omega
    · obtain rfl : m = 16 := by omega
      rw [keptK_all] at hA
      have hL : (loadSem 42 (.pointer (some ⟨w.heap.size, 0, none⟩))).run Tryz.prog wr = .ok (.agg (keptB b n).cs) wr := loadRes_of (o := 0) hA (fun q _ => by rw [Nat.zero_add]) _ Tryz.underlying42 rfl (s_b16 _)
      have hS := storeRes_of (P := Tryz.prog) (ty := 42) (o := 0) (vs := (keptB b n).cs) hZ (by rw [B16.size, B16.size]; omega) (s_b16 _) (B16.one _)
      rw [over_all (by rw [B16.size, B16.size])] at hS
      have hZ2 := hZ.row (keptB b n).cs
      have hB2 := below_setRow hB (show w.heap.size ≤ w.heap.size + 1 by omega) (keptB b n).cs
      have HE := Lib.hid (And.intro hZ2 hB2)
      clear hA hZ hB hZ2 hB2
      go_wp2
      refine bodyPost_ret (results_cell_row rfl _ _ (w.heap.size + 1) 42 _ (0, 0) _ rfl HE.out.1 Tryz.underlying42 rfl (s_b16 _)) rfl ?_
      exact ⟨rfl, HE.out.2⟩
theorem keptp_any (b : B16) (n : Int) (h0 : 0 ≤ n) (h1 : n ≤ 255) (w : World) : Calls Tryz.prog 78 #[.agg b.cs, .int .i64 n] w fun e w' => e = .returned (.agg (keptB b n.toNat).cs) ∧ Below w.heap.size w w' := by
  obtain ⟨k, rfl⟩ := Int.eq_ofNat_of_zero_le h0
  exact kept_any b k (by omega) w
theorem same_bel {w w' : World} (h : w = w') : Below w.heap.size w w' := h ▸ Below.refl _ _
theorem width_b (v : Int) (w : World) (hW : Wid w) : Calls Tryz.prog 77 #[.int .i64 v] w fun e w' => e = .returned (.int .i64 ((wid v : Nat) : Int)) ∧ Below w.heap.size w w' := (width_any v w hW).mono fun e w' h => ⟨h.1, same_bel h.2⟩
theorem within_b (b n : Int) (w : World) : Calls Tryz.prog 76 #[.int .i64 b, .int .i64 n] w fun e w' => e = .returned (.bool (decide (0 ≤ b ∧ b ≤ n))) ∧ Below w.heap.size w w' := (within_any b n w).mono fun e w' h => ⟨h.1, same_bel h.2⟩
theorem filled_b (n : Nat) (hn : n ≤ 255) (w : World) : Calls Tryz.prog 79 #[.int .i64 (n : Int)] w fun e w' => e = .returned (.int .i64 ((fill8 n : Nat) : Int)) ∧ Below w.heap.size w w' := (filled_any n hn w).mono fun e w' h => ⟨h.1, same_bel h.2⟩
end Go.Proofs.YtikdgbmdepplgaaGreatDoor
namespace Go.Proofs.YtikdgbmdepplgaaGreatDoor
set_option linter.unusedVariables false

section
variable {P : Program} {ops : Array Oper} {Q : Exit → Act → World → Prop} {S : World → Prop}

/-- In every world that meets S the operation gives v, and leaves a world that meets S. -/
def GivesIf (P : Program) (ops : Array Oper) (S : World → Prop) (o : Oper) (v : Value) (a : Act) : Prop :=
  (Region.wanted o (yielded ops a.tmps) = true ∧ ∀ w, S w → ((∃ w', (execOp a.eval o).run P w = .ok (.value v) w' ∧ S w') ∨ ∃ f args, (execOp a.eval o).run P w = .ok (.enter f args) w ∧ Calls P f args w fun e w' => e = .returned v ∧ S w')) ∨
  (Region.wanted o (yielded ops a.tmps) = false ∧ v = undef)
theorem GivesIf.of_same {o : Oper} {v : Value} {a a' : Act} (hy : GivesIf P ops S o v a) (he : execOp a'.eval o = execOp a.eval o)
    (hw : Region.wanted o (yielded ops a'.tmps) = Region.wanted o (yielded ops a.tmps)) : GivesIf P ops S o v a' := by
  unfold GivesIf at *
  rw [he, hw]
  exact hy
theorem GivesIf.wpOp {i : Nat} {o : Oper} {v : Value} {a : Act} (hi : ops[i]? = some o) (hy : GivesIf P ops S o v a) {K : Act → World → Prop} {w : World} (hS : S w) (h : ∀ w', S w' → K (a.put o.dst v) w') : wpOp P ops Q i K a w := by
  unfold Go.wpOp
  simp only [hi]
  rcases hy with ⟨hw, hv⟩ | ⟨hw, rfl⟩
  · simp only [hw, if_true]
    refine .inl ?_
    unfold Oper.wp
    rcases hv w hS with ⟨w', h1, h2⟩ | ⟨f, args, h1, h2⟩
    · rw [h1]
      exact h w' h2
    · rw [h1]
      refine Calls.mono h2 ?_
      rintro e w' ⟨rfl, h3⟩
      exact h w' h3
  · simp only [hw, Bool.false_eq_true, if_false]; exact h w hS
/-- The operations, one behind the other in the order of the text. -/
def Lin (P : Program) (ops : Array Oper) (Q : Exit → Act → World → Prop) (S : World → Prop) : List Oper → Act → Prop
  | [], a => ∀ w, S w → Q .normal a w
  | o :: r, a => ∃ v, GivesIf P ops S o v a ∧ Lin P ops Q S r (a.put o.dst v)

theorem Lin.swap {x y : Oper} {r : List Oper} {a : Act} (hx : ∀ cs b, x.op ≠ .select cs b) (hy : ∀ cs b, y.op ≠ .select cs b) (hap : x.apart ops y = true) (h : Lin P ops Q S (x :: y :: r) a) : Lin P ops Q S (y :: x :: r) a := by
  obtain ⟨h1, h2, h3⟩ := Oper.apart_spec hap
  obtain ⟨vx, gx, vy, gy, h⟩ := h
  refine ⟨vy, gy.of_same ?_ ?_, vx, gx.of_same (execOp_put x hx a y.dst vy h3) (wanted_put x a y.dst vy h3), ?_⟩
  · exact (execOp_put y hy a x.dst vx h1).symm
  · exact (wanted_put y a x.dst vx h1).symm
  · rw [← Act.put_comm a vx vy h2]
    exact h
theorem Lin.front {o : Oper} {T2 : List Oper} (ho : ∀ cs b, o.op ≠ .select cs b) : ∀ (T1 : List Oper) (a : Act), (∀ x ∈ T1, (∀ cs b, x.op ≠ .select cs b) ∧ x.apart ops o = true) → Lin P ops Q S (T1 ++ o :: T2) a → Lin P ops Q S (o :: (T1 ++ T2)) a
  | [], _, _, h => h
  | x :: T1, a, hap, h => by
    obtain ⟨v, g, h⟩ := h
    have h2 := Lin.front ho T1 _ (fun y hy => hap y (by simp [hy])) h
    exact Lin.swap (hap x (by simp)).1 ho (hap x (by simp)).2 ⟨v, g, h2⟩

/-- What is not listed yet, in the order of the text. -/
def unl (ops : Array Oper) (listed : Array Bool) (is : List Nat) : List Oper := is.filterMap fun i => if listed.getD i true then none else ops[i]?
/-- Each operation waits for earlier ones alone, and each earlier one that it does not wait for is apart from it. -/
def linOk (ops : Array Oper) : Bool :=
  Region.noSelect ops && (List.range ops.size).all fun j => match ops[j]? with
    | none => true
    | some oj => oj.after.all (fun e => decide (e.on < j)) && (List.range j).all fun i => match ops[i]? with
      | none => true
      | some oi => oj.after.any (fun e => Region.binds .any e && e.on == i) || oi.apart ops oj
theorem linOk_spec (h : linOk ops = true) (j : Nat) (oj : Oper) (hj : ops[j]? = some oj) :
    (∀ e ∈ oj.after, e.on < j) ∧ ∀ i oi, i < j → ops[i]? = some oi → (∃ e ∈ oj.after, Region.binds .any e = true ∧ e.on = i) ∨ oi.apart ops oj = true := by
  simp only [linOk, Bool.and_eq_true, List.all_eq_true, List.mem_range] at h
  have h1 := h.2 j (Array.getElem?_eq_some_iff.1 hj).1
  simp only [hj, Bool.and_eq_true, List.all_eq_true, List.mem_range, Array.all_eq_true_iff_forall_mem, decide_eq_true_eq] at h1
  refine ⟨h1.1, fun i oi hi ho => ?_⟩
  have h2 := h1.2 i hi
  simp only [ho, Bool.or_eq_true] at h2
  rcases h2 with h2 | h2
  · obtain ⟨e, he, hb⟩ := Array.any_eq_true'.1 h2
    simp only [Bool.and_eq_true, beq_iff_eq] at hb
    exact .inl ⟨e, he, hb⟩
  · exact .inr h2
theorem unl_set (listed : Array Bool) (j : Nat) : ∀ (is : List Nat), j ∉ is → unl ops (listed.setIfInBounds j true) is = unl ops listed is
  | [], _ => rfl
  | i :: is, h => by
    have hne : j ≠ i := fun e => h (by simp [e])
    have ih := unl_set listed j is (fun e => h (by simp [e]))
    unfold unl at *
    simp only [List.filterMap_cons]
    rw [getD_set_ne true hne, ih]
theorem unl_app (listed : Array Bool) (is js : List Nat) : unl ops listed (is ++ js) = unl ops listed is ++ unl ops listed js := by simp [unl]
theorem unl_mem {listed : Array Bool} {is : List Nat} {x : Oper} (h : x ∈ unl ops listed is) : ∃ i ∈ is, listed.getD i true = false ∧ ops[i]? = some x := by
  obtain ⟨i, hi, h⟩ := List.mem_filterMap.1 h
  refine ⟨i, hi, ?_⟩
  cases hb : listed.getD i true with
  | true => rw [hb] at h; simp at h
  | false => rw [hb] at h; simpa using h
theorem range_split {j n : Nat} (h : j < n) : List.range n = List.range j ++ j :: List.range' (j + 1) (n - j - 1) := by
  apply List.ext_getElem?
  intro k
  rw [List.getElem?_append, List.length_range]
  by_cases h1 : k < j
  · rw [if_pos h1, List.getElem?_range h1, List.getElem?_range (by omega)]
  · rw [if_neg h1]
    by_cases h2 : k = j
    · subst h2
      rw [Nat.sub_self, List.getElem?_cons_zero, List.getElem?_range h]
    · obtain ⟨q, rfl⟩ : ∃ q, k = j + 1 + q := ⟨k - (j + 1), by omega⟩
      rw [show j + 1 + q - j = q + 1 from by omega, List.getElem?_cons_succ]
      by_cases h3 : j + 1 + q < n
      · rw [List.getElem?_range h3, List.getElem?_range' (by omega)]
        simp
      · rw [List.getElem?_eq_none (by simp; omega), List.getElem?_eq_none (by simp; omega)]

theorem lin_any (hok : linOk ops = true) : ∀ (fuel : Nat) (listed : Array Bool) (a : Act) (w : World), listed.size = ops.size → (unl ops listed (List.range ops.size)).length ≤ fuel → S w → Lin P ops Q S (unl ops listed (List.range ops.size)) a → wpAny P .any ops Q fuel listed a w := by
  have hsel : ∀ (j : Nat) (o : Oper), ops[j]? = some o → ∀ cs b, o.op ≠ .select cs b := fun j o ho cs b => Region.noSelect_spec (by simp only [linOk, Bool.and_eq_true] at hok; exact hok.1) j o cs b ho
  have hnil : ∀ listed : Array Bool, listed.size = ops.size → Region.ready .any ops listed = [] → unl ops listed (List.range ops.size) = [] := by
    intro listed hsz hr
    have key : ∀ j, j < ops.size → listed.getD j true = true := by
      intro j
      induction j using Nat.strongRecOn with
      | ind j ih =>
        intro hj
        cases hb : listed.getD j true with
        | true => rfl
        | false =>
          have hoj : ops[j]? = some ops[j] := Array.getElem?_eq_getElem hj
          have hm : j ∈ Region.ready .any ops listed := mem_ready.2 ⟨hb, _, hoj, fun e he _ => by
            have hlt := (linOk_spec hok j _ hoj).1 e he
            have h9 := ih e.on hlt (by omega)
            have h8 : e.on < listed.size := by omega
            simp [h8] at h9 ⊢
            exact h9⟩
          rw [hr] at hm
          cases hm
    unfold unl
    rw [List.filterMap_eq_nil_iff]
    intro i hi
    rw [key i (List.mem_range.1 hi)]
    simp
  have hpick : ∀ (listed : Array Bool) (j : Nat), listed.size = ops.size → j ∈ Region.ready .any ops listed → ∃ oj T1 T2, ops[j]? = some oj ∧ unl ops listed (List.range ops.size) = T1 ++ oj :: T2 ∧ unl ops (listed.setIfInBounds j true) (List.range ops.size) = T1 ++ T2 ∧ ∀ x ∈ T1, (∀ cs b, x.op ≠ .select cs b) ∧ x.apart ops oj = true := by
    intro listed j hsz hj
    obtain ⟨hun, oj, hoj, hall⟩ := mem_ready.1 hj
    have hlt : j < ops.size := (Array.getElem?_eq_some_iff.1 hoj).1
    have hn1 : j ∉ List.range j := by simp
    have hn2 : j ∉ List.range' (j + 1) (ops.size - j - 1) := fun hm => by have := List.mem_range'_1.1 hm; omega
    refine ⟨oj, unl ops listed (List.range j), unl ops listed (List.range' (j + 1) (ops.size - j - 1)), hoj, ?_, ?_, ?_⟩
    · rw [range_split hlt, unl_app]
      congr 1
      unfold unl
      rw [List.filterMap_cons, hun, hoj]
      simp
    · rw [range_split hlt, unl_app, unl_set _ _ _ hn1]
      congr 1
      have e : unl ops (listed.setIfInBounds j true) (j :: List.range' (j + 1) (ops.size - j - 1)) = unl ops (listed.setIfInBounds j true) (List.range' (j + 1) (ops.size - j - 1)) := by
        have hs : (listed.setIfInBounds j true).getD j true = true := by
          have : j < listed.size := by omega
          simp [this]
        unfold unl
        rw [List.filterMap_cons, hs]
        simp
      rw [e, unl_set _ _ _ hn2]
    · intro x hx
      obtain ⟨i, hi, hui, hxi⟩ := unl_mem hx
      have hij := List.mem_range.1 hi
      refine ⟨hsel i x hxi, ?_⟩
      rcases (linOk_spec hok j oj hoj).2 i x hij hxi with ⟨e, he, hb, rfl⟩ | h9
      · have h8 := hall e he hb
        have h7 : e.on < listed.size := by omega
        simp [h7] at h8 hui
        rw [hui] at h8
        cases h8
      · exact h9
  intro fuel
  induction fuel with
  | zero =>
    intro listed a w hsz hlen hS hL
    have h0 : unl ops listed (List.range ops.size) = [] := List.length_eq_zero_iff.1 (by omega)
    rw [h0] at hL
    refine ⟨?_, hL w hS⟩
    refine List.eq_nil_iff_forall_not_mem.2 (fun j hj => ?_)
    obtain ⟨oj, T1, T2, _, h1, _⟩ := hpick listed j hsz hj
    rw [h0] at h1
    simp at h1
  | succ fuel ih =>
    intro listed a w hsz hlen hS hL
    refine ⟨fun hr => ?_, fun j hj => ?_⟩
    · rw [hnil listed hsz hr] at hL
      exact hL w hS
    · obtain ⟨oj, T1, T2, hoj, h1, h2, h3⟩ := hpick listed j hsz hj
      rw [h1] at hL hlen
      obtain ⟨v, g, hL2⟩ := Lin.front (hsel j oj hoj) T1 a h3 hL
      refine g.wpOp hoj hS (fun w' hS' => ih (listed.setIfInBounds j true) _ w' (by simp [hsz]) ?_ hS' ?_)
      · rw [h2]
        simp at hlen ⊢
        omega
      · rw [h2]
        exact hL2

theorem fm_congr {α β : Type} {f g : α → Option β} : ∀ (l : List α), (∀ i ∈ l, f i = g i) → l.filterMap f = l.filterMap g
  | [], _ => rfl
  | x :: l, h => by rw [List.filterMap_cons, List.filterMap_cons, h x (by simp), fm_congr l (fun i hi => h i (by simp [hi]))]
theorem fm_range {α : Type} : ∀ l : List α, (List.range l.length).filterMap (fun i => l[i]?) = l
  | [] => rfl
  | x :: l => by
    rw [List.length_cons, List.range_succ_eq_map, List.filterMap_cons, List.filterMap_map]
    have := fm_range l
    simpa [Function.comp_def] using this
/-- THE BEGINNING: a region that draws its order, walked in the order of the text. -/
theorem wp_region_lin {id : Nat} {l : List Oper} {a : Act} {w : World} (S : World → Prop) (hm : P.follows .mixedOrders = true) (hok : linOk l.toArray = true) (hS : S w.drew) (h : Lin P l.toArray Q S l a) : (Code.region id l.toArray true).wp P Q a w := by
  refine wp_region_any hm ?_
  have hu : unl l.toArray (Array.replicate l.toArray.size false) (List.range l.toArray.size) = l := by
    have h1 : ∀ i ∈ List.range l.toArray.size, (if (Array.replicate l.toArray.size false).getD i true = true then none else l.toArray[i]?) = l[i]? := by
      intro i hi
      have hlt := List.mem_range.1 hi
      simp at hlt
      simp [hlt]
    unfold unl
    rw [fm_congr _ h1]
    exact fm_range l
  refine lin_any hok _ _ _ _ (by simp) ?_ hS ?_
  · rw [hu]; simp
  · rw [hu]; exact h

theorem lin_nil {a : Act} (h : ∀ w, S w → Q .normal a w) : Lin P ops Q S [] a := h
/-- An operation that gives its value in every world that meets S, and leaves the world as it is. -/
theorem lin_op {o : Oper} {r : List Oper} {a : Act} {v : Value} (hw : Region.wanted o (yielded ops a.tmps) = true) (hy : ∀ w, S w → (execOp a.eval o).run P w = .ok (.value v) w) (h : Lin P ops Q S r (a.put o.dst v)) : Lin P ops Q S (o :: r) a :=
  ⟨v, .inl ⟨hw, fun w hS => .inl ⟨w, hy w hS, hS⟩⟩, h⟩
/-- An operation whose guard is off. -/
theorem lin_off {o : Oper} {r : List Oper} {a : Act} (hw : Region.wanted o (yielded ops a.tmps) = false) (h : Lin P ops Q S r (a.put o.dst undef)) : Lin P ops Q S (o :: r) a :=
  ⟨undef, .inr ⟨hw, rfl⟩, h⟩
/-- A call that gives its value in every world that meets S, and leaves one that meets S. -/
theorem lin_call {o : Oper} {r : List Oper} {a : Act} {v : Value} {f : Nat} {args : Array Value} (hw : Region.wanted o (yielded ops a.tmps) = true) (hy : ∀ w, (execOp a.eval o).run P w = .ok (.enter f args) w) (hc : ∀ w, S w → Calls P f args w fun e w' => e = .returned v ∧ S w') (h : Lin P ops Q S r (a.put o.dst v)) : Lin P ops Q S (o :: r) a :=
  ⟨v, .inl ⟨hw, fun w hS => .inr ⟨f, args, hy w, hc w hS⟩⟩, h⟩
/-- A call of a Go function by its number. -/
theorem lin_fn {o : Oper} {r : List Oper} {a : Act} {v : Value} {f : Nat} {c : Call} {args : Array Value} (hw : Region.wanted o (yielded ops a.tmps) = true) (ho : o.op = .call c) (hc : c.callee = .value (.func f)) (he : ∀ args w, (callFunc f args).run P w = .ok (.enter f args) w)
    (hcl : ∀ w, S w → Calls P f args w fun e w' => e = .returned v ∧ S w') (ha : c.args.map a.eval = args) (h : Lin P ops Q S r (a.put o.dst v)) : Lin P ops Q S (o :: r) a := by
  refine lin_call (f := f) (args := args) hw (fun w => ?_) hcl h
  simp only [execOp, ho, resolve, hc, ha, Act.eval, Deferred.ofValue, invoke, Sem.run_bind, Sem.run_pure, Result.andThen_ok]
  have e1 := he (#[] ++ args ++ #[]) w
  simp only [Array.empty_append, Array.append_empty] at e1 ⊢
  exact e1
end
end Go.Proofs.YtikdgbmdepplgaaGreatDoor
