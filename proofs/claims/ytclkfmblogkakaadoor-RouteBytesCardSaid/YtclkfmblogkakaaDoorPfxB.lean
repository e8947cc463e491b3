/-
  The contracts of prefix.Width, within, filled, kept and of the reference's Width and at. Nothing here is a statement of the document.
-/
import Derived.Test.YtclkfmblogkakaaDoorDskC
import Derived.Test.YtclkfmblogkakaaDoorOctM
import Derived.Laws.Rows
namespace Go.Proofs.YtclkfmblogkakaaDoor
open Go.RowKit
set_option linter.unusedVariables false
set_option maxRecDepth 100000

/-- Sixteen bytes. -/
structure B16 where
  l : List Nat
  len : l.length = 16
  bys : Bys l
theorem bys_zero (n : Nat) : Bys (List.replicate n 0) := fun m hm => by rw [List.eq_of_mem_replicate hm]; omega
def B16.zero : B16 := ⟨List.replicate 16 0, rfl, bys_zero 16⟩
def B16.cs (b : B16) : Array Value := (b.l.map byc).toArray
def B16.at (b : B16) (i : Nat) : Nat := b.l.getD i 0
theorem B16.same {a b : B16} (h : a.l = b.l) : a = b := by
  obtain ⟨l, _, _⟩ := a
  obtain ⟨m, _, _⟩ := b
  cases h
  rfl
theorem B16.size (b : B16) : b.cs.size = 16 := by simp [B16.cs, b.len]
theorem B16.lt (b : B16) (i : Nat) : b.at i < 256 := b.bys.at i
theorem B16.one (b : B16) : b.cs.all (·.oneCell') = true := by
  rw [Array.all_eq_true_iff_forall_mem]
  intro v hv
  exact byc_one b.l v (by simpa [B16.cs] using hv)
theorem B16.get (b : B16) (i : Nat) (h : i < 16) : b.cs[i]? = some (.int .u8 (b.at i : Int)) := by
  have : i < b.l.length := by rw [b.len]; exact h
  simp [B16.cs, B16.at, byc, this]
theorem B16.ext_at {a b : B16} (h : ∀ i, i < 16 → a.at i = b.at i) : a = b := by
  apply B16.same
  apply List.ext_getElem (by rw [a.len, b.len])
  intro i h1 h2
  have := h i (by rw [a.len] at h1; exact h1)
  simpa [B16.at, h1, h2] using this

/-- Bit i of the bytes; bit 0 is the highest one of the first. -/
def bt (b : B16) (i : Nat) : Bool := (b.at (i / 8)).testBit (7 - i % 8)
theorem bt_ext {a b : B16} (h : ∀ i, i < 128 → bt a i = bt b i) : a = b := by
  apply B16.ext_at
  intro i hi
  apply Nat.eq_of_testBit_eq
  intro j
  by_cases hj : j < 8
  · have := h (8 * i + (7 - j)) (by omega)
    unfold bt at this
    rw [show (8 * i + (7 - j)) / 8 = i from by omega, show 7 - (8 * i + (7 - j)) % 8 = j from by omega] at this
    exact this
  · have h2 : 256 ≤ 2 ^ j := by
      have := Nat.pow_le_pow_right (n := 2) (by omega) (show 8 ≤ j by omega)
      simpa using this
    rw [Nat.testBit_lt_two_pow (Nat.lt_of_lt_of_le (a.lt i) h2), Nat.testBit_lt_two_pow (Nat.lt_of_lt_of_le (b.lt i) h2)]

/-- The first s bits of a byte. -/
def keepN (x s : Nat) : Nat := x / 2 ^ (8 - s) * 2 ^ (8 - s)
theorem keepN_le (x s : Nat) : keepN x s ≤ x := Nat.div_mul_le_self _ _
theorem keepN_bit (x s j : Nat) : (keepN x s).testBit j = (decide (8 - s ≤ j) && x.testBit j) := by
  unfold keepN
  rw [← Nat.shiftRight_eq_div_pow, ← Nat.shiftLeft_eq, Nat.testBit_shiftLeft, Nat.testBit_shiftRight]
  by_cases h : 8 - s ≤ j
  · rw [show 8 - s + (j - (8 - s)) = j from by omega]
  · simp [h]
def stayN (n i : Nat) : Nat := min (n - 8 * i) 8
/-- The first n bits of the bytes; noughts from there on. -/
def keptB (b : B16) (n : Nat) : B16 :=
  ⟨(List.range 16).map fun i => keepN (b.at i) (stayN n i), by simp, fun m hm => by
    obtain ⟨i, _, rfl⟩ := List.mem_map.1 hm
    exact Nat.lt_of_le_of_lt (keepN_le _ _) (b.lt i)⟩
theorem keptB_at (b : B16) (n i : Nat) (h : i < 16) : (keptB b n).at i = keepN (b.at i) (stayN n i) := by
  simp [keptB, B16.at, h]
theorem bt_kept (b : B16) (n i : Nat) (h : i < 128) : bt (keptB b n) i = (decide (i < n) && bt b i) := by
  unfold bt
  rw [keptB_at b n (i / 8) (by omega), keepN_bit]
  unfold stayN
  congr 1
  rw [Bool.eq_iff_iff]
  simp only [decide_eq_true_eq]
  omega
/-- From bit n on all are noughts. -/
def clear (b : B16) (n : Nat) : Prop := ∀ i, n ≤ i → i < 128 → bt b i = false
theorem kept_iff (b : B16) (n : Nat) : keptB b n = b ↔ clear b n := by
  constructor
  · intro h i h1 h2
    have := bt_kept b n i h2
    rw [h] at this
    have h3 : decide (i < n) = false := by simp; omega
    rw [h3] at this
    simpa using this
  · intro h
    apply bt_ext
    intro i hi
    rw [bt_kept b n i hi]
    by_cases hn : i < n
    · simp [hn]
    · rw [h i (by omega) hi]; simp
theorem kept_clear (b : B16) (n : Nat) : clear (keptB b n) n := by
  intro i h1 h2
  rw [bt_kept b n i h2]
  have h3 : decide (i < n) = false := by simp; omega
  rw [h3]; rfl
theorem clear_mono {b : B16} {n m : Nat} (h : clear b n) (hm : n ≤ m) : clear b m := fun i h1 h2 => h i (by omega) h2
theorem clear_all (b : B16) {n : Nat} (h : 128 ≤ n) : clear b n := fun i h1 h2 => by omega
theorem kept_all (b : B16) {n : Nat} (h : 128 ≤ n) : keptB b n = b := (kept_iff b n).2 (clear_all b h)

/-- An address, a prefix. -/
structure Ad where
  v : Int
  b : B16
structure Px where
  a : Ad
  n : Int
def Ad.cs (a : Ad) : Array Value := #[.int .i64 a.v] ++ a.b.cs
def Px.cs (p : Px) : Array Value := p.a.cs ++ #[.int .i64 p.n]
def Ad.zero : Ad := ⟨0, B16.zero⟩
def Px.zero : Px := ⟨Ad.zero, 0⟩
theorem Ad.size (a : Ad) : a.cs.size = 17 := by simp [Ad.cs, a.b.size]
theorem Px.size (p : Px) : p.cs.size = 18 := by simp [Px.cs, p.a.size]
theorem Ad.one (a : Ad) : a.cs.all (·.oneCell') = true := by
  have := a.b.one
  rw [Array.all_eq_true_iff_forall_mem] at this ⊢
  intro v hv
  rcases Array.mem_append.1 hv with h | h
  · obtain rfl : v = Value.int .i64 a.v := by simpa using h
    rfl
  · exact this v h
theorem Px.one (p : Px) : p.cs.all (·.oneCell') = true := by
  have := p.a.one
  rw [Array.all_eq_true_iff_forall_mem] at this ⊢
  intro v hv
  rcases Array.mem_append.1 hv with h | h
  · exact this v h
  · obtain rfl : v = Value.int .i64 p.n := by simpa using h
    rfl
theorem Ad.c0 (a : Ad) : a.cs[0]? = some (.int .i64 a.v) := by
  unfold Ad.cs
  rw [Array.getElem?_append_left (by simp)]
  rfl
theorem Ad.c1 (a : Ad) (j : Nat) : a.cs[1 + j]? = a.b.cs[j]? := by
  unfold Ad.cs
  rw [Array.getElem?_append_right (by simp)]
  congr 1
  simp
theorem Px.ca (p : Px) (j : Nat) (h : j < 17) : p.cs[j]? = p.a.cs[j]? := by
  unfold Px.cs
  rw [Array.getElem?_append_left (by rw [Ad.size]; exact h)]
theorem Px.cn (p : Px) : p.cs[17]? = some (.int .i64 p.n) := by
  unfold Px.cs
  rw [Array.getElem?_append_right (by rw [Ad.size]; omega)]
  simp [Ad.size]
theorem Px.cb (p : Px) (j : Nat) (h : j < 16) : p.cs[1 + j]? = p.a.b.cs[j]? := (p.ca _ (by omega)).trans (p.a.c1 j)

/-- How many bits an address of a version has. -/
def wid (v : Int) : Nat := if v = 4 then 32 else if v = 6 then 128 else 0
theorem wid_le (v : Int) : wid v ≤ 128 := by
  unfold wid
  split
  · omega
  · split <;> omega
def okA (a : Ad) : Prop := wid a.v ≠ 0 ∧ clear a.b (wid a.v)
def okP (p : Px) : Prop := okA p.a ∧ 0 ≤ p.n ∧ p.n ≤ (wid p.a.v : Int) ∧ clear p.a.b p.n.toNat
noncomputable instance (a : Ad) : Decidable (okA a) := Classical.propDecidable _
noncomputable instance (p : Px) : Decidable (okP p) := Classical.propDecidable _
/-- The errors of CheckAddr, of Check. -/
noncomputable def eA (a : Ad) : Int := if okA a then 0 else 150
noncomputable def eP (p : Px) : Int := if okP p then 0 else 151
theorem eA_ok {a : Ad} (h : okA a) : eA a = 0 := if_pos h
theorem eA_no {a : Ad} (h : ¬ okA a) : eA a = 150 := if_neg h
theorem eP_ok {p : Px} (h : okP p) : eP p = 0 := if_pos h
theorem eP_no {p : Px} (h : ¬ okP p) : eP p = 151 := if_neg h

/-! ### The types' rows; loads, stores, equalities under names of their own -/
theorem z_b16 : (Tryd.prog.info? 61).map (fun i => (i.zero, i.size)) = some (some (.agg B16.zero.cs), 16) := by kernel_rfl
theorem z_ad : (Tryd.prog.info? 63).map (fun i => (i.zero, i.size)) = some (some (.agg Ad.zero.cs), 17) := by kernel_rfl
theorem z_px : (Tryd.prog.info? 65).map (fun i => (i.zero, i.size)) = some (some (.agg Px.zero.cs), 18) := by kernel_rfl
theorem s_b16 (b : B16) : (Tryd.prog.info? 61).map (·.size) = some b.cs.size := by rw [b.size]; exact (zero_of_info z_b16).2
theorem s_ad (a : Ad) : (Tryd.prog.info? 63).map (·.size) = some a.cs.size := by rw [a.size]; exact (zero_of_info z_ad).2
theorem s_px (p : Px) : (Tryd.prog.info? 65).map (·.size) = some p.cs.size := by rw [p.size]; exact (zero_of_info z_px).2
theorem load_b16_rule (v : Value) : Instr.loadAt 61 v = loadSem 61 v := rfl
theorem store_b16_rule (v x : Value) : Instr.storeAt 61 v x = storeSem 61 v x := rfl
theorem load_ad_rule (v : Value) : Instr.loadAt 63 v = loadSem 63 v := rfl
theorem store_ad_rule (v x : Value) : Instr.storeAt 63 v x = storeSem 63 v x := rfl
theorem load_px_rule (v : Value) : Instr.loadAt 65 v = loadSem 65 v := rfl
theorem store_px_rule (v x : Value) : Instr.storeAt 65 v x = storeSem 65 v x := rfl
def eqSem (t : TypeId) (a b : Value) : Sem Bool := Op.equalIn 10000 t a b
theorem eq_b16_rule (a b : Value) : Op.equalIn 10000 61 a b = eqSem 61 a b := rfl
theorem eq_ad_rule (a b : Value) : Op.equalIn 10000 63 a b = eqSem 63 a b := rfl
theorem eq_px_rule (a b : Value) : Op.equalIn 10000 65 a b = eqSem 65 a b := rfl

noncomputable instance : DecidableEq B16 := fun _ _ => Classical.propDecidable _
noncomputable instance : DecidableEq Ad := fun _ _ => Classical.propDecidable _
noncomputable instance : DecidableEq Px := fun _ _ => Classical.propDecidable _

theorem equal_b16 (d : Nat) (a b : B16) (w : World) : (Op.equalIn (d + 2) 61 (.agg a.cs) (.agg b.cs)).run Tryd.prog w = .ok (decide (a = b)) w := by
  rw [show d + 2 = (d + 1) + 1 from rfl, Op.equalIn]
  have hu := run_underlying (P := Tryd.prog) Tryd.underlying61 w
  have hn : (sizeOf 5).run Tryd.prog w = .ok 1 w := by kernel_rfl
  simp only [Sem.run_bind, hu, Result.andThen_ok, hn]
  have hagg : (isAgg 5).run Tryd.prog w = .ok false w := by kernel_rfl
  have hpart : ∀ (c : B16) i, i < 16 → (part 5 c.cs (i * 1)).run Tryd.prog w = .ok (.int .u8 (c.at i : Int)) w := by
    intro c i hi
    have hc := c.get i hi
    unfold part
    simp only [Sem.run_bind, hagg, Result.andThen_ok, Nat.mul_one, hc]
    rfl
  have he : ∀ x y : Nat, (Op.equalIn (d + 1) 5 (.int .u8 (x : Int)) (.int .u8 (y : Int))).run Tryd.prog w = .ok (decide (x = y)) w := by
    intro x y
    have := run_equalIn_int (P := Tryd.prog) (w := w) d 5 .u8 .u8 (x : Int) (y : Int) Tryd.underlying5
    rw [this]
    congr 1
    rw [Bool.eq_iff_iff, beq_iff_eq, decide_eq_true_eq]
    omega
  have hloop : ∀ l : List Nat, (∀ i ∈ l, i < 16) → Sem.run Tryd.prog (forIn l ((none : Option Bool), ()) fun i __s => do
      let x ← part 5 a.cs (i * 1)
      let y ← part 5 b.cs (i * 1)
      let z ← Op.equalIn (d + 1) 5 x y
      if (!z) = true then pure (ForInStep.done (some false, ())) else pure (ForInStep.yield (none, ()))) w = .ok (if (∀ i ∈ l, a.at i = b.at i) then (none, ()) else (some false, ())) w := by
    intro l
    induction l with
    | nil => intro _; simp
    | cons i l ih =>
      intro h
      rw [List.forIn_cons]
      simp only [Sem.run_bind, hpart a i (h i (by simp)), hpart b i (h i (by simp)), he, Result.andThen_ok]
      by_cases hx : a.at i = b.at i
      · have hd : (!decide (a.at i = b.at i)) = false := by simp [hx]
        simp only [hd, Bool.false_eq_true, if_false, Sem.run_pure, Result.andThen_ok]
        rw [ih (fun j hj => h j (by simp [hj]))]
        simp [hx]
      · have hd : (!decide (a.at i = b.at i)) = true := by simp [hx]
        simp only [hd, if_true, Sem.run_pure, Result.andThen_ok]
        have : ¬ (∀ j ∈ i :: l, a.at j = b.at j) := fun h9 => hx (h9 i (by simp))
        rw [if_neg this]
  simp only [Std.Legacy.Range.forIn_eq_forIn_range', Std.Legacy.Range.size, Nat.sub_zero, Nat.add_sub_cancel, Nat.div_one]
  rw [hloop _ (by intro i hi; have := List.mem_range'_1.1 hi; omega)]
  by_cases hab : a = b
  · subst hab
    simp
  · have : ¬ (∀ i ∈ List.range' 0 16, a.at i = b.at i) := fun h9 => hab (B16.ext_at fun i hi => h9 i (List.mem_range'_1.2 ⟨by omega, by omega⟩))
    rw [if_neg this]
    simp [hab]
theorem equal_int (d : Nat) (x y : Int) (w : World) : (Op.equalIn (d + 1) 3 (.int .i64 x) (.int .i64 y)).run Tryd.prog w = .ok (decide (x = y)) w := by
  have := run_equalIn_int (P := Tryd.prog) (w := w) d 3 .i64 .i64 x y Tryd.underlying3
  rw [this]
  congr 1
theorem Ad.same {a b : Ad} : a = b ↔ a.v = b.v ∧ a.b = b.b := by
  obtain ⟨v, x⟩ := a
  obtain ⟨u, y⟩ := b
  simp
theorem Px.same {p q : Px} : p = q ↔ p.a = q.a ∧ p.n = q.n := by
  obtain ⟨v, x⟩ := p
  obtain ⟨u, y⟩ := q
  simp
theorem part_v (a : Ad) (w : World) : (part 3 a.cs 0).run Tryd.prog w = .ok (.int .i64 a.v) w := by
  have hagg : (isAgg 3).run Tryd.prog w = .ok false w := by kernel_rfl
  unfold part
  simp only [Sem.run_bind, hagg, Result.andThen_ok, a.c0]
  rfl
theorem part_b (a : Ad) (w : World) : (part 61 a.cs 1).run Tryd.prog w = .ok (.agg a.b.cs) w := by
  have hagg : (isAgg 61).run Tryd.prog w = .ok true w := by kernel_rfl
  have hn : (sizeOf 61).run Tryd.prog w = .ok 16 w := by kernel_rfl
  have e : a.cs.extract 1 (1 + 16) = a.b.cs := by
    apply Array.ext_getElem?
    intro j
    rw [Array.getElem?_extract, a.size]
    by_cases hj : j < 16
    · rw [if_pos (by omega), a.c1]
    · rw [if_neg (by omega), Array.getElem?_eq_none (by rw [B16.size]; omega)]
  unfold part
  simp only [Sem.run_bind, hagg, hn, Result.andThen_ok, if_true, a.size, e]
  first | rfl | (simp; rfl) | simp
theorem part_a (p : Px) (w : World) : (part 63 p.cs 0).run Tryd.prog w = .ok (.agg p.a.cs) w := by
  have hagg : (isAgg 63).run Tryd.prog w = .ok true w := by kernel_rfl
  have hn : (sizeOf 63).run Tryd.prog w = .ok 17 w := by kernel_rfl
  have e : p.cs.extract 0 (0 + 17) = p.a.cs := by
    apply Array.ext_getElem?
    intro j
    rw [Array.getElem?_extract, p.size]
    by_cases hj : j < 17
    · rw [if_pos (by omega), Nat.zero_add, p.ca j hj]
    · rw [if_neg (by omega), Array.getElem?_eq_none (by rw [Ad.size]; omega)]
  unfold part
  simp only [Sem.run_bind, hagg, hn, Result.andThen_ok, if_true, p.size, e]
  first | rfl | (simp; rfl) | simp
theorem part_n (p : Px) (w : World) : (part 3 p.cs 17).run Tryd.prog w = .ok (.int .i64 p.n) w := by
  have hagg : (isAgg 3).run Tryd.prog w = .ok false w := by kernel_rfl
  unfold part
  simp only [Sem.run_bind, hagg, Result.andThen_ok, p.cn]
  rfl
theorem stood_ad : Tryd.prog.stoodInHeld 63 = false := by kernel_rfl
theorem stood_px : Tryd.prog.stoodInHeld 65 = false := by kernel_rfl
theorem run_prog (w : World) : (program).run Tryd.prog w = .ok Tryd.prog w := rfl
theorem equal_ad (d : Nat) (a b : Ad) (w : World) : (Op.equalIn (d + 3) 63 (.agg a.cs) (.agg b.cs)).run Tryd.prog w = .ok (decide (a = b)) w := by
  rw [show d + 3 = (d + 2) + 1 from rfl, Op.equalIn]
  have hu := run_underlying (P := Tryd.prog) Tryd.underlying63 w
  have h2 := fun x y => equal_int (d + 1) x y w
  have h3 := fun x y => equal_b16 d x y w
  simp only [Sem.run_bind, hu, Result.andThen_ok, run_prog, stood_ad]
  simp only [Bool.false_eq_true, if_false, List.forIn_toArray, List.forIn_cons, List.forIn_nil, Sem.run_bind, Sem.run_pure, Result.andThen_ok]
  simp only [show ("Version" ≠ "_") = True from by simp, show ("Bytes" ≠ "_") = True from by simp, if_true, Sem.run_bind, Result.andThen_ok, part_v, part_b, h2, h3]
  by_cases hv : a.v = b.v
  · have hd : (!decide (a.v = b.v)) = false := by simp [hv]
    simp only [hd, Bool.false_eq_true, if_false, Sem.run_pure, Sem.run_bind, Result.andThen_ok, part_b, h3]
    by_cases hb : a.b = b.b
    · have hd2 : (!decide (a.b = b.b)) = false := by simp [hb]
      have he : decide (a = b) = true := decide_eq_true (Ad.same.2 ⟨hv, hb⟩)
      simp only [hd2, Bool.false_eq_true, if_false, Sem.run_pure, Result.andThen_ok, he]
    · have hd2 : (!decide (a.b = b.b)) = true := by simp [hb]
      have he : decide (a = b) = false := decide_eq_false (fun h => hb (Ad.same.1 h).2)
      simp only [hd2, if_true, Sem.run_pure, Result.andThen_ok, he]
  · have hd : (!decide (a.v = b.v)) = true := by simp [hv]
    have he : decide (a = b) = false := decide_eq_false (fun h => hv (Ad.same.1 h).1)
    simp only [hd, if_true, Sem.run_pure, Result.andThen_ok, he]
theorem equal_px (d : Nat) (p q : Px) (w : World) : (Op.equalIn (d + 4) 65 (.agg p.cs) (.agg q.cs)).run Tryd.prog w = .ok (decide (p = q)) w := by
  rw [show d + 4 = (d + 3) + 1 from rfl, Op.equalIn]
  have hu := run_underlying (P := Tryd.prog) Tryd.underlying65 w
  have h2 := fun x y => equal_int (d + 2) x y w
  have h3 := fun x y => equal_ad d x y w
  simp only [Sem.run_bind, hu, Result.andThen_ok, run_prog, stood_px]
  simp only [Bool.false_eq_true, if_false, List.forIn_toArray, List.forIn_cons, List.forIn_nil, Sem.run_bind, Sem.run_pure, Result.andThen_ok]
  simp only [show ("Addr" ≠ "_") = True from by simp, show ("Bits" ≠ "_") = True from by simp, if_true, Sem.run_bind, Result.andThen_ok, part_a, part_n, h2, h3]
  by_cases hv : p.a = q.a
  · have hd : (!decide (p.a = q.a)) = false := by simp [hv]
    simp only [hd, Bool.false_eq_true, if_false, Sem.run_pure, Sem.run_bind, Result.andThen_ok, part_n, h2]
    by_cases hb : p.n = q.n
    · have hd2 : (!decide (p.n = q.n)) = false := by simp [hb]
      have he : decide (p = q) = true := decide_eq_true (Px.same.2 ⟨hv, hb⟩)
      simp only [hd2, Bool.false_eq_true, if_false, Sem.run_pure, Result.andThen_ok, he]
    · have hd2 : (!decide (p.n = q.n)) = true := by simp [hb]
      have he : decide (p = q) = false := decide_eq_false (fun h => hb (Px.same.1 h).2)
      simp only [hd2, if_true, Sem.run_pure, Result.andThen_ok, he]
  · have hd : (!decide (p.a = q.a)) = true := by simp [hv]
    have he : decide (p = q) = false := decide_eq_false (fun h => hv (Px.same.1 h).1)
    simp only [hd, if_true, Sem.run_pure, Result.andThen_ok, he]
theorem eqB (a b : B16) (w : World) : (eqSem 61 (.agg a.cs) (.agg b.cs)).run Tryd.prog w = .ok (decide (a = b)) w := by
  unfold eqSem
  obtain ⟨d, hd⟩ : ∃ d, d + 2 = 10000 := ⟨9998, rfl⟩
  rw [← hd]
  exact equal_b16 d a b w
theorem eqA (a b : Ad) (w : World) : (eqSem 63 (.agg a.cs) (.agg b.cs)).run Tryd.prog w = .ok (decide (a = b)) w := by
  unfold eqSem
  obtain ⟨d, hd⟩ : ∃ d, d + 3 = 10000 := ⟨9997, rfl⟩
  rw [← hd]
  exact equal_ad d a b w
theorem eqP (a b : Px) (w : World) : (eqSem 65 (.agg a.cs) (.agg b.cs)).run Tryd.prog w = .ok (decide (a = b)) w := by
  unfold eqSem
  obtain ⟨d, hd⟩ : ∃ d, d + 4 = 10000 := ⟨9996, rfl⟩
  rw [← hd]
  exact equal_px d a b w
end Go.Proofs.YtclkfmblogkakaaDoor
namespace Go.Proofs.YtclkfmblogkakaaDoor
open Go.RowKit
set_option linter.unusedVariables false
set_option maxRecDepth 100000

theorem bel_trans {w a b : World} (h : Below w.heap.size w a) (k : Below a.heap.size a b) : Below w.heap.size w b := h.trans (k.mono h.size)
theorem bel_drew {w a : World} {B : Nat} (h : Below B w a) : Below B w a.drew := ⟨h.os, h.tape, h.output, h.size, h.block⟩

theorem cell_lt {w : World} {p : Addr} {v : Value} (h : w.cell? p = some v) : p.block < w.heap.size := by
  obtain ⟨b, o, s⟩ := p
  rcases Nat.lt_or_ge b w.heap.size with h1 | h1
  · exact h1
  · unfold World.cell? at h
    rw [Array.getElem?_eq_none h1] at h
    cases s <;> simp at h
theorem td (n k : Nat) : ((n : Int)).tdiv (k : Int) = ((n / k : Nat) : Int) := by rw [Int.tdiv_eq_ediv_of_nonneg (by omega)]; simp
theorem tm (n k : Nat) : ((n : Int)).tmod (k : Int) = ((n % k : Nat) : Int) := by rw [Int.tmod_eq_emod_of_nonneg (by omega)]; simp
/-- What the package's own row of widths holds. -/
def Wid (w : World) : Prop := ∀ j : Nat, j < 7 → w.cell? ⟨0, j, none⟩ = some (.int .i64 ((wid (j : Int) : Nat) : Int))
theorem Wid.later {w w' : World} (h : Wid w) (k : Below w.heap.size w w') : Wid w' := fun j hj => (k.cell (p := ⟨0, j, none⟩) (cell_lt (h j hj))).trans (h j hj)
theorem Wid.drew {w : World} (h : Wid w) : Wid w.drew := h

set_option maxHeartbeats 400000 in
theorem width_any (v : Int) (w : World) (hW : Wid w) : Calls Tryd.prog 79 #[.int .i64 v] w fun e w' => e = .returned (.int .i64 ((wid v : Nat) : Int)) ∧ w = w' := by
  by_cases h1 : v < 0
  · have hv : wid v = 0 := by unfold wid; rw [if_neg (by omega), if_neg (by omega)]
    have HV := Lib.hid hv
    have d1 : decide (v < 0) = true := by simpa using h1
    clear hv
    go_enter Tryd.func79, Tryd.ntmps79
    go_wp2
    go_ret
    exact ⟨by rw [HV.out]; rfl, rfl⟩
  · have d1 : decide (v < 0) = false := by simpa using h1
    by_cases h2 : 7 ≤ v
    · have hv : wid v = 0 := by unfold wid; rw [if_neg (by omega), if_neg (by omega)]
      have HV := Lib.hid hv
      have d2 : decide (7 ≤ v) = true := by simpa using h2
      clear hv
      go_enter Tryd.func79, Tryd.ntmps79
      go_wp2
      go_ret
      exact ⟨by rw [HV.out]; rfl, rfl⟩
    · have d2 : decide (7 ≤ v) = false := by simpa using h2
      obtain ⟨n, rfl⟩ := Int.eq_ofNat_of_zero_le (by omega : 0 ≤ v)
      have hc := hW n (by omega)
      generalize wid (n : Int) = x at *
      go_enter Tryd.func79, Tryd.ntmps79
      go_wp2
      go_ret
      exact ⟨rfl, rfl⟩

set_option maxHeartbeats 400000 in
theorem refwidth_any (v : Int) (w : World) : Calls Tryd.prog 97 #[.int .i64 v] w fun e w' => e = .returned (.int .i64 ((wid v : Nat) : Int)) ∧ w = w' := by
  by_cases h1 : v = 4
  · subst h1
    go_enter Tryd.func97, Tryd.ntmps97
    go_wp2
    go_ret
    exact ⟨rfl, rfl⟩
  · by_cases h2 : v = 6
    · subst h2
      go_enter Tryd.func97, Tryd.ntmps97
      go_wp2
      go_ret
      exact ⟨rfl, rfl⟩
    · have hv : wid v = 0 := by unfold wid; rw [if_neg h1, if_neg h2]
      have HV := Lib.hid hv
      have d1 : (v == 4) = false := by simpa using h1
      have d2 : (v == 6) = false := by simpa using h2
      clear hv
      go_enter Tryd.func97, Tryd.ntmps97
      go_wp2
      go_ret
      exact ⟨by rw [HV.out]; rfl, rfl⟩

theorem within_any (b n : Int) (w : World) : Calls Tryd.prog 78 #[.int .i64 b, .int .i64 n] w fun e w' => e = .returned (.bool (decide (0 ≤ b ∧ b ≤ n))) ∧ w = w' := by
  by_cases h1 : 0 ≤ b
  · have d1 : decide (0 ≤ b) = true := by simpa using h1
    go_enter Tryd.func78, Tryd.ntmps78
    go_wp2
    go_ret
    exact ⟨by simp [h1], rfl⟩
  · have d1 : decide (0 ≤ b) = false := by simpa using h1
    go_enter Tryd.func78, Tryd.ntmps78
    go_wp2
    go_ret
    exact ⟨by simp [h1], rfl⟩

/-- How many bytes so many bits fill. -/
def fill8 (n : Nat) : Nat := (n + 7) / 8
theorem filled_any (n : Nat) (hn : n ≤ 255) (w : World) : Calls Tryd.prog 108 #[.int .i64 (n : Int)] w fun e w' => e = .returned (.int .i64 ((fill8 n : Nat) : Int)) ∧ w = w' := by
  have hf : (((n : Int) + 7) / 8) = ((fill8 n : Nat) : Int) := by unfold fill8; omega
  have HF := Lib.hid hf
  clear hf
  go_enter Tryd.func108, Tryd.ntmps108
  go_wp2
  go_ret
  exact ⟨by rw [← HF.out]; rfl, rfl⟩

/-- A bit as a number. -/
def btI (b : B16) (i : Nat) : Int := ((bt b i).toNat : Int)
theorem bit_num (x k : Nat) : x / 2 ^ k % 2 = (x.testBit k).toNat := by
  rw [Nat.testBit_eq_decide_div_mod_eq]
  by_cases h : x / 2 ^ k % 2 = 1
  · simp [h]
  · have : x / 2 ^ k % 2 = 0 := by omega
    simp [this]
theorem btI_num (b : B16) (i : Nat) : ((b.at (i / 8) : Int) / 2 ^ (7 - i % 8)).tmod 2 = btI b i := by
  unfold btI bt
  rw [← bit_num]
  have : ((b.at (i / 8) : Int) / 2 ^ (7 - i % 8)) = ((b.at (i / 8) / 2 ^ (7 - i % 8) : Nat) : Int) := by simp
  rw [this]
  exact tm _ 2
set_option maxHeartbeats 400000 in
theorem at_any (b : B16) (i : Nat) (hi : i < 128) (w : World) : Calls Tryd.prog 98 #[.agg b.cs, .int .i64 (i : Int)] w fun e w' => e = .returned (.int .i64 (btI b i)) ∧ Below w.heap.size w w' := by
  obtain ⟨W1, hW1⟩ : ∃ W1, w.alloc (.cells b.cs 61) = W1 := ⟨_, rfl⟩
  have hb1 : Below w.heap.size w W1 := by rw [← hW1]; exact (Below.refl _ _).alloc (Nat.le_refl _) _
  have b1 : Blk W1 w.heap.size 61 b.cs := by rw [← hW1]; exact Blk.new w _ _
  have hc : W1.cell? ⟨w.heap.size, i / 8, none⟩ = some (.int .u8 (b.at (i / 8) : Int)) := (b1.cell _).trans (b.get _ (by omega))
  have hx := b.lt (i / 8)
  have HX := Lib.hid (btI_num b i)
  have q1 : ((i : Int)).tdiv 8 = ((i / 8 : Nat) : Int) := td i 8
  have q2 : ((i : Int)).tmod 8 = ((i % 8 : Nat) : Int) := tm i 8
  generalize hq : i / 8 = q at *
  generalize hr : i % 8 = r at *
  have q3 : (q : Int) < 16 := by omega
  have q4 : r < 8 := by omega
  generalize b.at q = x at *
  have H1 := Lib.hid (And.intro hb1 b1)
  clear hb1 b1 hq hr
  go_enter Tryd.func98, Tryd.ntmps98
  go_wp2
  go_ret
  exact ⟨by rw [← HX.out]; rfl, H1.out.1⟩

/-! ### kept -/
/-- The first k bytes are kept to their first bits, the others stand as they were. -/
def keptK (b : B16) (n k : Nat) : B16 :=
  ⟨(List.range 16).map fun i => if i < k then keepN (b.at i) (stayN n i) else b.at i, by simp, fun m hm => by
    obtain ⟨i, _, rfl⟩ := List.mem_map.1 hm
    split
    · exact Nat.lt_of_le_of_lt (keepN_le _ _) (b.lt i)
    · exact b.lt i⟩
theorem keptK_at (b : B16) (n k i : Nat) (h : i < 16) : (keptK b n k).at i = if i < k then keepN (b.at i) (stayN n i) else b.at i := by
  simp [keptK, B16.at, h]
theorem keptK_zero (b : B16) (n : Nat) : keptK b n 0 = b := B16.ext_at fun i hi => by rw [keptK_at _ _ _ _ hi]; simp
theorem keptK_all (b : B16) (n : Nat) : keptK b n 16 = keptB b n := B16.ext_at fun i hi => by rw [keptK_at _ _ _ _ hi, keptB_at _ _ _ hi, if_pos hi]
theorem B16.set_cs (a b : B16) (k x : Nat) (h : ∀ i, i < 16 → b.at i = if i = k then x else a.at i) : a.cs.setIfInBounds k (.int .u8 (x : Int)) = b.cs := by
  apply Array.ext_getElem?
  intro i
  by_cases hi : i < 16
  · rw [b.get i hi, h i hi, Array.getElem?_setIfInBounds]
    by_cases hk : k = i
    · subst hk
      rw [if_pos rfl, if_pos (by rw [B16.size]; exact hi), if_pos rfl]
    · rw [if_neg hk, a.get i hi, if_neg (fun e => hk e.symm)]
  · rw [Array.getElem?_eq_none (by simp [B16.size]; omega), Array.getElem?_eq_none (by rw [B16.size]; omega)]
theorem keep_and : ∀ x, x < 256 → ∀ t, t ≤ 8 → x &&& (255 * 2 ^ t % 256) = x / 2 ^ t * 2 ^ t := by decide +kernel
theorem keep_num (x s : Nat) (hx : x < 256) (hs : s ≤ 8) : bits .and .u8 (x : Int) (255 * 2 ^ (8 - s) % 256) = ((keepN x s : Nat) : Int) := by
  have h := u8_and_nat x (255 * 2 ^ (8 - s) % 256) hx (Nat.mod_lt _ (by omega))
  rw [keep_and x hx (8 - s) (by omega)] at h
  unfold keepN
  rw [← h]
  congr 1

attribute [local go_sem ↓] load_b16_rule store_b16_rule
set_option maxHeartbeats 1600000 in
theorem kept_any (b : B16) (n : Nat) (hn : n ≤ 255) (w : World) : Calls Tryd.prog 80 #[.agg b.cs, .int .i64 (n : Int)] w fun e w' => e = .returned (.agg (keptB b n).cs) ∧ Below w.heap.size w w' := by
  obtain ⟨W1, hW1⟩ : ∃ W1, (w.alloc (.cells b.cs 61)).alloc (.cells B16.zero.cs 61) = W1 := ⟨_, rfl⟩
  have hb1 : Below w.heap.size w W1 := by rw [← hW1]; exact ((Below.refl _ _).alloc (Nat.le_refl _) _).alloc (by simp) _
  have b1 : Blk W1 w.heap.size 61 (keptK b n 0).cs := by rw [← hW1, keptK_zero]; exact (Blk.new w _ _).alloc _
  have b2 : Blk W1 (w.heap.size + 1) 61 B16.zero.cs := by
    have := Blk.new (w.alloc (.cells b.cs 61)) 61 B16.zero.cs
    rw [World.size_alloc] at this
    rw [← hW1]; exact this
  have H1 := Lib.hid (And.intro hb1 (And.intro b1 b2))
  clear hb1 b1 b2
  go_enter Tryd.func80, Tryd.ntmps80
  go_wp2_with (with_reducible refine wpList_alloc_z rfl 61 rfl B16.zero.cs 16 z_b16 ?_)
  clear hW1
  go_loopw [5, 6, 7] (fun i s k wr => ∃ m : Nat, m ≤ 16 ∧ k = .int .i64 m ∧ Blk wr w.heap.size 61 (keptK b n m).cs ∧ Blk wr (w.heap.size + 1) 61 B16.zero.cs ∧ Below w.heap.size w wr) (fun i s k _ => 16 - (intOf k).toNat)
  case atStart => exact ⟨0, Nat.zero_le _, rfl, H1.out.2.1, H1.out.2.2, H1.out.1⟩
  case round =>
    obtain ⟨m, hm, rfl, hA, hZ, hB⟩ := hrel
    by_cases hlt : m < 16
    · have hc : wr.cell? ⟨w.heap.size, m, none⟩ = some (.int .u8 (b.at m : Int)) := by
        rw [hA.cell, (keptK b n m).get m hlt, keptK_at _ _ _ _ hlt, if_neg (by omega)]
      have hf := hA.free m
      have hx := b.lt m
      have hs : stayN n m ≤ 8 := by unfold stayN; omega
      obtain ⟨t, ht⟩ : ∃ t : Int, (if (n : Int) - 8 * (m : Int) < 0 then 0 else (n : Int) - 8 * (m : Int)) = t := ⟨_, rfl⟩
      have es : (if 8 < t then 8 else t) = ((stayN n m : Nat) : Int) := by rw [← ht]; unfold stayN; split <;> split <;> omega
      have hk := keep_num (b.at m) (stayN n m) hx hs
      have hr : ∀ i, i < 16 → (keptK b n (m + 1)).at i = if i = m then keepN (b.at m) (stayN n m) else (keptK b n m).at i := fun i hi => by
        rw [keptK_at _ _ _ _ hi, keptK_at _ _ _ _ hi]
        by_cases h1 : i = m
        · subst h1; rw [if_pos (by omega), if_pos rfl]
        · rw [if_neg h1]
          by_cases h2 : i < m
          · rw [if_pos (by omega), if_pos h2]
          · rw [if_neg (by omega), if_neg h2]
      have hA2 := hA.set m (.int .u8 ((keepN (b.at m) (stayN n m) : Nat) : Int))
      rw [B16.set_cs _ _ _ _ hr] at hA2
      have hZ2 := hZ.far (p := ⟨w.heap.size, m, none⟩) (by simp) (.int .u8 ((keepN (b.at m) (stayN n m) : Nat) : Int))
      have hB2 := hB.setCell (p := ⟨w.heap.size, m, none⟩) (Nat.le_refl _) (.int .u8 ((keepN (b.at m) (stayN n m) : Nat) : Int))
      generalize keepN (b.at m) (stayN n m) = y at *
      generalize stayN n m = s at *
      generalize b.at m = x at *
      have HE := Lib.hid (And.intro hA2 (And.intro hZ2 hB2))
      have hm2 : (m : Int) < 16 := by omega
      clear hA hZ hB hA2 hZ2 hB2 hr
      go_wp2
      clear ht es
      have hs2 : (s : Int) ≤ 8 := by omega
      have hz : decide ((8 : Int) - (s : Int) < 0) = false := by simp; omega
      go_region
      go_wp2
      go_roundw
      case rel => exact ⟨m + 1, by omega, by go_num, HE.out.1.drew, HE.out.2.1.drew, bel_drew HE.out.2.2⟩
      case measure => simp [intOf]; omega
    · obtain rfl : m = 16 := by omega
      rw [keptK_all] at hA
      have hL : (loadSem 61 (.pointer (some ⟨w.heap.size, 0, none⟩))).run Tryd.prog wr = .ok (.agg (keptB b n).cs) wr := loadRes_of (o := 0) hA (fun q _ => by rw [Nat.zero_add]) _ Tryd.underlying61 rfl (s_b16 _)
      have hS := storeRes_of (P := Tryd.prog) (ty := 61) (o := 0) (vs := (keptB b n).cs) hZ (by rw [B16.size, B16.size]; omega) (s_b16 _) (B16.one _)
      rw [over_all (by rw [B16.size, B16.size])] at hS
      have hZ2 := hZ.row (keptB b n).cs
      have hB2 := below_setRow hB (show w.heap.size ≤ w.heap.size + 1 by omega) (keptB b n).cs
      have HE := Lib.hid (And.intro hZ2 hB2)
      clear hA hZ hB hZ2 hB2
      go_wp2
      refine bodyPost_ret (results_cell_row rfl _ _ (w.heap.size + 1) 61 _ (0, 0) _ rfl HE.out.1 Tryd.underlying61 rfl (s_b16 _)) rfl ?_
      exact ⟨rfl, HE.out.2⟩
theorem keptp_any (b : B16) (n : Int) (h0 : 0 ≤ n) (h1 : n ≤ 255) (w : World) : Calls Tryd.prog 80 #[.agg b.cs, .int .i64 n] w fun e w' => e = .returned (.agg (keptB b n.toNat).cs) ∧ Below w.heap.size w w' := by
  obtain ⟨k, rfl⟩ := Int.eq_ofNat_of_zero_le h0
  exact kept_any b k (by omega) w
theorem same_bel {w w' : World} (h : w = w') : Below w.heap.size w w' := h ▸ Below.refl _ _
theorem width_b (v : Int) (w : World) (hW : Wid w) : Calls Tryd.prog 79 #[.int .i64 v] w fun e w' => e = .returned (.int .i64 ((wid v : Nat) : Int)) ∧ Below w.heap.size w w' := (width_any v w hW).mono fun e w' h => ⟨h.1, same_bel h.2⟩
theorem refwidth_b (v : Int) (w : World) : Calls Tryd.prog 97 #[.int .i64 v] w fun e w' => e = .returned (.int .i64 ((wid v : Nat) : Int)) ∧ Below w.heap.size w w' := (refwidth_any v w).mono fun e w' h => ⟨h.1, same_bel h.2⟩
theorem within_b (b n : Int) (w : World) : Calls Tryd.prog 78 #[.int .i64 b, .int .i64 n] w fun e w' => e = .returned (.bool (decide (0 ≤ b ∧ b ≤ n))) ∧ Below w.heap.size w w' := (within_any b n w).mono fun e w' h => ⟨h.1, same_bel h.2⟩
theorem filled_b (n : Nat) (hn : n ≤ 255) (w : World) : Calls Tryd.prog 108 #[.int .i64 (n : Int)] w fun e w' => e = .returned (.int .i64 ((fill8 n : Nat) : Int)) ∧ Below w.heap.size w w' := (filled_any n hn w).mono fun e w' h => ⟨h.1, same_bel h.2⟩
end Go.Proofs.YtclkfmblogkakaaDoor
