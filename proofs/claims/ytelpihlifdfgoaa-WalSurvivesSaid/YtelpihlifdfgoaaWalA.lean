/-
  Parts of frames: their bytes, and the contracts of wal's Sectors, head, check and block. Nothing here is a statement of the document.
-/
import Derived.Test.YtelpihlifdfgoaaSumB
import Derived.Lib.BytesEntry
import Derived.Laws.Externs
import Derived.Deep.RegionHeld3
import Derived.Laws.Cover3
import Derived.Test.YtelpihlifdfgoaaOctC
namespace Go.Proofs.Ytelpihlifdfgoaa
open Go.RowKit
set_option linter.unusedVariables false

/-- Which of two numbers comes first. -/
def cmpN (x y : Nat) : Int := if x < y then -1 else if y < x then 1 else 0

/-- Which of two rows of bytes comes first. -/
def cmpB : List Nat → List Nat → Int
  | [], [] => 0
  | [], _ :: _ => -1
  | _ :: _, [] => 1
  | a :: l, b :: m => if a < b then -1 else if b < a then 1 else cmpB l m

theorem compare_bytes : ∀ (l m : List Nat), Bys l → Bys m → Lib.compareBytes (l.map UInt8.ofNat) (m.map UInt8.ofNat) = cmpB l m
  | [], [], _, _ => rfl
  | [], _ :: _, _, _ => rfl
  | _ :: _, [], _, _ => rfl
  | a :: l, b :: m, hl, hm => by
    have ih := compare_bytes l m (fun n h => hl n (by simp [h])) (fun n h => hm n (by simp [h]))
    have ha : a < 256 := hl a (by simp)
    have hb : b < 256 := hm b (by simp)
    have e1 : (UInt8.ofNat a < UInt8.ofNat b) ↔ a < b := by
      rw [UInt8.lt_iff_toNat_lt, UInt8.toNat_ofNat', UInt8.toNat_ofNat']; omega
    have e2 : (UInt8.ofNat b < UInt8.ofNat a) ↔ b < a := by
      rw [UInt8.lt_iff_toNat_lt, UInt8.toNat_ofNat', UInt8.toNat_ofNat']; omega
    simp only [List.map_cons, Lib.compareBytes, cmpB, e1, e2, ih]

theorem load_bytes {w : World} {ao : Option Addr} {l : List Nat} (h : Lies w ao l) (cap : Nat) :
    (Extern.Bytes.bytesOf (.slice ao l.length cap)).run Try.prog w = .ok (strOf l) w := by
  rcases h with rfl | ⟨b, off, rfl, _, hc⟩
  · cases ao <;> rfl
  · have h := Lib.run_loadBytesX (P := Try.prog) w (intsOf l) ⟨b, off, none⟩ ByteArray.empty (fun j x hj => by
      have hjl : j < l.length := by
        have := (List.getElem?_eq_some_iff.1 hj).1
        simpa [intsOf] using this
      rw [Addr.add_lit, hc j hjl]
      have : (intsOf l)[j]? = some ((l.getD j 0 : Nat) : Int) := by simp [intsOf, hjl]
      rw [this] at hj
      cases hj
      rfl)
    rw [length_intsOf] at h
    refine h.trans ?_
    congr 1
    show ByteArray.mk (#[] ++ _) = _
    simp [strOf, strOfNums, Lib.bytesOf]

theorem cmpB_append : ∀ (l m p q : List Nat), l.length = m.length → cmpB (l ++ p) (m ++ q) = if cmpB l m = 0 then cmpB p q else cmpB l m
  | [], [], p, q, _ => by simp [cmpB]
  | [], _ :: _, _, _, h => by simp at h
  | _ :: _, [], _, _, h => by simp at h
  | a :: l, b :: m, p, q, h => by
    have ih := cmpB_append l m p q (by simpa using h)
    simp only [List.cons_append, cmpB]
    by_cases h1 : a < b
    · simp [h1]
    · by_cases h2 : b < a
      · simp [h1, h2]
      · simp [h1, h2, ih]

theorem cmpB_zero : ∀ (l m : List Nat), (l == m) = (cmpB l m == 0)
  | [], [] => rfl
  | [], _ :: _ => rfl
  | _ :: _, [] => rfl
  | a :: l, b :: m => by
    have ih := cmpB_zero l m
    simp only [cmpB, List.cons_beq_cons]
    by_cases h1 : a < b
    · have : (a == b) = false := by simp; omega
      simp [h1, this]
    · by_cases h2 : b < a
      · have : (a == b) = false := by simp; omega
        simp [h1, h2, this]
      · have : (a == b) = true := by simp; omega
        simp only [h1, h2, this, ih, if_false, Bool.true_and]

theorem highB_cons (x n : Nat) : highB x (n + 1) = (x / 2 ^ (8 * n) % 256) :: highB x n := by
  apply List.ext_getElem
  · simp [highB]
  · intro j h1 h2
    have hj : j < n + 1 := by simpa [highB] using h1
    cases j with
    | zero => simp [highB]
    | succ j =>
      simp only [highB, List.getElem_map, List.getElem_range, List.getElem_cons_succ]
      rw [show n + 1 - 1 - (j + 1) = n - 1 - j from by omega]

theorem cmpB_high (a b : Nat) : ∀ n, cmpB (highB a n) (highB b n) = cmpN (a % 2 ^ (8 * n)) (b % 2 ^ (8 * n))
  | 0 => by simp [highB, cmpB, cmpN, Nat.mod_one]
  | n + 1 => by
    have ih := cmpB_high a b n
    rw [highB_cons, highB_cons]
    simp only [cmpB, ih]
    have e : 2 ^ (8 * (n + 1)) = 2 ^ (8 * n) * 256 := by rw [show 8 * (n + 1) = 8 * n + 8 from by omega, Nat.pow_add]
    have ea := Nat.mod_mul (x := a) (a := 2 ^ (8 * n)) (b := 256)
    have eb := Nat.mod_mul (x := b) (a := 2 ^ (8 * n)) (b := 256)
    rw [e, ea, eb]
    have la : a % 2 ^ (8 * n) < 2 ^ (8 * n) := Nat.mod_lt _ (Nat.two_pow_pos _)
    have lb : b % 2 ^ (8 * n) < 2 ^ (8 * n) := Nat.mod_lt _ (Nat.two_pow_pos _)
    generalize a % 2 ^ (8 * n) = p at *
    generalize b % 2 ^ (8 * n) = q at *
    generalize a / 2 ^ (8 * n) % 256 = x at *
    generalize b / 2 ^ (8 * n) % 256 = y at *
    generalize 2 ^ (8 * n) = t at *
    unfold cmpN
    by_cases h1 : x < y
    · have h2 : p + t * x < q + t * y := by
        have : t * x + t ≤ t * y := by
          have := Nat.mul_le_mul_left t (show x + 1 ≤ y from h1)
          rw [Nat.mul_add, Nat.mul_one] at this
          exact this
        omega
      simp [h1, h2]
    · by_cases h2 : y < x
      · have h3 : q + t * y < p + t * x := by
          have : t * y + t ≤ t * x := by
            have := Nat.mul_le_mul_left t (show y + 1 ≤ x from h2)
            rw [Nat.mul_add, Nat.mul_one] at this
            exact this
          omega
        have h4 : ¬ p + t * x < q + t * y := by omega
        simp [h1, h2, h3, h4]
      · obtain rfl : x = y := by omega
        simp
end Go.Proofs.Ytelpihlifdfgoaa
namespace Go.Proofs.Ytelpihlifdfgoaa
open Go.RowKit
set_option linter.unusedVariables false

/-- The number that bytes make, the highest first, whatever its size. -/
def valB : List Nat → Nat
  | [] => 0
  | b :: l => b * 256 ^ l.length + valB l

theorem valB_lt : ∀ (l : List Nat), Bys l → valB l < 256 ^ l.length
  | [], _ => by simp [valB]
  | b :: l, h => by
    have ih := valB_lt l (fun n hn => h n (by simp [hn]))
    have hb : b < 256 := h b (by simp)
    simp only [valB, List.length_cons, Nat.pow_succ]
    generalize 256 ^ l.length = t at *
    have : b * t + t ≤ t * 256 := by
      have := Nat.mul_le_mul_right t (show b + 1 ≤ 256 by omega)
      rw [Nat.add_mul, Nat.one_mul] at this
      omega
    omega

theorem pow256 (n : Nat) : 256 ^ n = 2 ^ (8 * n) := by rw [Nat.pow_mul]

theorem highB_valB : ∀ (l : List Nat), Bys l → highB (valB l) l.length = l
  | [], _ => rfl
  | b :: l, h => by
    have hl : Bys l := fun n hn => h n (by simp [hn])
    have ih := highB_valB l hl
    have hb : b < 256 := h b (by simp)
    have hv := valB_lt l hl
    simp only [List.length_cons, highB_cons, valB]
    have e1 : (b * 256 ^ l.length + valB l) / 2 ^ (8 * l.length) % 256 = b := by
      rw [← pow256, Nat.add_comm, Nat.add_mul_div_right _ _ (Nat.pow_pos (by omega)), Nat.div_eq_of_lt hv]; omega
    have e2 : highB (b * 256 ^ l.length + valB l) l.length = highB (valB l) l.length := by
      rw [← high_mod (b * 256 ^ l.length + valB l), ← high_mod (valB l), ← pow256, Nat.add_comm, Nat.add_mul_mod_self_right]
    rw [e1, e2, ih]

theorem pile_valB : ∀ (l : List Nat) (v : Nat), Bys l → v < 18446744073709551616 → pile v l = (v * 256 ^ l.length + valB l) % 18446744073709551616
  | [], v, _, hv => by simp [pile, valB, Nat.mod_eq_of_lt hv]
  | b :: l, v, h, hv => by
    have hl : Bys l := fun n hn => h n (by simp [hn])
    have hb : b < 256 := h b (by simp)
    have e : pile v (b :: l) = pile (v * 256 % 18446744073709551616 + b) l := rfl
    rw [e, pile_valB l _ hl (by omega)]
    simp only [valB, List.length_cons, Nat.pow_succ]
    have e2 : (v * 256 % 18446744073709551616 + b) = (v * 256 + b) % 18446744073709551616 := by omega
    rw [e2]
    generalize 256 ^ l.length = t
    generalize valB l = q
    rw [Nat.add_mod, Nat.mod_mul_mod, ← Nat.add_mod]
    congr 1
    rw [Nat.add_mul, Nat.mul_assoc, Nat.mul_comm 256 t, Nat.add_assoc]

theorem pile_zero (l : List Nat) (h : Bys l) : pile 0 l = valB l % 18446744073709551616 := by
  rw [pile_valB l 0 h (by omega)]; simp

/-- Fewer than nine bytes make a number below 256 to their number. -/
theorem pile_small (l : List Nat) (n : Nat) (h : Bys l) (hn : l.length ≤ n) : pile 0 l % 256 ^ n = pile 0 l := by
  have hv := valB_lt l h
  have h2 : 256 ^ l.length ≤ 256 ^ n := Nat.pow_le_pow_right (by omega) hn
  rw [pile_zero l h]
  apply Nat.mod_eq_of_lt
  exact Nat.lt_of_le_of_lt (Nat.mod_le _ _) (by omega)

theorem bit_pile (l : List Nat) (k : Nat) (h : Bys l) (hk : k < 64) : bitB l (k : Int) = (pile 0 l / 2 ^ k % 2 == 1) := by
  have e := bitB_behind [] (valB l) l.length k
  rw [List.nil_append, highB_valB l h] at e
  rw [e, pile_zero l h]
  have e64 : (18446744073709551616 : Nat) = 2 ^ 64 := rfl
  rw [e64, low_bits _ _ _ hk]
  by_cases hlt : k < 8 * l.length
  · rw [if_pos hlt]
  · rw [if_neg hlt, bitB_nil]
    have hv := valB_lt l h
    rw [pow256] at hv
    have : 2 ^ (8 * l.length) ≤ 2 ^ k := Nat.pow_le_pow_right (by omega) (by omega)
    rw [Nat.div_eq_of_lt (by omega)]
    rfl

theorem mod_next_one (x k : Nat) (h : x / 2 ^ k % 2 = 1) : x % 2 ^ (k + 1) = x % 2 ^ k ||| 2 ^ k := by
  have e : x % 2 ^ (k + 1) = x % 2 ^ k + 2 ^ k := by rw [Nat.mod_pow_succ, h]; omega
  rw [e, Nat.or_comm, nat_join k _ _ (by simp) (Nat.mod_lt _ (Nat.two_pow_pos _)), Nat.add_comm]
theorem mod_next_zero (x k : Nat) (h : x / 2 ^ k % 2 = 0) : x % 2 ^ (k + 1) = x % 2 ^ k := by
  rw [Nat.mod_pow_succ, h]; omega

end Go.Proofs.Ytelpihlifdfgoaa
namespace Go.Proofs.Ytelpihlifdfgoaa
open Go.RowKit
set_option linter.unusedVariables false

set_option maxHeartbeats 400000 in
theorem seal_any (a : Option Addr) (len cap : Nat) (l : List Nat) (w : World) (hl : l.length = len) (hlm : len ≤ 140737488300000) (hB : Bys l) (hL : Lies w a l) :
    Calls Try.prog 68 #[.slice a len cap] w fun e w' => ∃ g, e = .returned (.slice (some ⟨g, 0, none⟩) (len + 4) (len + 4)) ∧ w.heap.size ≤ g ∧ Own w' g (l ++ highB (goS 1 l) 4) ∧ Below w.heap.size w w' := by
  have HN := Lib.hid hl
  have hv := goS_lt 1 l
  clear hl
  go_enter Try.func68, Try.ntmps68
  go_wp2_with fail
  refine (sum_any _ _ _ l _ HN.out (by omega) hB hL).mono ?_
  rintro e w1 ⟨rfl, hb⟩
  go_wp2_with fail
  refine (put32_any _ _ _ l (goS 1 l) _ HN.out (by omega) (hL.kept hb) (by omega)).mono ?_
  rintro e w2 ⟨rfl, hO, hb2⟩
  go_wp2_with fail
  go_ret
  exact ⟨_, rfl, hb.size, hO, hb.trans (hb2.mono hb.size)⟩

/-- What the last four bytes say. -/
def saidS (l : List Nat) : Nat := pile 0 (l.drop (l.length - 4))
/-- What is ahead of the last four bytes. -/
def aheadS (l : List Nat) : List Nat := l.take (l.length - 4)

theorem pile4 (x : Nat) (hx : x < 4294967296) : pile 0 (highB x 4) = x := by
  simp [highB, List.range, List.range.loop, pile]
  omega
theorem pile4_lt (l : List Nat) (hB : Bys l) (h : l.length = 4) : pile 0 l < 4294967296 := by
  have h1 := valB_lt l hB
  rw [pile_zero l hB]
  rw [h] at h1
  exact Nat.lt_of_le_of_lt (Nat.mod_le _ _) h1
theorem high4 (l : List Nat) (hB : Bys l) (h : l.length = 4) : highB (pile 0 l) 4 = l := by
  have h1 := highB_valB l hB
  have h2 := valB_lt l hB
  rw [h] at h1 h2
  rw [pile_zero l hB, Nat.mod_eq_of_lt (by omega)]
  exact h1
theorem Bys.drop {l : List Nat} (h : Bys l) (k : Nat) : Bys (l.drop k) := fun n hn => h n (List.mem_of_mem_drop hn)
theorem Bys.take {l : List Nat} (h : Bys l) (k : Nat) : Bys (l.take k) := fun n hn => h n (List.mem_of_mem_take hn)
theorem Bys.append {l m : List Nat} (h : Bys l) (h2 : Bys m) : Bys (l ++ m) := fun n hn => by
  rcases List.mem_append.1 hn with h9 | h9
  · exact h n h9
  · exact h2 n h9
theorem Bys.set {l : List Nat} (h : Bys l) (k x : Nat) (hx : x < 256) : Bys (l.set k x) := fun n hn => by
  rcases List.mem_or_eq_of_mem_set hn with h9 | h9
  · exact h n h9
  · omega
theorem Lies.part {w : World} {b off : Nat} {l : List Nat} (h : Lies w (some ⟨b, off, none⟩) l) (o : Nat) : Lies w (some ⟨b, off + o, none⟩) (l.drop o) := by
  rcases h with rfl | ⟨b, off, h, hlt, hc⟩
  · exact .inl (by simp)
  · cases h
    refine .inr ⟨_, _, rfl, hlt, fun i hi => ?_⟩
    rw [List.length_drop] at hi
    have := hc (o + i) (by omega)
    rw [Nat.add_assoc, this]
    simp [List.getElem?_drop]
theorem Lies.ahead {w : World} {a : Option Addr} {l : List Nat} (h : Lies w a l) (o : Nat) : Lies w a (l.take o) := by
  rcases h with rfl | ⟨b, off, rfl, hlt, hc⟩
  · exact .inl (by simp)
  · refine .inr ⟨_, _, rfl, hlt, fun i hi => ?_⟩
    rw [List.length_take] at hi
    rw [hc i (by omega)]
    simp [List.getElem?_take, show i < o by omega]

/-- What is opened: the bytes, or the error. -/
def openE (l : List Nat) : Int := if l.length < 4 then 7 else if goS 1 (aheadS l) = saidS l then 0 else 130

/-- Are these bytes sealed, by the document? -/
def opensB (l : List Nat) : Bool := decide (4 ≤ l.length) && (aheadS l ++ highB (goS 1 (aheadS l)) 4 == l)

theorem ahead_said (l : List Nat) (hB : Bys l) (h : 4 ≤ l.length) : l = aheadS l ++ highB (saidS l) 4 := by
  have := high4 (l.drop (l.length - 4)) (hB.drop _) (by rw [List.length_drop]; omega)
  unfold aheadS saidS
  rw [this, List.take_append_drop]
theorem opensB_iff (l : List Nat) (hB : Bys l) : opensB l = (openE l == 0) := by
  unfold opensB openE
  by_cases h : l.length < 4
  · rw [if_pos h]
    have : decide (4 ≤ l.length) = false := by simpa using h
    rw [this]; rfl
  · rw [if_neg h]
    have : decide (4 ≤ l.length) = true := by simpa using h
    rw [this, Bool.true_and]
    by_cases hs : goS 1 (aheadS l) = saidS l
    · rw [if_pos hs, hs, ← ahead_said l hB (by omega)]
      simp
    · rw [if_neg hs]
      have hne : aheadS l ++ highB (goS 1 (aheadS l)) 4 ≠ l := by
        intro e
        have e2 := ahead_said l hB (by omega)
        have e3 := e.trans e2
        have e4 := (List.append_inj' e3 (by rw [length_highB, length_highB])).2
        have h1 := goS_lt 1 (aheadS l)
        have h2 : saidS l < 4294967296 := pile4_lt _ (hB.drop _) (by rw [List.length_drop]; omega)
        have e5 := congrArg (pile 0) e4
        rw [pile4 _ (by omega), pile4 _ h2] at e5
        exact hs e5
      rw [beq_eq_false_iff_ne.2 hne]
      rfl

end Go.Proofs.Ytelpihlifdfgoaa
namespace Go.Proofs.Ytelpihlifdfgoaa
open Go.RowKit
set_option linter.unusedVariables false

theorem IsRow.bytesCap {w : World} {a : Option Addr} {len cap : Nat} {zs : List Int} (h : IsRow .u8 w a len cap zs) :
    ∃ l : List Nat, l.length = len ∧ len ≤ cap ∧ cap ≤ 9223372036854775807 ∧ Lies w a l ∧ Bys l ∧ (a = none → len = 0 ∧ cap = 0) := by
  obtain ⟨l, h1, h2, h3, h4⟩ := h.bytes
  rcases h with ⟨rfl, rfl, rfl, rfl⟩ | ⟨x, rfl, hl, hm, _⟩
  · exact ⟨l, h1, by omega, by omega, h3, h4, fun _ => ⟨rfl, rfl⟩⟩
  · exact ⟨l, h1, hl, by unfold maxLen at hm; omega, h3, h4, fun e => by cases e⟩

theorem Lies.put {w : World} {g off i x : Nat} {l : List Nat} (h : Lies w (some ⟨g, off, none⟩) l) (hi : i < l.length) : Lies (w.setCell ⟨g, off + i, none⟩ (.int .u8 (x : Int))) (some ⟨g, off, none⟩) (l.set i x) := by
  rcases h with rfl | ⟨b, o, e, hlt, hc⟩
  · simp at hi
  · cases e
    refine .inr ⟨_, _, rfl, by simpa [World.setCell] using hlt, fun j hj => ?_⟩
    rw [List.length_set] at hj
    by_cases hij : i = j
    · subst hij
      rw [World.cell?_setCell_same _ _ _ (hc i hj)]
      simp [hj]
    · rw [World.cell?_setCell_other _ _ _ _ (by intro e9; injection e9; omega), hc j hj]
      simp [List.getElem_set, hj, hij]

set_option maxHeartbeats 800000 in
theorem eql_nil (a : Option Addr) (l c : Nat) (w : World) : (binOp .eql 29 (.slice a l c) (.slice none 0 0)).run Try.prog w = .ok (.bool a.isNone) w := by
  simp only [binOp, Sem.run_bind, run_equal_slice_nil w 29 _ a l c Try.underlying29, Result.andThen_ok]
  rfl

theorem own_later {w w' : World} {b : Nat} {e : TypeId} {size : Nat} {v : Value} {n : Nat} {xs : List Value} (h : w.ownsRow b e size v n xs) (hb : Below w.heap.size w w') : w'.ownsRow b e size v n xs := by
  rcases h.2 with h9 | ⟨g, cap, cur, h1, h2, h3, h4⟩
  · exact ⟨h.1, .inl h9⟩
  · exact ⟨h.1, .inr ⟨g, cap, cur, h1, h2, (hb.block g (Array.getElem?_eq_some_iff.1 h3).1).trans h3, h4⟩⟩

theorem owns_free {w : World} {b g o : Nat} {e : TypeId} {size n n' c : Nat} {xs : List Value} (h : w.ownsRow b e size (.slice (some ⟨g, o, none⟩) n c) n' xs) (i : Nat) : w.frozen? ⟨g, i, none⟩ = false := by
  rcases h.2 with ⟨h9, _⟩ | ⟨g', cap, cur, h1, h2, h3, h4⟩
  · cases h9
  · cases h1
    simp [World.frozen?, h3]

/-- A place within a row, by a number of 64 bits. -/
theorem place_any (a : Int) (n : Nat) (hn : 0 < n) : ∃ k : Nat, k < n ∧ (IntKind.u64.wrap a).tmod (n : Int) = (k : Int) := by
  have hw : 0 ≤ IntKind.u64.wrap a := by rw [IntKind.wrap_u64]; exact Int.emod_nonneg _ (by decide)
  generalize IntKind.u64.wrap a = t at *
  have h1 := Int.tmod_nonneg (n : Int) hw
  have h2 := Int.tmod_lt_of_pos t (show (0 : Int) < (n : Int) by omega)
  exact ⟨(t.tmod n).toNat, by omega, by omega⟩
theorem xor_same (x y : Nat) (h : x ^^^ y = x) : y = 0 := by
  have h2 : x ^^^ (x ^^^ y) = x ^^^ x := by rw [h]
  rwa [← Nat.xor_assoc, Nat.xor_self, Nat.zero_xor] at h2
theorem xor_zero (x y : Nat) : x ^^^ y = x ↔ y = 0 := by
  constructor
  · exact xor_same x y
  · rintro rfl; simp
theorem xor_byte {x y : Nat} (hx : x < 256) (hy : y < 256) : x ^^^ y < 256 := Nat.xor_lt_two_pow (n := 8) hx hy

/-! ### What a sum tells apart -/
theorem step_inj {n m b : Nat} (hn : n < 4294967291) (hm : m < 4294967291) (h : stepS n b = stepS m b) : n = m := by
  unfold stepS at h
  omega
theorem fold_inj : ∀ (l : List Nat) {n m : Nat}, n < 4294967291 → m < 4294967291 → l.foldl stepS n = l.foldl stepS m → n = m
  | [], _, _, _, _, h => h
  | b :: l, n, m, hn, hm, h => step_inj hn hm (fold_inj l (stepS_lt n b) (stepS_lt m b) h)
theorem go_inj {n m : Nat} (l : List Nat) (hn : n < 4294967291) (hm : m < 4294967291) : goS n l = goS m l ↔ n = m := by
  constructor
  · intro h
    unfold goS at h
    rw [Nat.mod_eq_of_lt hn, Nat.mod_eq_of_lt hm] at h
    exact fold_inj l hn hm h
  · rintro rfl; rfl
theorem go_both (l m : List Nat) : goS 1 (l ++ m) = goS (goS 1 l) m := goS_append 1 l m
theorem go_apart (a c b : List Nat) : (((goS 1 (a ++ b) : Nat) : Int) == ((goS 1 (c ++ b) : Nat) : Int)) = (((goS 1 a : Nat) : Int) == ((goS 1 c : Nat) : Int)) := by
  rw [go_both, go_both]
  have h := go_inj b (goS_lt 1 a) (goS_lt 1 c)
  rw [Bool.eq_iff_iff, beq_iff_eq, beq_iff_eq]
  omega
theorem step_place {n x y : Nat} (hx : x < 256) (hy : y < 256) (h : stepS n x = stepS n y) : x = y := by
  unfold stepS at h
  omega
theorem go_set (n : Nat) : ∀ (l : List Nat) (i x : Nat), Bys l → x < 256 → i < l.length → (goS n (l.set i x) = goS n l ↔ x = l.getD i 0) := by
  intro l i x hB hx hi
  have e1 : l = l.take i ++ l[i] :: l.drop (i + 1) := by simp
  have e2 : l.set i x = l.take i ++ x :: l.drop (i + 1) := by rw [List.set_eq_take_append_cons_drop, if_pos hi]
  have hlx : l[i] < 256 := hB _ (List.getElem_mem hi)
  have hg : l.getD i 0 = l[i] := by simp [hi]
  rw [hg]
  constructor
  · intro h
    rw [e2] at h
    have h2 : goS n (l.take i ++ x :: l.drop (i + 1)) = goS n (l.take i ++ l[i] :: l.drop (i + 1)) := by rw [h, ← e1]
    rw [show l.take i ++ x :: l.drop (i + 1) = (l.take i ++ [x]) ++ l.drop (i + 1) by simp, show l.take i ++ l[i] :: l.drop (i + 1) = (l.take i ++ [l[i]]) ++ l.drop (i + 1) by simp, goS_append n (l.take i ++ [x]), goS_append n (l.take i ++ [l[i]])] at h2
    have h3 := (go_inj _ (goS_lt _ _) (goS_lt _ _)).1 h2
    rw [goS_snoc, goS_snoc] at h3
    exact step_place hx hlx h3
  · rintro rfl
    congr 1
    rw [e2]; exact e1.symm

theorem ahead_seal (l : List Nat) (x : Nat) : aheadS (l ++ highB x 4) = l := by
  unfold aheadS
  rw [List.length_append, length_highB]
  simp
theorem said_seal (l : List Nat) (x : Nat) (hx : x < 4294967296) : saidS (l ++ highB x 4) = x := by
  unfold saidS
  rw [List.length_append, length_highB]
  simp
  exact pile4 x hx
theorem open_seal (l : List Nat) : openE (l ++ highB (goS 1 l) 4) = 0 := by
  have h := goS_lt 1 l
  unfold openE
  rw [ahead_seal, said_seal _ _ (by omega), if_neg (by rw [List.length_append, length_highB]; omega), if_pos rfl]
theorem bys_seal (l : List Nat) (x : Nat) (h : Bys l) : Bys (l ++ highB x 4) := h.append (highB_bys x 4)
/-- A sealed row of which one byte is another one is not opened. -/
theorem open_other (l : List Nat) (i x : Nat) (hB : Bys l) (hx : x < 256) (hi : i < l.length + 4) (hne : x ≠ (l ++ highB (goS 1 l) 4).getD i 0) : openE ((l ++ highB (goS 1 l) 4).set i x) = 130 := by
  have hlt := goS_lt 1 l
  have hlen : ((l ++ highB (goS 1 l) 4).set i x).length = l.length + 4 := by rw [List.length_set, List.length_append, length_highB]
  unfold openE
  rw [if_neg (by rw [hlen]; omega), if_neg]
  unfold aheadS saidS
  rw [hlen, show l.length + 4 - 4 = l.length from rfl]
  by_cases h : i < l.length
  · rw [List.set_append_left _ _ h]
    have e1 : (l.set i x ++ highB (goS 1 l) 4).take l.length = l.set i x := by
      rw [List.take_append_of_le_length (by simp)]
      exact List.take_of_length_le (by simp)
    have e2 : (l.set i x ++ highB (goS 1 l) 4).drop l.length = highB (goS 1 l) 4 := by
      have := List.drop_append_of_le_length (l₁ := l.set i x) (l₂ := highB (goS 1 l) 4) (i := l.length) (by simp)
      rw [this]
      simp
    rw [e1, e2, pile4 _ (by omega)]
    intro e
    have := (go_set 1 l i x hB hx h).1 e
    apply hne
    rw [this, List.getD_eq_getElem?_getD, List.getD_eq_getElem?_getD, List.getElem?_append_left h]
  · obtain ⟨j, rfl⟩ : ∃ j, i = l.length + j := ⟨i - l.length, by omega⟩
    rw [List.set_append_right _ _ (by omega), Nat.add_sub_cancel_left]
    have e1 : (l ++ (highB (goS 1 l) 4).set j x).take l.length = l := by simp
    have e2 : (l ++ (highB (goS 1 l) 4).set j x).drop l.length = (highB (goS 1 l) 4).set j x := by simp
    rw [e1, e2]
    intro e
    have hb : Bys ((highB (goS 1 l) 4).set j x) := (highB_bys _ _).set j x hx
    have h4 := high4 _ hb (by simp [length_highB])
    rw [← e] at h4
    apply hne
    have hj : j < 4 := by omega
    rw [List.getD_eq_getElem?_getD, List.getElem?_append_right (by omega), Nat.add_sub_cancel_left, h4]
    simp [length_highB, hj]

end Go.Proofs.Ytelpihlifdfgoaa
namespace Go.Proofs.Ytelpihlifdfgoaa
open Go.RowKit Go.Shelf
set_option linter.unusedVariables false

/-- Of a frame of n bytes: how many parts. -/
def secN (n : Nat) : Nat := if 40000 < n then 0 else if n = 0 then 1 else (n + 47) / 48
def secI (n : Int) : Int := if n < 0 ∨ 40000 < n then 0 else if n = 0 then 1 else (n + 47) / 48
theorem secI_nat (n : Nat) : secI (n : Int) = (secN n : Int) := by
  unfold secI secN
  by_cases h : 40000 < n
  · rw [if_pos (.inr (by omega)), if_pos h]; rfl
  · rw [if_neg (by omega), if_neg h]
    by_cases h0 : n = 0
    · rw [if_pos (by omega), if_pos h0]; rfl
    · rw [if_neg (by omega), if_neg h0]; omega

set_option maxHeartbeats 400000 in
theorem sectors_any (n : Int) (w : World) : Calls Try.prog 23 #[.int .i64 n] w fun e w' => e = .returned (.int .i64 (secI n)) ∧ w = w' := by
  unfold secI
  by_cases h : n < 0 ∨ 40000 < n
  · rw [if_pos h]
    go_enter Try.func23, Try.ntmps23
    by_cases h0 : n < 0
    · go_wp2
      go_ret
      exact ⟨rfl, rfl⟩
    · have h1 : 40000 < n := by omega
      go_wp2
      go_ret
      exact ⟨rfl, rfl⟩
  · rw [if_neg h]
    have h0 : ¬ n < 0 := by omega
    have h1 : ¬ 40000 < n := by omega
    obtain ⟨m, rfl⟩ : ∃ m : Nat, n = (m : Int) := ⟨n.toNat, by omega⟩
    clear h
    go_enter Try.func23, Try.ntmps23
    go_wp2
    all_goals go_ret
    all_goals (refine ⟨?_, rfl⟩)
    · subst h; rfl
    · exact congrArg (fun z => Ending.returned (Value.int .i64 z)) (show ((m : Int) + 48 - 1) / 48 = ((m : Int) + 47) / 48 by omega)
    · exact congrArg (fun z => Ending.returned (Value.int .i64 z)) (show (1 : Int) = ((m : Int) + 47) / 48 by omega)

/-! ### bytes as a block -/
def Bk.of (l : List Nat) : Bk := ⟨((l ++ List.replicate 64 0).take 64).map Int.ofNat, by simp⟩
theorem Bk.of_l (l : List Nat) (h : l.length = 64) : (Bk.of l).l = l.map Int.ofNat := by
  simp [Bk.of, List.take_append, h]
theorem Bk.of_cs (l : List Nat) (h : l.length = 64) : (Bk.of l).cs = (l.map byc).toArray := by
  unfold Bk.cs
  rw [Bk.of_l l h, List.map_map]
  rfl
/-- The bytes of a block that has such. -/
def Bk.n (b : Bk) : List Nat := b.l.map Int.toNat
theorem Bk.n_of (l : List Nat) (h : l.length = 64) : (Bk.of l).n = l := by
  unfold Bk.n
  rw [Bk.of_l l h, List.map_map]
  simp [Function.comp_def]
theorem Bk.of_inj {l m : List Nat} (h : l.length = 64) (h2 : m.length = 64) (e : Bk.of l = Bk.of m) : l = m := by
  rw [← Bk.n_of l h, ← Bk.n_of m h2, e]
theorem Bk.n_len (b : Bk) : b.n.length = 64 := by simp [Bk.n, b.len]
/-- It holds bytes. -/
def Bk.Byt (b : Bk) : Prop := ∀ z ∈ b.l, 0 ≤ z ∧ z < 256
theorem Bk.Byt.of {b : Bk} (h : b.Byt) : b = Bk.of b.n := by
  cases b with
  | mk l len =>
    have e : (Bk.of (Bk.n ⟨l, len⟩)).l = l := by
      rw [Bk.of_l _ (Bk.n_len _)]
      unfold Bk.n
      rw [List.map_map]
      conv => rhs; rw [← List.map_id l]
      refine List.map_congr_left fun z hz => ?_
      have := (h z hz).1
      simp [Function.comp_def]
      omega
    cases h9 : Bk.of (Bk.n ⟨l, len⟩) with
    | mk l2 len2 => rw [h9] at e; simp at e; subst e; rfl
theorem Bk.Byt.bys {b : Bk} (h : b.Byt) : Bys b.n := by
  intro n hn
  obtain ⟨z, hz, rfl⟩ := List.mem_map.1 hn
  have := h z hz
  omega
theorem Bk.byt_of (l : List Nat) (h : l.length = 64) (hB : Bys l) : (Bk.of l).Byt := by
  intro z hz
  rw [Bk.of_l l h] at hz
  obtain ⟨n, hn, rfl⟩ := List.mem_map.1 hz
  have := hB n hn
  simp
  omega

/-! ### parts -/
/-- What a part's sector says. -/
structure Pt where
  t : Nat
  n : Nat
  bh : Nat
  sz : Nat
  l : List Nat
structure Pt.Ok (p : Pt) : Prop where
  t : p.t ≤ 4294967295
  n : p.n ≤ 4294967295
  bh : p.bh ≤ 65535
  sz : p.sz ≤ 65535
  len : p.l.length = 48
  bys : Bys p.l
def Pt.cs (p : Pt) : Array Value := #[.int .u32 (p.t : Int), .int .u32 (p.n : Int), .int .u16 (p.bh : Int), .int .u16 (p.sz : Int)] ++ (p.l.map byc).toArray
def Pt.head (p : Pt) : List Nat := ((highB p.t 4 ++ highB p.n 4) ++ highB p.bh 2) ++ highB p.sz 2
def Pt.sum (p : Pt) : Nat := goS (goS 1 p.head) p.l
def Pt.bytes (p : Pt) : List Nat := (p.head ++ highB p.sum 4) ++ p.l
def Pt.blk (p : Pt) : Bk := Bk.of p.bytes
theorem Pt.head_len (p : Pt) : p.head.length = 12 := by simp [Pt.head, length_highB]
theorem Pt.bytes_len {p : Pt} (h : p.l.length = 48) : p.bytes.length = 64 := by simp [Pt.bytes, Pt.head_len, length_highB, h]
theorem Pt.head_bys (p : Pt) : Bys p.head := (((highB_bys _ _).append (highB_bys _ _)).append (highB_bys _ _)).append (highB_bys _ _)
theorem Pt.sum_lt (p : Pt) : p.sum < 4294967291 := goS_lt _ _
theorem Pt.size {p : Pt} (h : p.l.length = 48) : p.cs.size = 52 := by simp [Pt.cs, h]
theorem Pt.one (p : Pt) : p.cs.all (·.oneCell') = true := by
  simp [Pt.cs, byc, Value.oneCell']
theorem Pt.c0 (p : Pt) : p.cs[0]? = some (.int .u32 (p.t : Int)) := by simp [Pt.cs]
theorem Pt.c1 (p : Pt) : p.cs[1]? = some (.int .u32 (p.n : Int)) := by simp [Pt.cs]
theorem Pt.c2 (p : Pt) : p.cs[2]? = some (.int .u16 (p.bh : Int)) := by simp [Pt.cs]
theorem Pt.c3 (p : Pt) : p.cs[3]? = some (.int .u16 (p.sz : Int)) := by simp [Pt.cs]
theorem Pt.c4 (p : Pt) (j : Nat) : p.cs[4 + j]? = (p.l.map byc)[j]? := by
  simp only [Pt.cs]
  rw [Array.getElem?_append_right (by simp)]
  simp
theorem Pt.lies {p : Pt} (h : p.Ok) {w : World} {g : Nat} (b : Blk w g 126 p.cs) : Lies w (some ⟨g, 4, none⟩) p.l := by
  refine .inr ⟨g, 4, rfl, b.lt, fun i hi => ?_⟩
  rw [b.cell, Pt.c4]
  simp [hi, byc]

set_option maxRecDepth 100000 in
set_option maxHeartbeats 1000000 in
theorem head_any (p : Pt) (h : p.Ok) (w : World) : Calls Try.prog 81 #[.agg p.cs] w fun e w' =>
    ∃ g, e = .returned (.slice (some ⟨g, 0, none⟩) 12 12) ∧ w.heap.size ≤ g ∧ Own w' g p.head ∧ Below w.heap.size w w' := by
  obtain ⟨W, hW⟩ : ∃ W, w.alloc (.cells p.cs 126) = W := ⟨_, rfl⟩
  have bx : Blk W w.heap.size 126 p.cs := by rw [← hW]; exact Blk.new _ _ _
  have hb : Below w.heap.size w W := by rw [← hW]; exact (Below.refl _ _).alloc (Nat.le_refl _) _
  have c0 := (bx.cell 0).trans p.c0
  have c1 := (bx.cell 1).trans p.c1
  have c2 := (bx.cell 2).trans p.c2
  have c3 := (bx.cell 3).trans p.c3
  have HB := Lib.hid (And.intro bx hb)
  have hn0 : Lies W none [] := .inl rfl
  have h1 := h.t
  have h2 := h.n
  have h3 := h.bh
  have h4 := h.sz
  clear h bx hb
  unfold Pt.head
  generalize p.cs = cs at *
  generalize p.t = a at *
  generalize p.n = b at *
  generalize p.bh = c at *
  generalize p.sz = d at *
  go_enter Try.func81, Try.ntmps81
  go_wp2_with fail
  clear hW
  go_region_held3 (fun w' => w'.cell? ⟨w.heap.size, 0, none⟩ = some (.int .u32 (a : Int)) ∧ w'.cell? ⟨w.heap.size, 1, none⟩ = some (.int .u32 (b : Int))) (first | exact ⟨c0b, c1b⟩ | exact ⟨c0a, c1a⟩ | exact ⟨c0, c1⟩) (first | (go_at_call 67; (with_reducible refine (put32_any none 0 0 [] a _ rfl (by omega) ?_ (by omega)).mono ?_); (exact .inl rfl); rintro e w4 ⟨rfl, hO4, hB4⟩; have c0a : w4.cell? ⟨w.heap.size, 0, none⟩ = some (.int .u32 (a : Int)) := (hB4.cell (p := ⟨w.heap.size, 0, none⟩) (by exact HB.out.1.lt)).trans (by exact c0); have c1a : w4.cell? ⟨w.heap.size, 1, none⟩ = some (.int .u32 (b : Int)) := (hB4.cell (p := ⟨w.heap.size, 1, none⟩) (by exact HB.out.1.lt)).trans (by exact c1)) | (go_at_call 67; (with_reducible refine (put32_any _ 4 4 ([] ++ highB a 4) b _ (by simp [length_highB]) (by omega) ?_ (by omega)).mono ?_); (exact hO4.lies); rintro e w5 ⟨rfl, hO5, hB5⟩; have c0b : w5.cell? ⟨w.heap.size, 0, none⟩ = some (.int .u32 (a : Int)) := (hB5.cell (p := ⟨w.heap.size, 0, none⟩) (by have := hB4.size; exact Nat.lt_of_lt_of_le HB.out.1.lt this)).trans (by exact c0a); have c1b : w5.cell? ⟨w.heap.size, 1, none⟩ = some (.int .u32 (b : Int)) := (hB5.cell (p := ⟨w.heap.size, 1, none⟩) (by have := hB4.size; exact Nat.lt_of_lt_of_le HB.out.1.lt this)).trans (by exact c1a)))
  have hbx5 : Below W.heap.size W w5 := by
    have h54 : Below W.heap.size w4 w5 := hB5.mono (by have := hB4.size; exact this)
    exact ⟨h54.os.trans hB4.os, h54.tape.trans hB4.tape, h54.output.trans hB4.output, Nat.le_trans hB4.size h54.size, fun k hk => (h54.block k hk).trans (hB4.block k hk)⟩
  have e2 : w5.cell? ⟨w.heap.size, 2, none⟩ = some (.int .u16 (c : Int)) := (hbx5.cell (p := ⟨w.heap.size, 2, none⟩) (by exact HB.out.1.lt)).trans c2
  have e3 : w5.cell? ⟨w.heap.size, 3, none⟩ = some (.int .u16 (d : Int)) := (hbx5.cell (p := ⟨w.heap.size, 3, none⟩) (by exact HB.out.1.lt)).trans c3
  have hlt5 : w.heap.size < w5.heap.size := Nat.lt_of_lt_of_le HB.out.1.lt hbx5.size
  have H5 := Lib.hid hbx5
  clear c0 c1 c2 c3 c0a c1a c0b c1b hB4 hO4 hn0 hB5 hbx5
  generalize hL5 : ([] ++ highB a 4 ++ highB b 4) = L5 at *
  have hl5 : L5.length = 8 := by rw [← hL5]; simp [length_highB]
  have HL5 := Lib.hid (And.intro hL5 hl5)
  clear hL5 hl5
  generalize w4.heap.size = g4 at *
  go_wp2_with fail
  go_region_held3 (fun w' => w'.cell? ⟨w.heap.size, 2, none⟩ = some (.int .u16 (c : Int)) ∧ w'.cell? ⟨w.heap.size, 3, none⟩ = some (.int .u16 (d : Int))) (first | exact ⟨e2b, e3b⟩ | exact ⟨e2a, e3a⟩ | exact ⟨e2, e3⟩) (first | (go_at_call 92; (with_reducible refine (put16_any _ 8 8 L5 c _ HL5.out.2 (by omega) ?_ (by omega)).mono ?_); (exact hO5.lies); rintro e w6 ⟨rfl, hO6, hB6⟩; have e2a : w6.cell? ⟨w.heap.size, 2, none⟩ = some (.int .u16 (c : Int)) := (hB6.cell (p := ⟨w.heap.size, 2, none⟩) (by exact hlt5)).trans (by exact e2); have e3a : w6.cell? ⟨w.heap.size, 3, none⟩ = some (.int .u16 (d : Int)) := (hB6.cell (p := ⟨w.heap.size, 3, none⟩) (by exact hlt5)).trans (by exact e3)) | (go_at_call 92; (with_reducible refine (put16_any _ 10 10 (L5 ++ highB c 2) d _ (by rw [List.length_append, HL5.out.2, length_highB]) (by omega) ?_ (by omega)).mono ?_); (exact hO6.lies); rintro e w7 ⟨rfl, hO7, hB7⟩; have e2b : w7.cell? ⟨w.heap.size, 2, none⟩ = some (.int .u16 (c : Int)) := (hB7.cell (p := ⟨w.heap.size, 2, none⟩) (by have := hB6.size; exact Nat.lt_of_lt_of_le hlt5 this)).trans (by exact e2a); have e3b : w7.cell? ⟨w.heap.size, 3, none⟩ = some (.int .u16 (d : Int)) := (hB7.cell (p := ⟨w.heap.size, 3, none⟩) (by have := hB6.size; exact Nat.lt_of_lt_of_le hlt5 this)).trans (by exact e3a)))
  have hb7 : Below w5.heap.size w5 w7 := by
    have h76 : Below w5.heap.size w6 w7 := hB7.mono (by have := hB6.size; exact this)
    exact ⟨h76.os.trans hB6.os, h76.tape.trans hB6.tape, h76.output.trans hB6.output, Nat.le_trans hB6.size h76.size, fun k hk => (h76.block k hk).trans (hB6.block k hk)⟩
  have hfin : Below w.heap.size w w7 := HB.out.2.trans ((H5.out.mono HB.out.2.size).trans (hb7.mono (Nat.le_trans HB.out.2.size H5.out.size)))
  have hg6 : w.heap.size ≤ w6.heap.size := by
    have h9 : w5.heap.size ≤ w6.heap.size := hB6.size
    omega
  have hOf : Own w7 w6.heap.size (((highB a 4 ++ highB b 4) ++ highB c 2) ++ highB d 2) := by
    rw [← HL5.out.1] at hO7
    exact hO7
  go_wp2_with fail
  go_ret
  exact ⟨_, rfl, hg6, hOf, hfin⟩

/-! ### check -/
theorem s_part {p : Pt} (h : p.l.length = 48) : (Try.prog.info? 126).map (·.size) = some p.cs.size := by rw [Pt.size h]; kernel_rfl
theorem load_part_rule (v : Value) : Instr.loadAt 126 v = loadSem 126 v := rfl
theorem store_part_rule (v x : Value) : Instr.storeAt 126 v x = storeSem 126 v x := rfl
theorem lpart {w : World} {g : Nat} {p : Pt} (h : Blk w g 126 p.cs) (h8 : p.l.length = 48) : (loadSem 126 (.pointer (some ⟨g, 0, none⟩))).run Try.prog w = .ok (.agg p.cs) w :=
  loadRes_of h (fun j _ => by rw [Nat.zero_add]) _ Try.underlying126 rfl (s_part h8)

attribute [local go_sem ↓] load_part_rule store_part_rule

set_option maxRecDepth 100000 in
set_option maxHeartbeats 1000000 in
theorem check_any (p : Pt) (h : p.Ok) (w : World) : Calls Try.prog 82 #[.agg p.cs] w fun e w' =>
    e = .returned (.int .u32 (p.sum : Int)) ∧ Below w.heap.size w w' := by
  obtain ⟨W, hW⟩ : ∃ W, w.alloc (.cells p.cs 126) = W := ⟨_, rfl⟩
  have bx : Blk W w.heap.size 126 p.cs := by rw [← hW]; exact Blk.new _ _ _
  have hb : Below w.heap.size w W := by rw [← hW]; exact (Below.refl _ _).alloc (Nat.le_refl _) _
  have L : (loadSem 126 (.pointer (some ⟨w.heap.size, 0, none⟩))).run Try.prog W.drew = .ok (.agg p.cs) W.drew := lpart (w := W.drew) bx h.len
  have hcall := head_any p h W.drew
  have HB := Lib.hid (And.intro bx hb)
  have HP := Lib.hid h
  clear h bx hb
  unfold Pt.sum
  generalize hcs : p.cs = cs at *
  have HC := Lib.hid hcs
  clear hcs
  go_enter Try.func82, Try.ntmps82
  go_wp2_with fail
  clear hW
  go_region_held3 (fun w' => (loadSem 126 (.pointer (some ⟨w.heap.size, 0, none⟩))).run Try.prog w' = .ok (.agg cs) w') (first | exact L6 | exact L5 | exact L4 | exact L) (first | (go_at_call 81; refine hcall.mono ?_; rintro e w4 ⟨g, rfl, hg4, hO4, hB4⟩; have bx4 : Blk w4 w.heap.size 126 p.cs := by { rw [HC.out]; exact (HB.out.1.drew).kept (Kept.of_below [] hB4) (by simp) }; have L4 := lpart bx4 HP.out.len; rw [HC.out] at L4; have HX4 := Lib.hid bx4; clear bx4) | (go_at_call 84; (with_reducible refine (sum_any _ 12 12 p.head _ p.head_len (by omega) p.head_bys ?_).mono ?_); (exact hO4.lies); rintro e w5 ⟨rfl, hB5⟩; have bx5 : Blk w5 w.heap.size 126 p.cs := HX4.out.kept (Kept.of_below [] hB5) (by simp); have L5 := lpart bx5 HP.out.len; rw [HC.out] at L5; have HX5 := Lib.hid bx5; clear bx5) | (go_at_call 93; (with_reducible refine (on_any (goS 1 p.head) (some ⟨w.heap.size, 4, none⟩) 48 48 p.l _ HP.out.len (by omega) HP.out.bys ?_ ?_).mono ?_); (exact Pt.lies HP.out HX5.out); (have := goS_lt 1 p.head; omega); rintro e w6 ⟨rfl, hB6⟩; have L6 := lpart (HX5.out.kept (Kept.of_below [] hB6) (by simp)) HP.out.len; rw [HC.out] at L6))
  have h1 : Below w.heap.size w w4 := HB.out.2.trans ((show Below W.heap.size W w4 from ⟨hB4.os, hB4.tape, hB4.output, hB4.size, hB4.block⟩).mono HB.out.2.size)
  have h2 : Below w.heap.size w w5 := h1.trans (hB5.mono h1.size)
  have h3 : Below w.heap.size w w6 := h2.trans (hB6.mono h2.size)
  go_wp2_with fail
  go_ret
  exact ⟨rfl, h3⟩

/-! ### block -/
theorem wlblk {w : World} {g : Nat} {b : Bk} (h : Blk w g 81 b.cs) : (loadSem 81 (.pointer (some ⟨g, 0, none⟩))).run Try.prog w = .ok (.agg b.cs) w :=
  loadRes_of h (fun j _ => by rw [Nat.zero_add]) _ Try.underlying81 rfl (s_blk b)
theorem wsblk {w : World} {g : Nat} {b c : Bk} (h : Blk w g 81 b.cs) : (storeSem 81 (.pointer (some ⟨g, 0, none⟩)) (.agg c.cs)).run Try.prog w = .ok () (w.setRow g c.cs) := by
  have := storeRes_of (P := Try.prog) (ty := 81) (o := 0) (vs := c.cs) h (by rw [Bk.size, Bk.size]; omega) (s_blk c) c.one
  rwa [over_all (by rw [Bk.size, Bk.size])] at this
attribute [local go_sem ↓] load_blk_rule store_blk_rule

theorem Blk.wnew2 (w : World) (o : Obj) (t : TypeId) (cs : Array Value) : Blk ((w.alloc o).alloc (.cells cs t)) (w.heap.size + 1) t cs := by
  have := Blk.new (w.alloc o) t cs
  rwa [World.size_alloc] at this
theorem Bk.zero_cs : Bk.zero.cs = ((List.replicate 64 0).map byc).toArray := by
  simp [Bk.zero, Bk.cs, byc, List.map_replicate]
/-- Bytes laid over a block. -/
theorem over_bytes (l m : List Nat) (o : Nat) (h : o + m.length ≤ l.length) : over (l.map byc).toArray o (m.map byc).toArray = ((l.take o ++ m ++ l.drop (o + m.length)).map byc).toArray := by
  unfold over splice
  simp [List.map_take, List.map_drop, List.append_assoc]

def wcopySem (ty : TypeId) (args : Array Value) : Sem Value := Builtin.copy_ #[29, 29] ty args
theorem wcopy_rule (ty : TypeId) (args : Array Value) : Builtin.copy_ #[29, 29] ty args = wcopySem ty args := rfl
theorem copy_run {w : World} {g o dLen dCap sLen sCap : Nat} {sp : Option Addr} {t ty : TypeId} {l m : List Nat} (h : Blk w g t (l.map byc).toArray) (hL : Lies w sp m) (hn : m.length = min sLen dLen) (h0 : 0 < m.length) (hf : o + m.length ≤ l.length) :
    (wcopySem ty #[.slice (some ⟨g, o, none⟩) dLen dCap, .slice sp sLen sCap]).run Try.prog w = .ok (goInt m.length) (w.setRow g ((l.take o ++ m ++ l.drop (o + m.length)).map byc).toArray) := by
  obtain ⟨ad, rfl, hsrc⟩ := hL.cells h0
  have := run_copy_row (P := Try.prog) w 29 29 ty 5 g o dLen dCap ad sLen sCap (l.map byc).toArray t (m.map byc) Try.underlying29 Try.size5 h (by simp [hn]) hsrc (by simpa using hf) (byc_one m)
  simp only [List.length_map] at this
  rw [wcopySem, this]
  simp [List.map_take, List.map_drop, List.append_assoc]
theorem copy_run0 {w : World} {d sp : Option Addr} {dLen dCap sLen sCap : Nat} {ty : TypeId} (hn : min sLen dLen = 0) :
    (wcopySem ty #[.slice d dLen dCap, .slice sp sLen sCap]).run Try.prog w = .ok (goInt 0) w :=
  run_copy_none (P := Try.prog) w 29 29 ty 5 d sp dLen dCap sLen sCap Try.underlying29 Try.size5 hn

theorem block_copy {p : Pt} (h : p.Ok) {w : World} {g q : Nat} (hb : Blk w g 81 ((List.replicate 16 0 ++ p.l).map byc).toArray) (hO : Own w q (p.head ++ highB p.sum 4)) :
    (wcopySem 3 #[.slice (some ⟨g, 0, none⟩) 64 64, .slice (some ⟨q, 0, none⟩) 16 16]).run Try.prog w = .ok (goInt 16) (w.setRow g p.blk.cs) := by
  have hl : (p.head ++ highB p.sum 4).length = 16 := by simp [Pt.head_len, length_highB]
  have h9 := copy_run (w := w) (g := g) (o := 0) (dLen := 64) (dCap := 64) (sLen := 16) (sCap := 16) (sp := some ⟨q, 0, none⟩) (t := 81) (ty := 3) (l := List.replicate 16 0 ++ p.l) (m := p.head ++ highB p.sum 4) hb hO.lies (by rw [hl]; rfl) (by rw [hl]; omega) (by rw [hl]; simp)
  rw [hl] at h9
  rw [h9]
  rw [Pt.blk, Bk.of_cs _ (Pt.bytes_len h.len)]
  simp [Pt.bytes]

attribute [local go_sem ↓] wcopy_rule load_blk_rule store_blk_rule

set_option maxRecDepth 100000 in
set_option maxHeartbeats 2000000 in
theorem pblock_any (p : Pt) (h : p.Ok) (w : World) : Calls Try.prog 66 #[.agg p.cs] w fun e w' =>
    e = .returned (.agg p.blk.cs) ∧ Below w.heap.size w w' := by
  obtain ⟨W, hW⟩ : ∃ W, w.alloc (.cells p.cs 126) = W := ⟨_, rfl⟩
  have bx : Blk W w.heap.size 126 p.cs := by rw [← hW]; exact Blk.new _ _ _
  have hb : Below w.heap.size w W := by rw [← hW]; exact (Below.refl _ _).alloc (Nat.le_refl _) _
  have hs : W.heap.size = w.heap.size + 1 := by rw [← hW]; simp
  have HB := Lib.hid (And.intro bx hb)
  have HP := Lib.hid h
  clear h bx hb
  generalize hcs : p.cs = cs at *
  have HC := Lib.hid hcs
  clear hcs
  go_enter Try.func66, Try.ntmps66
  obtain ⟨W1, hW1⟩ : ∃ W1, (W.alloc (.cells Bk.zero.cs 81)).alloc (.cells Bk.zero.cs 81) = W1 := ⟨_, rfl⟩
  have b2 : Blk W1 (w.heap.size + 1) 81 Bk.zero.cs := by rw [← hW1, ← hs]; exact (Blk.new W _ _).alloc _
  have b3 : Blk W1 (w.heap.size + 2) 81 Bk.zero.cs := by rw [← hW1]; have := Blk.wnew2 W (.cells Bk.zero.cs 81) 81 Bk.zero.cs; rwa [hs] at this
  have b1 : Blk W1 w.heap.size 126 p.cs := by rw [← hW1, HC.out]; exact (HB.out.1.alloc _).alloc _
  have hb1 : Below w.heap.size w W1 := by rw [← hW1]; exact (HB.out.2.alloc (by omega) _).alloc (by simp; omega) _
  have hs1 : W1.heap.size = w.heap.size + 3 := by rw [← hW1]; simp [hs]
  have C1 : (wcopySem 3 #[.slice (some ⟨w.heap.size + 2, 16, none⟩) 48 48, .slice (some ⟨w.heap.size, 4, none⟩) 48 48]).run Try.prog W1.drew = .ok (goInt 48) (W1.drew.setRow (w.heap.size + 2) ((List.replicate 16 0 ++ p.l).map byc).toArray) := by
    have h9 := copy_run (w := W1.drew) (g := w.heap.size + 2) (o := 16) (dLen := 48) (dCap := 48) (sLen := 48) (sCap := 48) (sp := some ⟨w.heap.size, 4, none⟩) (t := 81) (ty := 3) (l := List.replicate 64 0) (m := p.l) (by rw [← Bk.zero_cs]; exact b3) (Pt.lies HP.out b1) (by rw [HP.out.len]; rfl) (by rw [HP.out.len]; omega) (by rw [HP.out.len]; simp)
    rw [HP.out.len] at h9
    rw [h9]
    simp
  obtain ⟨Z, hZ⟩ : ∃ Z, ((List.replicate 16 0 ++ p.l).map byc).toArray = Z := ⟨_, rfl⟩
  rw [hZ] at C1
  have HZ := Lib.hid hZ
  clear hZ
  go_wp2_with (first | (with_reducible refine wpList_alloc_z rfl 81 rfl Bk.zero.cs 64 z_blk ?_))
  rw [World.size_alloc, hs, hW1]
  have HW1 := Lib.hid (And.intro hb1 (And.intro b1 (And.intro b2 (And.intro b3 hs1))))
  clear hb1 b1 b2 b3 hs1 hW1 hW
  go_region
  obtain ⟨W2, hW2⟩ : ∃ W2, W1.drew.setRow (w.heap.size + 2) Z = W2 := ⟨_, rfl⟩
  rw [hW2]
  have b1 : Blk W2 w.heap.size 126 p.cs := by rw [← hW2]; exact (HW1.out.2.1.drew).kept (S := [w.heap.size + 2]) ((Kept.refl _ _).setRow (.inl (by simp)) _) (by simp)
  have b2 : Blk W2 (w.heap.size + 1) 81 Bk.zero.cs := by rw [← hW2]; exact (HW1.out.2.2.1.drew).kept (S := [w.heap.size + 2]) ((Kept.refl _ _).setRow (.inl (by simp)) _) (by simp)
  have b3 : Blk W2 (w.heap.size + 2) 81 ((List.replicate 16 0 ++ p.l).map byc).toArray := by rw [← hW2, HZ.out]; exact (HW1.out.2.2.2.1.drew).row _
  have hb2 : Below w.heap.size w W2 := by rw [← hW2]; exact below_setRow HW1.out.1.drew (by omega) _
  have hs2 : W2.heap.size = w.heap.size + 3 := by rw [← hW2]; exact (by simp : (W1.drew.setRow (w.heap.size + 2) Z).heap.size = W1.heap.size).trans HW1.out.2.2.2.2
  have L := lpart (w := W2.drew) b1 HP.out.len
  rw [HC.out] at L
  have hcall := head_any p HP.out W2.drew
  rw [HC.out] at hcall
  have H2 := Lib.hid (And.intro hb2 (And.intro b1 (And.intro b2 (And.intro b3 hs2))))
  clear C1 hW2 hb2 b1 b2 b3 hs2
  go_wp2_with fail
  go_region_held3 (fun w' => (loadSem 126 (.pointer (some ⟨w.heap.size, 0, none⟩))).run Try.prog w' = .ok (.agg cs) w') (first | exact L7 | exact L6 | exact L5 | exact L4 | exact L) (first | (go_at_call 81; refine hcall.mono ?_; rintro e w4 ⟨g, rfl, hg4, hO4, hB4⟩; have bx4 : Blk w4 w.heap.size 126 p.cs := (H2.out.2.1.drew).kept (Kept.of_below [] hB4) (by simp); have L4 := lpart bx4 HP.out.len; rw [HC.out] at L4; have HX4 := Lib.hid bx4; clear bx4; have hcall2 := check_any p HP.out w4; rw [HC.out] at hcall2) | (go_at_call 82; refine hcall2.mono ?_; rintro e w5 ⟨rfl, hB5⟩; have bx5 : Blk w5 w.heap.size 126 p.cs := HX4.out.kept (Kept.of_below [] hB5) (by simp); have L5 := lpart bx5 HP.out.len; rw [HC.out] at L5; have HX5 := Lib.hid bx5; clear bx5) | (go_at_call 67; (with_reducible refine (put32_any _ 12 12 p.head p.sum _ p.head_len (by omega) ?_ (by have := p.sum_lt; omega)).mono ?_); (exact (hO4.kept' hB5).lies); rintro e w6 ⟨rfl, hO6, hB6⟩; have bx6 : Blk w6 w.heap.size 126 p.cs := HX5.out.kept (Kept.of_below [] hB6) (by simp); have L6 := lpart bx6 HP.out.len; rw [HC.out] at L6; have C6 := block_copy (w := w6) (g := w.heap.size + 2) (q := w5.heap.size) HP.out (((H2.out.2.2.2.1.drew.kept (Kept.of_below [] hB4) (by simp)).kept (Kept.of_below [] hB5) (by simp)).kept (Kept.of_below [] hB6) (by simp)) (by exact hO6); have L7 := lpart (w := w6.setRow (w.heap.size + 2) p.blk.cs) (g := w.heap.size) (p := p) (bx6.kept (S := [w.heap.size + 2]) ((Kept.refl _ _).setRow (.inl (by simp)) p.blk.cs) (by simp)) HP.out.len; rw [HC.out] at L7; have HX6 := Lib.hid bx6; clear bx6))
  have b3 : Blk w6 (w.heap.size + 2) 81 ((List.replicate 16 0 ++ p.l).map byc).toArray := (((H2.out.2.2.2.1.drew.kept (Kept.of_below [] hB4) (by simp)).kept (Kept.of_below [] hB5) (by simp)).kept (Kept.of_below [] hB6) (by simp))
  have b2 : Blk w6 (w.heap.size + 1) 81 Bk.zero.cs := (((H2.out.2.2.1.drew.kept (Kept.of_below [] hB4) (by simp)).kept (Kept.of_below [] hB5) (by simp)).kept (Kept.of_below [] hB6) (by simp))
  have hb6 : Below w.heap.size w w6 := by
    have h1 : Below w.heap.size w w4 := H2.out.1.trans ((show Below W2.heap.size W2 w4 from ⟨hB4.os, hB4.tape, hB4.output, hB4.size, hB4.block⟩).mono H2.out.1.size)
    have h2 := h1.trans (hB5.mono h1.size)
    exact h2.trans (hB6.mono h2.size)
  obtain ⟨W9, hW9⟩ : ∃ W9, w6.setRow (w.heap.size + 2) p.blk.cs = W9 := ⟨_, rfl⟩
  rw [hW9]
  have b3 : Blk W9 (w.heap.size + 2) 81 p.blk.cs := by rw [← hW9]; exact b3.row _
  have b2 : Blk W9 (w.heap.size + 1) 81 Bk.zero.cs := by rw [← hW9]; exact b2.kept (S := [w.heap.size + 2]) ((Kept.refl _ _).setRow (.inl (by simp)) _) (by simp)
  have hb9 : Below w.heap.size w W9 := by rw [← hW9]; exact below_setRow hb6 (by omega) _
  have L9 := wlblk b3
  have S9 := wsblk (c := p.blk) b2
  have hE : Blk (W9.setRow (w.heap.size + 1) p.blk.cs) (w.heap.size + 1) 81 p.blk.cs := b2.row _
  have HE := Lib.hid (And.intro hE (below_setRow hb9 (show w.heap.size ≤ w.heap.size + 1 by omega) p.blk.cs))
  clear L L4 L5 L6 L7 C6 hcall hcall2 hO4 hB4 hB5 hO6 hB6 hb6 hb9 hE hW9 b3 b2 HB
  have hs64 := s_blk p.blk
  generalize hq : p.blk.cs = q at *
  have HQ := Lib.hid hq
  clear hq
  go_wp2_with fail
  refine bodyPost_ret (results_cell_row rfl _ _ (w.heap.size + 1) 81 _ (0, 0) _ rfl HE.out.1 Try.underlying81 rfl hs64) rfl ?_
  exact ⟨by rw [HQ.out], HE.out.2⟩
end Go.Proofs.Ytelpihlifdfgoaa
