/-
  The contract of bytes.Clone, appending to a clone, what a sum tells apart, and that the layer wakes. Nothing here is a statement of the document.
-/
import Derived.Test.YtkfpkolgikpcpaaSumC
import Derived.Laws.Cover3
namespace Go.Proofs.Ytkfpkolgikpcpaa
open Go.RowKit
set_option linter.unusedVariables false

theorem IsRow.bytesCap {w : World} {a : Option Addr} {len cap : Nat} {zs : List Int} (h : IsRow .u8 w a len cap zs) :
    ∃ l : List Nat, l.length = len ∧ len ≤ cap ∧ cap ≤ 9223372036854775807 ∧ Lies w a l ∧ Bys l ∧ (a = none → len = 0 ∧ cap = 0) := by
  obtain ⟨l, h1, h2, h3, h4⟩ := h.bytes
  rcases h with ⟨rfl, rfl, rfl, rfl⟩ | ⟨x, rfl, hl, hm, _⟩
  · exact ⟨l, h1, by omega, by omega, h3, h4, fun _ => ⟨rfl, rfl⟩⟩
  · exact ⟨l, h1, hl, by unfold maxLen at hm; omega, h3, h4, fun e => by cases e⟩

theorem Lies.put {w : World} {g off i x : Nat} {l : List Nat} (h : Lies w (some ⟨g, off, none⟩) l) (hi : i < l.length) : Lies (w.setCell ⟨g, off + i, none⟩ (.int .u8 (x : Int))) (some ⟨g, off, none⟩) (l.set i x) := by
  rcases h with rfl | ⟨b, o, e, hlt, hc⟩
  · simp at hi
  · cases e
    refine .inr ⟨_, _, rfl, by simpa [World.setCell] using hlt, fun j hj => ?_⟩
    rw [List.length_set] at hj
    by_cases hij : i = j
    · subst hij
      rw [World.cell?_setCell_same _ _ _ (hc i hj)]
      simp [hj]
    · rw [World.cell?_setCell_other _ _ _ _ (by intro e9; injection e9; omega), hc j hj]
      simp [List.getElem_set, hj, hij]

set_option maxHeartbeats 800000 in
theorem eql_nil (a : Option Addr) (l c : Nat) (w : World) : (binOp .eql 22 (.slice a l c) (.slice none 0 0)).run Try.prog w = .ok (.bool a.isNone) w := by
  simp only [binOp, Sem.run_bind, run_equal_slice_nil w 22 _ a l c Try.underlying22, Result.andThen_ok]
  rfl

theorem own_later {w w' : World} {b : Nat} {e : TypeId} {size : Nat} {v : Value} {n : Nat} {xs : List Value} (h : w.ownsRow b e size v n xs) (hb : Below w.heap.size w w') : w'.ownsRow b e size v n xs := by
  rcases h.2 with h9 | ⟨g, cap, cur, h1, h2, h3, h4⟩
  · exact ⟨h.1, .inl h9⟩
  · exact ⟨h.1, .inr ⟨g, cap, cur, h1, h2, (hb.block g (Array.getElem?_eq_some_iff.1 h3).1).trans h3, h4⟩⟩

theorem owns_free {w : World} {b g o : Nat} {e : TypeId} {size n n' c : Nat} {xs : List Value} (h : w.ownsRow b e size (.slice (some ⟨g, o, none⟩) n c) n' xs) (i : Nat) : w.frozen? ⟨g, i, none⟩ = false := by
  rcases h.2 with ⟨h9, _⟩ | ⟨g', cap, cur, h1, h2, h3, h4⟩
  · cases h9
  · cases h1
    simp [World.frozen?, h3]

/-- A place within a row, by a number of 64 bits. -/
theorem place_any (a : Int) (n : Nat) (hn : 0 < n) : ∃ k : Nat, k < n ∧ (IntKind.u64.wrap a).tmod (n : Int) = (k : Int) := by
  have hw : 0 ≤ IntKind.u64.wrap a := by rw [IntKind.wrap_u64]; exact Int.emod_nonneg _ (by decide)
  generalize IntKind.u64.wrap a = t at *
  have h1 := Int.tmod_nonneg (n : Int) hw
  have h2 := Int.tmod_lt_of_pos t (show (0 : Int) < (n : Int) by omega)
  exact ⟨(t.tmod n).toNat, by omega, by omega⟩
theorem xor_same (x y : Nat) (h : x ^^^ y = x) : y = 0 := by
  have h2 : x ^^^ (x ^^^ y) = x ^^^ x := by rw [h]
  rwa [← Nat.xor_assoc, Nat.xor_self, Nat.zero_xor] at h2
theorem xor_zero (x y : Nat) : x ^^^ y = x ↔ y = 0 := by
  constructor
  · exact xor_same x y
  · rintro rfl; simp
theorem xor_byte {x y : Nat} (hx : x < 256) (hy : y < 256) : x ^^^ y < 256 := Nat.xor_lt_two_pow (n := 8) hx hy

/-! ### What a sum tells apart -/
theorem step_inj {n m b : Nat} (hn : n < 4294967291) (hm : m < 4294967291) (h : stepS n b = stepS m b) : n = m := by
  unfold stepS at h
  omega
theorem fold_inj : ∀ (l : List Nat) {n m : Nat}, n < 4294967291 → m < 4294967291 → l.foldl stepS n = l.foldl stepS m → n = m
  | [], _, _, _, _, h => h
  | b :: l, n, m, hn, hm, h => step_inj hn hm (fold_inj l (stepS_lt n b) (stepS_lt m b) h)
theorem go_inj {n m : Nat} (l : List Nat) (hn : n < 4294967291) (hm : m < 4294967291) : goS n l = goS m l ↔ n = m := by
  constructor
  · intro h
    unfold goS at h
    rw [Nat.mod_eq_of_lt hn, Nat.mod_eq_of_lt hm] at h
    exact fold_inj l hn hm h
  · rintro rfl; rfl
theorem go_both (l m : List Nat) : goS 1 (l ++ m) = goS (goS 1 l) m := goS_append 1 l m
theorem go_apart (a c b : List Nat) : (((goS 1 (a ++ b) : Nat) : Int) == ((goS 1 (c ++ b) : Nat) : Int)) = (((goS 1 a : Nat) : Int) == ((goS 1 c : Nat) : Int)) := by
  rw [go_both, go_both]
  have h := go_inj b (goS_lt 1 a) (goS_lt 1 c)
  rw [Bool.eq_iff_iff, beq_iff_eq, beq_iff_eq]
  omega
theorem step_place {n x y : Nat} (hx : x < 256) (hy : y < 256) (h : stepS n x = stepS n y) : x = y := by
  unfold stepS at h
  omega
theorem go_set (n : Nat) : ∀ (l : List Nat) (i x : Nat), Bys l → x < 256 → i < l.length → (goS n (l.set i x) = goS n l ↔ x = l.getD i 0) := by
  intro l i x hB hx hi
  have e1 : l = l.take i ++ l[i] :: l.drop (i + 1) := by simp
  have e2 : l.set i x = l.take i ++ x :: l.drop (i + 1) := by rw [List.set_eq_take_append_cons_drop, if_pos hi]
  have hlx : l[i] < 256 := hB _ (List.getElem_mem hi)
  have hg : l.getD i 0 = l[i] := by simp [hi]
  rw [hg]
  constructor
  · intro h
    rw [e2] at h
    have h2 : goS n (l.take i ++ x :: l.drop (i + 1)) = goS n (l.take i ++ l[i] :: l.drop (i + 1)) := by rw [h, ← e1]
    rw [show l.take i ++ x :: l.drop (i + 1) = (l.take i ++ [x]) ++ l.drop (i + 1) by simp, show l.take i ++ l[i] :: l.drop (i + 1) = (l.take i ++ [l[i]]) ++ l.drop (i + 1) by simp, goS_append n (l.take i ++ [x]), goS_append n (l.take i ++ [l[i]])] at h2
    have h3 := (go_inj _ (goS_lt _ _) (goS_lt _ _)).1 h2
    rw [goS_snoc, goS_snoc] at h3
    exact step_place hx hlx h3
  · rintro rfl
    congr 1
    rw [e2]; exact e1.symm

theorem ahead_seal (l : List Nat) (x : Nat) : aheadS (l ++ highB x 4) = l := by
  unfold aheadS
  rw [List.length_append, length_highB]
  simp
theorem said_seal (l : List Nat) (x : Nat) (hx : x < 4294967296) : saidS (l ++ highB x 4) = x := by
  unfold saidS
  rw [List.length_append, length_highB]
  simp
  exact pile4 x hx
theorem open_seal (l : List Nat) : openE (l ++ highB (goS 1 l) 4) = 0 := by
  have h := goS_lt 1 l
  unfold openE
  rw [ahead_seal, said_seal _ _ (by omega), if_neg (by rw [List.length_append, length_highB]; omega), if_pos rfl]
theorem bys_seal (l : List Nat) (x : Nat) (h : Bys l) : Bys (l ++ highB x 4) := h.append (highB_bys x 4)
/-- A sealed row of which one byte is another one is not opened. -/
theorem open_other (l : List Nat) (i x : Nat) (hB : Bys l) (hx : x < 256) (hi : i < l.length + 4) (hne : x ≠ (l ++ highB (goS 1 l) 4).getD i 0) : openE ((l ++ highB (goS 1 l) 4).set i x) = 130 := by
  have hlt := goS_lt 1 l
  have hlen : ((l ++ highB (goS 1 l) 4).set i x).length = l.length + 4 := by rw [List.length_set, List.length_append, length_highB]
  unfold openE
  rw [if_neg (by rw [hlen]; omega), if_neg]
  unfold aheadS saidS
  rw [hlen, show l.length + 4 - 4 = l.length from rfl]
  by_cases h : i < l.length
  · rw [List.set_append_left _ _ h]
    have e1 : (l.set i x ++ highB (goS 1 l) 4).take l.length = l.set i x := by
      rw [List.take_append_of_le_length (by simp)]
      exact List.take_of_length_le (by simp)
    have e2 : (l.set i x ++ highB (goS 1 l) 4).drop l.length = highB (goS 1 l) 4 := by
      have := List.drop_append_of_le_length (l₁ := l.set i x) (l₂ := highB (goS 1 l) 4) (i := l.length) (by simp)
      rw [this]
      simp
    rw [e1, e2, pile4 _ (by omega)]
    intro e
    have := (go_set 1 l i x hB hx h).1 e
    apply hne
    rw [this, List.getD_eq_getElem?_getD, List.getD_eq_getElem?_getD, List.getElem?_append_left h]
  · obtain ⟨j, rfl⟩ : ∃ j, i = l.length + j := ⟨i - l.length, by omega⟩
    rw [List.set_append_right _ _ (by omega), Nat.add_sub_cancel_left]
    have e1 : (l ++ (highB (goS 1 l) 4).set j x).take l.length = l := by simp
    have e2 : (l ++ (highB (goS 1 l) 4).set j x).drop l.length = (highB (goS 1 l) 4).set j x := by simp
    rw [e1, e2]
    intro e
    have hb : Bys ((highB (goS 1 l) 4).set j x) := (highB_bys _ _).set j x hx
    have h4 := high4 _ hb (by simp [length_highB])
    rw [← e] at h4
    apply hne
    have hj : j < 4 := by omega
    rw [List.getD_eq_getElem?_getD, List.getElem?_append_right (by omega), Nat.add_sub_cancel_left, h4]
    simp [length_highB, hj]

end Go.Proofs.Ytkfpkolgikpcpaa
