/-
  The document's arena: its words, the first sixteen. Nothing here is a statement of the document.
-/
import Derived.Test.YtoidklkloagioaaRfQ
namespace Go.Proofs.Ytoidklkloagioaa
open Go.RowKit Go.Shelf
set_option linter.unusedVariables false
/-- The program's words tell what the document's arena is. -/
structure Same (ws : List Nat) (M : Mo) : Prop where
  n : M.N = ws.length
  words : ∀ b ∈ M.R, b.t = true → ∀ j, j < 2 ^ b.c → b.ws.getD j 0 = ws.getD (b.x + j) 0
  v : M.v = twoN ws 1
  e : M.e = twoN ws 3
  four : M.four = ((ws.getD 5 0 : Nat) : Int)
  six : M.six = ((ws.getD 6 0 : Nat) : Int)
  gd : M.gd = twoN ws 7
/-- Its first words, noughts behind. -/
def Pre (ws : List Nat) (e : Nat) : List Nat := ws.take e ++ List.replicate (ws.length - e) 0
theorem Pre.len (ws : List Nat) {e : Nat} (he : e ≤ ws.length) : (Pre ws e).length = ws.length := by simp [Pre]; omega
theorem Pre.get (ws : List Nat) {e : Nat} (he : e ≤ ws.length) (i : Nat) : (Pre ws e).getD i 0 = if i < e then ws.getD i 0 else 0 := by
  unfold Pre
  simp only [List.getD_eq_getElem?_getD]
  rcases Nat.lt_or_ge i e with h | h
  · rw [List.getElem?_append_left (by simp; omega), if_pos h, List.getElem?_take, if_pos h]
  · rw [List.getElem?_append_right (by simp; omega), if_neg (by omega), List.getElem?_replicate]
    split <;> simp
theorem list_ext {a b : List Nat} (hl : a.length = b.length) (h : ∀ i, i < a.length → a.getD i 0 = b.getD i 0) : a = b := by
  apply List.ext_getElem hl
  intro i h1 h2
  have := h i h1
  simpa [h1, h2] using this
theorem Pre.set (ws : List Nat) {e : Nat} (he : e < ws.length) : (Pre ws e).set e (ws.getD e 0) = Pre ws (e + 1) := by
  have hl := Pre.len ws (Nat.le_of_lt he)
  refine list_ext (by rw [List.length_set, hl, Pre.len ws he]) (fun i hi => ?_)
  rw [getD_set _ _ _ _ _ (by omega), Pre.get ws (by omega), Pre.get ws he]
  by_cases h : e = i
  · subst h; simp
  · rw [if_neg h]
    by_cases h2 : i < e
    · rw [if_pos h2, if_pos (by omega)]
    · rw [if_neg h2, if_neg (by omega)]
theorem Pre.nought (ws : List Nat) {e : Nat} (he : e < ws.length) (h0 : ws.getD e 0 = 0) : Pre ws e = Pre ws (e + 1) := by
  rw [← Pre.set ws he, h0]
  refine list_ext (by simp) (fun i hi => ?_)
  have hl := Pre.len ws (Nat.le_of_lt he)
  rw [getD_set _ _ _ _ _ (by omega)]
  split
  · rename_i h; subst h; rw [Pre.get ws (by omega), if_neg (by omega)]
  · rfl
theorem Pre.zero (ws : List Nat) : List.replicate ws.length 0 = Pre ws 0 := by simp [Pre]
theorem Pre.full (ws : List Nat) : Pre ws ws.length = ws := by simp [Pre]
section
variable {w W W' : World} {g z lo : Nat} {bv : Value} {ls : Nat → Value} {vs : List Value} {M : Mo}
/-- While the words are laid. -/
structure Wd (w W : World) (bv : Value) (ls : Nat → Value) (M : Mo) (O : List Nat) : Prop where
  hb : Below w.heap.size w W
  bx : Blk W w.heap.size 36 (M.vals bv ls)
  ob : Blk W (w.heap.size + 1) 53 (wcs O)
theorem Wd.set {O : List Nat} (h : Wd w W bv ls M O) (i y : Nat) : Wd w (W.setCell ⟨w.heap.size + 1, i, none⟩ (.int .u32 (y : Int))) bv ls M (O.set i y) :=
  ⟨h.hb.setCell (by show _ ≤ w.heap.size + 1; omega) _, h.bx.far (p := ⟨w.heap.size + 1, i, none⟩) (by simp) _, by have := h.ob.set i (.int .u32 (y : Int)); rwa [wcs_set] at this⟩
theorem Wd.drew {O : List Nat} (h : Wd w W bv ls M O) : Wd w W.drew bv ls M O := ⟨below_drewN h.hb 1, h.bx, h.ob⟩
theorem Wd.later {O : List Nat} (h : Wd w W bv ls M O) (k : Below W.heap.size W W') : Wd w W' bv ls M O := ⟨bel_later h.hb k, h.bx.kept (Kept.of_below [] k) (by simp), h.ob.kept (Kept.of_below [] k) (by simp)⟩
theorem Wd.cell {O : List Nat} (h : Wd w W bv ls M O) {i : Nat} (hi : i < O.length) : W.cell? ⟨w.heap.size + 1, i, none⟩ = some (.int .u32 ((O.getD i 0 : Nat) : Int)) := (h.ob.cell i).trans (wcs_get hi)
theorem word_lt {ws : List Nat} (hs : ∀ n ∈ ws, n < 4294967296) (k : Nat) : ws.getD k 0 < 4294967296 := by
  rcases Nat.lt_or_ge k ws.length with h | h
  · have := hs _ (List.getElem_mem h)
    simpa [h] using this
  · simp [h]
/-- Two words of a number. -/
theorem two_halves {ws : List Nat} (hs : ∀ n ∈ ws, n < 4294967296) (k : Nat) : twoN ws k / 4294967296 = ws.getD k 0 ∧ twoN ws k % 4294967296 = ws.getD (k + 1) 0 := by
  have hlt : ws.getD (k + 1) 0 < 4294967296 := by
    rcases Nat.lt_or_ge (k + 1) ws.length with h | h
    · have := hs _ (List.getElem_mem h)
      simpa [h] using this
    · simp [h]
  unfold twoN
  omega
end
theorem chain_end {ws : List Nat} : ∀ (R : List Rb) (a0 : Nat), Chain ws a0 (R.map Rb.bl) → (match R.getLast? with | none => a0 | some b => b.x + 2 ^ b.c) = ws.getD 15 0
  | [], a0, h => h
  | [b], a0, h => by
    obtain ⟨h1, _, _, _, h5⟩ := h
    have h6 : a0 + 1 + 2 ^ b.c = ws.getD 15 0 := h5
    have h7 : b.x = a0 + 1 := h1
    show b.x + 2 ^ b.c = _
    rw [h7, h6]
  | b :: c :: R, a0, h => by
    have := chain_end (c :: R) _ h.2.2.2.2
    rw [List.getLast?_cons_cons]
    rw [← this]
    cases h9 : (c :: R).getLast? with
    | none => simp at h9
    | some d => rfl
theorem edge_eq {M : Mo} {ws : List Nat} {bs : List Bool} (h : Inv ws bs M.B M.L) : M.edge = ws.getD 15 0 := by
  have := chain_end M.R 16 h.chain
  unfold Mo.edge
  exact this
/-! ### copy of words -/
def copy32 (ty : TypeId) (args : Array Value) : Sem Value := Builtin.copy_ #[62, 62] ty args
theorem copy32_rule (ty : TypeId) (args : Array Value) : Builtin.copy_ #[62, 62] ty args = copy32 ty args := rfl
theorem copy32_run {w : World} {g x m n dc sc : Nat} {a : Addr} {O l : List Nat} (ty : TypeId) (hg : Blk w g 53 (wcs O)) (hl : l.length = m) (hO : x + m ≤ O.length) (hn : m ≤ n)
    (hsrc : ∀ j v, (wvl l)[j]? = some v → w.cell? (a.add j) = some v) :
    (copy32 ty #[.slice (some ⟨g, x, none⟩) n dc, .slice (some a) m sc]).run Try.prog w = .ok (.int .i64 (m : Int)) (w.setRow g (wcs (O.take x ++ l ++ O.drop (x + m)))) := by
  have hcs : (wvl l).length = m := by rw [wvl_len, hl]
  have h1 := run_loadCells_list (P := Try.prog) w a (wvl l) hsrc
  have hst := run_storeCells_at Try.prog g x 53 (wvl l) 0 (wcs O) w hg (by rw [hcs]; simp [wcs]; omega) (wvl_one l)
  have e : ((wcs O).toList.take (x + 0) ++ wvl l ++ (wcs O).toList.drop (x + 0 + (wvl l).length)).toArray = wcs (O.take x ++ l ++ O.drop (x + m)) := by
    rw [hcs]
    simp [wcs, wvl, List.map_take, List.map_drop]
  rw [e] at hst
  obtain ⟨i0, hi, hz0, hz1, hz2⟩ := info_parts i_w32
  rw [hcs] at h1
  have hm : Nat.min m n = m := Nat.min_eq_left hn
  unfold copy32
  simp [Builtin.copy_, run_underlying Try.underlying62, Builtin.lenOf, Builtin.firstCells, sizeOf, typeInfo, hi, hz1, hm, h1, hst]
  rfl
section
attribute [local go_sem ↓] load_ra_rule store_ra_rule load_rb_rule store_rb_rule copy32_rule
variable {w W W' : World} {g z lo : Nat} {bv : Value} {ls : Nat → Value} {vs : List Value} {M : Mo}
theorem index_six (ls : Nat → Value) (k : Nat) (hk : k < 6) (w : World) : (Instr.index 31 (.agg #[ls 0, ls 1, ls 2, ls 3, ls 4, ls 5]) (.int .i64 (k : Int))).run Try.prog w = .ok (ls k) w := by
  rcases (show k = 0 ∨ k = 1 ∨ k = 2 ∨ k = 3 ∨ k = 4 ∨ k = 5 by omega) with rfl | rfl | rfl | rfl | rfl | rfl <;> kernel_rfl
theorem pre_edge {ws : List Nat} {e : Nat} (he : e ≤ ws.length) (h0 : ∀ i, e ≤ i → i < ws.length → ws.getD i 0 = 0) : Pre ws e = ws := by
  refine list_ext (Pre.len ws he) (fun i hi => ?_)
  rw [Pre.len ws he] at hi
  rw [Pre.get ws he]
  split
  · rfl
  · exact (h0 i (by omega) hi).symm
theorem lst_next {ws : List Nat} : ∀ (l1 : List Nat) {s x : Nat} {r : List Nat}, Lst ws s (l1 ++ x :: r) → ws.getD x 0 = r.headD 0
  | [], s, x, r, h => by
    obtain ⟨_, _, h3⟩ := h
    cases r with
    | nil => exact h3
    | cons y r => exact h3.1
  | y :: l1, s, x, r, h => lst_next l1 h.2.2
theorem split_of {l : List Nat} {x : Nat} (hm : x ∈ l) (hn : l.Nodup) : ∃ l1 r, l = l1 ++ x :: r ∧ x ∉ l1 := by
  obtain ⟨l1, r, rfl⟩ := List.append_of_mem hm
  refine ⟨l1, r, rfl, fun h9 => ?_⟩
  have := (List.nodup_append.1 hn).2.2 x h9 x (by simp)
  exact this rfl
theorem Wd.row {w W : World} {bv : Value} {ls : Nat → Value} {M : Mo} {O : List Nat} (h : Wd w W bv ls M O) (O' : List Nat) : Wd w (W.setRow (w.heap.size + 1) (wcs O')) bv ls M O' :=
  ⟨below_setRow h.hb (by omega) _, h.bx.kept ((Kept.refl [w.heap.size + 1] W).setRow (.inl (by simp)) _) (by simp), h.ob.row _⟩
theorem app3_get {a l d : List Nat} {i : Nat} : (a ++ l ++ d).getD i 0 = if i < a.length then a.getD i 0 else if i < a.length + l.length then l.getD (i - a.length) 0 else d.getD (i - a.length - l.length) 0 := by
  simp only [List.getD_eq_getElem?_getD]
  split
  · rw [List.append_assoc, List.getElem?_append_left (by assumption)]
  · split
    · rw [List.append_assoc, List.getElem?_append_right (by omega), List.getElem?_append_left (by omega)]
    · rw [List.append_assoc, List.getElem?_append_right (by omega), List.getElem?_append_right (by omega)]
theorem blk_taken {ws l : List Nat} {e z h : Nat} (hl : l.length = z) (hfit : e + 1 + z ≤ ws.length) (hw : ∀ j, j < z → l.getD j 0 = ws.getD (e + 1 + j) 0) (hh : ws.getD e 0 = h) :
    (((Pre ws e).take (e + 1) ++ l ++ (Pre ws e).drop (e + 1 + z)).set e h) = Pre ws (e + 1 + z) := by
  have hpl := Pre.len ws (show e ≤ ws.length by omega)
  have hlen : ((Pre ws e).take (e + 1) ++ l ++ (Pre ws e).drop (e + 1 + z)).length = ws.length := by simp [hpl, hl]; omega
  refine list_ext (by rw [List.length_set, hlen, Pre.len ws hfit]) (fun i hi => ?_)
  rw [List.length_set, hlen] at hi
  rw [getD_set _ _ _ _ _ (by rw [hlen]; omega), Pre.get ws hfit]
  by_cases hie : e = i
  · subst hie; rw [if_pos rfl, if_pos (by omega), hh]
  · rw [if_neg hie, app3_get]
    have ha : ((Pre ws e).take (e + 1)).length = e + 1 := by simp [hpl]; omega
    rw [ha, hl]
    by_cases h1 : i < e + 1
    · rw [if_pos h1, if_pos (by omega)]
      have : ((Pre ws e).take (e + 1)).getD i 0 = (Pre ws e).getD i 0 := by simp only [List.getD_eq_getElem?_getD, List.getElem?_take, if_pos h1]
      rw [this, Pre.get ws (by omega), if_pos (by omega)]
    · rw [if_neg h1]
      by_cases h2 : i < e + 1 + z
      · rw [if_pos h2, if_pos h2, hw _ (by omega)]
        congr 1; omega
      · rw [if_neg h2, if_neg h2]
        have : ((Pre ws e).drop (e + 1 + z)).getD (i - (e + 1) - z) 0 = (Pre ws e).getD i 0 := by
          simp only [List.getD_eq_getElem?_getD, List.getElem?_drop]
          rw [show e + 1 + z + (i - (e + 1) - z) = i by omega]
        rw [this, Pre.get ws (by omega), if_neg (by omega)]
theorem blk_free {ws : List Nat} {e z h y : Nat} (hz : 1 ≤ z) (hfit : e + 1 + z ≤ ws.length) (hw : ∀ i, e + 1 < i → i < e + 1 + z → ws.getD i 0 = 0) (hy : ws.getD (e + 1) 0 = y) (hh : ws.getD e 0 = h) :
    ((Pre ws e).set (e + 1) y).set e h = Pre ws (e + 1 + z) := by
  have hpl := Pre.len ws (show e ≤ ws.length by omega)
  refine list_ext (by simp [hpl, Pre.len ws hfit]) (fun i hi => ?_)
  rw [List.length_set, List.length_set, hpl] at hi
  rw [getD_set _ _ _ _ _ (by rw [List.length_set, hpl]; omega), getD_set _ _ _ _ _ (by rw [hpl]; omega), Pre.get ws hfit, Pre.get ws (by omega)]
  by_cases h1 : e = i
  · subst h1; rw [if_pos rfl, if_pos (by omega), hh]
  · rw [if_neg h1]
    by_cases h2 : e + 1 = i
    · subst h2; rw [if_pos rfl, if_pos (by omega), hy]
    · rw [if_neg h2]
      by_cases h3 : i < e
      · rw [if_pos h3, if_pos (by omega)]
      · rw [if_neg h3]
        by_cases h4 : i < e + 1 + z
        · rw [if_pos h4, hw i (by omega) h4]
        · rw [if_neg h4]
end
end Go.Proofs.Ytoidklkloagioaa
