/-
  An arena that calls have left may be decoded. No walk. Nothing here is a statement of the document.
-/
import Derived.Test.YtgnpoehcmlmajaaRfQ
import Derived.Test.YtgnpoehcmlmajaaArnX
import Derived.Test.YtgnpoehcmlmajaaRfL
import Derived.Test.YtgnpoehcmlmajaaArnR
import Derived.Test.YtgnpoehcmlmajaaArnK
import Derived.Test.YtgnpoehcmlmajaaOctM
import Derived.Deep.DeepCutAuto
import Derived.Deep.CutBlock
import Derived.Deep.Slices
import Derived.WalkKit
import Derived.ProofKit
import Derived.OpenShut
import Derived.ShutString
import Derived.ChangeOld
import Derived.Below
import Derived.DataShut
import Derived.Test.YtgnpoehcmlmajaaArpG
namespace Go.Proofs.Ytgnpoehcmlmajaa
open Go.RowKit Go.Shelf
set_option linter.unusedVariables false
/-- The program's words tell what the document's arena is. -/
structure Same (ws : List Nat) (M : Mo) : Prop where
  n : M.N = ws.length
  words : ∀ b ∈ M.R, b.t = true → ∀ j, j < 2 ^ b.c → b.ws.getD j 0 = ws.getD (b.x + j) 0
  v : M.v = twoN ws 1
  e : M.e = twoN ws 3
  four : M.four = ((ws.getD 5 0 : Nat) : Int)
  six : M.six = ((ws.getD 6 0 : Nat) : Int)
  gd : M.gd = twoN ws 7
/-- Its first words, noughts behind. -/
def Pre (ws : List Nat) (e : Nat) : List Nat := ws.take e ++ List.replicate (ws.length - e) 0
theorem Pre.len (ws : List Nat) {e : Nat} (he : e ≤ ws.length) : (Pre ws e).length = ws.length := by simp [Pre]; omega
theorem Pre.get (ws : List Nat) {e : Nat} (he : e ≤ ws.length) (i : Nat) : (Pre ws e).getD i 0 = if i < e then ws.getD i 0 else 0 := by
  unfold Pre
  simp only [List.getD_eq_getElem?_getD]
  rcases Nat.lt_or_ge i e with h | h
  · rw [List.getElem?_append_left (by simp; omega), if_pos h, List.getElem?_take, if_pos h]
  · rw [List.getElem?_append_right (by simp; omega), if_neg (by omega), List.getElem?_replicate]
    split <;> simp
theorem list_ext {a b : List Nat} (hl : a.length = b.length) (h : ∀ i, i < a.length → a.getD i 0 = b.getD i 0) : a = b := by
  apply List.ext_getElem hl
  intro i h1 h2
  have := h i h1
  simpa [h1, h2] using this
theorem Pre.set (ws : List Nat) {e : Nat} (he : e < ws.length) : (Pre ws e).set e (ws.getD e 0) = Pre ws (e + 1) := by
  have hl := Pre.len ws (Nat.le_of_lt he)
  refine list_ext (by rw [List.length_set, hl, Pre.len ws he]) (fun i hi => ?_)
  rw [getD_set _ _ _ _ _ (by omega), Pre.get ws (by omega), Pre.get ws he]
  by_cases h : e = i
  · subst h; simp
  · rw [if_neg h]
    by_cases h2 : i < e
    · rw [if_pos h2, if_pos (by omega)]
    · rw [if_neg h2, if_neg (by omega)]
theorem Pre.nought (ws : List Nat) {e : Nat} (he : e < ws.length) (h0 : ws.getD e 0 = 0) : Pre ws e = Pre ws (e + 1) := by
  rw [← Pre.set ws he, h0]
  refine list_ext (by simp) (fun i hi => ?_)
  have hl := Pre.len ws (Nat.le_of_lt he)
  rw [getD_set _ _ _ _ _ (by omega)]
  split
  · rename_i h; subst h; rw [Pre.get ws (by omega), if_neg (by omega)]
  · rfl
theorem Pre.zero (ws : List Nat) : List.replicate ws.length 0 = Pre ws 0 := by simp [Pre]
theorem Pre.full (ws : List Nat) : Pre ws ws.length = ws := by simp [Pre]
section
variable {w W W' : World} {g z lo : Nat} {bv : Value} {ls : Nat → Value} {vs : List Value} {M : Mo}
/-- While the words are laid. -/
structure Wd (w W : World) (bv : Value) (ls : Nat → Value) (M : Mo) (O : List Nat) : Prop where
  hb : Below w.heap.size w W
  bx : Blk W w.heap.size 36 (M.vals bv ls)
  ob : Blk W (w.heap.size + 1) 53 (wcs O)
theorem Wd.set {O : List Nat} (h : Wd w W bv ls M O) (i y : Nat) : Wd w (W.setCell ⟨w.heap.size + 1, i, none⟩ (.int .u32 (y : Int))) bv ls M (O.set i y) :=
  ⟨h.hb.setCell (by show _ ≤ w.heap.size + 1; omega) _, h.bx.far (p := ⟨w.heap.size + 1, i, none⟩) (by simp) _, by have := h.ob.set i (.int .u32 (y : Int)); rwa [wcs_set] at this⟩
theorem Wd.drew {O : List Nat} (h : Wd w W bv ls M O) : Wd w W.drew bv ls M O := ⟨below_drewN h.hb 1, h.bx, h.ob⟩
theorem Wd.later {O : List Nat} (h : Wd w W bv ls M O) (k : Below W.heap.size W W') : Wd w W' bv ls M O := ⟨bel_later h.hb k, h.bx.kept (Kept.of_below [] k) (by simp), h.ob.kept (Kept.of_below [] k) (by simp)⟩
theorem Wd.cell {O : List Nat} (h : Wd w W bv ls M O) {i : Nat} (hi : i < O.length) : W.cell? ⟨w.heap.size + 1, i, none⟩ = some (.int .u32 ((O.getD i 0 : Nat) : Int)) := (h.ob.cell i).trans (wcs_get hi)
theorem word_lt {ws : List Nat} (hs : ∀ n ∈ ws, n < 4294967296) (k : Nat) : ws.getD k 0 < 4294967296 := by
  rcases Nat.lt_or_ge k ws.length with h | h
  · have := hs _ (List.getElem_mem h)
    simpa [h] using this
  · simp [h]
/-- Two words of a number. -/
theorem two_halves {ws : List Nat} (hs : ∀ n ∈ ws, n < 4294967296) (k : Nat) : twoN ws k / 4294967296 = ws.getD k 0 ∧ twoN ws k % 4294967296 = ws.getD (k + 1) 0 := by
  have hlt : ws.getD (k + 1) 0 < 4294967296 := by
    rcases Nat.lt_or_ge (k + 1) ws.length with h | h
    · have := hs _ (List.getElem_mem h)
      simpa [h] using this
    · simp [h]
  unfold twoN
  omega
end
theorem chain_end {ws : List Nat} : ∀ (R : List Rb) (a0 : Nat), Chain ws a0 (R.map Rb.bl) → (match R.getLast? with | none => a0 | some b => b.x + 2 ^ b.c) = ws.getD 15 0
  | [], a0, h => h
  | [b], a0, h => by
    obtain ⟨h1, _, _, _, h5⟩ := h
    have h6 : a0 + 1 + 2 ^ b.c = ws.getD 15 0 := h5
    have h7 : b.x = a0 + 1 := h1
    show b.x + 2 ^ b.c = _
    rw [h7, h6]
  | b :: c :: R, a0, h => by
    have := chain_end (c :: R) _ h.2.2.2.2
    rw [List.getLast?_cons_cons]
    rw [← this]
    cases h9 : (c :: R).getLast? with
    | none => simp at h9
    | some d => rfl
theorem edge_eq {M : Mo} {ws : List Nat} {bs : List Bool} (h : Inv ws bs M.B M.L) : M.edge = ws.getD 15 0 := by
  have := chain_end M.R 16 h.chain
  unfold Mo.edge
  exact this
/-! ### copy of words -/
def copy32 (ty : TypeId) (args : Array Value) : Sem Value := Builtin.copy_ #[62, 62] ty args
theorem copy32_rule (ty : TypeId) (args : Array Value) : Builtin.copy_ #[62, 62] ty args = copy32 ty args := rfl
theorem copy32_run {w : World} {g x m n dc sc : Nat} {a : Addr} {O l : List Nat} (ty : TypeId) (hg : Blk w g 53 (wcs O)) (hl : l.length = m) (hO : x + m ≤ O.length) (hn : m ≤ n)
    (hsrc : ∀ j v, (wvl l)[j]? = some v → w.cell? (a.add j) = some v) :
    (copy32 ty #[.slice (some ⟨g, x, none⟩) n dc, .slice (some a) m sc]).run Try.prog w = .ok (.int .i64 (m : Int)) (w.setRow g (wcs (O.take x ++ l ++ O.drop (x + m)))) := by
  have hcs : (wvl l).length = m := by rw [wvl_len, hl]
  have h1 := run_loadCells_list (P := Try.prog) w a (wvl l) hsrc
  have hst := run_storeCells_at Try.prog g x 53 (wvl l) 0 (wcs O) w hg (by rw [hcs]; simp [wcs]; omega) (wvl_one l)
  have e : ((wcs O).toList.take (x + 0) ++ wvl l ++ (wcs O).toList.drop (x + 0 + (wvl l).length)).toArray = wcs (O.take x ++ l ++ O.drop (x + m)) := by
    rw [hcs]
    simp [wcs, wvl, List.map_take, List.map_drop]
  rw [e] at hst
  obtain ⟨i0, hi, hz0, hz1, hz2⟩ := info_parts i_w32
  rw [hcs] at h1
  have hm : Nat.min m n = m := Nat.min_eq_left hn
  unfold copy32
  simp [Builtin.copy_, run_underlying Try.underlying62, Builtin.lenOf, Builtin.firstCells, sizeOf, typeInfo, hi, hz1, hm, h1, hst]
  rfl
section
attribute [local go_sem ↓] load_ra_rule store_ra_rule load_rb_rule store_rb_rule copy32_rule
variable {w W W' : World} {g z lo : Nat} {bv : Value} {ls : Nat → Value} {vs : List Value} {M : Mo}
theorem index_six (ls : Nat → Value) (k : Nat) (hk : k < 6) (w : World) : (Instr.index 31 (.agg #[ls 0, ls 1, ls 2, ls 3, ls 4, ls 5]) (.int .i64 (k : Int))).run Try.prog w = .ok (ls k) w := by
  rcases (show k = 0 ∨ k = 1 ∨ k = 2 ∨ k = 3 ∨ k = 4 ∨ k = 5 by omega) with rfl | rfl | rfl | rfl | rfl | rfl <;> kernel_rfl
theorem pre_edge {ws : List Nat} {e : Nat} (he : e ≤ ws.length) (h0 : ∀ i, e ≤ i → i < ws.length → ws.getD i 0 = 0) : Pre ws e = ws := by
  refine list_ext (Pre.len ws he) (fun i hi => ?_)
  rw [Pre.len ws he] at hi
  rw [Pre.get ws he]
  split
  · rfl
  · exact (h0 i (by omega) hi).symm
theorem lst_next {ws : List Nat} : ∀ (l1 : List Nat) {s x : Nat} {r : List Nat}, Lst ws s (l1 ++ x :: r) → ws.getD x 0 = r.headD 0
  | [], s, x, r, h => by
    obtain ⟨_, _, h3⟩ := h
    cases r with
    | nil => exact h3
    | cons y r => exact h3.1
  | y :: l1, s, x, r, h => lst_next l1 h.2.2
theorem split_of {l : List Nat} {x : Nat} (hm : x ∈ l) (hn : l.Nodup) : ∃ l1 r, l = l1 ++ x :: r ∧ x ∉ l1 := by
  obtain ⟨l1, r, rfl⟩ := List.append_of_mem hm
  refine ⟨l1, r, rfl, fun h9 => ?_⟩
  have := (List.nodup_append.1 hn).2.2 x h9 x (by simp)
  exact this rfl
theorem Wd.row {w W : World} {bv : Value} {ls : Nat → Value} {M : Mo} {O : List Nat} (h : Wd w W bv ls M O) (O' : List Nat) : Wd w (W.setRow (w.heap.size + 1) (wcs O')) bv ls M O' :=
  ⟨below_setRow h.hb (by omega) _, h.bx.kept ((Kept.refl [w.heap.size + 1] W).setRow (.inl (by simp)) _) (by simp), h.ob.row _⟩
theorem app3_get {a l d : List Nat} {i : Nat} : (a ++ l ++ d).getD i 0 = if i < a.length then a.getD i 0 else if i < a.length + l.length then l.getD (i - a.length) 0 else d.getD (i - a.length - l.length) 0 := by
  simp only [List.getD_eq_getElem?_getD]
  split
  · rw [List.append_assoc, List.getElem?_append_left (by assumption)]
  · split
    · rw [List.append_assoc, List.getElem?_append_right (by omega), List.getElem?_append_left (by omega)]
    · rw [List.append_assoc, List.getElem?_append_right (by omega), List.getElem?_append_right (by omega)]
theorem blk_taken {ws l : List Nat} {e z h : Nat} (hl : l.length = z) (hfit : e + 1 + z ≤ ws.length) (hw : ∀ j, j < z → l.getD j 0 = ws.getD (e + 1 + j) 0) (hh : ws.getD e 0 = h) :
    (((Pre ws e).take (e + 1) ++ l ++ (Pre ws e).drop (e + 1 + z)).set e h) = Pre ws (e + 1 + z) := by
  have hpl := Pre.len ws (show e ≤ ws.length by omega)
  have hlen : ((Pre ws e).take (e + 1) ++ l ++ (Pre ws e).drop (e + 1 + z)).length = ws.length := by simp [hpl, hl]; omega
  refine list_ext (by rw [List.length_set, hlen, Pre.len ws hfit]) (fun i hi => ?_)
  rw [List.length_set, hlen] at hi
  rw [getD_set _ _ _ _ _ (by rw [hlen]; omega), Pre.get ws hfit]
  by_cases hie : e = i
  · subst hie; rw [if_pos rfl, if_pos (by omega), hh]
  · rw [if_neg hie, app3_get]
    have ha : ((Pre ws e).take (e + 1)).length = e + 1 := by simp [hpl]; omega
    rw [ha, hl]
    by_cases h1 : i < e + 1
    · rw [if_pos h1, if_pos (by omega)]
      have : ((Pre ws e).take (e + 1)).getD i 0 = (Pre ws e).getD i 0 := by simp only [List.getD_eq_getElem?_getD, List.getElem?_take, if_pos h1]
      rw [this, Pre.get ws (by omega), if_pos (by omega)]
    · rw [if_neg h1]
      by_cases h2 : i < e + 1 + z
      · rw [if_pos h2, if_pos h2, hw _ (by omega)]
        congr 1; omega
      · rw [if_neg h2, if_neg h2]
        have : ((Pre ws e).drop (e + 1 + z)).getD (i - (e + 1) - z) 0 = (Pre ws e).getD i 0 := by
          simp only [List.getD_eq_getElem?_getD, List.getElem?_drop]
          rw [show e + 1 + z + (i - (e + 1) - z) = i by omega]
        rw [this, Pre.get ws (by omega), if_neg (by omega)]
theorem blk_free {ws : List Nat} {e z h y : Nat} (hz : 1 ≤ z) (hfit : e + 1 + z ≤ ws.length) (hw : ∀ i, e + 1 < i → i < e + 1 + z → ws.getD i 0 = 0) (hy : ws.getD (e + 1) 0 = y) (hh : ws.getD e 0 = h) :
    ((Pre ws e).set (e + 1) y).set e h = Pre ws (e + 1 + z) := by
  have hpl := Pre.len ws (show e ≤ ws.length by omega)
  refine list_ext (by simp [hpl, Pre.len ws hfit]) (fun i hi => ?_)
  rw [List.length_set, List.length_set, hpl] at hi
  rw [getD_set _ _ _ _ _ (by rw [List.length_set, hpl]; omega), getD_set _ _ _ _ _ (by rw [hpl]; omega), Pre.get ws hfit, Pre.get ws (by omega)]
  by_cases h1 : e = i
  · subst h1; rw [if_pos rfl, if_pos (by omega), hh]
  · rw [if_neg h1]
    by_cases h2 : e + 1 = i
    · subst h2; rw [if_pos rfl, if_pos (by omega), hy]
    · rw [if_neg h2]
      by_cases h3 : i < e
      · rw [if_pos h3, if_pos (by omega)]
      · rw [if_neg h3]
        by_cases h4 : i < e + 1 + z
        · rw [if_pos h4, hw i (by omega) h4]
        · rw [if_neg h4]
end
end Go.Proofs.Ytgnpoehcmlmajaa
namespace Go.Proofs.Ytgnpoehcmlmajaa
open Go.RowKit Go.Shelf
set_option linter.unusedVariables false

/-- Which kind of op it is. -/
def OpM.k (o : OpM) : Nat := unN o.kind % 8
/-- Which places it may touch. -/
def OpM.sk (o : OpM) (B : List Bl) : Int → Prop := fun x => (o.k = 2 ∨ o.k = 4 ∨ o.k = 5) ∧ x = o.row B
theorem StepOk.weak {B B' : List Bl} {ws ws' : List Nat} {sk sk' : Int → Prop} (h : StepOk B ws ws' B' sk) (hk : ∀ x, sk x → sk' x) : StepOk B ws ws' B' sk' :=
  ⟨fun b hb ht hs => h.keep b hb ht (fun hx => hs (hk _ hx)), h.fence, h.root, h.len, h.nice⟩
theorem Left.weak {w w' : World} {g p q : Nat} {ws : List Nat} {B : List Bl} {sk sk' : Int → Prop} (h : Left w w' g p q ws B sk) (hk : ∀ x, sk x → sk' x) : Left w w' g p q ws B sk' := by
  obtain ⟨ws', bs', B', L', h1, h2, h3, h4⟩ := h
  exact ⟨ws', bs', B', L', h1, h2, h3.weak hk, h4⟩
theorem Left.after {w0 w w' : World} {g p q : Nat} {ws : List Nat} {B : List Bl} {sk : Int → Prop} (hb : Below w0.heap.size w0 w) (h : Left w w' g p q ws B sk) : Left w0 w' g p q ws B sk := by
  obtain ⟨ws', bs', B', L', h1, h2, h3, h4⟩ := h
  exact ⟨ws', bs', B', L', h1, h2, h3, (Kept.of_below [p, q] hb).trans h4⟩

attribute [local go_sem ↓] load_op_rule
section
variable {w : World} {g p q : Nat} {ws : List Nat} {bs : List Bool} {B : List Bl} {L : Nat → List Nat}
end
end Go.Proofs.Ytgnpoehcmlmajaa
namespace Go.Proofs.Ytgnpoehcmlmajaa
open Go.RowKit Go.Shelf
set_option linter.unusedVariables false

theorem newWs_15 {n : Nat} (h : 64 ≤ n) : (newWs n).getD 15 0 = 16 := by
  unfold newWs
  rw [getD_set _ _ _ _ _ (by simp; omega), if_pos rfl]
theorem newWs_get {n i : Nat} (h : 64 ≤ n) (h0 : i ≠ 0) (h1 : i ≠ 15) : (newWs n).getD i 0 = 0 := by
  unfold newWs
  rw [getD_set _ _ _ _ _ (by simp; omega), if_neg (Ne.symm h1), getD_set _ _ _ _ _ (by simp; omega), if_neg (Ne.symm h0)]
  by_cases hi : i < n <;> simp [hi]
theorem newWs_root {n : Nat} (h : 64 ≤ n) : rootCs (newWs n) = #[.int .u64 0, .int .u64 0, .int .i64 0, .int .i64 0] := by
  unfold rootCs rtcs twoN
  rw [newWs_get h (by omega) (by omega), newWs_get h (by omega) (by omega), newWs_get h (by omega) (by omega), newWs_get h (by omega) (by omega), newWs_get h (by omega) (by omega), newWs_get h (by omega) (by omega)]
  rfl
theorem owns_slice {w : World} {B : Nat} {e : TypeId} {z : Nat} {v : Value} {n : Nat} {xs : List Value} (h : w.ownsRow B e z v n xs) : ∃ a c, v = .slice a n c := by
  rcases h.2 with ⟨h9, h0⟩ | ⟨g, cap, cur, h9, _⟩
  · exact ⟨none, 0, by rw [h9, h0]⟩
  · exact ⟨_, _, h9⟩
set_option maxHeartbeats 400000 in
theorem encode_nil (w : World) : Calls Try.prog 38 #[.pointer none] w fun e w' => e = .returned (.slice none 0 0) ∧ w = w' := by
  go_enter Try.func38, Try.ntmps38
  go_wp2
  go_ret
  exact ⟨rfl, rfl⟩

end Go.Proofs.Ytgnpoehcmlmajaa
namespace Go.Proofs.Ytgnpoehcmlmajaa
open Go.ChangeShapes Go.WideShapes Go.ChangeAt Go.RowKit
set_option linter.unusedVariables false

theorem opc_int : Try.prog.cellsOf 3 = 1 := by kernel_rfl
theorem opc_u64 : Try.prog.cellsOf 32 = 1 := by kernel_rfl
theorem opc_bool : Try.prog.cellsOf 4 = 1 := by kernel_rfl
theorem opc_op : Try.prog.cellsOf 38 = 7 := by kernel_rfl

theorem op_cells {H : Type} {enc : TypeId × Value → H} {W : World} {sp : Nat → Bool} {held : Bool} {fuel : Nat} {cs : List Value} {y : DataW H × List MemPlace} (hC : cs.length = 7) (h : DataW.trod enc Try.prog W 0 sp held fuel 38 cs = some y) :
    ∃ x : OpM, cs = x.cs.toList ∧ x.Ok := by
  obtain ⟨x0, x1, x2, x3, x4, x5, x6, rfl⟩ : ∃ x0 x1 x2 x3 x4 x5 x6, cs = [x0, x1, x2, x3, x4, x5, x6] := by
    match cs, hC with
    | [a, b, c, d, e, f, g], _ => exact ⟨a, b, c, d, e, f, g, rfl⟩
  obtain ⟨xs, m, _, hx, _, hlen, hg⟩ := DataW.trod_struct Try.underlying38 h
  obtain ⟨y0, y1, y2, y3, y4, y5, y6, rfl⟩ : ∃ y0 y1 y2 y3 y4 y5 y6, xs = [y0, y1, y2, y3, y4, y5, y6] := by
    match xs, hlen with
    | [a, b, c, d, e, f, g], _ => exact ⟨a, b, c, d, e, f, g, rfl⟩
  have t0 : DataW.trod enc Try.prog W 0 sp held m 3 (List.take (Try.prog.cellsOf 3) (List.drop 0 [x0, x1, x2, x3, x4, x5, x6])) = some y0 := hg 0 _ rfl
  rw [opc_int] at t0
  have t1 : DataW.trod enc Try.prog W 0 sp held m 3 (List.take (Try.prog.cellsOf 3) (List.drop 1 [x0, x1, x2, x3, x4, x5, x6])) = some y1 := hg 1 _ rfl
  rw [opc_int] at t1
  have t2 : DataW.trod enc Try.prog W 0 sp held m 3 (List.take (Try.prog.cellsOf 3) (List.drop 2 [x0, x1, x2, x3, x4, x5, x6])) = some y2 := hg 2 _ rfl
  rw [opc_int] at t2
  have t3 : DataW.trod enc Try.prog W 0 sp held m 3 (List.take (Try.prog.cellsOf 3) (List.drop 3 [x0, x1, x2, x3, x4, x5, x6])) = some y3 := hg 3 _ rfl
  rw [opc_int] at t3
  have t4 : DataW.trod enc Try.prog W 0 sp held m 3 (List.take (Try.prog.cellsOf 3) (List.drop 4 [x0, x1, x2, x3, x4, x5, x6])) = some y4 := hg 4 _ rfl
  rw [opc_int] at t4
  have t5 : DataW.trod enc Try.prog W 0 sp held m 32 (List.take (Try.prog.cellsOf 32) (List.drop 5 [x0, x1, x2, x3, x4, x5, x6])) = some y5 := hg 5 _ rfl
  rw [opc_u64] at t5
  have t6 : DataW.trod enc Try.prog W 0 sp held m 4 (List.take (Try.prog.cellsOf 4) (List.drop 6 [x0, x1, x2, x3, x4, x5, x6])) = some y6 := hg 6 _ rfl
  rw [opc_bool] at t6
  obtain ⟨u0, e0, _, f0⟩ := DataW.trod_int Try.underlying3 t0
  obtain rfl : x0 = .int .i64 u0 := by injection (show [x0] = [_] from e0)
  obtain ⟨u1, e1, _, f1⟩ := DataW.trod_int Try.underlying3 t1
  obtain rfl : x1 = .int .i64 u1 := by injection (show [x1] = [_] from e1)
  obtain ⟨u2, e2, _, f2⟩ := DataW.trod_int Try.underlying3 t2
  obtain rfl : x2 = .int .i64 u2 := by injection (show [x2] = [_] from e2)
  obtain ⟨u3, e3, _, f3⟩ := DataW.trod_int Try.underlying3 t3
  obtain rfl : x3 = .int .i64 u3 := by injection (show [x3] = [_] from e3)
  obtain ⟨u4, e4, _, f4⟩ := DataW.trod_int Try.underlying3 t4
  obtain rfl : x4 = .int .i64 u4 := by injection (show [x4] = [_] from e4)
  obtain ⟨u5, e5, _, f5⟩ := DataW.trod_int Try.underlying32 t5
  obtain rfl : x5 = .int .u64 u5 := by injection (show [x5] = [_] from e5)
  obtain ⟨u6, e6, _⟩ := DataW.trod_bool Try.underlying4 t6
  obtain rfl : x6 = .bool u6 := by injection (show [x6] = [_] from e6)
  have b : ∀ {u : Int}, (Lit.int .i64 u).wf = true → -9223372036854775808 ≤ u ∧ u ≤ 9223372036854775807 := fun {u} hu => (Lit.wf_int_iff .i64 u).1 hu
  exact ⟨⟨u0, u1, u2, u3, u4, u5, u6⟩, rfl, ⟨b f0, b f1, b f2, b f3, b f4, (Lit.wf_int_iff .u64 u5).1 f5⟩⟩

/-- A row of ops. -/
def Ops (w : World) (a : Option Addr) (l : List OpM) : Prop :=
  l = [] ∨ ∃ x, a = some x ∧ ∀ (i : Nat) (y : OpM), l[i]? = some y → (∀ j, j < 7 → w.cell? (x.add (i * 7 + j)) = (y.cs)[j]?) ∧ y.Ok
theorem ops_of {H : Type} {enc : TypeId × Value → H} {W : World} {sp : Nat → Bool} {held : Bool} {a : Option Addr} {len cap : Nat} {d : DataW H} {p : List MemPlace} (h : DataW.Trod enc Try.prog W 0 sp held 22 (.slice a len cap) d p) :
    ∃ l : List OpM, l.length = len ∧ len ≤ 9223372036854775807 ∧ Ops W a l := by
  obtain ⟨fuel, hf⟩ := h
  rcases Go.Deep.open_slice Try.underlying22 hf with ⟨hcs, _⟩ | ⟨x, len', cap', q, nn, Dt, Pl, hcs, _, hl, hm, hq, _, hi⟩
  · simp [Value.cells] at hcs
    obtain ⟨rfl, rfl, rfl⟩ := hcs
    exact ⟨[], rfl, by omega, .inl rfl⟩
  · simp [Value.cells] at hcs
    obtain ⟨rfl, rfl, rfl⟩ := hcs
    have hex : ∀ i, i < len → ∃ y : OpM, (∀ j, j < 7 → W.cell? (x.add (i * 7 + j)) = (y.cs)[j]?) ∧ y.Ok := by
      intro i hil
      obtain ⟨cs', hc', ht'⟩ := hi i (by rw [hq]; split <;> omega)
      rw [opc_op] at hc'
      obtain ⟨_, hlen, hat⟩ := World.cells?_some hc'
      obtain ⟨y, rfl, r⟩ := op_cells hlen ht'
      refine ⟨y, fun j hj => ?_, r⟩
      have h9 := hat j hj
      rw [Go.Deep.add_add] at h9
      rw [h9]
      simp
    obtain ⟨f, hf2⟩ : ∃ f : Nat → OpM, ∀ i, i < len → (∀ j, j < 7 → W.cell? (x.add (i * 7 + j)) = ((f i).cs)[j]?) ∧ (f i).Ok :=
      ⟨fun i => if h : i < len then (hex i h).choose else ⟨0, 0, 0, 0, 0, 0, false⟩, fun i hil => by simp only [dif_pos hil]; exact (hex i hil).choose_spec⟩
    refine ⟨(List.range len).map f, by simp, by unfold maxLen at hm; omega, .inr ⟨x, rfl, fun i y hy => ?_⟩⟩
    have hil : i < len := by simpa using (List.getElem?_eq_some_iff.1 hy).1
    rw [List.getElem?_map, List.getElem?_range hil, Option.map_some] at hy
    injection hy with hy
    subst hy
    exact hf2 i hil
theorem Ops.at {w : World} {a : Option Addr} {l : List OpM} (h : Ops w a l) {i : Nat} {y : OpM} (hy : l[i]? = some y) :
    ∃ b0 o0, a = some ⟨b0, o0, none⟩ ∧ (∀ j, j < 7 → w.cell? ⟨b0, o0 + i * 7 + j, none⟩ = (y.cs)[j]?) ∧ y.Ok := by
  rcases h with rfl | ⟨x, rfl, hx⟩
  · simp at hy
  · obtain ⟨h1, h2⟩ := hx i y hy
    have hl : 0 < l.length := by have := (List.getElem?_eq_some_iff.1 hy).1; omega
    have h0 := (hx 0 _ (List.getElem?_eq_getElem hl)).1 0 (by omega)
    obtain ⟨b, o, q⟩ := x
    have hq : q = none := by
      have h9 : ((l[0]).cs)[0]? = some (.int .i64 (l[0]).kind) := rfl
      rw [h9] at h0
      simpa [Addr.add] using World.cell?_spot h0
    subst hq
    exact ⟨b, o, rfl, fun j hj => by have h9 := h1 j hj; rw [Addr.add_lit, ← Nat.add_assoc] at h9; exact h9, h2⟩

theorem inv_new {n : Nat} (h : 64 ≤ n) : Inv (newWs n) (List.replicate n false) [] (fun _ => []) :=
  ⟨(newWs_15 h).symm, by rw [newWs_15 h, newWs_len]; omega, fun i => by simp only [List.getD_eq_getElem?_getD, List.getElem?_replicate]; split <;> simp, fun c hc => newWs_get h (by omega) (by omega), fun c hc x => by simp, fun c hc => List.nodup_nil⟩
theorem nice_new {n : Nat} (h : 64 ≤ n) : Nice (newWs n) [] :=
  ⟨by unfold newWs; rw [getD_set _ _ _ _ _ (by simp; omega), if_neg (by omega), getD_set _ _ _ _ _ (by simp; omega), if_pos rfl]; simp, fun i h1 h2 => by rw [newWs_15 h] at h1; rw [newWs_len] at h2; exact newWs_get h (by omega) (by omega), by simp, .inl (newWs_get h (by omega) (by omega)), .inl (newWs_get h (by omega) (by omega))⟩
end Go.Proofs.Ytgnpoehcmlmajaa
namespace Go.Proofs.Ytgnpoehcmlmajaa
open Go.RowKit Go.Shelf
set_option linter.unusedVariables false
theorem nodup_len : ∀ (n : Nat) (l : List Nat), l.Nodup → (∀ x ∈ l, x < n) → l.length ≤ n
  | 0, l, _, h => by
    cases l with
    | nil => simp
    | cons x l => exact absurd (h x (by simp)) (by omega)
  | n + 1, l, hn, h => by
    by_cases hm : n ∈ l
    · have h1 := nodup_len n (l.erase n) (hn.erase n) (fun x hx => by
        have h2 := h x (List.mem_of_mem_erase hx)
        have h3 : x ≠ n := fun e => by subst e; exact hn.not_mem_erase hx
        omega)
      have := List.length_erase_of_mem hm
      omega
    · have := nodup_len n l hn (fun x hx => by
        have h2 := h x hx
        have h3 : x ≠ n := fun e => hm (e ▸ hx)
        omega)
      omega
section
variable {ws : List Nat} {bs : List Bool} {M : Mo}
theorem mem_bl {b : Rb} (h : b ∈ M.R) : b.bl ∈ M.B := List.mem_map.2 ⟨b, h, rfl⟩
theorem get_bl {k : Nat} {b : Rb} (h : M.R[k]? = some b) : M.B[k]? = some b.bl := by simp [Mo.B, h]
/-- In a chain places are apart. -/
theorem chain_uq : ∀ {B : List Bl} {a0 : Nat}, Chain ws a0 B → ∀ (i j : Nat) (b b' : Bl), B[i]? = some b → B[j]? = some b' → b.x = b'.x → i = j
  | [], _, _, i, j, b, b', hi, _, _ => by simp at hi
  | d :: B, a0, h, i, j, b, b', hi, hj, he => by
    have hlow : ∀ (k : Nat) (c : Bl), B[k]? = some c → a0 + 1 + 2 ^ d.c + 1 ≤ c.x := fun k c hk => (chain_low (h.2.2.2.2) (List.mem_of_getElem? hk))
    have hd := h.1
    have hz : 0 ≤ 2 ^ d.c := Nat.zero_le _
    cases i with
    | zero =>
      cases j with
      | zero => rfl
      | succ j =>
        rw [List.getElem?_cons_zero] at hi
        rw [List.getElem?_cons_succ] at hj
        obtain rfl : d = b := by simpa using hi
        have := hlow j b' hj
        generalize 2 ^ d.c = z at *
        omega
    | succ i =>
      rw [List.getElem?_cons_succ] at hi
      cases j with
      | zero =>
        rw [List.getElem?_cons_zero] at hj
        obtain rfl : d = b' := by simpa using hj
        have := hlow i b hi
        generalize 2 ^ d.c = z at *
        omega
      | succ j =>
        rw [List.getElem?_cons_succ] at hj
        have := chain_uq h.2.2.2.2 i j b b' hi hj he
        omega
where
  chain_low {ws : List Nat} : ∀ {B : List Bl} {a0 : Nat}, Chain ws a0 B → ∀ {b : Bl}, b ∈ B → a0 + 1 ≤ b.x
  | [], _, _, b, hb => by simp at hb
  | d :: B, a0, h, b, hb => by
    rcases List.mem_cons.1 hb with rfl | hb
    · have := h.1; omega
    · have := chain_low h.2.2.2.2 hb
      have hz : 0 ≤ 2 ^ d.c := Nat.zero_le _
      generalize 2 ^ d.c = z at *
      omega
theorem mok_of (hI : Inv ws bs M.B M.L) (hhi : ws.length ≤ 16384) (hn : M.N = ws.length) (hw : ∀ b ∈ M.R, b.ws.length = 2 ^ b.c) : Mok M := by
  have hE := hI.edge
  have hcl := chain_len hI.chain
  have hB : M.B.length = M.R.length := by simp [Mo.B]
  refine ⟨fun b hb => ⟨(hI.at (mem_bl hb)).1, hw b hb, ?_⟩, fun i j b b' hi hj he => chain_uq hI.chain i j b.bl b'.bl (get_bl hi) (get_bl hj) he, by omega, fun c hc => ?_, by omega⟩
  · have := hI.lt_edge (mem_bl hb)
    have hx : b.bl.x = b.x := rfl
    omega
  · refine Nat.le_trans (nodup_len 16384 _ (hI.nodup c hc) (fun x hx => ?_)) (by omega)
    obtain ⟨d, hd, rfl, _, _⟩ := hI.free_of hc hx
    have := hI.lt_edge hd
    omega
theorem lists_len (hI : Inv ws bs M.B M.L) (hhi : ws.length ≤ 16384) {c : Nat} (hc : c ≤ 5) : (M.L c).length < 20000 := by
  have hE := hI.edge
  refine Nat.lt_of_le_of_lt (nodup_len 16384 _ (hI.nodup c hc) (fun x hx => ?_)) (by omega)
  obtain ⟨d, hd, rfl, _, _⟩ := hI.free_of hc hx
  have := hI.lt_edge hd
  omega
/-- One block marked, the others as they were. -/
theorem marked_set (hI : Inv ws bs M.B M.L) {k : Nat} {b b' : Rb} (hb : M.R[k]? = some b) {t : Bool} (hx : b'.bl = b.bl.mark t) : (M.R.set k b').map Rb.bl = marked M.B b.x t := by
  apply List.ext_getElem?
  intro i
  unfold marked Mo.B
  rw [List.getElem?_map, List.getElem?_map, List.getElem?_map, List.getElem?_set]
  have hk := (List.getElem?_eq_some_iff.1 hb).1
  by_cases hi : k = i
  · subst hi
    rw [if_pos rfl, if_pos hk, hb]
    show some b'.bl = some (if b.bl.x = b.x then b.bl.mark t else b.bl)
    rw [if_pos (show b.bl.x = b.x from rfl), hx]
  · rw [if_neg hi]
    cases h9 : M.R[i]? with
    | none => rfl
    | some d =>
      show some d.bl = some (if d.bl.x = b.x then d.bl.mark t else d.bl)
      rw [if_neg]
      intro e
      exact hi (chain_uq hI.chain k i b.bl d.bl (get_bl hb) (get_bl h9) (by rw [e]; rfl))
/-- The first nine words are as they were. -/
theorem Same.low {ws' : List Nat} (h : Same ws M) {R' : List Rb} {L' : Nat → List Nat} (hl : ws'.length = ws.length) (hlo : ∀ i, 1 ≤ i → i ≤ 8 → ws'.getD i 0 = ws.getD i 0) (hw : ∀ b ∈ R', b.t = true → ∀ j, j < 2 ^ b.c → b.ws.getD j 0 = ws'.getD (b.x + j) 0) : Same ws' { M with R := R', L := L' } :=
  ⟨by show M.N = _; rw [hl]; exact h.n, hw, by show M.v = _; rw [h.v, twoN_same (hlo 1 (by omega) (by omega)) (hlo 2 (by omega) (by omega))], by show M.e = _; rw [h.e, twoN_same (hlo 3 (by omega) (by omega)) (hlo 4 (by omega) (by omega))], by show M.four = _; rw [h.four, hlo 5 (by omega) (by omega)], by show M.six = _; rw [h.six, hlo 6 (by omega) (by omega)], by show M.gd = _; rw [h.gd, twoN_same (hlo 7 (by omega) (by omega)) (hlo 8 (by omega) (by omega))]⟩
theorem repl_get (z j : Nat) : (List.replicate z 0).getD j 0 = 0 := by
  simp only [List.getD_eq_getElem?_getD, List.getElem?_replicate]
  split <;> rfl
theorem same_list (h : Same ws M) (hI : Inv ws bs M.B M.L) (hN : Nice ws M.B) {c k : Nat} {b : Rb} {r : List Nat} (hc : c ≤ 5) (hL : M.L c = b.x :: r) (hb : M.R[k]? = some b) (hbc : b.c = c) : Same (listW ws c b.x) { M with R := M.R.set k { b with t := true, ws := List.replicate (2 ^ c) 0 }, L := upd M.L c r } := by
  obtain ⟨h1, h2, h3, _⟩ := hI.list hc hL
  obtain ⟨b0, hb0, hx0, hc0, ht0⟩ := hI.free_of hc (show b.x ∈ M.L c by rw [hL]; simp)
  have hbb : b0 = b.bl := chain_same hI.chain (Nat.le_refl _) hb0 (mem_bl (List.mem_of_getElem? hb)) hx0
  subst hbb
  have hg := fun i => listW_get (ws := ws) hc h2 h3 i
  have hst := hI.step_list hc hL (fun _ => False)
  refine h.low (listW_len _ _ _) (fun i h4 h5 => by rw [hg, if_neg (by omega), if_neg (by omega), if_neg (by omega)]) (fun d hd ht j hj => ?_)
  obtain ⟨i, hi⟩ := List.mem_iff_getElem?.1 hd
  rcases set_same hi with ⟨rfl, rfl, _⟩ | ⟨_, h9⟩
  · show (List.replicate (2 ^ c) 0).getD j 0 = (listW ws c b.x).getD (b.x + j) 0
    rw [repl_get, hg]
    by_cases h0 : j = 0
    · rw [if_neg (by omega), if_pos (by omega)]
    · rw [if_neg (by omega), if_neg (by omega), if_neg (by omega)]
      exact (hN.nought b.bl hb0 ht0 (b.x + j) (by show b.x < _; omega) (by show _ < b.x + 2 ^ b.c; have : j < 2 ^ b.c := hj; omega)).symm
  · have hm := List.mem_of_getElem? h9
    rw [h.words d hm ht j hj]
    exact ((hst.keep d.bl (mem_bl hm) ht (fun h => h)).2 j hj).symm
theorem same_grow (h : Same ws M) (hI : Inv ws bs M.B M.L) (hN : Nice ws M.B) {c : Nat} (hc : c ≤ 5) (hf : ws.getD 15 0 + 1 + 2 ^ c ≤ ws.length) : Same (growW ws c) { M with R := M.R ++ [⟨ws.getD 15 0 + 1, c, true, List.replicate (2 ^ c) 0⟩] } := by
  have h16 := hI.edge16
  have hp := (pow5 hc).1
  have hg := fun i => growW_get (c := c) h16 (by omega : ws.getD 15 0 < ws.length) i
  have hst := hI.step_grow hc hf (fun _ => False)
  refine h.low (L' := M.L) (growW_len _ _) (fun i h1 h2 => by rw [hg, if_neg (by omega), if_neg (by omega)]) (fun d hd ht j hj => ?_)
  rcases List.mem_append.1 hd with hd | hd
  · rw [h.words d hd ht j hj]
    exact ((hst.keep d.bl (mem_bl hd) ht (fun h => h)).2 j hj).symm
  · obtain rfl : d = _ := by simpa using hd
    show (List.replicate (2 ^ c) 0).getD j 0 = (growW ws c).getD (ws.getD 15 0 + 1 + j) 0
    have hj' : j < 2 ^ c := hj
    rw [repl_get, hg, if_neg (by omega), if_neg (by omega)]
    exact (hN.behind _ (by omega) (by omega)).symm
theorem same_free (h : Same ws M) (hI : Inv ws bs M.B M.L) {k : Nat} {b : Rb} (hb : M.R[k]? = some b) (ht : b.t = true) (hx5 : ws.getD 5 0 ≠ b.x) (hx6 : ws.getD 6 0 ≠ b.x) : Same (freeW ws b.x b.c) { M with R := M.R.set k { b with t := false }, L := upd M.L b.c (b.x :: M.L b.c) } := by
  have hm := mem_bl (List.mem_of_getElem? hb)
  obtain ⟨hc, h2, hh, he⟩ := hI.at hm
  have hE := hI.edge
  have hg := fun i => freeW_get (ws := ws) (c := b.c) (x := b.x) hc h2 (Nat.le_trans he hE) i
  have hst := hI.step_free hm ht hx5 hx6
  have h17 : 17 ≤ b.x := h2
  refine h.low (freeW_len _ _ _) (fun i h4 h5 => by rw [hg, if_neg (by omega), if_neg (by omega), if_neg (by omega), if_neg (by omega)]) (fun d hd htd j hj => ?_)
  obtain ⟨i, hi⟩ := List.mem_iff_getElem?.1 hd
  rcases set_same hi with ⟨rfl, rfl, _⟩ | ⟨hne, h9⟩
  · cases htd
  · have hm9 := List.mem_of_getElem? h9
    rw [h.words d hm9 htd j hj]
    refine ((hst.keep d.bl (mem_bl hm9) htd (fun e => hne ?_)).2 j hj).symm
    exact chain_uq hI.chain k i b.bl d.bl (get_bl hb) (get_bl h9) (by have e' : (d.bl.x : Int) = (b.x : Int) := e; show b.x = d.bl.x; omega)
theorem same_store (h : Same ws M) (hI : Inv ws bs M.B M.L) {k : Nat} {b : Rb} (hb : M.R[k]? = some b) (ht : b.t = true) (hbl : b.ws.length = 2 ^ b.c) {i : Nat} (hi : i < 2 ^ b.c) (y : Nat) : Same (ws.set (b.x + i) y) { M with R := M.R.set k { b with ws := b.ws.set i y } } := by
  have hm := mem_bl (List.mem_of_getElem? hb)
  obtain ⟨hc, h2, hh, he⟩ := hI.at hm
  have hE := hI.edge
  have he' : b.x + 2 ^ b.c ≤ ws.getD 15 0 := he
  have h17 : 17 ≤ b.x := h2
  have hst := hI.step_store hm ht hi y
  have hlt : b.x + i < ws.length := by omega
  refine h.low (L' := M.L) (by simp) (fun q h4 h5 => by rw [getD_set _ _ _ _ _ hlt, if_neg (by omega)]) (fun d hd htd j hj => ?_)
  obtain ⟨q, hq⟩ := List.mem_iff_getElem?.1 hd
  rcases set_same hq with ⟨rfl, rfl, _⟩ | ⟨hne, h9⟩
  · show (b.ws.set i y).getD j 0 = _
    have hj' : j < 2 ^ b.c := hj
    rw [getD_set _ _ _ _ _ (by omega), getD_set _ _ _ _ _ hlt, h.words b (List.mem_of_getElem? hb) ht j hj]
    by_cases hij : i = j
    · rw [if_pos hij, if_pos (by show b.x + i = b.x + j; omega)]
    · rw [if_neg hij, if_neg (by show ¬ (b.x + i = b.x + j); omega)]
  · have hm9 := List.mem_of_getElem? h9
    rw [h.words d hm9 htd j hj]
    refine ((hst.keep d.bl (mem_bl hm9) htd (fun e => hne ?_)).2 j hj).symm
    exact chain_uq hI.chain k q b.bl d.bl (get_bl hb) (get_bl h9) (by have e' : (d.bl.x : Int) = (b.x : Int) := e; show b.x = d.bl.x; omega)
end
end Go.Proofs.Ytgnpoehcmlmajaa
namespace Go.Proofs.Ytgnpoehcmlmajaa
open Go.RowKit Go.Shelf
set_option linter.unusedVariables false

theorem begK_get {B : List Bl} {n : Nat} (hx : ∀ b ∈ B, b.x < n) (i : Nat) : ∀ k, k ≤ B.length → ((begK B n k).getD i false = true ↔ ∃ b ∈ B.take k, b.x = i)
  | 0, _ => by
    simp only [begK, List.take_zero, List.getD_eq_getElem?_getD, List.getElem?_replicate]
    split <;> simp
  | k + 1, hk => by
    have hlt : k < B.length := by omega
    have e : B.getD k Bl.zero = B[k] := by simp [hlt]
    have ih := begK_get hx i k (by omega)
    unfold begK
    rw [e, getD_set _ _ _ _ _ (by rw [begK_len]; exact hx _ (List.getElem_mem hlt)), List.take_succ_eq_append_getElem hlt]
    by_cases h : B[k].x = i
    · rw [if_pos h]
      exact ⟨fun _ => ⟨B[k], List.mem_append.2 (.inr (List.mem_singleton.2 rfl)), h⟩, fun _ => rfl⟩
    · rw [if_neg h, ih]
      constructor
      · rintro ⟨b, hb, hx⟩
        exact ⟨b, List.mem_append.2 (.inl hb), hx⟩
      · rintro ⟨b, hb, hx⟩
        rcases List.mem_append.1 hb with hb | hb
        · exact ⟨b, hb, hx⟩
        · obtain rfl : b = B[k] := by simpa using hb
          exact absurd hx h
section
variable {w : World} {g p q : Nat} {ws : List Nat} {bs : List Bool} {B : List Bl} {L : Nat → List Nat}
theorem begK_bs (h : Inv ws bs B L) (hl : bs.length = ws.length) : begK B ws.length B.length = bs := by
  apply List.ext_getElem?
  intro i
  have hx : ∀ b ∈ B, b.x < ws.length := fun b hb => by have := h.lt_edge hb; have := h.edge; omega
  by_cases hi : i < ws.length
  · have h1 : i < (begK B ws.length B.length).length := by rw [begK_len]; exact hi
    have h2 : i < bs.length := by omega
    have e1 : (begK B ws.length B.length).getD i false = (begK B ws.length B.length)[i] := by simp [h1]
    have e2 : bs.getD i false = bs[i] := by simp [h2]
    have e3 : (begK B ws.length B.length).getD i false = bs.getD i false := by
      rw [Bool.eq_iff_iff, begK_get hx i _ (Nat.le_refl _), h.begs, List.take_length]
    rw [List.getElem?_eq_getElem h1, List.getElem?_eq_getElem h2, ← e1, ← e2, e3]
  · rw [List.getElem?_eq_none (by rw [begK_len]; omega), List.getElem?_eq_none (by omega)]
theorem dec_of (hA : Ar w g p q ws bs) (h : Inv ws bs B L) (hN : Nice ws B) : Dec ws B L := by
  have hb := begK_bs h hA.len
  have h0 : No ws bs 0 := h.no_none fun b hb => by have := (h.at hb).2.1; omega
  have hlead : ∀ x : Nat, (x = 0 ∨ ∃ b ∈ B, b.t = true ∧ b.x = x) → Lead ws bs (x : Int) := by
    rintro x (rfl | ⟨b, hb, ht, rfl⟩)
    · exact .inl ⟨rfl, h0⟩
    · exact .inr ⟨b.x, b.c, rfl, h.yes hb ht⟩
  refine ⟨hA.lo, hA.hi, hA.sml, hN.first, h.chain, h.edge, h.edge16, hN.behind, ?_, fun b hb ht => (h.mem b.c (h.at hb).1 b.x).2 ⟨b, hb, rfl, rfl, ht⟩, hN.nought, by rw [hb]; exact hlead _ hN.four, by rw [hb]; exact hlead _ hN.six⟩
  rw [hb]
  refine ⟨h.lst, fun c hc x hx => ?_, h.nodup⟩
  obtain ⟨b, hbm, rfl, rfl, ht⟩ := h.free_of hc hx
  have h1 := h.at hbm
  have h2 := h.lt_edge hbm
  have h3 := h.edge
  exact ⟨by omega, by omega, (h.begs _).2 ⟨b, hbm, rfl⟩, by rw [h1.2.2.1, ht]⟩
end
end Go.Proofs.Ytgnpoehcmlmajaa
