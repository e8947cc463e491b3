/-
  frameAt: the frame that stands at the first of some sectors. Nothing here is a statement of the document.
-/
import Derived.Test.YtelpihlifdfgoaaWalU
import Derived.Test.YtelpihlifdfgoaaSumB
namespace Go.Proofs.Ytelpihlifdfgoaa
open Go.RowKit Go.Shelf
set_option linter.unusedVariables false
/-- What parts make together. -/
def bytesOf (R : List Pq) : List Nat := R.flatMap fun q => q.p.l.take q.p.sz
theorem bytesOf_next {R : List Pq} {k : Nat} {q : Pq} (h : R[k]? = some q) : bytesOf (R.take (k + 1)) = bytesOf (R.take k) ++ q.p.l.take q.p.sz := by
  have hl : k < R.length := (List.getElem?_eq_some_iff.1 h).1
  rw [List.take_add_one, h]
  simp [bytesOf]
theorem bytesOf_len (R : List Pq) : (bytesOf R).length ≤ 48 * R.length := by
  induction R with
  | nil => simp [bytesOf]
  | cons q R ih =>
    have e : bytesOf (q :: R) = q.p.l.take q.p.sz ++ bytesOf R := rfl
    have := q.l48
    rw [e, List.length_append, List.length_take, List.length_cons]
    omega
/-- All parts are those of this frame. -/
def allSame (R : List Pq) (t n : Nat) (b : List Nat) (m : Nat) : Bool := (List.range m).all fun k => match R[k]? with | none => false | some x => samePt x.p (partAt t n b k)
/-- The frame that stands at the first of these sectors. -/
def foundR (L : List Bk) : Option (Nat × Nat × List Nat) := match partsR L with
  | [] => none
  | q :: r => if q.p.t = 0 ∨ 40000 < (bytesOf (q :: r)).length ∨ allSame (q :: r) q.p.t q.p.n (bytesOf (q :: r)) (secN (bytesOf (q :: r)).length) = false then none else some (q.p.t, q.p.n, bytesOf (q :: r))
theorem foundR_none {L : List Bk} {R : List Pq} {q0 : Pq} {b : List Nat} (hR : partsR L = R) (h0 : R[0]? = some q0) (hb : bytesOf R = b) (h : q0.p.t = 0 ∨ 40000 < b.length ∨ allSame R q0.p.t q0.p.n b (secN b.length) = false) : foundR L = none := by
  unfold foundR
  rw [hR]
  cases R with
  | nil => rfl
  | cons q r =>
    have e : q = q0 := by simpa using h0
    subst e
    simp only [hb]
    rw [if_pos h]
theorem foundR_some {L : List Bk} {R : List Pq} {q0 : Pq} {b : List Nat} (hR : partsR L = R) (h0 : R[0]? = some q0) (hb : bytesOf R = b) (h1 : q0.p.t ≠ 0) (h2 : b.length ≤ 40000) (h3 : allSame R q0.p.t q0.p.n b (secN b.length) = true) : foundR L = some (q0.p.t, q0.p.n, b) := by
  unfold foundR
  rw [hR]
  cases R with
  | nil => simp at h0
  | cons q r =>
    have e : q = q0 := by simpa using h0
    subst e
    simp only [hb]
    rw [if_neg]
    rintro (h9 | h9 | h9)
    · exact h1 h9
    · omega
    · rw [h3] at h9; cases h9
theorem allSame_next {R : List Pq} {t n k : Nat} {b : List Nat} {q : Pq} (hq : R[k]? = some q) : allSame R t n b (k + 1) = (allSame R t n b k && samePt q.p (partAt t n b k)) := by
  unfold allSame
  rw [List.range_succ, List.all_append]
  simp [hq]
theorem allSame_false {R : List Pq} {t n k m : Nat} {b : List Nat} {q : Pq} (h : k < m) (hq : R[k]? = some q) (hs : samePt q.p (partAt t n b k) = false) : allSame R t n b m = false := by
  unfold allSame
  rw [List.all_eq_false]
  exact ⟨k, List.mem_range.2 h, by simp [hq, hs]⟩
theorem bytesOf_bys {R : List Pq} (h : ∀ q ∈ R, q.p.Ok) : Bys (bytesOf R) := by
  intro x hx
  obtain ⟨q, hq, hm⟩ := List.mem_flatMap.1 hx
  exact (h q hq).bys x (List.mem_of_mem_take hm)
theorem secN_fits {n k : Nat} (h : n ≤ 48 * k) (hk : 0 < k) : secN n ≤ k := by
  unfold secN
  split
  · omega
  · split <;> omega
theorem partsR_ok {L : List Bk} (hB : ∀ b ∈ L, b.Byt) : ∀ q ∈ partsR L, q.p.Ok ∧ q.p.sz ≤ 48 := by
  intro q hq
  cases L with
  | nil => simp [partsR] at hq
  | cons b0 r =>
    simp only [partsR] at hq
    split at hq
    · rename_i h
      obtain ⟨b, hb, rfl⟩ := List.mem_map.1 hq
      have hy := h.2 b hb
      have hm : b ∈ b0 :: r := List.mem_of_mem_take hb
      refine ⟨ptOf_ok b.n_len (hB b hm).bys, ?_⟩
      unfold okPt at hy
      simp only [Bool.and_eq_true, decide_eq_true_eq] at hy
      exact hy.1
    · simp at hq
theorem partsR_len (L : List Bk) : (partsR L).length ≤ L.length := by
  cases L with
  | nil => simp [partsR]
  | cons b0 r =>
    simp only [partsR]
    split
    · rw [List.length_map, List.length_take]; omega
    · simp
theorem results_frame {fn : Func} (h : fn.results = #[.cell 2 105, .cell 3 4]) (tmps : Array Value) (w : World) (g2 g3 t n : Nat) (a : Option Addr) (len c : Nat) (b : Bool) (hp : tmps.getD 2 undef = .pointer (some ⟨g2, 0, none⟩)) (hq : tmps.getD 3 undef = .pointer (some ⟨g3, 0, none⟩)) (h2 : Blk w g2 105 (fcs t n a len c)) (h3 : Blk w g3 4 #[.bool b]) :
    (results fn tmps).run Try.prog w = .ok (.tuple #[.agg (fcs t n a len c), .bool b]) w := by
  have d0 : w.cell? ⟨g2, 0, none⟩ = some (.int .u32 (t : Int)) := h2.cell 0
  have d1 : w.cell? ⟨g2, 1, none⟩ = some (.int .u32 (n : Int)) := h2.cell 1
  have d2 : w.cell? ⟨g2, 2, none⟩ = some (.slice a len c) := h2.cell 2
  have c3 : w.cell? ⟨g3, 0, none⟩ = some (.bool b) := h3.cell 0
  have hp2 : tmps[2]?.getD undef = .pointer (some ⟨g2, 0, none⟩) := by rw [← hp]; simp
  have hq2 : tmps[3]?.getD undef = .pointer (some ⟨g3, 0, none⟩) := by rw [← hq]; simp
  simp only [results, h]
  simp [Sem.run_bind, Result.andThen, asAddr, hp2, hq2, c3, d0, d1, d2, go_sem, fcs]
theorem own_bytes_lies {w : World} {B : Nat} {v : Value} {n : Nat} {l : List Nat} (h : w.ownsRow B 5 1 v n (l.map byc)) (hl : l.length = n) : ∃ a c, v = .slice a n c ∧ n ≤ c ∧ Lies w a l ∧ (∀ x, a = some x → B ≤ x.block ∧ ∃ o, w.heap[x.block]? = some o ∧ notRow o = true) := by
  rcases h.2 with ⟨rfl, h0⟩ | ⟨g, cap, cur, rfl, hb, hg, hn, hm, hc, ht⟩
  · refine ⟨none, 0, by rw [h0], by omega, .inl (List.eq_nil_of_length_eq_zero (by omega)), fun x hx => by cases hx⟩
  · refine ⟨_, _, rfl, hn, .inr ⟨g, 0, rfl, (Array.getElem?_eq_some_iff.1 hg).1, fun i hi => ?_⟩, fun x hx => ?_⟩
    · have := h.cells (g := g) rfl i (.int .u8 ((l.getD i 0 : Nat) : Int)) (by
        rw [List.getElem?_map, List.getElem?_eq_getElem hi]
        simp [byc, List.getD_eq_getElem?_getD, List.getElem?_eq_getElem hi])
      rw [Addr.add_lit] at this
      exact this
    · cases hx
      exact ⟨hb, _, hg, rfl⟩
theorem store_frame_rule (v x : Value) : Instr.storeAt 105 v x = storeSem 105 v x := rfl
theorem sframe {w : World} {g t n t' n' : Nat} {a a' : Option Addr} {len cap len' cap' : Nat} (h : Blk w g 105 (fcs t n a len cap)) : (storeSem 105 (.pointer (some ⟨g, 0, none⟩)) (.agg (fcs t' n' a' len' cap'))).run Try.prog w = .ok () (w.setRow g (fcs t' n' a' len' cap')) :=
  storeRes_of (P := Try.prog) (ty := 105) (o := 0) (vs := fcs t' n' a' len' cap') h (by simp [fcs]) (s_frame _ _ _ _ _) (by simp [fcs, Value.oneCell'])
theorem rowslice {w : World} {B : Nat} {e : TypeId} {z : Nat} {v : Value} {n : Nat} {xs : List Value} (h : w.ownsRow B e z v n xs) : ∃ a c, v = .slice a n c := by
  rcases h.2 with ⟨rfl, h0⟩ | ⟨g, cap, cur, rfl, _⟩
  · exact ⟨none, 0, by rw [h0]⟩
  · exact ⟨_, _, rfl⟩
/-- No frame is answered. -/
theorem fin_none {w W : World} (h2 : Blk W w.heap.size 105 (fcs 0 0 none 0 0)) (h3 : Blk W (w.heap.size + 1) 4 #[.bool false]) : ∃ W4, (storeSem 105 (.pointer (some ⟨w.heap.size, 0, none⟩)) (.agg #[.int .u32 0, .int .u32 0, .slice none 0 0])).run Try.prog W = .ok () W4 ∧ W4.cell? ⟨w.heap.size + 1, 0, none⟩ = some (.bool false) ∧ W4.frozen? ⟨w.heap.size + 1, 0, none⟩ = false ∧ Kept [w.heap.size, w.heap.size + 1] W (W4.setCell ⟨w.heap.size + 1, 0, none⟩ (.bool false)) ∧ (Blk (W4.setCell ⟨w.heap.size + 1, 0, none⟩ (.bool false)) w.heap.size 105 (fcs 0 0 none 0 0) ∧ Blk (W4.setCell ⟨w.heap.size + 1, 0, none⟩ (.bool false)) (w.heap.size + 1) 4 #[.bool false]) := by
  have h1 := sframe (t' := 0) (n' := 0) (a' := none) (len' := 0) (cap' := 0) h2
  have k2 := h2.row (fcs 0 0 none 0 0)
  have k3 : Blk (W.setRow w.heap.size (fcs 0 0 none 0 0)) (w.heap.size + 1) 4 #[.bool false] := (setRow_other _ _ _ _ (by omega)).trans h3
  exact ⟨_, h1, k3.cell 0, k3.free 0, ((Kept.refl _ _).setRow (.inl (by simp)) _).setCell (.inl (by simp)) _, k2.far (by simp) _, k3.set 0 _⟩
theorem lpart_mid {w : World} {g o : Nat} {p : Pt} (h8 : p.l.length = 48) (hc : ∀ j, j < 52 → w.cell? ⟨g, o + j, none⟩ = p.cs[j]?) : (loadSem 126 (.pointer (some ⟨g, o, none⟩))).run Try.prog w = .ok (.agg p.cs) w := by
  have hs : p.cs.size = 52 := Pt.size h8
  have := run_loadAt_mid (P := Try.prog) w g o 126 p.cs.toList _ (fun j v hj => by
    have hl : j < 52 := by have := (List.getElem?_eq_some_iff.1 hj).1; simpa [hs] using this
    rw [hc j hl]; simpa using hj) Try.underlying126 rfl (by simpa using s_part h8)
  rw [Array.toArray_toList] at this
  exact this
theorem row_ne {w : World} {B : Nat} {e t : TypeId} {v : Value} {n g : Nat} {xs : List Value} {C : Array Value} (h : w.ownsRow B e 1 v n xs) (hb : Blk w g t C) (ht : t ≠ e) : v.ownBlock ≠ some g := by
  intro he
  rcases h.2 with ⟨rfl, _⟩ | ⟨q, cap, cur, rfl, _, hg, _⟩
  · simp [Value.ownBlock] at he
  · have : q = g := by simpa [Value.ownBlock] using he
    subst this
    rw [show w.heap[q]? = _ from hb] at hg
    cases hg
    exact ht rfl
theorem own_end {X w' : World} {B B' n : Nat} {v : Value} {xs : List Value} (h : X.ownsRow B' 5 1 v n xs) (hB : B ≤ B') (hs : ∀ q, B' ≤ q → (∃ o, X.heap[q]? = some (.cells o 5)) → w'.heap[q]? = X.heap[q]?) : w'.ownsRow B 5 1 v n xs := by
  refine ⟨h.1, ?_⟩
  rcases h.2 with h9 | ⟨g, cap, cur, e1, e2, e3, e4⟩
  · exact .inl h9
  · exact .inr ⟨g, cap, cur, e1, Nat.le_trans hB e2, (hs g e2 ⟨cur, e3⟩).trans e3, e4⟩
def appB (ty : TypeId) (args : Array Value) : Sem Value := Builtin.append_ #[29, 29] ty args
theorem appB_rule (ty : TypeId) (args : Array Value) : Builtin.append_ #[29, 29] ty args = appB ty args := rfl
theorem appB_run {w : World} {B n cap pb o : Nat} {bv : Value} {xs : List Value} (ty : TypeId) (l : List Nat) (h : w.ownsRow B 5 1 bv n xs) (hc : ∀ j, j < l.length → w.cell? ⟨pb, o + j, none⟩ = some (.int .u8 ((l.getD j 0 : Nat) : Int))) (hlen : n + l.length ≤ 100000) (hB : B ≤ w.heap.size) :
    ∃ bv' w', (appB ty #[bv, .slice (some ⟨pb, o, none⟩) l.length cap]).run Try.prog w = .ok bv' w' ∧ w'.ownsRow B 5 1 bv' (n + l.length) (xs ++ l.map byc) ∧ w.grownBy w' bv.ownBlock := by
  obtain ⟨i0, hi, hz0, hz1, hz2⟩ := info_parts Try.info5
  obtain ⟨v', w', h1, h2, h3, _⟩ := run_append_own (P := Try.prog) w B 29 ty 5 i0 (.int .u8 0) 1 1 Try.underlying29 hi hz0 hz1 hz2 rfl (by decide) bv n xs h ⟨pb, o, none⟩ l.length cap (l.map byc) (by simp) (fun j u hj => by
    have hl : j < l.length := by have := (List.getElem?_eq_some_iff.1 hj).1; simpa using this
    rw [Addr.add_lit, hc j hl]
    rw [List.getElem?_map, List.getElem?_eq_getElem hl] at hj
    simp only [Option.map_some, Option.some.injEq] at hj
    rw [← hj]
    simp [byc, List.getD_eq_getElem?_getD, List.getElem?_eq_getElem hl]) (byc_one l) (by unfold maxLen; omega) (by omega) hB
  exact ⟨v', w', h1, h2, h3⟩
attribute [local go_sem ↓] load_part_rule store_part_rule load_frame_rule store_frame_rule cut_rule eq_pt_rule appB_rule
attribute [local go_sem] Oper.semAt_some
set_option maxRecDepth 100000 in
set_option maxHeartbeats 4000000 in
theorem frameat_any {w : World} {a : Option Addr} {L : List Bk} (hL : Secs w a L) (hB : ∀ b ∈ L, b.Byt) (hl : L.length ≤ 1000) (cap : Nat) : Calls Try.prog 74 #[.slice a L.length cap] w fun e w' =>
    Below w.heap.size w w' ∧ ((foundR L = none ∧ e = .returned (.tuple #[.agg (fcs 0 0 none 0 0), .bool false])) ∨
      ∃ t n l fa fc, foundR L = some (t, n, l) ∧ e = .returned (.tuple #[.agg (fcs t n fa l.length fc), .bool true]) ∧ w'.ownsRow w.heap.size 5 1 (.slice fa l.length fc) l.length (l.map byc)) := by
  have hpa := fun (w' : World) (k : Below w.heap.size w w') => partsat_any (hL.later k) hB hl cap
  obtain ⟨R, hR⟩ : ∃ R, partsR L = R := ⟨_, rfl⟩
  have hRl : R.length ≤ 1000 := by rw [← hR]; exact Nat.le_trans (partsR_len L) hl
  have hRo : ∀ q ∈ R, q.p.Ok ∧ q.p.sz ≤ 48 := by rw [← hR]; exact partsR_ok hB
  rw [hR] at hpa
  obtain ⟨m, hm⟩ : ∃ m, R.length = m := ⟨_, rfl⟩
  rw [hm] at hpa hRl
  have HR := Lib.hid (And.intro hR (And.intro hm hRo))
  clear hL hB hl hR hm hRo
  generalize L.length = n0 at *
  refine calls_of_wp_marks Try.func74 rfl ?_
  simp only [Try.ntmps74, List.size_toArray, List.length_cons, List.length_nil, Nat.reduceAdd, Nat.reduceSub, Array.replicate_succ, Array.replicate_zero, List.push_toArray, List.append_toArray, List.nil_append, List.cons_append]
  go_wp2_with fail
  generalize hW1 : World.alloc (World.alloc w _) _ = W1
  have b2 : Blk W1 w.heap.size 105 (fcs 0 0 none 0 0) := by rw [← hW1]; exact (Blk.new w _ _).alloc _
  have b3 : Blk W1 (w.heap.size + 1) 4 #[.bool false] := by rw [← hW1]; exact Blk.wnew2 _ _ _ _
  have hb1 : Below w.heap.size w W1 := by rw [← hW1]; exact ((Below.refl _ w).alloc (Nat.le_refl _) _).alloc (by simp) _
  clear hW1
  refine (hpa _ hb1).mono ?_
  rintro e W2 ⟨v, rfl, hown, hb2⟩
  obtain ⟨va, vc, rfl⟩ := rowslice hown
  clear hpa
  have c2 := b2.kept (Kept.of_below [] hb2) (by simp)
  have c3 := b3.kept (Kept.of_below [] hb2) (by simp)
  have hbw2 := bel_lat hb1 hb2
  have hs1 : w.heap.size + 1 < W1.heap.size := b3.lt
  obtain ⟨W3, hW3⟩ : ∃ W3, W2.alloc (.cells #[.slice va m vc] 145) = W3 := ⟨_, rfl⟩
  have d2 : Blk W3 w.heap.size 105 (fcs 0 0 none 0 0) := by rw [← hW3]; exact c2.alloc _
  have d3 : Blk W3 (w.heap.size + 1) 4 #[.bool false] := by rw [← hW3]; exact c3.alloc _
  have d4 : Blk W3 W2.heap.size 145 #[.slice va m vc] := by rw [← hW3]; exact Blk.new _ _ _
  have hb3 : Below w.heap.size w W3 := by rw [← hW3]; exact hbw2.alloc hbw2.size _
  have ho3 : W3.ownsRow W1.heap.size 126 52 (.slice va m vc) m (qcs R) := by rw [← hW3]; exact owns_later2 hown ((Below.refl _ _).alloc (Nat.le_refl _) _)
  have hs2 := hb2.size
  have e4 : W3.cell? ⟨W2.heap.size, 0, none⟩ = some (.slice va m vc) := d4.cell 0
  have H3 := Lib.hid (And.intro d2 (And.intro d3 (And.intro d4 (And.intro hb3 ho3))))
  clear b2 b3 hb1 hown hb2 c2 c3 hbw2 d2 d3 d4 hb3 ho3
  by_cases hm0 : m = 0
  · have hmi : ((m : Int) == 0) = true := by rw [hm0]; rfl
    have hst := fin_none H3.out.1 H3.out.2.1
    obtain ⟨W4, h41, h42, h43, h44, h45⟩ := hst
    have hn : foundR L = none := by
      have : R = [] := List.eq_nil_of_length_eq_zero (by rw [HR.out.2.1]; exact hm0)
      unfold foundR
      rw [HR.out.1, this]
    have Hm := Lib.hid hm0
    clear hm0
    go_wp2_with fail
    refine marks_cells (v := .tuple #[.agg (fcs 0 0 none 0 0), .bool false]) [] _ (by simp) (by simp) (fun w' h1 h2 h3 h4 h5 => ⟨results_frame rfl _ w' w.heap.size (w.heap.size + 1) 0 0 none 0 0 false rfl rfl ?_ ?_, ?_, .inl ⟨hn, rfl⟩⟩)
    · exact (h5 _ (by simp)).trans h45.1
    · exact (h5 _ (by simp)).trans h45.2
    · have hb := H3.out.2.2.2.1.trans (h44.below (by simp) H3.out.2.2.2.1.size)
      exact ⟨h2.trans hb.os, h3.trans hb.tape, h4.trans hb.output, by rw [h1]; exact hb.size, fun k hk => (h5 k (by simp)).trans (hb.block k hk)⟩
  · have hmi : ((m : Int) == 0) = false := by
      rw [beq_eq_false_iff_ne]
      omega
    obtain ⟨q0, hq0⟩ : ∃ q0, R[0]? = some q0 := ⟨_, List.getElem?_eq_getElem (by have := HR.out.2.1; omega)⟩
    obtain ⟨g, rfl, hg⟩ : ∃ g, va = some ⟨g, 0, none⟩ ∧ g < W3.heap.size := by
      rcases H3.out.2.2.2.2.2 with ⟨h9, h8⟩ | ⟨g, cap', cur, h9, _, hg, _⟩
      · omega
      · have e6 := h9
        injection e6 with e7 e8 e9
        exact ⟨g, e7, (Array.getElem?_eq_some_iff.1 hg).1⟩
    have hpc : ∀ k q, R[k]? = some q → ∀ j, j < 52 → W3.cell? ⟨g, k * 52 + j, none⟩ = q.p.cs[j]? := by
      intro k q hk j hj
      have hz := (Pq.size q)
      obtain ⟨v, hv⟩ : ∃ v, q.cs[j]? = some v := ⟨_, Array.getElem?_eq_getElem (by omega)⟩
      have h1 := H3.out.2.2.2.2.cells (g := g) rfl (k * 52 + j) v ((qcs_get hk hj).trans hv)
      rw [Addr.add_lit, Nat.zero_add] at h1
      exact h1.trans hv.symm
    have hbd : ∀ w', Below W3.heap.size W3 w' → w'.cell? ⟨W2.heap.size, 0, none⟩ = some (.slice (some ⟨g, 0, none⟩) m vc) := fun w' h => (h.cell (p := ⟨W2.heap.size, 0, none⟩) H3.out.2.2.1.lt).trans e4
    have hb0 : ∀ w', Below W3.heap.size W3 w' → w'.cell? ⟨g, 0, none⟩ = some (.int .u32 (q0.p.t : Int)) := fun w' h => by
      have := hpc 0 q0 hq0 0 (by omega)
      rw [Nat.zero_mul, Nat.zero_add] at this
      exact ((h.cell (p := ⟨g, 0, none⟩) hg).trans this).trans q0.p.c0
    have hb1 : ∀ w', Below W3.heap.size W3 w' → w'.cell? ⟨g, 1, none⟩ = some (.int .u32 (q0.p.n : Int)) := fun w' h => by
      have := hpc 0 q0 hq0 1 (by omega)
      rw [Nat.zero_mul, Nat.zero_add] at this
      exact ((h.cell (p := ⟨g, 1, none⟩) hg).trans this).trans q0.p.c1
    obtain ⟨t0, ht0⟩ : ∃ t0, q0.p.t = t0 := ⟨_, rfl⟩
    obtain ⟨n1, hn1⟩ : ∃ n1, q0.p.n = n1 := ⟨_, rfl⟩
    rw [ht0] at hb0
    rw [hn1] at hb1
    have HP := Lib.hid (And.intro hq0 (And.intro hg (And.intro hpc (And.intro ht0 hn1))))
    clear hq0 hg hpc ht0 hn1
    have hmp : (0 : Int) < (m : Int) := by omega
    have hmq : 0 < m := by omega
    go_wp2_with fail
    obtain ⟨S, hS⟩ : ∃ S : World → Prop, S = Below W3.heap.size W3 := ⟨_, rfl⟩
    have hS0 : S W3.drew := by rw [hS]; exact (Below.refl _ _).drew
    rw [← hS] at hbd hb0 hb1
    refine wp_region_linY S [9, 10] [0, 1, 2, 3, 4, 5, 6, 7, 8, 9, 10] (by kernel_rfl) (by kernel_rfl) hS0 ?_
    (repeat (first | (refine linX_off rfl rfl (by rfl) ?_; (try simp only [Act.put, List.getElem_toArray, List.getElem_cons_zero, List.getElem_cons_succ, List.setIfInBounds_toArray, List.set_cons_zero, List.set_cons_succ])) | (refine linX_op (v := ?_) rfl rfl (by rfl) (fun w9 hS9 => ?_) ?_; rotate_left; (focus (((have k0 := hbd w9 hS9; have k1 := hb0 w9 hS9; have k2 := hb1 w9 hS9; go_simp; (try go_bits)) <;> with_reducible rfl))); (try simp only [Act.put, List.getElem_toArray, List.getElem_cons_zero, List.getElem_cons_succ, List.setIfInBounds_toArray, List.set_cons_zero, List.set_cons_succ]))))
    have k5 := Blk.new W3.drew 105 (fcs 0 0 none 0 0)
    have hds : W3.drew.heap.size = W3.heap.size := rfl
    obtain ⟨W5, hW5⟩ : ∃ W5, W3.drew.alloc (.cells (fcs 0 0 none 0 0) 105) = W5 := ⟨_, rfl⟩
    have hW5' : W3.drew.alloc (.cells #[.int .u32 0, .int .u32 0, .slice none 0 0] 105) = W5 := hW5
    rw [hW5, hds] at k5
    have hb35 : Below W3.heap.size W3 W5 := by rw [← hW5]; exact (Below.refl _ _).drew.alloc (Nat.le_refl _) _
    refine linX_do (v := .pointer (some ⟨W3.heap.size, 0, none⟩)) (w' := W5) rfl rfl (by rfl) ?_ (by rw [hS]; exact hb35) ?_
    · (focus ((go_simp; (try go_bits)) <;> with_reducible rfl))
    (try simp only [Act.put, List.getElem_toArray, List.getElem_cons_zero, List.getElem_cons_succ, List.setIfInBounds_toArray, List.set_cons_zero, List.set_cons_succ])
    have hst : (storeSem 105 (.pointer (some ⟨W3.heap.size, 0, none⟩)) (.agg #[.int .u32 (t0 : Int), .int .u32 (n1 : Int), .slice none 0 0])).run Try.prog W5 = .ok () (W5.setRow W3.heap.size (fcs t0 n1 none 0 0)) := sframe (t' := t0) (n' := n1) (a' := none) (len' := 0) (cap' := 0) k5
    have k6 := k5.row (fcs t0 n1 none 0 0)
    obtain ⟨W6, hW6⟩ : ∃ W6, W5.setRow W3.heap.size (fcs t0 n1 none 0 0) = W6 := ⟨_, rfl⟩
    rw [hW6] at hst k6
    have hb36 : Below W3.heap.size W3 W6 := by rw [← hW6]; exact below_rowset hb35 (Nat.le_refl _) _
    refine linX_store (w' := W6) rfl rfl (by rfl) ?_ (by rw [hS]; exact hb36) ?_
    · (focus ((go_simp; (try go_bits)) <;> with_reducible rfl))
    (try simp only [Act.put, List.getElem_toArray, List.getElem_cons_zero, List.getElem_cons_succ, List.setIfInBounds_toArray, List.set_cons_zero, List.set_cons_succ])
    refine linX_nil ?_
    have hfb : W3.heap.size < W6.heap.size := k6.lt
    have H6 := Lib.hid (And.intro k6 (And.intro hb36 (And.intro hS hfb)))
    clear hst k6 hb36 hS hS0 hb35 k5 hW5 hW5' hW6 hds hfb
    have hbd6 : W6.cell? ⟨W2.heap.size, 0, none⟩ = some (.slice (some ⟨g, 0, none⟩) m vc) := hbd W6 (by rw [H6.out.2.2.1]; exact H6.out.2.1)
    go_wp2_with fail
    go_loopw [27] (fun i wr => ∃ (k : Nat) (bv : Value), k ≤ m ∧ i = .int .i64 k ∧ Blk wr W3.heap.size 105 #[.int .u32 (t0 : Int), .int .u32 (n1 : Int), bv] ∧ wr.ownsRow W3.heap.size 5 1 bv (bytesOf (R.take k)).length ((bytesOf (R.take k)).map byc) ∧ Below W3.heap.size W3 wr) (fun i _ => m - (intOf i).toNat)
    case atStart => exact ⟨0, .slice none 0 0, Nat.zero_le _, rfl, H6.out.1, World.ownsRow_nil _ _ _ _, H6.out.2.1⟩
    case round =>
      obtain ⟨k, bv, hk, rfl, hfb, hbv, hbb⟩ := hrel
      by_cases hlt : k < m
      · have hki : (k : Int) < (m : Int) := by omega
        obtain ⟨q, hq⟩ : ∃ q, R[k]? = some q := ⟨_, List.getElem?_eq_getElem (by have := HR.out.2.1; omega)⟩
        obtain ⟨fa, fc, rfl⟩ := rowslice hbv
        have hlt3 : W3.heap.size < wr.heap.size := hfb.lt
        have hqo := (HR.out.2.2 q (List.mem_of_getElem? hq))
        have hld : (loadSem 126 (.pointer (some ⟨g, k * 52, none⟩))).run Try.prog wr = .ok (.agg q.p.cs) wr := lpart_mid q.l48 (fun j hj => (hbb.cell (p := ⟨g, k * 52 + j, none⟩) HP.out.2.1).trans (HP.out.2.2.1 k q hq j hj))
        have hsp := spart_new wr q.p q.l48
        obtain ⟨X, hX⟩ : ∃ X, wr.alloc (.cells q.p.cs 126) = X := ⟨_, rfl⟩
        have bp : Blk X wr.heap.size 126 q.p.cs := by rw [← hX]; exact Blk.new _ _ _
        have hbX : Below wr.heap.size wr X := by rw [← hX]; exact (Below.refl _ _).alloc (Nat.le_refl _) _
        rw [hX] at hsp
        have bf := hfb.kept (Kept.of_below [] hbX) (by simp)
        have hbv3 := owns_later2 hbv hbX
        have HK := Lib.hid (And.intro hq (And.intro hqo (And.intro bp (And.intro bf (And.intro (bel_lat hbb hbX) hbv3)))))
        obtain ⟨PC, hPC⟩ : ∃ PC, q.p.cs = PC := ⟨_, rfl⟩
        rw [hPC] at hld hsp
        have HPC := Lib.hid hPC
        clear hq hqo hbX hfb hbv hbb hX bp bf hbv3 hPC
        go_wp2_with (first | (with_reducible refine wpList_alloc_z rfl 126 rfl Pt.zero.cs 52 z_part ?_))
        obtain ⟨sz, hsz⟩ : ∃ sz, q.p.sz = sz := ⟨_, rfl⟩
        obtain ⟨lb, hlb⟩ : ∃ lb, q.p.l.take q.p.sz = lb := ⟨_, rfl⟩
        have hs48 : sz ≤ 48 := by rw [← hsz]; exact HK.out.2.1.2
        have hlbl : lb.length = sz := by rw [← hlb, List.length_take, q.l48, hsz]; omega
        have hs48i : (sz : Int) ≤ 48 := by omega
        obtain ⟨S2, hS2⟩ : ∃ S2 : World → Prop, S2 = fun w' => Blk w' wr.heap.size 126 q.p.cs := ⟨_, rfl⟩
        have hS20 : S2 X.drew := by rw [hS2]; exact HK.out.2.2.1.drew
        have L3 : ∀ w', S2 w' → w'.cell? ⟨wr.heap.size, 3, none⟩ = some (.int .u16 (sz : Int)) := fun w' h => by
          rw [hS2] at h
          rw [h.cell, ← hsz]
          exact q.p.c3
        have hcf : X.drew.cell? ⟨W3.heap.size, 2, none⟩ = some (.slice fa (bytesOf (R.take k)).length fc) := HK.out.2.2.2.1.drew.cell 2
        have hX3 : Below W3.heap.size W3 X := HK.out.2.2.2.2.1
        obtain ⟨bv', X2, hap, hown2, hgr2⟩ := appB_run (w := X.drew) (pb := wr.heap.size) (o := 4) (cap := 48) 29 lb HK.out.2.2.2.2.2.drew (fun j hj => by
          have h1 := HK.out.2.2.1.drew.cell (4 + j)
          rw [h1, q.p.c4, ← hlb]
          have hj2 : j < q.p.l.length ∧ j < q.p.sz := by rw [← hlb, List.length_take] at hj; omega
          simp [byc, hj2.1, hj2.2, List.getD_eq_getElem?_getD, List.getElem?_take]) (by have h1 := bytesOf_len (R.take k); rw [List.length_take] at h1; omega) (by exact hX3.size)
        rw [hlbl] at hap
        obtain ⟨fa', fc', rfl⟩ := rowslice hown2
        have bp2 : Blk X2 wr.heap.size 126 q.p.cs := (hgr2.block _ HK.out.2.2.1.drew.lt (Ne.symm (row_ne HK.out.2.2.2.2.2.drew HK.out.2.2.1.drew (by decide)))).trans HK.out.2.2.1.drew
        have bf2 : Blk X2 W3.heap.size 105 #[.int .u32 (t0 : Int), .int .u32 (n1 : Int), .slice fa (bytesOf (R.take k)).length fc] := (hgr2.block _ HK.out.2.2.2.1.drew.lt (Ne.symm (row_ne HK.out.2.2.2.2.2.drew HK.out.2.2.2.1.drew (by decide)))).trans HK.out.2.2.2.1.drew
        have hS22 : S2 X2 := by rw [hS2]; exact bp2
        have cf2 : X2.cell? ⟨W3.heap.size, 2, none⟩ = some (.slice fa (bytesOf (R.take k)).length fc) := bf2.cell 2
        have ff2 := bf2.free 2
        obtain ⟨X3, hX3e⟩ : ∃ X3, X2.setCell ⟨W3.heap.size, 2, none⟩ (.slice fa' ((bytesOf (R.take k)).length + lb.length) fc') = X3 := ⟨_, rfl⟩
        have hS23 : S2 X3 := by
          rw [hS2, ← hX3e]
          exact bp2.far (by show wr.heap.size ≠ W3.heap.size; omega) _
        have hrel : ∃ (k9 : Nat) (bv : Value), k9 ≤ m ∧ Value.int .i64 ((k : Int) + 1) = .int .i64 k9 ∧ Blk X3 W3.heap.size 105 #[.int .u32 (t0 : Int), .int .u32 (n1 : Int), bv] ∧ X3.ownsRow W3.heap.size 5 1 bv (bytesOf (R.take k9)).length ((bytesOf (R.take k9)).map byc) ∧ Below W3.heap.size W3 X3 := by
          refine ⟨k + 1, .slice fa' ((bytesOf (R.take k)).length + lb.length) fc', hlt, by go_num, ?_, ?_, ?_⟩
          · rw [← hX3e]; exact bf2.set 2 _
          · rw [bytesOf_next HK.out.1, hlb, List.length_append, List.map_append]
            have hg3 : X2.grownBy X3 (some W3.heap.size) := by
              rw [← hX3e]
              exact ⟨rfl, rfl, rfl, by simp, fun j _ hj => Below.heap_setCell _ _ _ _ (fun e => hj (by rw [e]))⟩
            exact hown2.kept hg3 (.inr (row_ne hown2 bf2 (by decide)))
          · rw [← hX3e]
            exact ((hX3.drew).grown hgr2 (by exact hX3.size) (fun j hj => (HK.out.2.2.2.2.2.drew.lt j hj).1)).setCell (Nat.le_refl _) _
        have HL := Lib.hid (And.intro hrel (And.intro hsz (And.intro hlb (And.intro hlbl (And.intro hown2 (And.intro hgr2 (And.intro bf2 bp2)))))))
        clear hrel hsz hlb hlbl hown2 hgr2 bf2 bp2
        refine wp_region_linY S2 [1, 6, 8] [0, 2, 3, 4, 5, 7, 1, 6, 8] (by kernel_rfl) (by kernel_rfl) hS20 ?_
        (repeat (first | (refine linX_off rfl rfl (by rfl) ?_; (try simp only [Act.put, List.getElem_toArray, List.getElem_cons_zero, List.getElem_cons_succ, List.setIfInBounds_toArray, List.set_cons_zero, List.set_cons_succ])) | (refine linX_op (v := ?_) rfl rfl (by rfl) (fun w9 hS9 => ?_) ?_; rotate_left; (focus (((have k0 := L3 w9 hS9; go_simp; (try go_bits)) <;> with_reducible rfl))); (try simp only [Act.put, List.getElem_toArray, List.getElem_cons_zero, List.getElem_cons_succ, List.setIfInBounds_toArray, List.set_cons_zero, List.set_cons_succ]))))
        refine linX_do (v := .slice fa (bytesOf (R.take k)).length fc) (w' := X.drew) rfl rfl (by rfl) ?_ hS20 ?_
        · (focus ((go_simp; (try go_bits)) <;> with_reducible rfl))
        (try simp only [Act.put, List.getElem_toArray, List.getElem_cons_zero, List.getElem_cons_succ, List.setIfInBounds_toArray, List.set_cons_zero, List.set_cons_succ])
        refine linX_do (v := .slice fa' ((bytesOf (R.take k)).length + lb.length) fc') (w' := X2) rfl rfl (by rfl) ?_ hS22 ?_
        · have run7 : (Builtin.append_ #[29, 29] 29 #[.slice fa (bytesOf (R.take k)).length fc, .slice (some ⟨wr.heap.size, 4, none⟩) sz 48]).run Try.prog X.drew = .ok (.slice fa' ((bytesOf (R.take k)).length + lb.length) fc') X2 := hap
          simp [execOp, resolve, invoke, builtin, Act.eval, run7, Result.andThen]
        (try simp only [Act.put, List.getElem_toArray, List.getElem_cons_zero, List.getElem_cons_succ, List.setIfInBounds_toArray, List.set_cons_zero, List.set_cons_succ])
        refine linX_store (w' := X3) rfl rfl (by rfl) ?_ hS23 ?_
        · (focus ((go_simp; (try go_bits)) <;> with_reducible rfl))
        (try simp only [Act.put, List.getElem_toArray, List.getElem_cons_zero, List.getElem_cons_succ, List.setIfInBounds_toArray, List.set_cons_zero, List.set_cons_succ])
        refine linX_nil ?_
        go_wp2_with fail
        go_roundw
        case rel => exact HL.out.1
        case measure => simp [intOf]; omega
      · obtain rfl : k = m := by omega
        obtain ⟨fa, fc, rfl⟩ := rowslice hbv
        have hRk : R.take k = R := List.take_of_length_le (by rw [HR.out.2.1]; exact Nat.le_refl _)
        rw [hRk] at hfb hbv
        obtain ⟨l, hl⟩ : ∃ l, bytesOf R = l := ⟨_, rfl⟩
        have hl48 : l.length ≤ 48000 := by have := bytesOf_len R; rw [HR.out.2.1, hl] at this; omega
        rw [hl] at hfb hbv
        obtain ⟨ln, hln⟩ : ∃ ln, l.length = ln := ⟨_, rfl⟩
        rw [hln] at hfb hbv hl48
        have c0 : wr.cell? ⟨W3.heap.size, 0, none⟩ = some (.int .u32 (t0 : Int)) := hfb.cell 0
        have c2 : wr.cell? ⟨W3.heap.size, 2, none⟩ = some (.slice fa ln fc) := hfb.cell 2
        have d2 := H3.out.1.kept (Kept.of_below [] hbb) (by simp)
        have d3 := H3.out.2.1.kept (Kept.of_below [] hbb) (by simp)
        have hbw : Below w.heap.size w wr := bel_lat H3.out.2.2.2.1 hbb
        have HE := Lib.hid (And.intro hfb (And.intro hbv (And.intro hbb (And.intro d2 (And.intro d3 (And.intro hbw (And.intro hl hln)))))))
        have hend : ∀ (w' : World), w'.heap.size = wr.heap.size → True := fun _ _ => trivial
        obtain ⟨W4, h41, h42, h43, h44, h45⟩ := fin_none d2 d3
        clear hfb hbv hbb d2 d3 hbw hl hln hRk
        by_cases ht : t0 = 0
        · have hti : ((t0 : Int) == 0) = true := by rw [ht]; rfl
          have Ht := Lib.hid ht
          clear ht
          go_wp2_with fail
          refine marks_cells (v := .tuple #[.agg (fcs 0 0 none 0 0), .bool false]) [] _ (by simp) (by simp) (fun w' h1 h2 h3 h4 h5 => ⟨results_frame rfl _ w' w.heap.size (w.heap.size + 1) 0 0 none 0 0 false rfl rfl ?_ ?_, ?_, .inl ⟨foundR_none HR.out.1 HP.out.1 HE.out.2.2.2.2.2.2.1 (.inl (by rw [HP.out.2.2.2.1]; exact Ht.out)), rfl⟩⟩)
          · exact (h5 _ (by simp)).trans h45.1
          · exact (h5 _ (by simp)).trans h45.2
          · have hb := HE.out.2.2.2.2.2.1.trans (h44.below (by simp) HE.out.2.2.2.2.2.1.size)
            exact ⟨h2.trans hb.os, h3.trans hb.tape, h4.trans hb.output, by rw [h1]; exact hb.size, fun k hk => (h5 k (by simp)).trans (hb.block k hk)⟩
        · have hti : ((t0 : Int) == 0) = false := by rw [beq_eq_false_iff_ne]; omega
          by_cases hb4 : 40000 < ln
          · have hbi : (40000 : Int) < (ln : Int) := by omega
            go_wp2_with fail
            refine marks_cells (v := .tuple #[.agg (fcs 0 0 none 0 0), .bool false]) [] _ (by simp) (by simp) (fun w' h1 h2 h3 h4 h5 => ⟨results_frame rfl _ w' w.heap.size (w.heap.size + 1) 0 0 none 0 0 false rfl rfl ?_ ?_, ?_, .inl ⟨foundR_none HR.out.1 HP.out.1 HE.out.2.2.2.2.2.2.1 (.inr (.inl (by rw [HE.out.2.2.2.2.2.2.2]; exact hb4))), rfl⟩⟩)
            · exact (h5 _ (by simp)).trans h45.1
            · exact (h5 _ (by simp)).trans h45.2
            · have hb := HE.out.2.2.2.2.2.1.trans (h44.below (by simp) HE.out.2.2.2.2.2.1.size)
              exact ⟨h2.trans hb.os, h3.trans hb.tape, h4.trans hb.output, by rw [h1]; exact hb.size, fun k hk => (h5 k (by simp)).trans (hb.block k hk)⟩
          · have hbi : ¬ (40000 : Int) < (ln : Int) := by omega
            clear h41 h42 h43 h44 h45 W4
            have hpa := fun w' => parts_any t0 n1 fa ln fc w'
            have hlf : (loadSem 105 (.pointer (some ⟨W3.heap.size, 0, none⟩))).run Try.prog wr = .ok (.agg (fcs t0 n1 fa ln fc)) wr := lframe HE.out.1
            obtain ⟨FC, hFC⟩ : ∃ FC, fcs t0 n1 fa ln fc = FC := ⟨_, rfl⟩
            rw [hFC] at hlf
            simp only [hFC] at hpa
            go_wp2_with fail
            refine (hpa _).mono ?_
            rintro e W5 ⟨rfl, hb5, hbl5, hs5⟩
            clear hpa hlf
            rw [← hFC] at hb5
            have hsz5 : W5.heap.size = wr.heap.size + 1 := hs5
            have hwl : w.heap.size + 1 < W3.heap.size := H3.out.2.1.lt
            have hlw3 : W3.heap.size < wr.heap.size := HE.out.1.lt
            have hob := own_bytes_lies (owns_later2 HE.out.2.1 hbl5) HE.out.2.2.2.2.2.2.2
            obtain ⟨a5, c5, he5, hle5, hli5, hno5⟩ := hob
            cases he5
            have hseq : Tells 80 #[.pointer (some ⟨wr.heap.size, 0, none⟩)] [w.heap.size, w.heap.size + 1] (secN ln) (encP t0 n1 l) W5 :=
              parts_tells HE.out.2.2.2.2.2.2.2 (by omega) hle5 (by rw [← HE.out.2.2.2.2.2.2.1]; exact bytesOf_bys (fun q hq => (HR.out.2.2 q hq).1)) (by rw [← HP.out.2.2.2.1]; exact (HR.out.2.2 q0 (List.mem_of_getElem? HP.out.1)).1.t) (by rw [← HP.out.2.2.2.2]; exact (HR.out.2.2 q0 (List.mem_of_getElem? HP.out.1)).1.n) hb5 hli5 (by simp; omega) (fun x hx => ⟨by have := (hno5 x hx).1; simp; omega, (hno5 x hx).2⟩)
            have hb35 : Below W3.heap.size W3 W5 := bel_lat HE.out.2.2.1 hbl5
            have hb05 : Below w.heap.size w W5 := bel_lat HE.out.2.2.2.2.2.1 hbl5
            have z2 := HE.out.2.2.2.1.kept (Kept.of_below [] hbl5) (by simp)
            have z3 := HE.out.2.2.2.2.1.kept (Kept.of_below [] hbl5) (by simp)
            have z5 := HE.out.1.kept (Kept.of_below [] hbl5) (by simp)
            have hsec : secN ln ≤ k := secN_fits (by have := bytesOf_len R; rw [HR.out.2.1, HE.out.2.2.2.2.2.2.1, HE.out.2.2.2.2.2.2.2] at this; exact this) (by omega)
            have HV := Lib.hid (And.intro hb35 (And.intro hb05 (And.intro z2 (And.intro z3 (And.intro z5 (And.intro hsec (And.intro hFC (owns_later2 HE.out.2.1 hbl5))))))))
            clear hli5 hno5 hb5 hb35 hb05 z2 z3 z5 hsec hFC hbl5
            go_wp2_with fail
            refine wp_range_row (S := [w.heap.size, w.heap.size + 1]) (N := secN ln) (enc := encP t0 n1 l) (gf := 80) (lb := #[.pointer (some ⟨wr.heap.size, 0, none⟩)]) none rfl (enters_of Try.func80 (by kernel_rfl) rfl) hseq (by simp; omega)
              (fun k2 X => Kept [] W5 X ∧ allSame R t0 n1 l k2 = true)
              (fun k2 X => Kept [w.heap.size, w.heap.size + 1] W5 X ∧ Blk X w.heap.size 105 (fcs 0 0 none 0 0) ∧ Blk X (w.heap.size + 1) 4 #[.bool false] ∧ allSame R t0 n1 l (secN ln) = false)
              ?hI ?hIx ⟨Kept.refl _ _, rfl⟩
              (fun k2 a' X => ∃ Bx, Blk X Bx 126 (partAt t0 n1 l k2).cs ∧ a' = { tmps := #[.slice a n0 cap, undef, .pointer (some ⟨w.heap.size, 0, none⟩), .pointer (some ⟨w.heap.size + 1, 0, none⟩), .pointer (some ⟨W2.heap.size, 0, none⟩), .pointer (some ⟨W3.heap.size, 0, none⟩), undef, u7, .int .i64 (k2 : Int), .pointer (some ⟨Bx, 0, none⟩), .slice a n0 cap, .slice (some ⟨g, 0, none⟩) k vc, .slice (some ⟨g, 0, none⟩) k vc, .int .i64 (k : Int), .bool false, undef, .slice (some ⟨g, 0, none⟩) k vc, .pointer (some ⟨g, 0, none⟩), .pointer (some ⟨g, 0, none⟩), .int .u32 (t0 : Int), .slice (some ⟨g, 0, none⟩) k vc, .pointer (some ⟨g, 0, none⟩), .pointer (some ⟨g, 1, none⟩), .int .u32 (n1 : Int), .agg #[.int .u32 (t0 : Int), .int .u32 (n1 : Int), .slice none 0 0], .slice (some ⟨g, 0, none⟩) k vc, .int .i64 (k : Int), .int .i64 (k : Int), .bool false, u29, u30, u31, u32, u33, u34, u35, u36, u37, u38, u39, .pointer (some ⟨W3.heap.size, 0, none⟩), .int .u32 (t0 : Int), .bool false, .bool false, .pointer (some ⟨W3.heap.size, 2, none⟩), .slice fa ln fc, .int .i64 (ln : Int), .bool false, .bool false, undef, .agg FC, .func (.func 80) #[] #[.pointer (some ⟨wr.heap.size, 0, none⟩)], .int .i64 (k2 : Int), .agg (partAt t0 n1 l k2).cs, undef, undef, undef, undef, undef, undef, undef, undef], defers := [] })
              ?hAx ?assign ?body ?done ?stop
            case hI => exact fun s X Y row hs hg hrow => ⟨own_kept (β := Unit) _ (Nat.le_refl _) () X Y row hs.1 hg hrow, hs.2⟩
            case hIx => exact fun s X Y row hs hg hrow => ⟨own_kept (β := Unit) _ (Nat.le_refl _) () X Y row hs.1 hg hrow, own_blk (β := Unit) _ _ _ (fun _ => _) () X Y row hs.2.1 hg hrow, own_blk (β := Unit) _ _ _ (fun _ => _) () X Y row hs.2.2.1 hg hrow, hs.2.2.2⟩
            case hAx => exact fun k2 a' s X Y row hs hg hrow => by obtain ⟨Bx, e1, e2⟩ := hs; exact ⟨Bx, own_blk (β := Unit) _ _ _ (fun _ => (partAt t0 n1 l k2).cs) () X Y row e1 hg hrow, e2⟩
            case assign =>
              intro k2 X K hk2 hX hI hK
              have hpl : (partAt t0 n1 l k2).l.length = 48 := pad48_len (by have := cutL_len l k2; omega)
              have HZ := Lib.hid (show Pt.zero.cs.size = (partAt t0 n1 l k2).cs.size by rw [Pt.size z48_len, Pt.size hpl])
              have HP2 := Lib.hid (s_part hpl)
              clear hpl
              show Code.wpIn _ _ _ _ _ { tmps := #[.slice a n0 cap, undef, .pointer (some ⟨w.heap.size, 0, none⟩), .pointer (some ⟨w.heap.size + 1, 0, none⟩), .pointer (some ⟨W2.heap.size, 0, none⟩), .pointer (some ⟨W3.heap.size, 0, none⟩), undef, u7, undef, undef, .slice a n0 cap, .slice (some ⟨g, 0, none⟩) k vc, .slice (some ⟨g, 0, none⟩) k vc, .int .i64 (k : Int), .bool false, undef, .slice (some ⟨g, 0, none⟩) k vc, .pointer (some ⟨g, 0, none⟩), .pointer (some ⟨g, 0, none⟩), .int .u32 (t0 : Int), .slice (some ⟨g, 0, none⟩) k vc, .pointer (some ⟨g, 0, none⟩), .pointer (some ⟨g, 1, none⟩), .int .u32 (n1 : Int), .agg #[.int .u32 (t0 : Int), .int .u32 (n1 : Int), .slice none 0 0], .slice (some ⟨g, 0, none⟩) k vc, .int .i64 (k : Int), .int .i64 (k : Int), .bool false, u29, u30, u31, u32, u33, u34, u35, u36, u37, u38, u39, .pointer (some ⟨W3.heap.size, 0, none⟩), .int .u32 (t0 : Int), .bool false, .bool false, .pointer (some ⟨W3.heap.size, 2, none⟩), .slice fa ln fc, .int .i64 (ln : Int), .bool false, .bool false, undef, .agg FC, .func (.func 80) #[] #[.pointer (some ⟨wr.heap.size, 0, none⟩)], .int .i64 (k2 : Int), .agg (partAt t0 n1 l k2).cs, undef, undef, undef, undef, undef, undef, undef, undef], defers := [] } _
              gi_wp2_with (first | (with_reducible refine wpListIn_alloc_z rfl 126 rfl Pt.zero.cs 52 z_part ?_) | (with_reducible refine wpListIn_store_new rfl 126 (.tmp 9) (.tmp 53) rfl (partAt t0 n1 l k2).cs Pt.zero.cs _ rfl rfl HZ.out HP2.out (Pt.one _) ?_))
              have hB1 : Below X.heap.size X (X.alloc (.cells (partAt t0 n1 l k2).cs 126)) := (Below.refl _ _).alloc (Nat.le_refl _) _
              exact hK _ _ (KB.below hB1) ⟨hI.1.trans2 (Kept.of_below [] hB1) (by simp), hI.2⟩ ⟨_, Blk.new _ _ _, rfl⟩
            case body =>
              rintro k2 _ X ⟨hkX, hall⟩ ⟨Bx, bx, rfl⟩ hk2 hX
              obtain ⟨q2, hq2⟩ : ∃ q2, R[k2]? = some q2 := ⟨_, List.getElem?_eq_getElem (by have := HR.out.2.1; have := HV.out.2.2.2.2.2.1; omega)⟩
              have hX5 : Below W5.heap.size W5 X := hkX.below (by simp) (Nat.le_refl _)
              have h3X : Below W3.heap.size W3 X := bel_lat HV.out.1 hX5
              have hpl : (partAt t0 n1 l k2).l.length = 48 := pad48_len (by have := cutL_len l k2; omega)
              obtain ⟨sm, hsm⟩ : ∃ sm, samePt q2.p (partAt t0 n1 l k2) = sm := ⟨_, rfl⟩
              obtain ⟨S5, hS5⟩ : ∃ S5 : World → Prop, S5 = Below X.heap.size X := ⟨_, rfl⟩
              have hS50 : S5 X.drew := by rw [hS5]; exact (Below.refl _ _).drew
              have K4 : ∀ w', S5 w' → w'.cell? ⟨W2.heap.size, 0, none⟩ = some (.slice (some ⟨g, 0, none⟩) k vc) := fun w' h => by
                rw [hS5] at h
                exact hbd w' (by rw [H6.out.2.2.1]; exact bel_lat h3X h)
              have KP : ∀ w', S5 w' → (loadSem 126 (.pointer (some ⟨g, k2 * 52, none⟩))).run Try.prog w' = .ok (.agg q2.p.cs) w' := fun w' h => by
                rw [hS5] at h
                exact lpart_mid q2.l48 (fun j hj => ((bel_lat h3X h).cell (p := ⟨g, k2 * 52 + j, none⟩) HP.out.2.1).trans (HP.out.2.2.1 k2 q2 hq2 j hj))
              have KN : ∀ w', S5 w' → (loadSem 126 (.pointer (some ⟨Bx, 0, none⟩))).run Try.prog w' = .ok (.agg (partAt t0 n1 l k2).cs) w' := fun w' h => by
                rw [hS5] at h
                exact lpart (bx.kept (Kept.of_below [] h) (by simp)) hpl
              have KE : ∀ w', S5 w' → (eqPt (.agg q2.p.cs) (.agg (partAt t0 n1 l k2).cs)).run Try.prog w' = .ok sm w' := fun w' _ => by
                rw [← hsm]
                exact eqPt_run q2.l48 hpl w'
              have hki : (k2 : Int) < (k : Int) := by have := HV.out.2.2.2.2.2.1; omega
              have hkn : k2 < k := by omega
              have x2 := HV.out.2.2.1.kept hkX (by simp)
              have x3 := HV.out.2.2.2.1.kept hkX (by simp)
              have HB := Lib.hid (And.intro hkX (And.intro hall (And.intro hq2 (And.intro hsm (And.intro x2.drew x3.drew)))))
              generalize q2.p.cs = QC at *
              generalize (partAt t0 n1 l k2).cs = PC at *
              clear hkX hall bx hX5 h3X hpl hsm hS5 hq2 x2 x3 hseq
              gi_wp2_with fail
              refine wp_region_linK S5 [] [0, 1, 2, 3, 4, 5] (by kernel_rfl) (by kernel_rfl) (by kernel_rfl) hS50 ?_
              (repeat (first | (refine linX_off rfl rfl (by rfl) ?_; (try simp only [Act.put, List.getElem_toArray, List.getElem_cons_zero, List.getElem_cons_succ, List.setIfInBounds_toArray, List.set_cons_zero, List.set_cons_succ])) | (refine linX_op (v := ?_) rfl rfl (by rfl) (fun w9 hS9 => ?_) ?_; rotate_left; (focus (((have k0 := K4 w9 hS9; have k1 := KP w9 hS9; have k2 := KN w9 hS9; have k3 := KE w9 hS9; go_simp; (try go_bits)) <;> with_reducible rfl))); (try simp only [Act.put, List.getElem_toArray, List.getElem_cons_zero, List.getElem_cons_succ, List.setIfInBounds_toArray, List.set_cons_zero, List.set_cons_succ]))))
              refine linX_nil ?_
              cases sm with
              | true =>
                gi_wp2_with fail
                have hdr : Below X.heap.size X X.drew := (Below.refl _ _).drew
                refine ⟨KB.below hdr, .inl ⟨HB.out.1.trans2 (Kept.of_below [] hdr) (by simp), ?_⟩⟩
                rw [allSame_next HB.out.2.2.1, HB.out.2.1, HB.out.2.2.2.1]
                rfl
              | false =>
                obtain ⟨W4, h41, h42, h43, h44, h45⟩ := fin_none HB.out.2.2.2.2.1 HB.out.2.2.2.2.2
                gi_wp2_with fail
                have hdr : Below X.heap.size X X.drew := (Below.refl _ _).drew
                have k0 := HB.out.1.trans2 (Kept.of_below [] hdr) (by simp)
                exact ⟨(KB.below hdr).trans (KB.kept h44), .inr ⟨rfl, (k0.more (T := [w.heap.size, w.heap.size + 1]) (by simp)).trans2 h44 (by simp), h45.1, h45.2, allSame_false hk2 HB.out.2.2.1 HB.out.2.2.2.1⟩⟩
            case done =>
              rintro X ⟨hkX, hall⟩ hd
              have y2 := HV.out.2.2.1.kept hkX (by simp)
              have y3 := HV.out.2.2.2.1.kept hkX (by simp)
              have y5 := HV.out.2.2.2.2.1.kept hkX (by simp)
              have hX5 : Below W5.heap.size W5 X := hkX.below (by simp) (Nat.le_refl _)
              have hl5 := lframe y5
              have hst := sframe (t' := t0) (n' := n1) (a' := fa) (len' := ln) (cap' := fc) y2
              have w2 := y2.row (fcs t0 n1 fa ln fc)
              have w3 : Blk (X.setRow w.heap.size (fcs t0 n1 fa ln fc)) (w.heap.size + 1) 4 #[.bool false] := (setRow_other _ _ _ _ (by omega)).trans y3
              have hf : foundR L = some (t0, n1, l) := by
                have := foundR_some HR.out.1 HP.out.1 HE.out.2.2.2.2.2.2.1 (by rw [HP.out.2.2.2.1]; exact ht) (by rw [HE.out.2.2.2.2.2.2.2]; omega) (by rw [HP.out.2.2.2.1, HP.out.2.2.2.2, HE.out.2.2.2.2.2.2.2]; exact hall)
                rw [this, HP.out.2.2.2.1, HP.out.2.2.2.2]
              rw [HV.out.2.2.2.2.2.2.1] at hl5 hst
              obtain ⟨X2, hX2⟩ : ∃ X2, X.setRow w.heap.size (fcs t0 n1 fa ln fc) = X2 := ⟨_, rfl⟩
              rw [HV.out.2.2.2.2.2.2.1] at hX2
              rw [hX2] at hst
              rw [HV.out.2.2.2.2.2.2.1, hX2] at w2 w3
              have x3 : X2.cell? ⟨w.heap.size + 1, 0, none⟩ = some (.bool false) := w3.cell 0
              have f3 := w3.free 0
              have hown9 : X.ownsRow W3.heap.size 5 1 (.slice fa ln fc) ln (l.map byc) := owns_later2 HV.out.2.2.2.2.2.2.2 hX5
              have HD := Lib.hid (And.intro w2 (And.intro w3 (And.intro hX2 (And.intro hf (And.intro hd (And.intro hX5 hown9))))))
              clear y2 y3 y5 hX5 w2 w3 hX2 hf hall hkX hd hseq hown9
              go_wp2_with fail
              have e2 : Blk (X2.setCell ⟨w.heap.size + 1, 0, none⟩ (.bool true)) w.heap.size 105 (fcs t0 n1 fa ln fc) := by
                rw [HV.out.2.2.2.2.2.2.1]
                exact HD.out.1.far (by simp) _
              have e3 : Blk (X2.setCell ⟨w.heap.size + 1, 0, none⟩ (.bool true)) (w.heap.size + 1) 4 #[.bool true] := HD.out.2.1.set 0 _
              have eb : Below w.heap.size w (X2.setCell ⟨w.heap.size + 1, 0, none⟩ (.bool true)) := by
                rw [← HD.out.2.2.1]
                exact (below_rowset (bel_lat HV.out.2.1 HD.out.2.2.2.2.2.1) (Nat.le_refl _) _).setCell (by show w.heap.size ≤ w.heap.size + 1; omega) _
              have hd5 : (X2.setCell ⟨w.heap.size + 1, 0, none⟩ (.bool true)).heap[W5.heap.size]? = some (.deferred (some [])) := by
                rw [← HD.out.2.2.1]
                exact (Below.heap_setCell _ _ _ _ (by show W5.heap.size ≠ w.heap.size + 1; omega)).trans ((setRow_other _ _ _ _ (by omega)).trans HD.out.2.2.2.2.1)
              have hlnl : l.length = ln := HE.out.2.2.2.2.2.2.2
              rw [← hlnl] at e2
              refine marks_cells (v := .tuple #[.agg (fcs t0 n1 fa l.length fc), .bool true]) [W5.heap.size] _ (by simp) (fun d hd => by rw [List.mem_singleton.1 hd]; exact hd5) (fun w' h1 h2 h3 h4 h5 => ⟨results_frame rfl _ w' w.heap.size (w.heap.size + 1) t0 n1 fa l.length fc true rfl rfl ?_ ?_, ?_, .inr ⟨t0, n1, l, fa, fc, HD.out.2.2.2.1, rfl, ?_⟩⟩)
              · exact (h5 _ (by simp; omega)).trans e2
              · exact (h5 _ (by simp; omega)).trans e3
              · exact ⟨h2.trans eb.os, h3.trans eb.tape, h4.trans eb.output, by rw [h1]; exact eb.size, fun k hk => (h5 k (by simp; omega)).trans (eb.block k hk)⟩
              · rw [hlnl]
                refine own_end HD.out.2.2.2.2.2.2 (by omega) (fun q hq ho => ?_)
                have hq5 : q ≠ W5.heap.size := by
                  rintro rfl
                  obtain ⟨o, ho⟩ := ho
                  rw [HD.out.2.2.2.2.1] at ho
                  cases ho
                refine (h5 q (by simp; exact hq5)).trans ?_
                rw [← HD.out.2.2.1]
                exact (Below.heap_setCell _ _ _ _ (by show q ≠ w.heap.size + 1; omega)).trans (setRow_other _ _ _ _ (by omega))
            case stop =>
              rintro k2 XX hk2 ⟨hkX, y2, y3, hall⟩ hd
              rw [show outE none = Exit.ret from rfl]
              have HS := Lib.hid (And.intro hkX (And.intro y2 (And.intro y3 (And.intro hall hd))))
              clear hkX y2 y3 hall hd hseq
              simp only [Exit.inBlock, Exit.then]
              have hbX : Below w.heap.size w XX := HV.out.2.1.trans (HS.out.1.below (by simp) HV.out.2.1.size)
              refine marks_cells (v := .tuple #[.agg (fcs 0 0 none 0 0), .bool false]) [W5.heap.size] _ (by simp) (fun d hd => by rw [List.mem_singleton.1 hd]; exact HS.out.2.2.2.2) (fun w' h1 h2 h3 h4 h5 => ⟨results_frame rfl _ w' w.heap.size (w.heap.size + 1) 0 0 none 0 0 false rfl rfl ?_ ?_, ?_, .inl ⟨foundR_none HR.out.1 HP.out.1 HE.out.2.2.2.2.2.2.1 (.inr (.inr (by rw [HP.out.2.2.2.1, HP.out.2.2.2.2, HE.out.2.2.2.2.2.2.2]; exact HS.out.2.2.2.1))), rfl⟩⟩)
              · exact (h5 _ (by simp; omega)).trans HS.out.2.1
              · exact (h5 _ (by simp; omega)).trans HS.out.2.2.1
              · exact ⟨h2.trans hbX.os, h3.trans hbX.tape, h4.trans hbX.output, by rw [h1]; exact hbX.size, fun k hk => (h5 k (by simp; omega)).trans (hbX.block k hk)⟩

end Go.Proofs.Ytelpihlifdfgoaa
