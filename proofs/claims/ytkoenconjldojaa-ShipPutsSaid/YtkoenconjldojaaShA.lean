/-
  Entries: as cells, in rows that lie somewhere, in rows that a call owns; copies of rows. Nothing here is a statement of the document.
-/
import Derived.Test.YtkoenconjldojaaRtA
namespace Go.Proofs.Ytkoenconjldojaa
open Go.RowKit Go.Shelf
set_option linter.unusedVariables false
set_option maxRecDepth 100000
structure Up where
  p : Px
  s : Int
  g : Bool
  f : Int
  h : Int
def Up.cs (r : Up) : Array Value := r.p.cs ++ #[.int .i64 r.s, .bool r.g, .int .i64 r.f, .int .i64 r.h]
def Up.zero : Up := ⟨Px.zero, 0, false, 0, 0⟩
theorem Up.size (r : Up) : r.cs.size = 22 := by simp [Up.cs, r.p.size]
theorem Up.one (r : Up) : r.cs.all (·.oneCell') = true := by
  have := r.p.one
  rw [Array.all_eq_true_iff_forall_mem] at this ⊢
  intro v hv
  rcases Array.mem_append.1 hv with h | h
  · exact this v h
  · simp only [List.mem_toArray, List.mem_cons, List.not_mem_nil, or_false] at h
    rcases h with rfl | rfl | rfl | rfl <;> rfl
theorem Up.cp (r : Up) (j : Nat) (h : j < 18) : r.cs[j]? = r.p.cs[j]? := by
  unfold Up.cs
  rw [Array.getElem?_append_left (by rw [Px.size]; exact h)]
theorem Up.qs (r : Up) : r.cs[18]? = some (.int .i64 r.s) := by
  unfold Up.cs
  rw [Array.getElem?_append_right (by rw [Px.size]; omega)]
  simp [Px.size]
theorem Up.qg (r : Up) : r.cs[19]? = some (.bool r.g) := by
  unfold Up.cs
  rw [Array.getElem?_append_right (by rw [Px.size]; omega)]
  simp [Px.size]
theorem Up.qf (r : Up) : r.cs[20]? = some (.int .i64 r.f) := by
  unfold Up.cs
  rw [Array.getElem?_append_right (by rw [Px.size]; omega)]
  simp [Px.size]
theorem Up.qh (r : Up) : r.cs[21]? = some (.int .i64 r.h) := by
  unfold Up.cs
  rw [Array.getElem?_append_right (by rw [Px.size]; omega)]
  simp [Px.size]
theorem Up.same {x y : Up} : x = y ↔ x.p = y.p ∧ x.s = y.s ∧ x.g = y.g ∧ x.f = y.f ∧ x.h = y.h := by
  obtain ⟨p, x1, x2, x3, x4⟩ := x
  obtain ⟨q, y1, y2, y3, y4⟩ := y
  simp
noncomputable instance : DecidableEq Up := fun _ _ => Classical.propDecidable _
def upg (L : List Up) (i : Nat) : Up := L.getD i Up.zero
theorem upg_get {L : List Up} {i : Nat} (h : i < L.length) : upg L i = L[i] := by simp [upg, h]
theorem upg_some {L : List Up} {i : Nat} (h : i < L.length) : L[i]? = some (upg L i) := by simp [upg, h]
theorem upg_mem {L : List Up} {i : Nat} (h : i < L.length) : upg L i ∈ L := by rw [upg_get h]; exact List.getElem_mem h
theorem z_up : (Try.prog.info? 106).map (fun i => (i.zero, i.size)) = some (some (.agg Up.zero.cs), 22) := by kernel_rfl
theorem s_up (r : Up) : (Try.prog.info? 106).map (·.size) = some r.cs.size := by rw [r.size]; exact (zero_of_info z_up).2
theorem load_up_rule (v : Value) : Instr.loadAt 106 v = loadSem 106 v := rfl
theorem store_up_rule (v x : Value) : Instr.storeAt 106 v x = storeSem 106 v x := rfl

/-- Rows lie in a block from a place on. -/
structure Ups (w : World) (g o : Nat) (L : List Up) : Prop where
  lt : g < w.heap.size
  row : ∀ i, i < L.length → ∀ j, j < 22 → w.cell? ⟨g, o + i * 22 + j, none⟩ = (upg L i).cs[j]?
def UpAt (w : World) (a : Option Addr) (L : List Up) : Prop := L = [] ∨ ∃ g o, a = some ⟨g, o, none⟩ ∧ Ups w g o L
theorem Ups.later {w w' : World} {g o : Nat} {L : List Up} (h : Ups w g o L) (k : Below w.heap.size w w') : Ups w' g o L :=
  ⟨Nat.lt_of_lt_of_le h.lt k.size, fun i hi j hj => (k.cell (p := ⟨g, o + i * 22 + j, none⟩) h.lt).trans (h.row i hi j hj)⟩
theorem UpAt.later {w w' : World} {a : Option Addr} {L : List Up} (h : UpAt w a L) (k : Below w.heap.size w w') : UpAt w' a L := by
  rcases h with h | ⟨g, o, h1, h2⟩
  · exact .inl h
  · exact .inr ⟨g, o, h1, h2.later k⟩
theorem Ups.load {w : World} {g o : Nat} {L : List Up} (h : Ups w g o L) {i : Nat} (hi : i < L.length) : (loadSem 106 (.pointer (some ⟨g, o + i * 22, none⟩))).run Try.prog w = .ok (.agg (upg L i).cs) w :=
  run_loadAt_mid (P := Try.prog) w g (o + i * 22) 106 (upg L i).cs.toList _ (fun j v hj => by
    have hl : j < 22 := by rw [← (upg L i).size]; simpa using (List.getElem?_eq_some_iff.1 hj).1
    rw [h.row i hi j hl]; simpa using hj) Try.underlying106 rfl (by simpa using s_up (upg L i))
theorem Ups.loadp {w : World} {g o : Nat} {L : List Up} (h : Ups w g o L) {i : Nat} (hi : i < L.length) : (loadSem 59 (.pointer (some ⟨g, o + i * 22, none⟩))).run Try.prog w = .ok (.agg (upg L i).p.cs) w :=
  run_loadAt_mid (P := Try.prog) w g (o + i * 22) 59 (upg L i).p.cs.toList _ (fun j v hj => by
    have hl : j < 18 := by rw [← (upg L i).p.size]; simpa using (List.getElem?_eq_some_iff.1 hj).1
    rw [h.row i hi j (by omega), (upg L i).cp j hl]; simpa using hj) Try.underlying59 rfl (by simpa using s_px (upg L i).p)
theorem up_r {W : World} {g : Nat} {r : Up} (h : Blk W g 106 r.cs) : ∀ w', Below W.heap.size W w' → (loadSem 106 (.pointer (some ⟨g, 0, none⟩))).run Try.prog w' = .ok (.agg r.cs) w' :=
  fun w' k => loadRes_of (o := 0) (h.later k) (fun q _ => by rw [Nat.zero_add]) _ Try.underlying106 rfl (s_up r)
theorem up_p {W : World} {g : Nat} {r : Up} (h : Blk W g 106 r.cs) : ∀ w', Below W.heap.size W w' → (loadSem 59 (.pointer (some ⟨g, 0, none⟩))).run Try.prog w' = .ok (.agg r.p.cs) w' :=
  fun w' k => loadRes_of (o := 0) (h.later k) (fun q hq => by rw [Nat.zero_add]; exact r.cp q (by rw [Px.size] at hq; exact hq)) _ Try.underlying59 rfl (s_px r.p)

theorem st_up {w : World} {g : Nat} {p q : Up} (h : Blk w g 106 p.cs) : (storeSem 106 (.pointer (some ⟨g, 0, none⟩)) (.agg q.cs)).run Try.prog w = .ok () (w.setRow g q.cs) := by
  have := storeRes_of (P := Try.prog) (ty := 106) (o := 0) (vs := q.cs) h (by rw [Up.size, Up.size]; omega) (s_up q) q.one
  rwa [over_all (by rw [Up.size, Up.size])] at this
theorem up_s {W : World} {g : Nat} {r : Up} (h : Blk W g 106 r.cs) : ∀ w', Below W.heap.size W w' → w'.cell? ⟨g, 18, none⟩ = some (.int .i64 r.s) :=
  fun w' k => ((h.later k).cell 18).trans r.qs
theorem Ups.s {w : World} {g o : Nat} {L : List Up} (h : Ups w g o L) {i : Nat} (hi : i < L.length) : w.cell? ⟨g, o + i * 22 + 18, none⟩ = some (.int .i64 (upg L i).s) := (h.row i hi 18 (by omega)).trans (upg L i).qs
theorem up_g {W : World} {g : Nat} {r : Up} (h : Blk W g 106 r.cs) : ∀ w', Below W.heap.size W w' → w'.cell? ⟨g, 19, none⟩ = some (.bool r.g) :=
  fun w' k => ((h.later k).cell 19).trans r.qg
theorem Ups.g {w : World} {g o : Nat} {L : List Up} (h : Ups w g o L) {i : Nat} (hi : i < L.length) : w.cell? ⟨g, o + i * 22 + 19, none⟩ = some (.bool (upg L i).g) := (h.row i hi 19 (by omega)).trans (upg L i).qg
theorem up_f {W : World} {g : Nat} {r : Up} (h : Blk W g 106 r.cs) : ∀ w', Below W.heap.size W w' → w'.cell? ⟨g, 20, none⟩ = some (.int .i64 r.f) :=
  fun w' k => ((h.later k).cell 20).trans r.qf
theorem Ups.f {w : World} {g o : Nat} {L : List Up} (h : Ups w g o L) {i : Nat} (hi : i < L.length) : w.cell? ⟨g, o + i * 22 + 20, none⟩ = some (.int .i64 (upg L i).f) := (h.row i hi 20 (by omega)).trans (upg L i).qf
theorem up_h {W : World} {g : Nat} {r : Up} (h : Blk W g 106 r.cs) : ∀ w', Below W.heap.size W w' → w'.cell? ⟨g, 21, none⟩ = some (.int .i64 r.h) :=
  fun w' k => ((h.later k).cell 21).trans r.qh
theorem Ups.h {w : World} {g o : Nat} {L : List Up} (h : Ups w g o L) {i : Nat} (hi : i < L.length) : w.cell? ⟨g, o + i * 22 + 21, none⟩ = some (.int .i64 (upg L i).h) := (h.row i hi 21 (by omega)).trans (upg L i).qh
def upcs (L : List Up) : List Value := L.flatMap (fun r => r.cs.toList)
theorem upcs_nil : upcs [] = [] := rfl
theorem upcs_append (L M : List Up) : upcs (L ++ M) = upcs L ++ upcs M := by simp [upcs]
theorem upcs_one (r : Up) : upcs [r] = r.cs.toList := by simp [upcs]
theorem upcs_cons (r : Up) (L : List Up) : upcs (r :: L) = r.cs.toList ++ upcs L := by simp [upcs]
theorem upcs_len : ∀ L : List Up, (upcs L).length = L.length * 22
  | [] => rfl
  | r :: L => by rw [upcs_cons, List.length_append, upcs_len L]; simp [r.size]; omega
theorem upcs_all (L : List Up) : ∀ u ∈ upcs L, u.oneCell' = true := fun u hu => by
  obtain ⟨r, _, h⟩ := List.mem_flatMap.1 hu
  exact Array.all_eq_true_iff_forall_mem.1 r.one u (by simpa using h)
theorem upcs_get : ∀ (L : List Up) {i j : Nat}, i < L.length → j < 22 → (upcs L)[i * 22 + j]? = (upg L i).cs[j]?
  | [], i, j, h, _ => by simp at h
  | r :: L, 0, j, _, hj => by
    rw [upcs_cons, Nat.zero_mul, Nat.zero_add, List.getElem?_append_left (by simp [r.size]; exact hj)]
    simp [upg]
  | r :: L, i + 1, j, h, hj => by
    rw [upcs_cons, List.getElem?_append_right (by simp [r.size]; omega)]
    rw [show (i + 1) * 22 + j - r.cs.toList.length = i * 22 + j by simp [r.size]; omega, upcs_get L (by simpa using h) hj]
    simp [upg]
theorem upcs_take : ∀ (L : List Up) (i : Nat), (upcs L).take (i * 22) = upcs (L.take i)
  | [], i => by simp [upcs]
  | r :: L, 0 => by simp [upcs]
  | r :: L, i + 1 => by
    rw [upcs_cons, List.take_succ_cons, upcs_cons, List.take_append, List.take_of_length_le (by simp [r.size]; omega)]
    rw [show (i + 1) * 22 - r.cs.toList.length = i * 22 by simp [r.size]; omega, upcs_take L i]
theorem upcs_drop : ∀ (L : List Up) (i : Nat), (upcs L).drop (i * 22) = upcs (L.drop i)
  | [], i => by simp [upcs]
  | r :: L, 0 => by simp [upcs]
  | r :: L, i + 1 => by
    rw [upcs_cons, List.drop_succ_cons, List.drop_append, List.drop_eq_nil_of_le (by simp [r.size]; omega), List.nil_append]
    rw [show (i + 1) * 22 - r.cs.toList.length = i * 22 by simp [r.size]; omega, upcs_drop L i]
theorem uprow_cells (w : World) (g : Nat) (L : List Up) (o : Nat) (hg : g < w.heap.size) (h : ∀ k u, (upcs L)[k]? = some u → w.cell? ⟨g, o + k, none⟩ = some u) : Ups w g o L := by
  refine ⟨hg, fun i hi j hj => ?_⟩
  have h1 := upcs_get L hi hj
  have h2 : j < (upg L i).cs.size := by rw [Up.size]; exact hj
  rw [Array.getElem?_eq_getElem h2] at h1 ⊢
  rw [Nat.add_assoc]
  exact h _ _ h1
theorem Ups.cells {w : World} {g o : Nat} {L : List Up} (h : Ups w g o L) : ∀ k u, (upcs L)[k]? = some u → w.cell? ⟨g, o + k, none⟩ = some u := by
  intro k u hk
  have hl : k < L.length * 22 := by rw [← upcs_len]; exact (List.getElem?_eq_some_iff.1 hk).1
  have e := upcs_get L (i := k / 22) (j := k % 22) (by omega) (by omega)
  rw [show k / 22 * 22 + k % 22 = k by omega] at e
  have h1 := h.row (k / 22) (by omega) (k % 22) (by omega)
  rw [← e, hk, Nat.add_assoc, show k / 22 * 22 + k % 22 = k by omega] at h1
  exact h1

/-- Rows that a call owns, from block B on. -/
abbrev OwnUp (w : World) (B : Nat) (v : Value) (L : List Up) : Prop := w.ownsRow B 106 22 v L.length (upcs L)
theorem OwnUp.lies {w : World} {B : Nat} {v : Value} {L : List Up} (h : OwnUp w B v L) : ∃ a c, v = .slice a L.length c ∧ L.length ≤ c ∧ c ≤ maxLen ∧ UpAt w a L ∧ ∀ x, a = some x → B ≤ x.block := by
  rcases h.2 with ⟨rfl, h0⟩ | ⟨g, cap, cur, rfl, hb, hg, hc, hm, hs, ht⟩
  · have : L = [] := List.eq_nil_of_length_eq_zero h0
    subst this
    exact ⟨none, 0, rfl, by simp, by unfold maxLen; omega, .inl rfl, fun x hx => by cases hx⟩
  · refine ⟨_, cap, rfl, hc, hm, .inr ⟨g, 0, rfl, uprow_cells w g L 0 (Array.getElem?_eq_some_iff.1 hg).1 fun k u hk => ?_⟩, fun x hx => by cases hx; exact hb⟩
    rw [Nat.zero_add, cell_of_row w g k cur _ _ hg, ← Array.getElem?_toList]
    have hl : k < L.length * 22 := by rw [← upcs_len]; exact (List.getElem?_eq_some_iff.1 hk).1
    rw [← ht, List.getElem?_take, if_pos hl] at hk
    exact hk
theorem info_up : (Try.prog.info? 106).map (fun i => (i.zero, i.size, i.bytes)) = some (some (.agg Up.zero.cs), 22, 64) := by kernel_rfl

/-! ### Nothing built, appended to -/
def upbuildSem (n : Nat) (parts : Array (Nat × Value)) : Sem Value := Instr.buildSlice 43 n parts
theorem upbuild_rule (n : Nat) (parts : Array (Nat × Value)) : Instr.buildSlice 43 n parts = upbuildSem n parts := rfl
theorem upbuild0_run (w : World) : (upbuildSem 0 #[]).run Try.prog w = .ok (.slice (some ⟨w.heap.size, 0, none⟩) 0 0) (w.alloc (.cells #[] 106)) := by
  have hu := run_underlying (P := Try.prog) Try.underlying43 w
  have hz := (zero_of_info z_up).1 w
  unfold upbuildSem Instr.buildSlice
  simp only [Sem.run_bind, hu, Result.andThen_ok]
  go_simp
def upappSem (ty : TypeId) (args : Array Value) : Sem Value := Builtin.append_ #[43, 43] ty args
theorem upapp_rule (ty : TypeId) (args : Array Value) : Builtin.append_ #[43, 43] ty args = upappSem ty args := rfl
theorem upown0 (w : World) (B : Nat) (hB : B ≤ w.heap.size) : OwnUp (w.alloc (.cells #[] 106)) B (.slice (some ⟨w.heap.size, 0, none⟩) 0 0) [] :=
  ⟨rfl, .inr ⟨_, 0, #[], rfl, hB, heap_alloc_new w _, Nat.le_refl _, by simp, rfl, rfl⟩⟩
/-- Rows that lie anywhere are appended to rows that a call owns. -/
theorem upapp_run {w : World} (ty : TypeId) {B : Nat} {v : Value} {L M : List Up} {x : Addr} {m c : Nat} (h : OwnUp w B v L) (hm : M.length = m) (hM : UpAt w (some x) M) (hs : L.length + m ≤ 1000000) (hB : B ≤ w.heap.size) :
    ∃ v' w', (upappSem ty #[v, .slice (some x) m c]).run Try.prog w = .ok v' w' ∧ OwnUp w' B v' (L ++ M) ∧ w.grownBy w' v.ownBlock ∧ (v' = .slice none 0 0 ↔ v = .slice none 0 0 ∧ m = 0) := by
  obtain ⟨i0, hi, hz0, hz1, hz2⟩ := info_parts info_up
  have hsrc : ∀ j u, (upcs M)[j]? = some u → w.cell? (x.add j) = some u := by
    intro j u hj
    rcases hM with rfl | ⟨g, o, e, hr⟩
    · simp [upcs] at hj
    · cases e
      rw [Addr.add_lit]
      exact hr.cells j u hj
  obtain ⟨v', w', h1, h2, h3, h4⟩ := run_append_own (P := Try.prog) w B 43 ty 106 i0 (.agg Up.zero.cs) 22 64 Try.underlying43 hi hz0 hz1 hz2 (Up.size _) (by decide) v L.length (upcs L) h x m c (upcs M) (by rw [upcs_len, hm]) hsrc (upcs_all M) (by unfold maxLen; omega) (by omega) hB
  refine ⟨v', w', h1, ?_, h3, h4⟩
  show w'.ownsRow B _ 22 v' (L ++ M).length (upcs (L ++ M))
  rw [List.length_append, hm, upcs_append]
  exact h2

/-! ### Rows copied into a block -/
def upcopySem (ty : TypeId) (args : Array Value) : Sem Value := Builtin.copy_ #[43, 43] ty args
theorem upcopy_rule (ty : TypeId) (args : Array Value) : Builtin.copy_ #[43, 43] ty args = upcopySem ty args := rfl
theorem upcopy_run {w : World} {g o : Nat} {a : Addr} {cur : Array Value} {cs : List Value} {n dl sl : Nat} (ty : TypeId) (dc sc : Nat) (hg : Blk w g 106 cur) (hn : Nat.min sl dl = n) (hcs : cs.length = n * 22) (hcur : o + n * 22 ≤ cur.size)
    (hsrc : ∀ j v, cs[j]? = some v → w.cell? (a.add j) = some v) (hone : ∀ v ∈ cs, v.oneCell' = true) :
    (upcopySem ty #[.slice (some ⟨g, o, none⟩) dl dc, .slice (some a) sl sc]).run Try.prog w = .ok (.int .i64 (n : Int)) (w.setRow g (layC o cs cur.toList).toArray) := by
  have hl := run_loadCells_list (P := Try.prog) w a cs hsrc
  have hst := run_storeCells_at Try.prog g o 106 cs 0 cur w hg (by omega) hone
  obtain ⟨i0, hi, hz0, hz1, hz2⟩ := info_parts info_up
  rw [hcs] at hl
  rw [Nat.add_zero] at hst
  unfold upcopySem layC
  simp [Builtin.copy_, run_underlying Try.underlying43, Builtin.lenOf, Builtin.firstCells, sizeOf, typeInfo, hi, hz1, hn, hl, hst]
  rfl

theorem UpAt.spot {w : World} {a : Option Addr} {L : List Up} (h : UpAt w a L) {i : Nat} (hi : i < L.length) : ∃ g o, a = some ⟨g, o, none⟩ ∧ Ups w g o L := by
  rcases h with rfl | h
  · simp at hi
  · exact h
end Go.Proofs.Ytkoenconjldojaa
namespace Go.Proofs.Ytkoenconjldojaa
open Go.RowKit Go.Shelf
set_option linter.unusedVariables false
set_option linter.unusedSimpArgs false
set_option maxRecDepth 100000
/-- An entry as it stands in memory (where its updates lie, how many), and what its updates are. -/
structure En where
  ep : Int
  cl : Int
  sq : Int
  a : Option Addr
  n : Nat
  c : Nat
  U : List Up
def En.cs (r : En) : Array Value := #[.int .u64 r.ep, .int .i64 r.cl, .int .u32 r.sq, .slice r.a r.n r.c]
def En.zero : En := ⟨0, 0, 0, none, 0, 0, []⟩
theorem En.size (r : En) : r.cs.size = 4 := rfl
theorem En.one (r : En) : r.cs.all (·.oneCell') = true := by simp [En.cs, Value.oneCell']
theorem En.q0 (r : En) : r.cs[0]? = some (.int .u64 r.ep) := rfl
theorem En.q1 (r : En) : r.cs[1]? = some (.int .i64 r.cl) := rfl
theorem En.q2 (r : En) : r.cs[2]? = some (.int .u32 r.sq) := rfl
theorem En.q3 (r : En) : r.cs[3]? = some (.slice r.a r.n r.c) := rfl
def eng (L : List En) (i : Nat) : En := L.getD i En.zero
theorem eng_get {L : List En} {i : Nat} (h : i < L.length) : eng L i = L[i] := by simp [eng, h]
theorem eng_some {L : List En} {i : Nat} (h : i < L.length) : L[i]? = some (eng L i) := by simp [eng, h]
theorem eng_mem {L : List En} {i : Nat} (h : i < L.length) : eng L i ∈ L := by rw [eng_get h]; exact List.getElem_mem h
theorem z_en : (Try.prog.info? 92).map (fun i => (i.zero, i.size)) = some (some (.agg En.zero.cs), 4) := by kernel_rfl
theorem s_en (r : En) : (Try.prog.info? 92).map (·.size) = some r.cs.size := by rw [r.size]; exact (zero_of_info z_en).2
theorem load_en_rule (v : Value) : Instr.loadAt 92 v = loadSem 92 v := rfl
theorem store_en_rule (v x : Value) : Instr.storeAt 92 v x = storeSem 92 v x := rfl

/-- Rows lie in a block from a place on. -/
structure Ens (w : World) (g o : Nat) (L : List En) : Prop where
  lt : g < w.heap.size
  row : ∀ i, i < L.length → ∀ j, j < 4 → w.cell? ⟨g, o + i * 4 + j, none⟩ = (eng L i).cs[j]?
def EnAt (w : World) (a : Option Addr) (L : List En) : Prop := L = [] ∨ ∃ g o, a = some ⟨g, o, none⟩ ∧ Ens w g o L
theorem Ens.later {w w' : World} {g o : Nat} {L : List En} (h : Ens w g o L) (k : Below w.heap.size w w') : Ens w' g o L :=
  ⟨Nat.lt_of_lt_of_le h.lt k.size, fun i hi j hj => (k.cell (p := ⟨g, o + i * 4 + j, none⟩) h.lt).trans (h.row i hi j hj)⟩
theorem EnAt.later {w w' : World} {a : Option Addr} {L : List En} (h : EnAt w a L) (k : Below w.heap.size w w') : EnAt w' a L := by
  rcases h with h | ⟨g, o, h1, h2⟩
  · exact .inl h
  · exact .inr ⟨g, o, h1, h2.later k⟩
theorem Ens.load {w : World} {g o : Nat} {L : List En} (h : Ens w g o L) {i : Nat} (hi : i < L.length) : (loadSem 92 (.pointer (some ⟨g, o + i * 4, none⟩))).run Try.prog w = .ok (.agg (eng L i).cs) w :=
  run_loadAt_mid (P := Try.prog) w g (o + i * 4) 92 (eng L i).cs.toList _ (fun j v hj => by
    have hl : j < 4 := by rw [← (eng L i).size]; simpa using (List.getElem?_eq_some_iff.1 hj).1
    rw [h.row i hi j hl]; simpa using hj) Try.underlying92 rfl (by simpa using s_en (eng L i))
theorem en_r {W : World} {g : Nat} {r : En} (h : Blk W g 92 r.cs) : ∀ w', Below W.heap.size W w' → (loadSem 92 (.pointer (some ⟨g, 0, none⟩))).run Try.prog w' = .ok (.agg r.cs) w' :=
  fun w' k => loadRes_of (o := 0) (h.later k) (fun q _ => by rw [Nat.zero_add]) _ Try.underlying92 rfl (s_en r)
theorem st_en {w : World} {g : Nat} {p q : En} (h : Blk w g 92 p.cs) : (storeSem 92 (.pointer (some ⟨g, 0, none⟩)) (.agg q.cs)).run Try.prog w = .ok () (w.setRow g q.cs) := by
  have := storeRes_of (P := Try.prog) (ty := 92) (o := 0) (vs := q.cs) h (by rw [En.size, En.size]; omega) (s_en q) q.one
  rwa [over_all (by rw [En.size, En.size])] at this
def encs (L : List En) : List Value := L.flatMap (fun r => r.cs.toList)
theorem encs_nil : encs [] = [] := rfl
theorem encs_append (L M : List En) : encs (L ++ M) = encs L ++ encs M := by simp [encs]
theorem encs_one (r : En) : encs [r] = r.cs.toList := by simp [encs]
theorem encs_cons (r : En) (L : List En) : encs (r :: L) = r.cs.toList ++ encs L := by simp [encs]
theorem encs_len : ∀ L : List En, (encs L).length = L.length * 4
  | [] => rfl
  | r :: L => by rw [encs_cons, List.length_append, encs_len L]; simp [r.size]; omega
theorem encs_all (L : List En) : ∀ u ∈ encs L, u.oneCell' = true := fun u hu => by
  obtain ⟨r, _, h⟩ := List.mem_flatMap.1 hu
  exact Array.all_eq_true_iff_forall_mem.1 r.one u (by simpa using h)
theorem encs_get : ∀ (L : List En) {i j : Nat}, i < L.length → j < 4 → (encs L)[i * 4 + j]? = (eng L i).cs[j]?
  | [], i, j, h, _ => by simp at h
  | r :: L, 0, j, _, hj => by
    rw [encs_cons, Nat.zero_mul, Nat.zero_add, List.getElem?_append_left (by simp [r.size]; exact hj)]
    simp [eng]
  | r :: L, i + 1, j, h, hj => by
    rw [encs_cons, List.getElem?_append_right (by simp [r.size]; omega)]
    rw [show (i + 1) * 4 + j - r.cs.toList.length = i * 4 + j by simp [r.size]; omega, encs_get L (by simpa using h) hj]
    simp [eng]
theorem encs_take : ∀ (L : List En) (i : Nat), (encs L).take (i * 4) = encs (L.take i)
  | [], i => by simp [encs]
  | r :: L, 0 => by simp [encs]
  | r :: L, i + 1 => by
    rw [encs_cons, List.take_succ_cons, encs_cons, List.take_append, List.take_of_length_le (by simp [r.size]; omega)]
    rw [show (i + 1) * 4 - r.cs.toList.length = i * 4 by simp [r.size]; omega, encs_take L i]
theorem encs_drop : ∀ (L : List En) (i : Nat), (encs L).drop (i * 4) = encs (L.drop i)
  | [], i => by simp [encs]
  | r :: L, 0 => by simp [encs]
  | r :: L, i + 1 => by
    rw [encs_cons, List.drop_succ_cons, List.drop_append, List.drop_eq_nil_of_le (by simp [r.size]; omega), List.nil_append]
    rw [show (i + 1) * 4 - r.cs.toList.length = i * 4 by simp [r.size]; omega, encs_drop L i]
theorem enrow_cells (w : World) (g : Nat) (L : List En) (o : Nat) (hg : g < w.heap.size) (h : ∀ k u, (encs L)[k]? = some u → w.cell? ⟨g, o + k, none⟩ = some u) : Ens w g o L := by
  refine ⟨hg, fun i hi j hj => ?_⟩
  have h1 := encs_get L hi hj
  have h2 : j < (eng L i).cs.size := by rw [En.size]; exact hj
  rw [Array.getElem?_eq_getElem h2] at h1 ⊢
  rw [Nat.add_assoc]
  exact h _ _ h1
theorem Ens.cells {w : World} {g o : Nat} {L : List En} (h : Ens w g o L) : ∀ k u, (encs L)[k]? = some u → w.cell? ⟨g, o + k, none⟩ = some u := by
  intro k u hk
  have hl : k < L.length * 4 := by rw [← encs_len]; exact (List.getElem?_eq_some_iff.1 hk).1
  have e := encs_get L (i := k / 4) (j := k % 4) (by omega) (by omega)
  rw [show k / 4 * 4 + k % 4 = k by omega] at e
  have h1 := h.row (k / 4) (by omega) (k % 4) (by omega)
  rw [← e, hk, Nat.add_assoc, show k / 4 * 4 + k % 4 = k by omega] at h1
  exact h1

/-- Rows that a call owns, from block B on. -/
abbrev OwnEn (w : World) (B : Nat) (v : Value) (L : List En) : Prop := w.ownsRow B 92 4 v L.length (encs L)
theorem OwnEn.lies {w : World} {B : Nat} {v : Value} {L : List En} (h : OwnEn w B v L) : ∃ a c, v = .slice a L.length c ∧ L.length ≤ c ∧ c ≤ maxLen ∧ EnAt w a L ∧ ∀ x, a = some x → B ≤ x.block := by
  rcases h.2 with ⟨rfl, h0⟩ | ⟨g, cap, cur, rfl, hb, hg, hc, hm, hs, ht⟩
  · have : L = [] := List.eq_nil_of_length_eq_zero h0
    subst this
    exact ⟨none, 0, rfl, by simp, by unfold maxLen; omega, .inl rfl, fun x hx => by cases hx⟩
  · refine ⟨_, cap, rfl, hc, hm, .inr ⟨g, 0, rfl, enrow_cells w g L 0 (Array.getElem?_eq_some_iff.1 hg).1 fun k u hk => ?_⟩, fun x hx => by cases hx; exact hb⟩
    rw [Nat.zero_add, cell_of_row w g k cur _ _ hg, ← Array.getElem?_toList]
    have hl : k < L.length * 4 := by rw [← encs_len]; exact (List.getElem?_eq_some_iff.1 hk).1
    rw [← ht, List.getElem?_take, if_pos hl] at hk
    exact hk
theorem info_en : (Try.prog.info? 92).map (fun i => (i.zero, i.size, i.bytes)) = some (some (.agg En.zero.cs), 4, 48) := by kernel_rfl

/-! ### Nothing built, appended to -/
def enbuildSem (n : Nat) (parts : Array (Nat × Value)) : Sem Value := Instr.buildSlice 34 n parts
theorem enbuild_rule (n : Nat) (parts : Array (Nat × Value)) : Instr.buildSlice 34 n parts = enbuildSem n parts := rfl
theorem enbuild0_run (w : World) : (enbuildSem 0 #[]).run Try.prog w = .ok (.slice (some ⟨w.heap.size, 0, none⟩) 0 0) (w.alloc (.cells #[] 92)) := by
  have hu := run_underlying (P := Try.prog) Try.underlying34 w
  have hz := (zero_of_info z_en).1 w
  unfold enbuildSem Instr.buildSlice
  simp only [Sem.run_bind, hu, Result.andThen_ok]
  go_simp
def enappSem (ty : TypeId) (args : Array Value) : Sem Value := Builtin.append_ #[34, 34] ty args
theorem enapp_rule (ty : TypeId) (args : Array Value) : Builtin.append_ #[34, 34] ty args = enappSem ty args := rfl
theorem enown0 (w : World) (B : Nat) (hB : B ≤ w.heap.size) : OwnEn (w.alloc (.cells #[] 92)) B (.slice (some ⟨w.heap.size, 0, none⟩) 0 0) [] :=
  ⟨rfl, .inr ⟨_, 0, #[], rfl, hB, heap_alloc_new w _, Nat.le_refl _, by simp, rfl, rfl⟩⟩
/-- Rows that lie anywhere are appended to rows that a call owns. -/
theorem enapp_run {w : World} (ty : TypeId) {B : Nat} {v : Value} {L M : List En} {x : Addr} {m c : Nat} (h : OwnEn w B v L) (hm : M.length = m) (hM : EnAt w (some x) M) (hs : L.length + m ≤ 1000000) (hB : B ≤ w.heap.size) :
    ∃ v' w', (enappSem ty #[v, .slice (some x) m c]).run Try.prog w = .ok v' w' ∧ OwnEn w' B v' (L ++ M) ∧ w.grownBy w' v.ownBlock ∧ (v' = .slice none 0 0 ↔ v = .slice none 0 0 ∧ m = 0) := by
  obtain ⟨i0, hi, hz0, hz1, hz2⟩ := info_parts info_en
  have hsrc : ∀ j u, (encs M)[j]? = some u → w.cell? (x.add j) = some u := by
    intro j u hj
    rcases hM with rfl | ⟨g, o, e, hr⟩
    · simp [encs] at hj
    · cases e
      rw [Addr.add_lit]
      exact hr.cells j u hj
  obtain ⟨v', w', h1, h2, h3, h4⟩ := run_append_own (P := Try.prog) w B 34 ty 92 i0 (.agg En.zero.cs) 4 48 Try.underlying34 hi hz0 hz1 hz2 (En.size _) (by decide) v L.length (encs L) h x m c (encs M) (by rw [encs_len, hm]) hsrc (encs_all M) (by unfold maxLen; omega) (by omega) hB
  refine ⟨v', w', h1, ?_, h3, h4⟩
  show w'.ownsRow B _ 4 v' (L ++ M).length (encs (L ++ M))
  rw [List.length_append, hm, encs_append]
  exact h2

/-! ### Rows copied into a block -/
def encopySem (ty : TypeId) (args : Array Value) : Sem Value := Builtin.copy_ #[34, 34] ty args
theorem encopy_rule (ty : TypeId) (args : Array Value) : Builtin.copy_ #[34, 34] ty args = encopySem ty args := rfl
theorem encopy_run {w : World} {g o : Nat} {a : Addr} {cur : Array Value} {cs : List Value} {n dl sl : Nat} (ty : TypeId) (dc sc : Nat) (hg : Blk w g 92 cur) (hn : Nat.min sl dl = n) (hcs : cs.length = n * 4) (hcur : o + n * 4 ≤ cur.size)
    (hsrc : ∀ j v, cs[j]? = some v → w.cell? (a.add j) = some v) (hone : ∀ v ∈ cs, v.oneCell' = true) :
    (encopySem ty #[.slice (some ⟨g, o, none⟩) dl dc, .slice (some a) sl sc]).run Try.prog w = .ok (.int .i64 (n : Int)) (w.setRow g (layC o cs cur.toList).toArray) := by
  have hl := run_loadCells_list (P := Try.prog) w a cs hsrc
  have hst := run_storeCells_at Try.prog g o 92 cs 0 cur w hg (by omega) hone
  obtain ⟨i0, hi, hz0, hz1, hz2⟩ := info_parts info_en
  rw [hcs] at hl
  rw [Nat.add_zero] at hst
  unfold encopySem layC
  simp [Builtin.copy_, run_underlying Try.underlying34, Builtin.lenOf, Builtin.firstCells, sizeOf, typeInfo, hi, hz1, hn, hl, hst]
  rfl

theorem eql_nil_en (a : Option Addr) (l c : Nat) (w : World) : (binOp .eql 34 (.slice a l c) (.slice none 0 0)).run Try.prog w = .ok (.bool a.isNone) w :=
  Lib.run_eql_slice_nil w _ _ a l c 0 0 Try.underlying34
attribute [local go_sem ↓] enbuild_rule enapp_rule encopy_rule
set_option maxHeartbeats 1000000 in
theorem enclone_any (a : Option Addr) (n c : Nat) (L : List En) (w : World) (hn : L.length = n) (hs : n ≤ 1000) (hR : EnAt w a L) (h0 : a = none → c = 0) :
    Calls Try.prog 48 #[.slice a n c] w fun e w' => ∃ v, e = .returned v ∧ OwnEn w' w.heap.size v L ∧ Below w.heap.size w w' := by
  cases a with
  | none =>
    obtain rfl : L = [] := by
      rcases hR with h | ⟨g, o, h, _⟩
      · exact h
      · cases h
    obtain rfl := h0 rfl
    obtain rfl : n = 0 := hn.symm
    have hq := fun w => eql_nil_en none 0 0 w
    simp only [Option.isNone_none] at hq
    go_enter Try.func48, Try.ntmps48
    go_wp2
    go_ret
    exact ⟨_, rfl, World.ownsRow_nil _ _ _ _, Below.refl _ _⟩
  | some x =>
    have hq := fun w => eql_nil_en (some x) n c w
    simp only [Option.isNone_some] at hq
    have hb1 : Below w.heap.size w (w.alloc (.cells #[] 92)) := (Below.refl _ _).alloc (Nat.le_refl _) _
    obtain ⟨v', w', hrun, hown, hgr, _⟩ := enapp_run (c := c) 34 (enown0 w w.heap.size (Nat.le_refl _)) hn (hR.later hb1) (by simp; omega) (by simp)
    have hbs := fun w => enbuild0_run w
    have HE := Lib.hid (And.intro hown (hb1.grown hgr (by simp) (fun k hk => by cases hk; exact Nat.le_refl _)))
    clear hown hgr hb1 hR
    go_enter Try.func48, Try.ntmps48
    go_wp2
    go_ret
    exact ⟨_, rfl, by simpa using HE.out.1, HE.out.2⟩
theorem EnAt.spot {w : World} {a : Option Addr} {L : List En} (h : EnAt w a L) {i : Nat} (hi : i < L.length) : ∃ g o, a = some ⟨g, o, none⟩ ∧ Ens w g o L := by
  rcases h with rfl | h
  · simp at hi
  · exact h

theorem Ens.c0 {w : World} {g o : Nat} {L : List En} (h : Ens w g o L) {i : Nat} (hi : i < L.length) : w.cell? ⟨g, o + i * 4, none⟩ = some (.int .u64 (eng L i).ep) := (h.row i hi 0 (by omega)).trans (eng L i).q0
theorem Ens.c1 {w : World} {g o : Nat} {L : List En} (h : Ens w g o L) {i : Nat} (hi : i < L.length) : w.cell? ⟨g, o + i * 4 + 1, none⟩ = some (.int .i64 (eng L i).cl) := (h.row i hi 1 (by omega)).trans (eng L i).q1
theorem Ens.c2 {w : World} {g o : Nat} {L : List En} (h : Ens w g o L) {i : Nat} (hi : i < L.length) : w.cell? ⟨g, o + i * 4 + 2, none⟩ = some (.int .u32 (eng L i).sq) := (h.row i hi 2 (by omega)).trans (eng L i).q2
theorem Ens.c3 {w : World} {g o : Nat} {L : List En} (h : Ens w g o L) {i : Nat} (hi : i < L.length) : w.cell? ⟨g, o + i * 4 + 3, none⟩ = some (.slice (eng L i).a (eng L i).n (eng L i).c) := (h.row i hi 3 (by omega)).trans (eng L i).q3
theorem eql_nil_up (a : Option Addr) (l c : Nat) (w : World) : (binOp .eql 43 (.slice a l c) (.slice none 0 0)).run Try.prog w = .ok (.bool a.isNone) w :=
  Lib.run_eql_slice_nil w _ _ a l c 0 0 Try.underlying43
attribute [local go_sem ↓] upbuild_rule upapp_rule upcopy_rule
set_option maxHeartbeats 1000000 in
theorem upclone_any (a : Option Addr) (n c : Nat) (L : List Up) (w : World) (hn : L.length = n) (hs : n ≤ 1000) (hR : UpAt w a L) (h0 : a = none → c = 0) :
    Calls Try.prog 53 #[.slice a n c] w fun e w' => ∃ v, e = .returned v ∧ OwnUp w' w.heap.size v L ∧ Below w.heap.size w w' := by
  cases a with
  | none =>
    obtain rfl : L = [] := by
      rcases hR with h | ⟨g, o, h, _⟩
      · exact h
      · cases h
    obtain rfl := h0 rfl
    obtain rfl : n = 0 := hn.symm
    have hq := fun w => eql_nil_up none 0 0 w
    simp only [Option.isNone_none] at hq
    go_enter Try.func53, Try.ntmps53
    go_wp2
    go_ret
    exact ⟨_, rfl, World.ownsRow_nil _ _ _ _, Below.refl _ _⟩
  | some x =>
    have hq := fun w => eql_nil_up (some x) n c w
    simp only [Option.isNone_some] at hq
    have hb1 : Below w.heap.size w (w.alloc (.cells #[] 106)) := (Below.refl _ _).alloc (Nat.le_refl _) _
    obtain ⟨v', w', hrun, hown, hgr, _⟩ := upapp_run (c := c) 43 (upown0 w w.heap.size (Nat.le_refl _)) hn (hR.later hb1) (by simp; omega) (by simp)
    have hbs := fun w => upbuild0_run w
    have HE := Lib.hid (And.intro hown (hb1.grown hgr (by simp) (fun k hk => by cases hk; exact Nat.le_refl _)))
    clear hown hgr hb1 hR
    go_enter Try.func53, Try.ntmps53
    go_wp2
    go_ret
    exact ⟨_, rfl, by simpa using HE.out.1, HE.out.2⟩
end Go.Proofs.Ytkoenconjldojaa
