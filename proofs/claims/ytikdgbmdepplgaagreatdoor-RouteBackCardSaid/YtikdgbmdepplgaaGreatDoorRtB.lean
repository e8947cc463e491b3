/-
  Updates: as cells, in rows that lie somewhere, in rows that a call owns. Nothing here is a statement of the document.
-/
import Derived.Test.YtikdgbmdepplgaaGreatDoorTbS
namespace Go.Proofs.YtikdgbmdepplgaaGreatDoor
open Go.RowKit Go.Shelf
set_option linter.unusedVariables false
set_option maxRecDepth 100000
structure Ro where
  p : Px
  s : Int
  f : Int
  h : Int
def Ro.cs (r : Ro) : Array Value := r.p.cs ++ #[.int .i64 r.s, .int .i64 r.f, .int .i64 r.h]
def Ro.zero : Ro := ⟨Px.zero, 0, 0, 0⟩
theorem Ro.size (r : Ro) : r.cs.size = 21 := by simp [Ro.cs, r.p.size]
theorem Ro.one (r : Ro) : r.cs.all (·.oneCell') = true := by
  have := r.p.one
  rw [Array.all_eq_true_iff_forall_mem] at this ⊢
  intro v hv
  rcases Array.mem_append.1 hv with h | h
  · exact this v h
  · simp only [List.mem_toArray, List.mem_cons, List.not_mem_nil, or_false] at h
    rcases h with rfl | rfl | rfl <;> rfl
theorem Ro.cp (r : Ro) (j : Nat) (h : j < 18) : r.cs[j]? = r.p.cs[j]? := by
  unfold Ro.cs
  rw [Array.getElem?_append_left (by rw [Px.size]; exact h)]
theorem Ro.qs (r : Ro) : r.cs[18]? = some (.int .i64 r.s) := by
  unfold Ro.cs
  rw [Array.getElem?_append_right (by rw [Px.size]; omega)]
  simp [Px.size]
theorem Ro.qf (r : Ro) : r.cs[19]? = some (.int .i64 r.f) := by
  unfold Ro.cs
  rw [Array.getElem?_append_right (by rw [Px.size]; omega)]
  simp [Px.size]
theorem Ro.qh (r : Ro) : r.cs[20]? = some (.int .i64 r.h) := by
  unfold Ro.cs
  rw [Array.getElem?_append_right (by rw [Px.size]; omega)]
  simp [Px.size]
theorem Ro.same {x y : Ro} : x = y ↔ x.p = y.p ∧ x.s = y.s ∧ x.f = y.f ∧ x.h = y.h := by
  obtain ⟨p, x1, x2, x3⟩ := x
  obtain ⟨q, y1, y2, y3⟩ := y
  simp
noncomputable instance : DecidableEq Ro := fun _ _ => Classical.propDecidable _
def rog (L : List Ro) (i : Nat) : Ro := L.getD i Ro.zero
theorem rog_get {L : List Ro} {i : Nat} (h : i < L.length) : rog L i = L[i] := by simp [rog, h]
theorem rog_some {L : List Ro} {i : Nat} (h : i < L.length) : L[i]? = some (rog L i) := by simp [rog, h]
theorem rog_mem {L : List Ro} {i : Nat} (h : i < L.length) : rog L i ∈ L := by rw [rog_get h]; exact List.getElem_mem h
theorem z_ro : (Tryz.prog.info? 50).map (fun i => (i.zero, i.size)) = some (some (.agg Ro.zero.cs), 21) := by kernel_rfl
theorem s_ro (r : Ro) : (Tryz.prog.info? 50).map (·.size) = some r.cs.size := by rw [r.size]; exact (zero_of_info z_ro).2
theorem load_ro_rule (v : Value) : Instr.loadAt 50 v = loadSem 50 v := rfl
theorem store_ro_rule (v x : Value) : Instr.storeAt 50 v x = storeSem 50 v x := rfl

/-- Rows lie in a block from a place on. -/
structure Ros (w : World) (g o : Nat) (L : List Ro) : Prop where
  lt : g < w.heap.size
  row : ∀ i, i < L.length → ∀ j, j < 21 → w.cell? ⟨g, o + i * 21 + j, none⟩ = (rog L i).cs[j]?
def RoAt (w : World) (a : Option Addr) (L : List Ro) : Prop := L = [] ∨ ∃ g o, a = some ⟨g, o, none⟩ ∧ Ros w g o L
theorem Ros.later {w w' : World} {g o : Nat} {L : List Ro} (h : Ros w g o L) (k : Below w.heap.size w w') : Ros w' g o L :=
  ⟨Nat.lt_of_lt_of_le h.lt k.size, fun i hi j hj => (k.cell (p := ⟨g, o + i * 21 + j, none⟩) h.lt).trans (h.row i hi j hj)⟩
theorem RoAt.later {w w' : World} {a : Option Addr} {L : List Ro} (h : RoAt w a L) (k : Below w.heap.size w w') : RoAt w' a L := by
  rcases h with h | ⟨g, o, h1, h2⟩
  · exact .inl h
  · exact .inr ⟨g, o, h1, h2.later k⟩
theorem Ros.load {w : World} {g o : Nat} {L : List Ro} (h : Ros w g o L) {i : Nat} (hi : i < L.length) : (loadSem 50 (.pointer (some ⟨g, o + i * 21, none⟩))).run Tryz.prog w = .ok (.agg (rog L i).cs) w :=
  run_loadAt_mid (P := Tryz.prog) w g (o + i * 21) 50 (rog L i).cs.toList _ (fun j v hj => by
    have hl : j < 21 := by rw [← (rog L i).size]; simpa using (List.getElem?_eq_some_iff.1 hj).1
    rw [h.row i hi j hl]; simpa using hj) Tryz.underlying50 rfl (by simpa using s_ro (rog L i))
theorem Ros.loadp {w : World} {g o : Nat} {L : List Ro} (h : Ros w g o L) {i : Nat} (hi : i < L.length) : (loadSem 46 (.pointer (some ⟨g, o + i * 21, none⟩))).run Tryz.prog w = .ok (.agg (rog L i).p.cs) w :=
  run_loadAt_mid (P := Tryz.prog) w g (o + i * 21) 46 (rog L i).p.cs.toList _ (fun j v hj => by
    have hl : j < 18 := by rw [← (rog L i).p.size]; simpa using (List.getElem?_eq_some_iff.1 hj).1
    rw [h.row i hi j (by omega), (rog L i).cp j hl]; simpa using hj) Tryz.underlying46 rfl (by simpa using s_px (rog L i).p)
theorem ro_r {W : World} {g : Nat} {r : Ro} (h : Blk W g 50 r.cs) : ∀ w', Below W.heap.size W w' → (loadSem 50 (.pointer (some ⟨g, 0, none⟩))).run Tryz.prog w' = .ok (.agg r.cs) w' :=
  fun w' k => loadRes_of (o := 0) (h.later k) (fun q _ => by rw [Nat.zero_add]) _ Tryz.underlying50 rfl (s_ro r)
theorem ro_p {W : World} {g : Nat} {r : Ro} (h : Blk W g 50 r.cs) : ∀ w', Below W.heap.size W w' → (loadSem 46 (.pointer (some ⟨g, 0, none⟩))).run Tryz.prog w' = .ok (.agg r.p.cs) w' :=
  fun w' k => loadRes_of (o := 0) (h.later k) (fun q hq => by rw [Nat.zero_add]; exact r.cp q (by rw [Px.size] at hq; exact hq)) _ Tryz.underlying46 rfl (s_px r.p)

theorem st_ro {w : World} {g : Nat} {p q : Ro} (h : Blk w g 50 p.cs) : (storeSem 50 (.pointer (some ⟨g, 0, none⟩)) (.agg q.cs)).run Tryz.prog w = .ok () (w.setRow g q.cs) := by
  have := storeRes_of (P := Tryz.prog) (ty := 50) (o := 0) (vs := q.cs) h (by rw [Ro.size, Ro.size]; omega) (s_ro q) q.one
  rwa [over_all (by rw [Ro.size, Ro.size])] at this
theorem ro_s {W : World} {g : Nat} {r : Ro} (h : Blk W g 50 r.cs) : ∀ w', Below W.heap.size W w' → w'.cell? ⟨g, 18, none⟩ = some (.int .i64 r.s) :=
  fun w' k => ((h.later k).cell 18).trans r.qs
theorem Ros.s {w : World} {g o : Nat} {L : List Ro} (h : Ros w g o L) {i : Nat} (hi : i < L.length) : w.cell? ⟨g, o + i * 21 + 18, none⟩ = some (.int .i64 (rog L i).s) := (h.row i hi 18 (by omega)).trans (rog L i).qs
theorem ro_f {W : World} {g : Nat} {r : Ro} (h : Blk W g 50 r.cs) : ∀ w', Below W.heap.size W w' → w'.cell? ⟨g, 19, none⟩ = some (.int .i64 r.f) :=
  fun w' k => ((h.later k).cell 19).trans r.qf
theorem Ros.f {w : World} {g o : Nat} {L : List Ro} (h : Ros w g o L) {i : Nat} (hi : i < L.length) : w.cell? ⟨g, o + i * 21 + 19, none⟩ = some (.int .i64 (rog L i).f) := (h.row i hi 19 (by omega)).trans (rog L i).qf
theorem ro_h {W : World} {g : Nat} {r : Ro} (h : Blk W g 50 r.cs) : ∀ w', Below W.heap.size W w' → w'.cell? ⟨g, 20, none⟩ = some (.int .i64 r.h) :=
  fun w' k => ((h.later k).cell 20).trans r.qh
theorem Ros.h {w : World} {g o : Nat} {L : List Ro} (h : Ros w g o L) {i : Nat} (hi : i < L.length) : w.cell? ⟨g, o + i * 21 + 20, none⟩ = some (.int .i64 (rog L i).h) := (h.row i hi 20 (by omega)).trans (rog L i).qh
def rocs (L : List Ro) : List Value := L.flatMap (fun r => r.cs.toList)
theorem rocs_nil : rocs [] = [] := rfl
theorem rocs_append (L M : List Ro) : rocs (L ++ M) = rocs L ++ rocs M := by simp [rocs]
theorem rocs_one (r : Ro) : rocs [r] = r.cs.toList := by simp [rocs]
theorem rocs_cons (r : Ro) (L : List Ro) : rocs (r :: L) = r.cs.toList ++ rocs L := by simp [rocs]
theorem rocs_len : ∀ L : List Ro, (rocs L).length = L.length * 21
  | [] => rfl
  | r :: L => by rw [rocs_cons, List.length_append, rocs_len L]; simp [r.size]; omega
theorem rocs_all (L : List Ro) : ∀ u ∈ rocs L, u.oneCell' = true := fun u hu => by
  obtain ⟨r, _, h⟩ := List.mem_flatMap.1 hu
  exact Array.all_eq_true_iff_forall_mem.1 r.one u (by simpa using h)
theorem rocs_get : ∀ (L : List Ro) {i j : Nat}, i < L.length → j < 21 → (rocs L)[i * 21 + j]? = (rog L i).cs[j]?
  | [], i, j, h, _ => by simp at h
  | r :: L, 0, j, _, hj => by
    rw [rocs_cons, Nat.zero_mul, Nat.zero_add, List.getElem?_append_left (by simp [r.size]; exact hj)]
    simp [rog]
  | r :: L, i + 1, j, h, hj => by
    rw [rocs_cons, List.getElem?_append_right (by simp [r.size]; omega)]
    rw [show (i + 1) * 21 + j - r.cs.toList.length = i * 21 + j by simp [r.size]; omega, rocs_get L (by simpa using h) hj]
    simp [rog]
theorem rocs_take : ∀ (L : List Ro) (i : Nat), (rocs L).take (i * 21) = rocs (L.take i)
  | [], i => by simp [rocs]
  | r :: L, 0 => by simp [rocs]
  | r :: L, i + 1 => by
    rw [rocs_cons, List.take_succ_cons, rocs_cons, List.take_append, List.take_of_length_le (by simp [r.size]; omega)]
    rw [show (i + 1) * 21 - r.cs.toList.length = i * 21 by simp [r.size]; omega, rocs_take L i]
theorem rocs_drop : ∀ (L : List Ro) (i : Nat), (rocs L).drop (i * 21) = rocs (L.drop i)
  | [], i => by simp [rocs]
  | r :: L, 0 => by simp [rocs]
  | r :: L, i + 1 => by
    rw [rocs_cons, List.drop_succ_cons, List.drop_append, List.drop_eq_nil_of_le (by simp [r.size]; omega), List.nil_append]
    rw [show (i + 1) * 21 - r.cs.toList.length = i * 21 by simp [r.size]; omega, rocs_drop L i]
theorem rorow_cells (w : World) (g : Nat) (L : List Ro) (o : Nat) (hg : g < w.heap.size) (h : ∀ k u, (rocs L)[k]? = some u → w.cell? ⟨g, o + k, none⟩ = some u) : Ros w g o L := by
  refine ⟨hg, fun i hi j hj => ?_⟩
  have h1 := rocs_get L hi hj
  have h2 : j < (rog L i).cs.size := by rw [Ro.size]; exact hj
  rw [Array.getElem?_eq_getElem h2] at h1 ⊢
  rw [Nat.add_assoc]
  exact h _ _ h1
theorem Ros.cells {w : World} {g o : Nat} {L : List Ro} (h : Ros w g o L) : ∀ k u, (rocs L)[k]? = some u → w.cell? ⟨g, o + k, none⟩ = some u := by
  intro k u hk
  have hl : k < L.length * 21 := by rw [← rocs_len]; exact (List.getElem?_eq_some_iff.1 hk).1
  have e := rocs_get L (i := k / 21) (j := k % 21) (by omega) (by omega)
  rw [show k / 21 * 21 + k % 21 = k by omega] at e
  have h1 := h.row (k / 21) (by omega) (k % 21) (by omega)
  rw [← e, hk, Nat.add_assoc, show k / 21 * 21 + k % 21 = k by omega] at h1
  exact h1

/-- Rows that a call owns, from block B on. -/
abbrev OwnRo (w : World) (B : Nat) (v : Value) (L : List Ro) : Prop := w.ownsRow B 50 21 v L.length (rocs L)
theorem OwnRo.lies {w : World} {B : Nat} {v : Value} {L : List Ro} (h : OwnRo w B v L) : ∃ a c, v = .slice a L.length c ∧ L.length ≤ c ∧ c ≤ maxLen ∧ RoAt w a L ∧ ∀ x, a = some x → B ≤ x.block := by
  rcases h.2 with ⟨rfl, h0⟩ | ⟨g, cap, cur, rfl, hb, hg, hc, hm, hs, ht⟩
  · have : L = [] := List.eq_nil_of_length_eq_zero h0
    subst this
    exact ⟨none, 0, rfl, by simp, by unfold maxLen; omega, .inl rfl, fun x hx => by cases hx⟩
  · refine ⟨_, cap, rfl, hc, hm, .inr ⟨g, 0, rfl, rorow_cells w g L 0 (Array.getElem?_eq_some_iff.1 hg).1 fun k u hk => ?_⟩, fun x hx => by cases hx; exact hb⟩
    rw [Nat.zero_add, cell_of_row w g k cur _ _ hg, ← Array.getElem?_toList]
    have hl : k < L.length * 21 := by rw [← rocs_len]; exact (List.getElem?_eq_some_iff.1 hk).1
    rw [← ht, List.getElem?_take, if_pos hl] at hk
    exact hk
theorem info_ro : (Tryz.prog.info? 50).map (fun i => (i.zero, i.size, i.bytes)) = some (some (.agg Ro.zero.cs), 21, 56) := by kernel_rfl

/-! ### Nothing built, appended to -/
def robuildSem (n : Nat) (parts : Array (Nat × Value)) : Sem Value := Instr.buildSlice 22 n parts
theorem robuild_rule (n : Nat) (parts : Array (Nat × Value)) : Instr.buildSlice 22 n parts = robuildSem n parts := rfl
theorem robuild0_run (w : World) : (robuildSem 0 #[]).run Tryz.prog w = .ok (.slice (some ⟨w.heap.size, 0, none⟩) 0 0) (w.alloc (.cells #[] 50)) := by
  have hu := run_underlying (P := Tryz.prog) Tryz.underlying22 w
  have hz := (zero_of_info z_ro).1 w
  unfold robuildSem Instr.buildSlice
  simp only [Sem.run_bind, hu, Result.andThen_ok]
  go_simp
def roappSem (ty : TypeId) (args : Array Value) : Sem Value := Builtin.append_ #[22, 22] ty args
theorem roapp_rule (ty : TypeId) (args : Array Value) : Builtin.append_ #[22, 22] ty args = roappSem ty args := rfl
theorem roown0 (w : World) (B : Nat) (hB : B ≤ w.heap.size) : OwnRo (w.alloc (.cells #[] 50)) B (.slice (some ⟨w.heap.size, 0, none⟩) 0 0) [] :=
  ⟨rfl, .inr ⟨_, 0, #[], rfl, hB, heap_alloc_new w _, Nat.le_refl _, by simp, rfl, rfl⟩⟩
/-- Rows that lie anywhere are appended to rows that a call owns. -/
theorem roapp_run {w : World} (ty : TypeId) {B : Nat} {v : Value} {L M : List Ro} {x : Addr} {m c : Nat} (h : OwnRo w B v L) (hm : M.length = m) (hM : RoAt w (some x) M) (hs : L.length + m ≤ 1000000) (hB : B ≤ w.heap.size) :
    ∃ v' w', (roappSem ty #[v, .slice (some x) m c]).run Tryz.prog w = .ok v' w' ∧ OwnRo w' B v' (L ++ M) ∧ w.grownBy w' v.ownBlock ∧ (v' = .slice none 0 0 ↔ v = .slice none 0 0 ∧ m = 0) := by
  obtain ⟨i0, hi, hz0, hz1, hz2⟩ := info_parts info_ro
  have hsrc : ∀ j u, (rocs M)[j]? = some u → w.cell? (x.add j) = some u := by
    intro j u hj
    rcases hM with rfl | ⟨g, o, e, hr⟩
    · simp [rocs] at hj
    · cases e
      rw [Addr.add_lit]
      exact hr.cells j u hj
  obtain ⟨v', w', h1, h2, h3, h4⟩ := run_append_own (P := Tryz.prog) w B 22 ty 50 i0 (.agg Ro.zero.cs) 21 56 Tryz.underlying22 hi hz0 hz1 hz2 (Ro.size _) (by decide) v L.length (rocs L) h x m c (rocs M) (by rw [rocs_len, hm]) hsrc (rocs_all M) (by unfold maxLen; omega) (by omega) hB
  refine ⟨v', w', h1, ?_, h3, h4⟩
  show w'.ownsRow B _ 21 v' (L ++ M).length (rocs (L ++ M))
  rw [List.length_append, hm, rocs_append]
  exact h2

/-! ### Rows copied into a block -/
def rocopySem (ty : TypeId) (args : Array Value) : Sem Value := Builtin.copy_ #[22, 22] ty args
theorem rocopy_rule (ty : TypeId) (args : Array Value) : Builtin.copy_ #[22, 22] ty args = rocopySem ty args := rfl
theorem rocopy_run {w : World} {g o : Nat} {a : Addr} {cur : Array Value} {cs : List Value} {n dl sl : Nat} (ty : TypeId) (dc sc : Nat) (hg : Blk w g 50 cur) (hn : Nat.min sl dl = n) (hcs : cs.length = n * 21) (hcur : o + n * 21 ≤ cur.size)
    (hsrc : ∀ j v, cs[j]? = some v → w.cell? (a.add j) = some v) (hone : ∀ v ∈ cs, v.oneCell' = true) :
    (rocopySem ty #[.slice (some ⟨g, o, none⟩) dl dc, .slice (some a) sl sc]).run Tryz.prog w = .ok (.int .i64 (n : Int)) (w.setRow g (layC o cs cur.toList).toArray) := by
  have hl := run_loadCells_list (P := Tryz.prog) w a cs hsrc
  have hst := run_storeCells_at Tryz.prog g o 50 cs 0 cur w hg (by omega) hone
  obtain ⟨i0, hi, hz0, hz1, hz2⟩ := info_parts info_ro
  rw [hcs] at hl
  rw [Nat.add_zero] at hst
  unfold rocopySem layC
  simp [Builtin.copy_, run_underlying Tryz.underlying22, Builtin.lenOf, Builtin.firstCells, sizeOf, typeInfo, hi, hz1, hn, hl, hst]
  rfl

theorem eql_nil_ro (a : Option Addr) (l c : Nat) (w : World) : (binOp .eql 22 (.slice a l c) (.slice none 0 0)).run Tryz.prog w = .ok (.bool a.isNone) w :=
  Lib.run_eql_slice_nil w _ _ a l c 0 0 Tryz.underlying22
attribute [local go_sem ↓] robuild_rule roapp_rule rocopy_rule
set_option maxHeartbeats 1000000 in
theorem roclone_any (a : Option Addr) (n c : Nat) (L : List Ro) (w : World) (hn : L.length = n) (hs : n ≤ 1000) (hR : RoAt w a L) (h0 : a = none → c = 0) :
    Calls Tryz.prog 29 #[.slice a n c] w fun e w' => ∃ v, e = .returned v ∧ OwnRo w' w.heap.size v L ∧ Below w.heap.size w w' := by
  cases a with
  | none =>
    obtain rfl : L = [] := by
      rcases hR with h | ⟨g, o, h, _⟩
      · exact h
      · cases h
    obtain rfl := h0 rfl
    obtain rfl : n = 0 := hn.symm
    have hq := fun w => eql_nil_ro none 0 0 w
    simp only [Option.isNone_none] at hq
    go_enter Tryz.func29, Tryz.ntmps29
    go_wp2
    go_ret
    exact ⟨_, rfl, World.ownsRow_nil _ _ _ _, Below.refl _ _⟩
  | some x =>
    have hq := fun w => eql_nil_ro (some x) n c w
    simp only [Option.isNone_some] at hq
    have hb1 : Below w.heap.size w (w.alloc (.cells #[] 50)) := (Below.refl _ _).alloc (Nat.le_refl _) _
    obtain ⟨v', w', hrun, hown, hgr, _⟩ := roapp_run (c := c) 22 (roown0 w w.heap.size (Nat.le_refl _)) hn (hR.later hb1) (by simp; omega) (by simp)
    have hbs := fun w => robuild0_run w
    have HE := Lib.hid (And.intro hown (hb1.grown hgr (by simp) (fun k hk => by cases hk; exact Nat.le_refl _)))
    clear hown hgr hb1 hR
    go_enter Tryz.func29, Tryz.ntmps29
    go_wp2
    go_ret
    exact ⟨_, rfl, by simpa using HE.out.1, HE.out.2⟩
end Go.Proofs.YtikdgbmdepplgaaGreatDoor
namespace Go.Proofs.YtikdgbmdepplgaaGreatDoor
open Go.RowKit Go.Shelf
set_option linter.unusedVariables false
set_option maxRecDepth 100000
structure Up where
  p : Px
  s : Int
  g : Bool
  f : Int
  h : Int
def Up.cs (r : Up) : Array Value := r.p.cs ++ #[.int .i64 r.s, .bool r.g, .int .i64 r.f, .int .i64 r.h]
def Up.zero : Up := ⟨Px.zero, 0, false, 0, 0⟩
theorem Up.size (r : Up) : r.cs.size = 22 := by simp [Up.cs, r.p.size]
theorem Up.one (r : Up) : r.cs.all (·.oneCell') = true := by
  have := r.p.one
  rw [Array.all_eq_true_iff_forall_mem] at this ⊢
  intro v hv
  rcases Array.mem_append.1 hv with h | h
  · exact this v h
  · simp only [List.mem_toArray, List.mem_cons, List.not_mem_nil, or_false] at h
    rcases h with rfl | rfl | rfl | rfl <;> rfl
theorem Up.cp (r : Up) (j : Nat) (h : j < 18) : r.cs[j]? = r.p.cs[j]? := by
  unfold Up.cs
  rw [Array.getElem?_append_left (by rw [Px.size]; exact h)]
theorem Up.qs (r : Up) : r.cs[18]? = some (.int .i64 r.s) := by
  unfold Up.cs
  rw [Array.getElem?_append_right (by rw [Px.size]; omega)]
  simp [Px.size]
theorem Up.qg (r : Up) : r.cs[19]? = some (.bool r.g) := by
  unfold Up.cs
  rw [Array.getElem?_append_right (by rw [Px.size]; omega)]
  simp [Px.size]
theorem Up.qf (r : Up) : r.cs[20]? = some (.int .i64 r.f) := by
  unfold Up.cs
  rw [Array.getElem?_append_right (by rw [Px.size]; omega)]
  simp [Px.size]
theorem Up.qh (r : Up) : r.cs[21]? = some (.int .i64 r.h) := by
  unfold Up.cs
  rw [Array.getElem?_append_right (by rw [Px.size]; omega)]
  simp [Px.size]
theorem Up.same {x y : Up} : x = y ↔ x.p = y.p ∧ x.s = y.s ∧ x.g = y.g ∧ x.f = y.f ∧ x.h = y.h := by
  obtain ⟨p, x1, x2, x3, x4⟩ := x
  obtain ⟨q, y1, y2, y3, y4⟩ := y
  simp
noncomputable instance : DecidableEq Up := fun _ _ => Classical.propDecidable _
def upg (L : List Up) (i : Nat) : Up := L.getD i Up.zero
theorem upg_get {L : List Up} {i : Nat} (h : i < L.length) : upg L i = L[i] := by simp [upg, h]
theorem upg_some {L : List Up} {i : Nat} (h : i < L.length) : L[i]? = some (upg L i) := by simp [upg, h]
theorem upg_mem {L : List Up} {i : Nat} (h : i < L.length) : upg L i ∈ L := by rw [upg_get h]; exact List.getElem_mem h
theorem z_up : (Tryz.prog.info? 48).map (fun i => (i.zero, i.size)) = some (some (.agg Up.zero.cs), 22) := by kernel_rfl
theorem s_up (r : Up) : (Tryz.prog.info? 48).map (·.size) = some r.cs.size := by rw [r.size]; exact (zero_of_info z_up).2
theorem load_up_rule (v : Value) : Instr.loadAt 48 v = loadSem 48 v := rfl
theorem store_up_rule (v x : Value) : Instr.storeAt 48 v x = storeSem 48 v x := rfl

/-- Rows lie in a block from a place on. -/
structure Ups (w : World) (g o : Nat) (L : List Up) : Prop where
  lt : g < w.heap.size
  row : ∀ i, i < L.length → ∀ j, j < 22 → w.cell? ⟨g, o + i * 22 + j, none⟩ = (upg L i).cs[j]?
def UpAt (w : World) (a : Option Addr) (L : List Up) : Prop := L = [] ∨ ∃ g o, a = some ⟨g, o, none⟩ ∧ Ups w g o L
theorem Ups.later {w w' : World} {g o : Nat} {L : List Up} (h : Ups w g o L) (k : Below w.heap.size w w') : Ups w' g o L :=
  ⟨Nat.lt_of_lt_of_le h.lt k.size, fun i hi j hj => (k.cell (p := ⟨g, o + i * 22 + j, none⟩) h.lt).trans (h.row i hi j hj)⟩
theorem UpAt.later {w w' : World} {a : Option Addr} {L : List Up} (h : UpAt w a L) (k : Below w.heap.size w w') : UpAt w' a L := by
  rcases h with h | ⟨g, o, h1, h2⟩
  · exact .inl h
  · exact .inr ⟨g, o, h1, h2.later k⟩
theorem Ups.load {w : World} {g o : Nat} {L : List Up} (h : Ups w g o L) {i : Nat} (hi : i < L.length) : (loadSem 48 (.pointer (some ⟨g, o + i * 22, none⟩))).run Tryz.prog w = .ok (.agg (upg L i).cs) w :=
  run_loadAt_mid (P := Tryz.prog) w g (o + i * 22) 48 (upg L i).cs.toList _ (fun j v hj => by
    have hl : j < 22 := by rw [← (upg L i).size]; simpa using (List.getElem?_eq_some_iff.1 hj).1
    rw [h.row i hi j hl]; simpa using hj) Tryz.underlying48 rfl (by simpa using s_up (upg L i))
theorem Ups.loadp {w : World} {g o : Nat} {L : List Up} (h : Ups w g o L) {i : Nat} (hi : i < L.length) : (loadSem 46 (.pointer (some ⟨g, o + i * 22, none⟩))).run Tryz.prog w = .ok (.agg (upg L i).p.cs) w :=
  run_loadAt_mid (P := Tryz.prog) w g (o + i * 22) 46 (upg L i).p.cs.toList _ (fun j v hj => by
    have hl : j < 18 := by rw [← (upg L i).p.size]; simpa using (List.getElem?_eq_some_iff.1 hj).1
    rw [h.row i hi j (by omega), (upg L i).cp j hl]; simpa using hj) Tryz.underlying46 rfl (by simpa using s_px (upg L i).p)
theorem up_r {W : World} {g : Nat} {r : Up} (h : Blk W g 48 r.cs) : ∀ w', Below W.heap.size W w' → (loadSem 48 (.pointer (some ⟨g, 0, none⟩))).run Tryz.prog w' = .ok (.agg r.cs) w' :=
  fun w' k => loadRes_of (o := 0) (h.later k) (fun q _ => by rw [Nat.zero_add]) _ Tryz.underlying48 rfl (s_up r)
theorem up_p {W : World} {g : Nat} {r : Up} (h : Blk W g 48 r.cs) : ∀ w', Below W.heap.size W w' → (loadSem 46 (.pointer (some ⟨g, 0, none⟩))).run Tryz.prog w' = .ok (.agg r.p.cs) w' :=
  fun w' k => loadRes_of (o := 0) (h.later k) (fun q hq => by rw [Nat.zero_add]; exact r.cp q (by rw [Px.size] at hq; exact hq)) _ Tryz.underlying46 rfl (s_px r.p)

theorem st_up {w : World} {g : Nat} {p q : Up} (h : Blk w g 48 p.cs) : (storeSem 48 (.pointer (some ⟨g, 0, none⟩)) (.agg q.cs)).run Tryz.prog w = .ok () (w.setRow g q.cs) := by
  have := storeRes_of (P := Tryz.prog) (ty := 48) (o := 0) (vs := q.cs) h (by rw [Up.size, Up.size]; omega) (s_up q) q.one
  rwa [over_all (by rw [Up.size, Up.size])] at this
theorem up_s {W : World} {g : Nat} {r : Up} (h : Blk W g 48 r.cs) : ∀ w', Below W.heap.size W w' → w'.cell? ⟨g, 18, none⟩ = some (.int .i64 r.s) :=
  fun w' k => ((h.later k).cell 18).trans r.qs
theorem Ups.s {w : World} {g o : Nat} {L : List Up} (h : Ups w g o L) {i : Nat} (hi : i < L.length) : w.cell? ⟨g, o + i * 22 + 18, none⟩ = some (.int .i64 (upg L i).s) := (h.row i hi 18 (by omega)).trans (upg L i).qs
theorem up_g {W : World} {g : Nat} {r : Up} (h : Blk W g 48 r.cs) : ∀ w', Below W.heap.size W w' → w'.cell? ⟨g, 19, none⟩ = some (.bool r.g) :=
  fun w' k => ((h.later k).cell 19).trans r.qg
theorem Ups.g {w : World} {g o : Nat} {L : List Up} (h : Ups w g o L) {i : Nat} (hi : i < L.length) : w.cell? ⟨g, o + i * 22 + 19, none⟩ = some (.bool (upg L i).g) := (h.row i hi 19 (by omega)).trans (upg L i).qg
theorem up_f {W : World} {g : Nat} {r : Up} (h : Blk W g 48 r.cs) : ∀ w', Below W.heap.size W w' → w'.cell? ⟨g, 20, none⟩ = some (.int .i64 r.f) :=
  fun w' k => ((h.later k).cell 20).trans r.qf
theorem Ups.f {w : World} {g o : Nat} {L : List Up} (h : Ups w g o L) {i : Nat} (hi : i < L.length) : w.cell? ⟨g, o + i * 22 + 20, none⟩ = some (.int .i64 (upg L i).f) := (h.row i hi 20 (by omega)).trans (upg L i).qf
theorem up_h {W : World} {g : Nat} {r : Up} (h : Blk W g 48 r.cs) : ∀ w', Below W.heap.size W w' → w'.cell? ⟨g, 21, none⟩ = some (.int .i64 r.h) :=
  fun w' k => ((h.later k).cell 21).trans r.qh
theorem Ups.h {w : World} {g o : Nat} {L : List Up} (h : Ups w g o L) {i : Nat} (hi : i < L.length) : w.cell? ⟨g, o + i * 22 + 21, none⟩ = some (.int .i64 (upg L i).h) := (h.row i hi 21 (by omega)).trans (upg L i).qh
def upcs (L : List Up) : List Value := L.flatMap (fun r => r.cs.toList)
theorem upcs_nil : upcs [] = [] := rfl
theorem upcs_append (L M : List Up) : upcs (L ++ M) = upcs L ++ upcs M := by simp [upcs]
theorem upcs_one (r : Up) : upcs [r] = r.cs.toList := by simp [upcs]
theorem upcs_cons (r : Up) (L : List Up) : upcs (r :: L) = r.cs.toList ++ upcs L := by simp [upcs]
theorem upcs_len : ∀ L : List Up, (upcs L).length = L.length * 22
  | [] => rfl
  | r :: L => by rw [upcs_cons, List.length_append, upcs_len L]; simp [r.size]; omega
theorem upcs_all (L : List Up) : ∀ u ∈ upcs L, u.oneCell' = true := fun u hu => by
  obtain ⟨r, _, h⟩ := List.mem_flatMap.1 hu
  exact Array.all_eq_true_iff_forall_mem.1 r.one u (by simpa using h)
theorem upcs_get : ∀ (L : List Up) {i j : Nat}, i < L.length → j < 22 → (upcs L)[i * 22 + j]? = (upg L i).cs[j]?
  | [], i, j, h, _ => by simp at h
  | r :: L, 0, j, _, hj => by
    rw [upcs_cons, Nat.zero_mul, Nat.zero_add, List.getElem?_append_left (by simp [r.size]; exact hj)]
    simp [upg]
  | r :: L, i + 1, j, h, hj => by
    rw [upcs_cons, List.getElem?_append_right (by simp [r.size]; omega)]
    rw [show (i + 1) * 22 + j - r.cs.toList.length = i * 22 + j by simp [r.size]; omega, upcs_get L (by simpa using h) hj]
    simp [upg]
theorem upcs_take : ∀ (L : List Up) (i : Nat), (upcs L).take (i * 22) = upcs (L.take i)
  | [], i => by simp [upcs]
  | r :: L, 0 => by simp [upcs]
  | r :: L, i + 1 => by
    rw [upcs_cons, List.take_succ_cons, upcs_cons, List.take_append, List.take_of_length_le (by simp [r.size]; omega)]
    rw [show (i + 1) * 22 - r.cs.toList.length = i * 22 by simp [r.size]; omega, upcs_take L i]
theorem upcs_drop : ∀ (L : List Up) (i : Nat), (upcs L).drop (i * 22) = upcs (L.drop i)
  | [], i => by simp [upcs]
  | r :: L, 0 => by simp [upcs]
  | r :: L, i + 1 => by
    rw [upcs_cons, List.drop_succ_cons, List.drop_append, List.drop_eq_nil_of_le (by simp [r.size]; omega), List.nil_append]
    rw [show (i + 1) * 22 - r.cs.toList.length = i * 22 by simp [r.size]; omega, upcs_drop L i]
theorem uprow_cells (w : World) (g : Nat) (L : List Up) (o : Nat) (hg : g < w.heap.size) (h : ∀ k u, (upcs L)[k]? = some u → w.cell? ⟨g, o + k, none⟩ = some u) : Ups w g o L := by
  refine ⟨hg, fun i hi j hj => ?_⟩
  have h1 := upcs_get L hi hj
  have h2 : j < (upg L i).cs.size := by rw [Up.size]; exact hj
  rw [Array.getElem?_eq_getElem h2] at h1 ⊢
  rw [Nat.add_assoc]
  exact h _ _ h1
theorem Ups.cells {w : World} {g o : Nat} {L : List Up} (h : Ups w g o L) : ∀ k u, (upcs L)[k]? = some u → w.cell? ⟨g, o + k, none⟩ = some u := by
  intro k u hk
  have hl : k < L.length * 22 := by rw [← upcs_len]; exact (List.getElem?_eq_some_iff.1 hk).1
  have e := upcs_get L (i := k / 22) (j := k % 22) (by omega) (by omega)
  rw [show k / 22 * 22 + k % 22 = k by omega] at e
  have h1 := h.row (k / 22) (by omega) (k % 22) (by omega)
  rw [← e, hk, Nat.add_assoc, show k / 22 * 22 + k % 22 = k by omega] at h1
  exact h1

/-- Rows that a call owns, from block B on. -/
abbrev OwnUp (w : World) (B : Nat) (v : Value) (L : List Up) : Prop := w.ownsRow B 48 22 v L.length (upcs L)
theorem OwnUp.lies {w : World} {B : Nat} {v : Value} {L : List Up} (h : OwnUp w B v L) : ∃ a c, v = .slice a L.length c ∧ L.length ≤ c ∧ c ≤ maxLen ∧ UpAt w a L ∧ ∀ x, a = some x → B ≤ x.block := by
  rcases h.2 with ⟨rfl, h0⟩ | ⟨g, cap, cur, rfl, hb, hg, hc, hm, hs, ht⟩
  · have : L = [] := List.eq_nil_of_length_eq_zero h0
    subst this
    exact ⟨none, 0, rfl, by simp, by unfold maxLen; omega, .inl rfl, fun x hx => by cases hx⟩
  · refine ⟨_, cap, rfl, hc, hm, .inr ⟨g, 0, rfl, uprow_cells w g L 0 (Array.getElem?_eq_some_iff.1 hg).1 fun k u hk => ?_⟩, fun x hx => by cases hx; exact hb⟩
    rw [Nat.zero_add, cell_of_row w g k cur _ _ hg, ← Array.getElem?_toList]
    have hl : k < L.length * 22 := by rw [← upcs_len]; exact (List.getElem?_eq_some_iff.1 hk).1
    rw [← ht, List.getElem?_take, if_pos hl] at hk
    exact hk
theorem info_up : (Tryz.prog.info? 48).map (fun i => (i.zero, i.size, i.bytes)) = some (some (.agg Up.zero.cs), 22, 64) := by kernel_rfl

/-! ### Nothing built, appended to -/
def upbuildSem (n : Nat) (parts : Array (Nat × Value)) : Sem Value := Instr.buildSlice 25 n parts
theorem upbuild_rule (n : Nat) (parts : Array (Nat × Value)) : Instr.buildSlice 25 n parts = upbuildSem n parts := rfl
theorem upbuild0_run (w : World) : (upbuildSem 0 #[]).run Tryz.prog w = .ok (.slice (some ⟨w.heap.size, 0, none⟩) 0 0) (w.alloc (.cells #[] 48)) := by
  have hu := run_underlying (P := Tryz.prog) Tryz.underlying25 w
  have hz := (zero_of_info z_up).1 w
  unfold upbuildSem Instr.buildSlice
  simp only [Sem.run_bind, hu, Result.andThen_ok]
  go_simp
def upappSem (ty : TypeId) (args : Array Value) : Sem Value := Builtin.append_ #[25, 25] ty args
theorem upapp_rule (ty : TypeId) (args : Array Value) : Builtin.append_ #[25, 25] ty args = upappSem ty args := rfl
theorem upown0 (w : World) (B : Nat) (hB : B ≤ w.heap.size) : OwnUp (w.alloc (.cells #[] 48)) B (.slice (some ⟨w.heap.size, 0, none⟩) 0 0) [] :=
  ⟨rfl, .inr ⟨_, 0, #[], rfl, hB, heap_alloc_new w _, Nat.le_refl _, by simp, rfl, rfl⟩⟩
/-- Rows that lie anywhere are appended to rows that a call owns. -/
theorem upapp_run {w : World} (ty : TypeId) {B : Nat} {v : Value} {L M : List Up} {x : Addr} {m c : Nat} (h : OwnUp w B v L) (hm : M.length = m) (hM : UpAt w (some x) M) (hs : L.length + m ≤ 1000000) (hB : B ≤ w.heap.size) :
    ∃ v' w', (upappSem ty #[v, .slice (some x) m c]).run Tryz.prog w = .ok v' w' ∧ OwnUp w' B v' (L ++ M) ∧ w.grownBy w' v.ownBlock ∧ (v' = .slice none 0 0 ↔ v = .slice none 0 0 ∧ m = 0) := by
  obtain ⟨i0, hi, hz0, hz1, hz2⟩ := info_parts info_up
  have hsrc : ∀ j u, (upcs M)[j]? = some u → w.cell? (x.add j) = some u := by
    intro j u hj
    rcases hM with rfl | ⟨g, o, e, hr⟩
    · simp [upcs] at hj
    · cases e
      rw [Addr.add_lit]
      exact hr.cells j u hj
  obtain ⟨v', w', h1, h2, h3, h4⟩ := run_append_own (P := Tryz.prog) w B 25 ty 48 i0 (.agg Up.zero.cs) 22 64 Tryz.underlying25 hi hz0 hz1 hz2 (Up.size _) (by decide) v L.length (upcs L) h x m c (upcs M) (by rw [upcs_len, hm]) hsrc (upcs_all M) (by unfold maxLen; omega) (by omega) hB
  refine ⟨v', w', h1, ?_, h3, h4⟩
  show w'.ownsRow B _ 22 v' (L ++ M).length (upcs (L ++ M))
  rw [List.length_append, hm, upcs_append]
  exact h2

/-! ### Rows copied into a block -/
def upcopySem (ty : TypeId) (args : Array Value) : Sem Value := Builtin.copy_ #[25, 25] ty args
theorem upcopy_rule (ty : TypeId) (args : Array Value) : Builtin.copy_ #[25, 25] ty args = upcopySem ty args := rfl
theorem upcopy_run {w : World} {g o : Nat} {a : Addr} {cur : Array Value} {cs : List Value} {n dl sl : Nat} (ty : TypeId) (dc sc : Nat) (hg : Blk w g 48 cur) (hn : Nat.min sl dl = n) (hcs : cs.length = n * 22) (hcur : o + n * 22 ≤ cur.size)
    (hsrc : ∀ j v, cs[j]? = some v → w.cell? (a.add j) = some v) (hone : ∀ v ∈ cs, v.oneCell' = true) :
    (upcopySem ty #[.slice (some ⟨g, o, none⟩) dl dc, .slice (some a) sl sc]).run Tryz.prog w = .ok (.int .i64 (n : Int)) (w.setRow g (layC o cs cur.toList).toArray) := by
  have hl := run_loadCells_list (P := Tryz.prog) w a cs hsrc
  have hst := run_storeCells_at Tryz.prog g o 48 cs 0 cur w hg (by omega) hone
  obtain ⟨i0, hi, hz0, hz1, hz2⟩ := info_parts info_up
  rw [hcs] at hl
  rw [Nat.add_zero] at hst
  unfold upcopySem layC
  simp [Builtin.copy_, run_underlying Tryz.underlying25, Builtin.lenOf, Builtin.firstCells, sizeOf, typeInfo, hi, hz1, hn, hl, hst]
  rfl

end Go.Proofs.YtikdgbmdepplgaaGreatDoor
