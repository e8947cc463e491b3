/-
  What an address, a prefix and a row of bytes are that come in; what the package's own row of widths holds when the call begins. Nothing here is a statement of the document.
-/
import Derived.Test.YtikdgbmdepplgaaGreatDoorTbD
import Derived.Laws.CopyRow
import Derived.Laws.OwnMore
import Derived.Lib.AppendZerosOnto
import Derived.Lib.SliceRun
import Derived.Lib.Overlaps
import Derived.Deep.DeepCutAuto
import Derived.Test.YtikdgbmdepplgaaGreatDoorPfxOr
import Derived.LaidMore
import Derived.Stop.Joined
import Derived.Deep.Slices
import Derived.WalkKit
import Derived.ProofKit
import Derived.OpenShut
import Derived.ShutString
import Derived.ChangeOld
import Derived.Below
import Derived.DataShut
namespace Go.Proofs.YtikdgbmdepplgaaGreatDoor
open Go.RowKit Go.Shelf
set_option linter.unusedVariables false
set_option maxRecDepth 100000

def rtcs (L : List Rt) : List Value := L.flatMap (fun r => r.cs.toList)
theorem rtcs_nil : rtcs [] = [] := rfl
theorem rtcs_append (L M : List Rt) : rtcs (L ++ M) = rtcs L ++ rtcs M := by simp [rtcs]
theorem rtcs_one (r : Rt) : rtcs [r] = r.cs.toList := by simp [rtcs]
theorem rtcs_cons (r : Rt) (L : List Rt) : rtcs (r :: L) = r.cs.toList ++ rtcs L := by simp [rtcs]
theorem rtcs_len : ∀ L : List Rt, (rtcs L).length = L.length * 19
  | [] => rfl
  | r :: L => by rw [rtcs_cons, List.length_append, rtcs_len L]; simp [r.size]; omega
theorem rtcs_all (L : List Rt) : ∀ u ∈ rtcs L, u.oneCell' = true := fun u hu => by
  obtain ⟨r, _, h⟩ := List.mem_flatMap.1 hu
  exact Array.all_eq_true_iff_forall_mem.1 r.one u (by simpa using h)
theorem rtcs_get : ∀ (L : List Rt) {i j : Nat}, i < L.length → j < 19 → (rtcs L)[i * 19 + j]? = (rt L i).cs[j]?
  | [], i, j, h, _ => by simp at h
  | r :: L, 0, j, _, hj => by
    rw [rtcs_cons, Nat.zero_mul, Nat.zero_add, List.getElem?_append_left (by simp [r.size]; exact hj)]
    simp [rt]
  | r :: L, i + 1, j, h, hj => by
    rw [rtcs_cons, List.getElem?_append_right (by simp [r.size]; omega)]
    rw [show (i + 1) * 19 + j - r.cs.toList.length = i * 19 + j by simp [r.size]; omega, rtcs_get L (by simpa using h) hj]
    simp [rt]
theorem rtcs_take : ∀ (L : List Rt) (i : Nat), (rtcs L).take (i * 19) = rtcs (L.take i)
  | [], i => by simp [rtcs]
  | r :: L, 0 => by simp [rtcs]
  | r :: L, i + 1 => by
    rw [rtcs_cons, List.take_succ_cons, rtcs_cons, List.take_append, List.take_of_length_le (by simp [r.size]; omega)]
    rw [show (i + 1) * 19 - r.cs.toList.length = i * 19 by simp [r.size]; omega, rtcs_take L i]
theorem rtcs_drop : ∀ (L : List Rt) (i : Nat), (rtcs L).drop (i * 19) = rtcs (L.drop i)
  | [], i => by simp [rtcs]
  | r :: L, 0 => by simp [rtcs]
  | r :: L, i + 1 => by
    rw [rtcs_cons, List.drop_succ_cons, List.drop_append, List.drop_eq_nil_of_le (by simp [r.size]; omega), List.nil_append]
    rw [show (i + 1) * 19 - r.cs.toList.length = i * 19 by simp [r.size]; omega, rtcs_drop L i]
theorem row_cells (w : World) (g : Nat) (L : List Rt) (o : Nat) (hg : g < w.heap.size) (h : ∀ k u, (rtcs L)[k]? = some u → w.cell? ⟨g, o + k, none⟩ = some u) : Rws w g o L := by
  refine ⟨hg, fun i hi j hj => ?_⟩
  have h1 := rtcs_get L hi hj
  have h2 : j < (rt L i).cs.size := by rw [Rt.size]; exact hj
  rw [Array.getElem?_eq_getElem h2] at h1 ⊢
  rw [Nat.add_assoc]
  exact h _ _ h1
theorem Rws.cells {w : World} {g o : Nat} {L : List Rt} (h : Rws w g o L) : ∀ k u, (rtcs L)[k]? = some u → w.cell? ⟨g, o + k, none⟩ = some u := by
  intro k u hk
  have hl : k < L.length * 19 := by rw [← rtcs_len]; exact (List.getElem?_eq_some_iff.1 hk).1
  have e := rtcs_get L (i := k / 19) (j := k % 19) (by omega) (by omega)
  rw [show k / 19 * 19 + k % 19 = k by omega] at e
  have h1 := h.row (k / 19) (by omega) (k % 19) (by omega)
  rw [← e, hk, Nat.add_assoc, show k / 19 * 19 + k % 19 = k by omega] at h1
  exact h1

/-- Rows that a call owns, from block B on. -/
abbrev OwnT (w : World) (B : Nat) (v : Value) (L : List Rt) : Prop := w.ownsRow B 60 19 v L.length (rtcs L)
theorem OwnT.lies {w : World} {B : Nat} {v : Value} {L : List Rt} (h : OwnT w B v L) : ∃ a c, v = .slice a L.length c ∧ L.length ≤ c ∧ c ≤ maxLen ∧ RowsAt w a L ∧ ∀ x, a = some x → B ≤ x.block := by
  rcases h.2 with ⟨rfl, h0⟩ | ⟨g, cap, cur, rfl, hb, hg, hc, hm, hs, ht⟩
  · have : L = [] := List.eq_nil_of_length_eq_zero h0
    subst this
    exact ⟨none, 0, rfl, by simp, by unfold maxLen; omega, .inl rfl, fun x hx => by cases hx⟩
  · refine ⟨_, cap, rfl, hc, hm, .inr ⟨g, 0, rfl, row_cells w g L 0 (Array.getElem?_eq_some_iff.1 hg).1 fun k u hk => ?_⟩, fun x hx => by cases hx; exact hb⟩
    rw [Nat.zero_add, cell_of_row w g k cur _ _ hg, ← Array.getElem?_toList]
    have hl : k < L.length * 19 := by rw [← rtcs_len]; exact (List.getElem?_eq_some_iff.1 hk).1
    rw [← ht, List.getElem?_take, if_pos hl] at hk
    exact hk
theorem info_rt : (Tryz.prog.info? 60).map (fun i => (i.zero, i.size, i.bytes)) = some (some (.agg Rt.zero.cs), 19, 40) := by kernel_rfl

/-! ### Nothing built, appended to -/
def tbuildSem (n : Nat) (parts : Array (Nat × Value)) : Sem Value := Instr.buildSlice 54 n parts
theorem tbuild_rule (n : Nat) (parts : Array (Nat × Value)) : Instr.buildSlice 54 n parts = tbuildSem n parts := rfl
theorem tbuild0_run (w : World) : (tbuildSem 0 #[]).run Tryz.prog w = .ok (.slice (some ⟨w.heap.size, 0, none⟩) 0 0) (w.alloc (.cells #[] 60)) := by
  have hu := run_underlying (P := Tryz.prog) Tryz.underlying54 w
  have hz := (zero_of_info z_rt).1 w
  unfold tbuildSem Instr.buildSlice
  simp only [Sem.run_bind, hu, Result.andThen_ok]
  go_simp
def tappSem (ty : TypeId) (args : Array Value) : Sem Value := Builtin.append_ #[54, 54] ty args
theorem tapp_rule (ty : TypeId) (args : Array Value) : Builtin.append_ #[54, 54] ty args = tappSem ty args := rfl
theorem own0 (w : World) (B : Nat) (hB : B ≤ w.heap.size) : OwnT (w.alloc (.cells #[] 60)) B (.slice (some ⟨w.heap.size, 0, none⟩) 0 0) [] :=
  ⟨rfl, .inr ⟨_, 0, #[], rfl, hB, heap_alloc_new w _, Nat.le_refl _, by simp, rfl, rfl⟩⟩
/-- Rows that lie anywhere are appended to rows that a call owns. -/
theorem tapp_run {w : World} (ty : TypeId) {B : Nat} {v : Value} {L M : List Rt} {x : Addr} {m c : Nat} (h : OwnT w B v L) (hm : M.length = m) (hM : RowsAt w (some x) M) (hs : L.length + m ≤ 1000000) (hB : B ≤ w.heap.size) :
    ∃ v' w', (tappSem ty #[v, .slice (some x) m c]).run Tryz.prog w = .ok v' w' ∧ OwnT w' B v' (L ++ M) ∧ w.grownBy w' v.ownBlock ∧ (v' = .slice none 0 0 ↔ v = .slice none 0 0 ∧ m = 0) := by
  obtain ⟨i0, hi, hz0, hz1, hz2⟩ := info_parts info_rt
  have hsrc : ∀ j u, (rtcs M)[j]? = some u → w.cell? (x.add j) = some u := by
    intro j u hj
    rcases hM with rfl | ⟨g, o, e, hr⟩
    · simp [rtcs] at hj
    · cases e
      rw [Addr.add_lit]
      exact hr.cells j u hj
  obtain ⟨v', w', h1, h2, h3, h4⟩ := run_append_own (P := Tryz.prog) w B 54 ty 60 i0 (.agg Rt.zero.cs) 19 40 Tryz.underlying54 hi hz0 hz1 hz2 (Rt.size _) (by decide) v L.length (rtcs L) h x m c (rtcs M) (by rw [rtcs_len, hm]) hsrc (rtcs_all M) (by unfold maxLen; omega) (by omega) hB
  refine ⟨v', w', h1, ?_, h3, h4⟩
  show w'.ownsRow B _ 19 v' (L ++ M).length (rtcs (L ++ M))
  rw [List.length_append, hm, rtcs_append]
  exact h2

/-! ### Rows copied into a block -/
def layC (o : Nat) (vs cur : List Value) : List Value := cur.take o ++ vs ++ cur.drop (o + vs.length)
def tcopySem (ty : TypeId) (args : Array Value) : Sem Value := Builtin.copy_ #[54, 54] ty args
theorem tcopy_rule (ty : TypeId) (args : Array Value) : Builtin.copy_ #[54, 54] ty args = tcopySem ty args := rfl
theorem tcopy_run {w : World} {g o : Nat} {a : Addr} {cur : Array Value} {cs : List Value} {n dl sl : Nat} (ty : TypeId) (dc sc : Nat) (hg : Blk w g 60 cur) (hn : Nat.min sl dl = n) (hcs : cs.length = n * 19) (hcur : o + n * 19 ≤ cur.size)
    (hsrc : ∀ j v, cs[j]? = some v → w.cell? (a.add j) = some v) (hone : ∀ v ∈ cs, v.oneCell' = true) :
    (tcopySem ty #[.slice (some ⟨g, o, none⟩) dl dc, .slice (some a) sl sc]).run Tryz.prog w = .ok (.int .i64 (n : Int)) (w.setRow g (layC o cs cur.toList).toArray) := by
  have hl := run_loadCells_list (P := Tryz.prog) w a cs hsrc
  have hst := run_storeCells_at Tryz.prog g o 60 cs 0 cur w hg (by omega) hone
  obtain ⟨i0, hi, hz0, hz1, hz2⟩ := info_parts info_rt
  rw [hcs] at hl
  rw [Nat.add_zero] at hst
  unfold tcopySem layC
  simp [Builtin.copy_, run_underlying Tryz.underlying54, Builtin.lenOf, Builtin.firstCells, sizeOf, typeInfo, hi, hz1, hn, hl, hst]
  rfl

theorem eql_nil_rt (a : Option Addr) (l c : Nat) (w : World) : (binOp .eql 54 (.slice a l c) (.slice none 0 0)).run Tryz.prog w = .ok (.bool a.isNone) w :=
  Lib.run_eql_slice_nil w _ _ a l c 0 0 Tryz.underlying54
attribute [local go_sem ↓] tbuild_rule tapp_rule tcopy_rule
end Go.Proofs.YtikdgbmdepplgaaGreatDoor
namespace Go.Proofs.YtikdgbmdepplgaaGreatDoor
open Go.RowKit Go.Shelf
set_option linter.unusedVariables false
set_option maxRecDepth 100000

theorem layC_len {o : Nat} {vs cur : List Value} (h : o + vs.length ≤ cur.length) : (layC o vs cur).length = cur.length := by
  unfold layC
  simp
  omega
theorem layC_get {o : Nat} {vs cur : List Value} (h : o + vs.length ≤ cur.length) (k : Nat) : (layC o vs cur)[k]? = if k < o then cur[k]? else if k < o + vs.length then vs[k - o]? else cur[k]? := by
  unfold layC
  by_cases h1 : k < o
  · rw [if_pos h1, List.append_assoc, List.getElem?_append_left (by simp; omega), List.getElem?_take, if_pos h1]
  · rw [if_neg h1]
    by_cases h2 : k < o + vs.length
    · rw [if_pos h2, List.append_assoc, List.getElem?_append_right (by simp; omega)]
      have e : (cur.take o).length = o := by simp; omega
      rw [e, List.getElem?_append_left (by omega)]
    · rw [if_neg h2, List.getElem?_append_right (by simp; omega)]
      have e : (cur.take o ++ vs).length = o + vs.length := by simp; omega
      rw [e, List.getElem?_drop]
      congr 1
      omega
theorem ins_cells {cur xs X D : List Value} {n i : Nat} (hi : i ≤ n) (hX : X.length = 19) (hD : D.length = (n - i) * 19) (hc : (n + 1) * 19 ≤ cur.length) (hxs : cur.take (i * 19) = xs) (cur2 : List Value)
    (h2 : cur2.length = cur.length) (hg : ∀ k, k < (n + 1) * 19 → cur2[k]? = if k < i * 19 then cur[k]? else if k < (i + 1) * 19 then X[k - i * 19]? else D[k - (i + 1) * 19]?) : cur2.take ((n + 1) * 19) = xs ++ X ++ D := by
  have hxl : xs.length = i * 19 := by rw [← hxs]; simp; omega
  apply List.ext_getElem?
  intro k
  by_cases hk : k < (n + 1) * 19
  · rw [List.getElem?_take, if_pos hk, hg k hk]
    by_cases h3 : k < i * 19
    · rw [if_pos h3, List.append_assoc, List.getElem?_append_left (by omega), ← hxs, List.getElem?_take, if_pos h3]
    · rw [if_neg h3]
      by_cases h4 : k < (i + 1) * 19
      · rw [if_pos h4, List.append_assoc, List.getElem?_append_right (by omega), hxl, List.getElem?_append_left (by omega)]
      · rw [if_neg h4, List.getElem?_append_right (by simp [hxl, hX]; omega)]
        congr 1
        simp [hxl, hX]
        omega
  · rw [List.getElem?_eq_none (by simp; omega), List.getElem?_eq_none (by simp [hxl, hX, hD]; omega)]
theorem own_of {w : World} {B g cap : Nat} {cur : List Value} {L : List Rt} (hb : B ≤ g) (hg : Blk w g 60 cur.toArray) (hn : L.length ≤ cap) (hm : cap ≤ maxLen) (hs : cur.length = cap * 19) (ht : cur.take (L.length * 19) = rtcs L) : OwnT w B (.slice (some ⟨g, 0, none⟩) L.length cap) L :=
  ⟨rtcs_len L, .inr ⟨g, cap, cur.toArray, rfl, hb, hg, hn, hm, by simpa using hs, by simpa using ht⟩⟩
def insL (L : List Rt) (i : Nat) (x : Rt) : List Rt := L.take i ++ x :: L.drop i
theorem insL_len {L : List Rt} {i : Nat} (h : i ≤ L.length) (x : Rt) : (insL L i x).length = L.length + 1 := by simp [insL]; omega
theorem insL_cells (L : List Rt) (i : Nat) (x : Rt) : rtcs (insL L i x) = rtcs (L.take i) ++ x.cs.toList ++ rtcs (L.drop i) := by rw [insL, rtcs_append, rtcs_cons, List.append_assoc]
theorem insL_end {L : List Rt} {x : Rt} : insL L L.length x = L ++ [x] := by simp [insL]

attribute [local go_sem ↓] tbuild_rule tapp_rule tcopy_rule
theorem wrap_next {n : Nat} (h : n ≤ 1000000) : wrap64 ((n : Int) + 1) = (n : Int) + 1 := by unfold wrap64; omega
theorem wrap_nat {n : Nat} (h : n ≤ 1000000) : wrap64 (n : Int) = (n : Int) := by unfold wrap64; omega
theorem sizeof_rt (w : World) : (Go.sizeOf 60).run Tryz.prog w = .ok 19 w := by kernel_rfl
/-- What lies ahead, the row, what lay from there on. -/
theorem own_cells {w : World} {g : Nat} {L : List Rt} {cur : Array Value} (hg : Blk w g 60 cur) (ht : cur.toList.take (L.length * 19) = rtcs L) : ∀ j u, (rtcs L)[j]? = some u → w.cell? ⟨g, j, none⟩ = some u := fun j u hj => by
  rw [hg.cell, ← Array.getElem?_toList]
  have hl : j < L.length * 19 := by rw [← rtcs_len]; exact (List.getElem?_eq_some_iff.1 hj).1
  rw [← ht, List.getElem?_take, if_pos hl] at hj
  exact hj
def tapzSem (ty : TypeId) (args : Array Value) : Sem Value := Builtin.append_ #[54, 3] ty args
theorem tapz_rule (ty : TypeId) (args : Array Value) : Builtin.append_ #[54, 3] ty args = tapzSem ty args := rfl
attribute [local go_sem ↓] tapz_rule
end Go.Proofs.YtikdgbmdepplgaaGreatDoor
namespace Go.Proofs.YtikdgbmdepplgaaGreatDoor
open Go.RowKit Go.Shelf
set_option linter.unusedVariables false
set_option maxRecDepth 100000

theorem load_tab_rule (v : Value) : Instr.loadAt 56 v = loadSem 56 v := rfl
theorem build_tab_rule (ps : Array (Nat × Value)) : Instr.build 56 ps = buildSem 56 ps := rfl
theorem build_rt_rule (ps : Array (Nat × Value)) : Instr.build 60 ps = buildSem 60 ps := rfl
theorem build_tab0 (w : World) : (buildSem 56 #[]).run Tryz.prog w = .ok (.agg #[.slice none 0 0]) w := by kernel_rfl
theorem build_tab1 (a : Option Addr) (n c : Nat) (w : World) : (buildSem 56 #[(0, .slice a n c)]).run Tryz.prog w = .ok (.agg #[.slice a n c]) w := by kernel_rfl
theorem build_rt0 (w : World) : (buildSem 60 #[]).run Tryz.prog w = .ok (.agg Rt.zero.cs) w := by kernel_rfl
theorem build_rt (p : Px) (h : Int) (w : World) : (buildSem 60 #[(0, .agg p.cs), (1, .int .i64 h)]).run Tryz.prog w = .ok (.agg (Rt.mk p h).cs) w := by
  unfold Rt.cs
  show (buildSem 60 #[(0, .agg p.cs), (1, .int .i64 h)]).run Tryz.prog w = .ok (.agg (p.cs ++ #[.int .i64 h])) w
  unfold Px.cs Ad.cs
  obtain ⟨a0, a1, a2, a3, a4, a5, a6, a7, a8, a9, a10, a11, a12, a13, a14, a15, hh⟩ := p.a.b.out
  rw [hh]
  kernel_rfl
theorem tab_t {W : World} {g : Nat} {a : Option Addr} {n c : Nat} (h : Blk W g 56 #[.slice a n c]) : ∀ w', Below W.heap.size W w' → (loadSem 56 (.pointer (some ⟨g, 0, none⟩))).run Tryz.prog w' = .ok (.agg #[.slice a n c]) w' :=
  fun w' k => loadRes_of (o := 0) (h.later k) (fun q _ => by rw [Nat.zero_add]) _ Tryz.underlying56 rfl (zero_of_info z_tab).2
theorem tab_c {W : World} {g : Nat} {a : Option Addr} {n c : Nat} (h : Blk W g 56 #[.slice a n c]) : ∀ w', Below W.heap.size W w' → w'.cell? ⟨g, 0, none⟩ = some (.slice a n c) := fun w' k => (h.later k).cell 0

noncomputable def lgE (L : List Rt) (x : Ad) : Int := if ¬ okT L then 190 else if ¬ okA x then 150 else 0
noncomputable def lgR (L : List Rt) (x : Ad) : Rt := if lgE L x = 0 then longR L x else Rt.zero
noncomputable def lgB (L : List Rt) (x : Ad) : Bool := if lgE L x = 0 then longB L x else false
attribute [local go_sem ↓] load_b16_rule store_b16_rule load_ad_rule store_ad_rule load_px_rule store_px_rule eq_b16_rule eq_ad_rule eq_px_rule load_rt_rule store_rt_rule build_ad_rule build_px_rule build_b16_rule build_rt_rule load_tab_rule build_tab_rule

end Go.Proofs.YtikdgbmdepplgaaGreatDoor
namespace Go.Proofs.YtikdgbmdepplgaaGreatDoor
open Go.RowKit Go.Shelf
set_option linter.unusedVariables false
set_option maxRecDepth 100000

theorem s_tab1 {a : Option Addr} {n c : Nat} : (Tryz.prog.info? 56).map (·.size) = some (#[Value.slice a n c]).size := (zero_of_info z_tab).2
theorem store_tab_rule (v x : Value) : Instr.storeAt 56 v x = storeSem 56 v x := rfl
theorem st_tab {w : World} {g : Nat} {a a2 : Option Addr} {n c n2 c2 : Nat} (h : Blk w g 56 #[.slice a n c]) : (storeSem 56 (.pointer (some ⟨g, 0, none⟩)) (.agg #[.slice a2 n2 c2])).run Tryz.prog w = .ok () (w.setRow g #[.slice a2 n2 c2]) := by
  have := storeRes_of (P := Tryz.prog) (ty := 56) (o := 0) (vs := #[.slice a2 n2 c2]) h (by simp) s_tab1 (by simp [Value.oneCell'])
  rwa [over_all (by simp)] at this
/-- A table that lies: where, and with how much room. -/
structure Tbl (w : World) (a : Option Addr) (c : Nat) (L : List Rt) : Prop where
  at' : RowsAt w a L
  le : L.length ≤ c
  cap : c ≤ maxLen
  nil : a = none → c = 0
theorem Tbl.none (w : World) : Tbl w none 0 [] := ⟨.inl rfl, by simp, by unfold maxLen; omega, fun _ => rfl⟩
theorem Tbl.later {w w' : World} {a : Option Addr} {c : Nat} {L : List Rt} (h : Tbl w a c L) (k : Below w.heap.size w w') : Tbl w' a c L := ⟨h.at'.later k, h.le, h.cap, h.nil⟩
theorem RowsAt.kept {S : List Nat} {w w' : World} {a : Option Addr} {L : List Rt} (h : RowsAt w a L) (k : Kept S w w') (hS : ∀ x, a = some x → x.block ∉ S) : RowsAt w' a L := by
  rcases h with h | ⟨g, o, h1, h2⟩
  · exact .inl h
  · exact .inr ⟨g, o, h1, Nat.lt_of_lt_of_le h2.lt k.size, fun i hi j hj => (World.cell?_of_block (w := w) (k.block g h2.lt (hS _ h1))).trans (h2.row i hi j hj)⟩
theorem Tbl.kept {S : List Nat} {w w' : World} {a : Option Addr} {c : Nat} {L : List Rt} (h : Tbl w a c L) (k : Kept S w w') (hS : ∀ x, a = some x → x.block ∉ S) : Tbl w' a c L := ⟨h.at'.kept k hS, h.le, h.cap, h.nil⟩
theorem OwnT.later {w w' : World} {B : Nat} {v : Value} {L : List Rt} (h : OwnT w B v L) (k : Below w.heap.size w w') : OwnT w' B v L := by
  refine ⟨h.1, ?_⟩
  rcases h.2 with h | ⟨g, cap, cur, h1, h2, h3, h4⟩
  · exact .inl h
  · exact .inr ⟨g, cap, cur, h1, h2, (k.block _ (Array.getElem?_eq_some_iff.1 h3).1).trans h3, h4⟩
theorem OwnT.tbl {w : World} {B : Nat} {v : Value} {L : List Rt} (h : OwnT w B v L) : ∃ a c, v = .slice a L.length c ∧ Tbl w a c L := by
  obtain ⟨a, c, h1, h2, h3, h4, _⟩ := h.lies
  refine ⟨a, c, h1, h4, h2, h3, fun h0 => ?_⟩
  subst h0
  rcases h.2 with ⟨h5, _⟩ | ⟨g, cap, cur, h5, _⟩
  · rw [h1] at h5; injection h5
  · rw [h1] at h5; injection h5 with h6; cases h6
theorem OwnT.tbl2 {w : World} {B : Nat} {a : Option Addr} {n c : Nat} {L : List Rt} (h : OwnT w B (.slice a n c) L) : Tbl w a c L ∧ n = L.length ∧ ∀ x, a = some x → B ≤ x.block := by
  obtain ⟨a2, c2, h1, h2⟩ := h.tbl
  obtain ⟨a3, c3, h3, _, _, _, h4⟩ := h.lies
  injection h1 with e1 e2 e3
  injection h3 with f1 f2 f3
  subst e1 e3 f1
  exact ⟨h2, e2, h4⟩
theorem rtcs_set : ∀ (L : List Rt) (i : Nat) (h : Int), i < L.length → (rtcs L).set (i * 19 + 18) (.int .i64 h) = rtcs (L.set i ⟨(rt L i).p, h⟩)
  | [], i, h, hi => by simp at hi
  | r :: L, 0, h, _ => by
    rw [rtcs_cons, List.set_cons_zero, rtcs_cons, List.set_append, if_pos (by simp [r.size])]
    have e : rt (r :: L) 0 = r := rfl
    have h18 : (r.p.cs).toList.length = 18 := by simp [r.p.size]
    rw [e]
    congr 1
    simp only [Rt.cs, Array.toList_append]
    rw [List.set_append, if_neg (by rw [h18]; omega), h18]
    rfl
  | r :: L, i + 1, h, hi => by
    have h19 : r.cs.toList.length = 19 := by simp [r.size]
    rw [rtcs_cons, List.set_cons_succ, rtcs_cons, List.set_append, if_neg (by rw [h19]; omega), h19, show (i + 1) * 19 + 18 - 19 = i * 19 + 18 by omega, rtcs_set L i h (by simpa using hi)]
    rfl
/-- A hop is set. -/
theorem OwnT.hop {w : World} {B : Nat} {L : List Rt} {g c i : Nat} (h : OwnT w B (.slice (some ⟨g, 0, none⟩) L.length c) L) (hi : i < L.length) (x : Int) : OwnT (w.setCell ⟨g, i * 19 + 18, none⟩ (.int .i64 x)) B (.slice (some ⟨g, 0, none⟩) L.length c) (L.set i ⟨(rt L i).p, x⟩) ∧ Below B w (w.setCell ⟨g, i * 19 + 18, none⟩ (.int .i64 x)) ∧ (∃ u, w.cell? ⟨g, i * 19 + 18, none⟩ = some u) ∧ w.frozen? ⟨g, i * 19 + 18, none⟩ = false := by
  rcases h.2 with ⟨h9, _⟩ | ⟨g', cap, cur, h9, hb, hg, hc, hm, hs, ht⟩
  · cases h9
  · cases h9
    have hb2 : Blk w g 60 cur := hg
    have hlt : i * 19 + 18 < cur.size := by rw [hs]; omega
    have hset := hb2.set (i * 19 + 18) (.int .i64 x)
    refine ⟨⟨rtcs_len _, .inr ⟨g, c, _, by simp, hb, hset, by simpa using hc, hm, by simpa using hs, ?_⟩⟩, ?_, ⟨_, by rw [hb2.cell, Array.getElem?_eq_getElem hlt]⟩, hb2.free _⟩
    · rw [← rtcs_set L i x hi, ← ht]
      simp only [List.length_set, Array.toList_setIfInBounds]
      rw [List.take_set]
    · exact ((Kept.refl [g] w).setCell (p := ⟨g, i * 19 + 18, none⟩) (.inl (by simp)) _).below (by simpa using hb) (Nat.le_of_lt (Nat.lt_of_le_of_lt hb hb2.lt))
theorem tbuild1_run (r : Rt) (w : World) : (tbuildSem 1 #[(0, .agg r.cs)]).run Tryz.prog w = .ok (.slice (some ⟨w.heap.size, 0, none⟩) 1 1) (w.alloc (.cells r.cs 60)) := by
  unfold Rt.cs Px.cs Ad.cs
  obtain ⟨a0, a1, a2, a3, a4, a5, a6, a7, a8, a9, a10, a11, a12, a13, a14, a15, hh⟩ := r.p.a.b.out
  rw [hh]
  kernel_rfl
attribute [local go_sem ↓] load_b16_rule store_b16_rule load_ad_rule store_ad_rule load_px_rule store_px_rule eq_b16_rule eq_ad_rule eq_px_rule load_rt_rule store_rt_rule build_ad_rule build_px_rule build_b16_rule build_rt_rule load_tab_rule build_tab_rule store_tab_rule tbuild_rule tapp_rule tcopy_rule

end Go.Proofs.YtikdgbmdepplgaaGreatDoor
namespace Go.Proofs.YtikdgbmdepplgaaGreatDoor
open Go.RowKit Go.Shelf
set_option linter.unusedVariables false
set_option maxRecDepth 100000

def q16B : B16 := ⟨[10, 1, 0, 0, 0, 0, 0, 0, 0, 0, 0, 0, 0, 0, 0, 0], rfl, by unfold Bys; decide⟩
def tw2B : B16 := ⟨[10, 2, 0, 0, 0, 0, 0, 0, 0, 0, 0, 0, 0, 0, 0, 0], rfl, by unfold Bys; decide⟩
def q16 : Px := ⟨⟨4, q16B⟩, 16⟩
def tw2 : Ad := ⟨4, tw2B⟩
theorem q16_kept : keptB q16B 16 = q16B := B16.same rfl
theorem q16_clear : clear q16B 16 := (kept_iff _ _).1 q16_kept
theorem q16_okP : okP q16 := ⟨⟨by decide, clear_mono q16_clear (by decide)⟩, by decide, by decide, q16_clear⟩
theorem tw2_kept : keptB tw2B 16 = tw2B := B16.same rfl
theorem tw2_okA : okA tw2 := ⟨by decide, clear_mono ((kept_iff _ _).1 tw2_kept) (by decide)⟩
theorem q16_has : hasM q16 tenA := ⟨q16_okP, ten_okA, rfl, (B16.same rfl : keptB tenB 16 = q16B).symm⟩
theorem ten_has2 : hasM tenP tw2 := ⟨ten_okP, tw2_okA, rfl, (B16.same rfl : keptB tw2B 8 = ten8).symm⟩
theorem q16_not : ¬ hasM q16 tw2 := fun h => by
  have h1 : q16B = keptB tw2B 16 := h.2.2.2
  rw [tw2_kept] at h1
  have := congrArg B16.l h1
  revert this
  decide
noncomputable def T1 : List Rt := setM [] tenP 1
noncomputable def T2 : List Rt := setM T1 q16 2
theorem T1_E : setE [] tenP 1 = 0 := by
  unfold setE
  rw [if_neg (by simp [okT]), if_neg (by simp only [Classical.not_not]; exact ⟨ten_okP, by decide, by decide⟩), if_neg (fun h => by have := h.2; simp at this)]
theorem T1_len : T1.length ≤ 1 := by
  unfold T1 setM
  rw [if_pos T1_E, setL_len]
  split <;> simp
theorem T2_E : setE T1 q16 2 = 0 := by
  unfold setE
  rw [if_neg (by simp only [Classical.not_not]; exact setM_okT _ _ _), if_neg (by simp only [Classical.not_not]; exact ⟨q16_okP, by decide, by decide⟩), if_neg (fun h => by have := h.2; have := T1_len; omega)]
theorem T1_mem (x : Rt) : x ∈ T1 ↔ x = ⟨tenP, 1⟩ := by
  unfold T1 setM
  rw [if_pos T1_E, setL_mem List.Pairwise.nil]
  simp
theorem T2_mem (x : Rt) : x ∈ T2 ↔ x = ⟨q16, 2⟩ ∨ (x = ⟨tenP, 1⟩ ∧ x.p ≠ q16) := by
  unfold T2
  unfold setM
  rw [if_pos T2_E, setL_mem (show T1.Pairwise ltR from (setM_okT [] tenP 1).2.2), T1_mem]
theorem T2_okT : okT T2 := setM_okT _ _ _
theorem ten_ne : tenP ≠ q16 := fun h => by
  have h1 := congrArg Px.n h
  revert h1
  decide
theorem T2_a : lgE T2 tenA = 0 ∧ lgR T2 tenA = ⟨q16, 2⟩ ∧ lgB T2 tenA = true := by
  have e : lgE T2 tenA = 0 := by unfold lgE; rw [if_neg (by simpa using T2_okT), if_neg (by simpa using ten_okA)]
  have h : Long T2 tenA ⟨q16, 2⟩ := ⟨(T2_mem _).2 (.inl rfl), q16_has, fun y hy _ => by
    rcases (T2_mem y).1 hy with h | ⟨h, _⟩
    · rw [h]; exact Int.le_refl _
    · rw [h]; decide⟩
  obtain ⟨h1, h2⟩ := long_is T2_okT.2.2 h
  exact ⟨e, by unfold lgR; rw [if_pos e, h2], by unfold lgB; rw [if_pos e, h1]⟩
theorem T2_b : lgE T2 tw2 = 0 ∧ lgR T2 tw2 = ⟨tenP, 1⟩ ∧ lgB T2 tw2 = true := by
  have e : lgE T2 tw2 = 0 := by unfold lgE; rw [if_neg (by simpa using T2_okT), if_neg (by simpa using tw2_okA)]
  have h : Long T2 tw2 ⟨tenP, 1⟩ := ⟨(T2_mem _).2 (.inr ⟨rfl, ten_ne⟩), ten_has2, fun y hy hh => by
    rcases (T2_mem y).1 hy with h | ⟨h, _⟩
    · rw [h] at hh; exact absurd hh q16_not
    · rw [h]; exact Int.le_refl _⟩
  obtain ⟨h1, h2⟩ := long_is T2_okT.2.2 h
  exact ⟨e, by unfold lgR; rw [if_pos e, h2], by unfold lgB; rw [if_pos e, h1]⟩
theorem build_b1 (w : World) : (buildSem 42 #[(0, .int .u8 10)]).run Tryz.prog w = .ok (.agg ten8.cs) w := by kernel_rfl
theorem build_b2 (w : World) : (buildSem 42 #[(0, .int .u8 10), (1, .int .u8 1)]).run Tryz.prog w = .ok (.agg q16B.cs) w := by kernel_rfl
theorem build_b3 (w : World) : (buildSem 42 #[(0, .int .u8 10), (1, .int .u8 2)]).run Tryz.prog w = .ok (.agg tw2B.cs) w := by kernel_rfl
attribute [local go_sem ↓] load_b16_rule store_b16_rule load_ad_rule store_ad_rule load_px_rule store_px_rule eq_b16_rule eq_ad_rule eq_px_rule load_rt_rule store_rt_rule build_ad_rule build_px_rule build_b16_rule build_rt_rule load_tab_rule build_tab_rule store_tab_rule tbuild_rule tapp_rule tcopy_rule

end Go.Proofs.YtikdgbmdepplgaaGreatDoor
namespace Go.Proofs.YtikdgbmdepplgaaGreatDoor
open Go.ChangeShapes Go.WideShapes Go.ChangeAt Go.RowKit Go.Shelf
set_option linter.unusedVariables false
set_option maxRecDepth 100000

theorem c_int : Tryz.prog.cellsOf 3 = 1 := by kernel_rfl
theorem c_u8 : Tryz.prog.cellsOf 5 = 1 := by kernel_rfl
theorem c_b16 : Tryz.prog.cellsOf 42 = 16 := by kernel_rfl
theorem c_ad : Tryz.prog.cellsOf 44 = 17 := by kernel_rfl
theorem c_px : Tryz.prog.cellsOf 46 = 18 := by kernel_rfl
def natOf : Option Value → Nat
  | some (.int _ n) => n.toNat
  | _ => 0
theorem b16_cells {H : Type} {enc : TypeId × Value → H} {W : World} {sp : Nat → Bool} {held : Bool} {fuel : Nat} {cs : List Value} {y : DataW H × List MemPlace} (h : DataW.trod enc Tryz.prog W 0 sp held fuel 42 cs = some y) : ∃ b : B16, cs = b.cs.toList := by
  obtain ⟨xs, m, _, _, hlen, hxs, hg⟩ := DataW.trod_array Tryz.underlying42 h
  rw [c_b16] at hlen
  have hone : ∀ i, i < 16 → ∃ n : Nat, n < 256 ∧ cs[i]? = some (byc n) := by
    intro i hi
    have h1 := hg i hi
    rw [c_u8, Nat.mul_one] at h1
    have hx : xs[i]? = some xs[i] := List.getElem?_eq_getElem (by omega)
    rw [hx] at h1
    obtain ⟨u, e, _, f⟩ := DataW.trod_int Tryz.underlying5 h1
    have hb := bounds_u8 f
    refine ⟨u.toNat, by omega, ?_⟩
    have hc : cs[i]? = some cs[i] := List.getElem?_eq_getElem (by omega)
    have e2 : (cs.drop i).take 1 = [cs[i]] := by
      rw [List.take_one, List.head?_drop, hc]
      rfl
    rw [e2] at e
    injection e with e3
    rw [hc, e3]
    unfold byc
    congr 2
    omega
  refine ⟨⟨(List.range 16).map fun i => natOf cs[i]?, by simp, fun n hn => ?_⟩, ?_⟩
  · obtain ⟨i, hi, rfl⟩ := List.mem_map.1 hn
    obtain ⟨k, hk, e⟩ := hone i (List.mem_range.1 hi)
    rw [e]
    simpa [natOf, byc] using hk
  · apply List.ext_getElem?
    intro i
    by_cases hi : i < 16
    · obtain ⟨k, hk, e⟩ := hone i hi
      rw [e]
      simp [B16.cs, hi, e, natOf, byc]
    · rw [List.getElem?_eq_none (by omega), List.getElem?_eq_none (by simp [B16.cs]; omega)]
theorem ad_cells {H : Type} {enc : TypeId × Value → H} {W : World} {sp : Nat → Bool} {held : Bool} {fuel : Nat} {cs : List Value} {y : DataW H × List MemPlace} (h : DataW.trod enc Tryz.prog W 0 sp held fuel 44 cs = some y) : ∃ a : Ad, cs = a.cs.toList ∧ (Lit.int .i64 a.v).wf = true := by
  obtain ⟨xs, m, _, _, hlen, hxs, hg⟩ := DataW.trod_struct Tryz.underlying44 h
  rw [c_ad] at hlen
  obtain ⟨y0, y1, rfl⟩ : ∃ y0 y1, xs = [y0, y1] := by
    match xs, hxs with
    | [a, b], _ => exact ⟨a, b, rfl⟩
  have t0 : DataW.trod enc Tryz.prog W 0 sp held m 3 (List.take (Tryz.prog.cellsOf 3) (List.drop 0 cs)) = some y0 := hg 0 _ rfl
  rw [c_int] at t0
  have t1 : DataW.trod enc Tryz.prog W 0 sp held m 42 (List.take (Tryz.prog.cellsOf 42) (List.drop 1 cs)) = some y1 := hg 1 _ rfl
  rw [c_b16] at t1
  obtain ⟨u0, e0, _, f0⟩ := DataW.trod_int Tryz.underlying3 t0
  obtain ⟨b, hb⟩ := b16_cells t1
  refine ⟨⟨u0, b⟩, ?_, f0⟩
  rw [show (Ad.mk u0 b).cs.toList = [Value.int .i64 u0] ++ b.cs.toList from by simp [Ad.cs], ← hb, ← e0, List.drop_zero, List.take_of_length_le (l := cs.drop 1) (by simp; omega)]
  exact (List.take_append_drop 1 cs).symm
theorem px_cells {H : Type} {enc : TypeId × Value → H} {W : World} {sp : Nat → Bool} {held : Bool} {fuel : Nat} {cs : List Value} {y : DataW H × List MemPlace} (h : DataW.trod enc Tryz.prog W 0 sp held fuel 46 cs = some y) : ∃ p : Px, cs = p.cs.toList ∧ (Lit.int .i64 p.n).wf = true ∧ (Lit.int .i64 p.a.v).wf = true := by
  obtain ⟨xs, m, _, _, hlen, hxs, hg⟩ := DataW.trod_struct Tryz.underlying46 h
  rw [c_px] at hlen
  obtain ⟨y0, y1, rfl⟩ : ∃ y0 y1, xs = [y0, y1] := by
    match xs, hxs with
    | [a, b], _ => exact ⟨a, b, rfl⟩
  have t0 : DataW.trod enc Tryz.prog W 0 sp held m 44 (List.take (Tryz.prog.cellsOf 44) (List.drop 0 cs)) = some y0 := hg 0 _ rfl
  rw [c_ad] at t0
  have t1 : DataW.trod enc Tryz.prog W 0 sp held m 3 (List.take (Tryz.prog.cellsOf 3) (List.drop 17 cs)) = some y1 := hg 1 _ rfl
  rw [c_int] at t1
  obtain ⟨u0, e0, _, f0⟩ := DataW.trod_int Tryz.underlying3 t1
  obtain ⟨a, ha, fa⟩ := ad_cells t0
  refine ⟨⟨a, u0⟩, ?_, f0, fa⟩
  rw [show (Px.mk a u0).cs.toList = a.cs.toList ++ [Value.int .i64 u0] from by simp [Px.cs], ← ha, ← e0, List.drop_zero, List.take_of_length_le (l := cs.drop 17) (by simp; omega)]
  exact (List.take_append_drop 17 cs).symm
theorem ad_of {H : Type} {enc : TypeId × Value → H} {W : World} {sp : Nat → Bool} {base : Nat} {held : Bool} {v : Value} {d : DataW H} {p : List MemPlace} (hv : Value.okWide Tryz.prog W .any base 44 v) (h : DataW.Trod enc Tryz.prog W 0 sp held 44 v d p) : ∃ a : Ad, v = .agg a.cs ∧ (Lit.int .i64 a.v).wf = true := by
  obtain ⟨cs, rfl, hsz⟩ := okWide_struct Tryz.underlying44 hv
  obtain ⟨fuel, hf⟩ := h
  obtain ⟨a, ha, fa⟩ := ad_cells (show DataW.trod enc Tryz.prog W 0 sp held fuel 44 cs.toList = some _ from hf)
  exact ⟨a, congrArg Value.agg (Array.toList_inj.1 ha), fa⟩
theorem px_of {H : Type} {enc : TypeId × Value → H} {W : World} {sp : Nat → Bool} {base : Nat} {held : Bool} {v : Value} {d : DataW H} {p : List MemPlace} (hv : Value.okWide Tryz.prog W .any base 46 v) (h : DataW.Trod enc Tryz.prog W 0 sp held 46 v d p) : ∃ a : Px, v = .agg a.cs ∧ (Lit.int .i64 a.n).wf = true ∧ (Lit.int .i64 a.a.v).wf = true := by
  obtain ⟨cs, rfl, hsz⟩ := okWide_struct Tryz.underlying46 hv
  obtain ⟨fuel, hf⟩ := h
  obtain ⟨a, ha, fn, fa⟩ := px_cells (show DataW.trod enc Tryz.prog W 0 sp held fuel 46 cs.toList = some _ from hf)
  exact ⟨a, congrArg Value.agg (Array.toList_inj.1 ha), fn, fa⟩

def laidAll : List (String × DataW Unit) := [("junctionbox/prefix.widths", Rows.laid_junctionbox_prefix_widths)]
theorem gAll : Tryz.prog.globalNamed "junctionbox/prefix.widths" = some 0 := by kernel_rfl
theorem tAll : (Tryz.prog.globals[0]?).map (·.type) = some 141 := by kernel_rfl
theorem door_met (os : Os) (args : Array Value) : laidMetH Tryz.prog laidAll ((World.doorLaid Tryz.prog 14 os).forCall (fun _ _ => 0) ⟨#[], args, []⟩).memory :=
  laidMetH_of_parts3 (fuel := 8) (laidMet_of_run' 8 (by kernel_rfl) (by kernel_rfl)) (by kernel_rfl) (by kernel_rfl)
theorem of_laid {W : World} (h : laidMetH Tryz.prog laidAll W) : Wid W := by
  rw [MakeChecks.laidMetH_plain _ _ _ (by kernel_rfl)] at h
  obtain ⟨ps, ⟨g0, t0, cs0, f0, p0, q0, hg0, ht0, hv0, hd0, _, _⟩, _, _⟩ := h
  obtain rfl := Option.some.inj (gAll.symm.trans hg0)
  obtain rfl := Option.some.inj (tAll.symm.trans ht0)
  obtain ⟨xs, m, _, hx, hlen, hxs, hg⟩ := DataW.trod_array Tryz.underlying141 hd0
  have hlen7 : cs0.toList.length = 7 := hlen.trans (by kernel_rfl)
  have hone : ∀ i (u : Int), i < 7 → (xs.map (·.1))[i]? = some (.lit (.int .i64 u)) → W.cell? ⟨0, i, none⟩ = some (.int .i64 u) := by
    intro i u hi hu
    have h1 := hg i hi
    rw [c_int, Nat.mul_one] at h1
    have hxi : xs[i]? = some xs[i] := List.getElem?_eq_getElem (by omega)
    rw [hxi] at h1
    obtain ⟨u', e, e', _⟩ := DataW.trod_int Tryz.underlying3 h1
    have hu2 : u' = u := by
      rw [List.getElem?_map, hxi, Option.map_some, e'] at hu
      simpa using hu
    subst hu2
    have hc : cs0.toList[i]? = some cs0.toList[i] := List.getElem?_eq_getElem (by omega)
    have e2 : (cs0.toList.drop i).take 1 = [cs0.toList[i]] := by
      rw [List.take_one, List.head?_drop, hc]
      rfl
    rw [e2] at e
    injection e with e3
    have hcell := World.var?_cell hg0 hv0 i
    rw [hcell, ← Array.getElem?_toList, hc, e3]
  have hm : xs.map (·.1) = [.lit (.int .i64 0), .lit (.int .i64 0), .lit (.int .i64 0), .lit (.int .i64 0), .lit (.int .i64 32), .lit (.int .i64 0), .lit (.int .i64 128)] := by
    have h9 := congrArg Prod.fst hx
    simp only [] at h9
    exact (DataW.agg.inj h9).symm
  intro j hj
  rw [hm] at hone
  have h7 : j = 0 ∨ j = 1 ∨ j = 2 ∨ j = 3 ∨ j = 4 ∨ j = 5 ∨ j = 6 := by omega
  rcases h7 with rfl | rfl | rfl | rfl | rfl | rfl | rfl <;> exact hone _ _ (by omega) rfl
end Go.Proofs.YtikdgbmdepplgaaGreatDoor
