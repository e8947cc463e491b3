/-
  The contract of the reference's Bytes of a table. Nothing here is a statement of the document.
-/
import Derived.Test.YtikdgbmdepplgaaGreatDoorTbS
import Derived.Test.YtikdgbmdepplgaaGreatDoorTbW
import Derived.Test.YtikdgbmdepplgaaGreatDoorRtT
import Derived.Test.YtikdgbmdepplgaaGreatDoorOctH
namespace Go.Proofs.YtikdgbmdepplgaaGreatDoor
open Go.RowKit Go.Shelf
set_option linter.unusedVariables false
set_option maxRecDepth 100000
attribute [local go_sem ↓] load_b16_rule store_b16_rule load_ad_rule store_ad_rule load_px_rule store_px_rule eq_b16_rule eq_ad_rule eq_px_rule load_rt_rule store_rt_rule build_ad_rule build_px_rule build_b16_rule build_rt_rule load_tab_rule build_tab_rule store_tab_rule tbuild_rule tapp_rule tcopy_rule eq_rt_rule

theorem hop_get {L : List Rt} (hL : okT L) {p : Px} {i : Nat} (hi : i < L.length) (h : ixM L p = (i : Int)) : rgetV L p = (rt L i).h ∧ 1 ≤ (rt L i).h := by
  refine ⟨by unfold rgetV; rw [h, if_neg (by omega), Int.toNat_natCast], ?_⟩
  have := ((okT_iff L).1 hL).2 i hi
  exact this.1.2.1
end Go.Proofs.YtikdgbmdepplgaaGreatDoor
namespace Go.Proofs.YtikdgbmdepplgaaGreatDoor
open Go.RowKit Go.Shelf
set_option linter.unusedVariables false
set_option maxRecDepth 100000

theorem putK_len1 (L : List Rt) (p : Px) {h : Int} (h0 : h ≠ 0) : ∀ k, (putK L p h k).1.length ≤ k + (if (putK L p h k).2 = true then 1 else 0)
  | 0 => by simp [putK]
  | k + 1 => by
    have := putK_len1 L p h0 k
    unfold putK
    by_cases h1 : (rt L k).p = p
    · rw [if_pos h1]; omega
    · rw [if_neg h1]
      by_cases h2 : (putK L p h k).2 = false ∧ cmpP p (rt L k).p < 0
      · rw [if_pos h2]
        rw [h2.1] at this
        simp at this ⊢; omega
      · rw [if_neg h2]
        simp only [List.length_append, List.length_singleton]
        split at this <;> simp_all <;> omega
theorem putL_len1 (L : List Rt) (p : Px) {h : Int} (h0 : h ≠ 0) : (putL L p h).length ≤ L.length + 1 := by
  have := putK_len1 L p h0 L.length
  unfold putL
  by_cases h1 : (putK L p h L.length).2 = false
  · rw [if_pos h1]; rw [h1] at this; simp at this ⊢; omega
  · rw [if_neg h1]; split at this <;> omega
/-- The prefixes that of the first k rows of A the table B has not alike, put to what is there. -/
noncomputable def dfK (B A acc : List Rt) : Nat → List Rt
  | 0 => acc
  | k + 1 => if rgetV B (rt A k).p = (rt A k).h then dfK B A acc k else putL (dfK B A acc k) (rt A k).p 1
theorem dfK_len (B A acc : List Rt) : ∀ k, (dfK B A acc k).length ≤ acc.length + k
  | 0 => by simp [dfK]
  | k + 1 => by
    have := dfK_len B A acc k
    unfold dfK
    split
    · omega
    · have := putL_len1 (dfK B A acc k) (rt A k).p (h := 1) (by omega); omega
theorem dfK_rise (B A : List Rt) {acc : List Rt} (ha : acc.Pairwise ltR) : ∀ k, (dfK B A acc k).Pairwise ltR
  | 0 => ha
  | k + 1 => by
    unfold dfK
    split
    · exact dfK_rise B A ha k
    · exact (putL_spec (dfK_rise B A ha k) _ _).1
theorem dfK_yes {B A acc : List Rt} {k : Nat} (h : rgetV B (rt A k).p = (rt A k).h) : dfK B A acc (k + 1) = dfK B A acc k := by rw [dfK, if_pos h]
theorem dfK_no {B A acc : List Rt} {k : Nat} (h : ¬ rgetV B (rt A k).p = (rt A k).h) : dfK B A acc (k + 1) = putL (dfK B A acc k) (rt A k).p 1 := by rw [dfK, if_neg h]
theorem OwnP.later {w w' : World} {B : Nat} {v : Value} {L : List Px} (h : OwnP w B v L) (k : Below w.heap.size w w') : OwnP w' B v L := by
  refine ⟨h.1, ?_⟩
  rcases h.2 with h | ⟨g, cap, cur, h1, h2, h3, h4⟩
  · exact .inl h
  · exact .inr ⟨g, cap, cur, h1, h2, (k.block _ (Array.getElem?_eq_some_iff.1 h3).1).trans h3, h4⟩
theorem OwnP.less {w : World} {B C : Nat} {v : Value} {L : List Px} (h : OwnP w B v L) (hC : C ≤ B) : OwnP w C v L := by
  refine ⟨h.1, ?_⟩
  rcases h.2 with h | ⟨g, cap, cur, h1, h2, h3⟩
  · exact .inl h
  · exact .inr ⟨g, cap, cur, h1, Nat.le_trans hC h2, h3⟩
/-- A store into a box of one cell leaves rows as they were. -/
theorem Tbl.box {w : World} {g : Nat} {v0 : Value} (hb : Blk w g 56 #[v0]) {a : Option Addr} {c : Nat} {L : List Rt} (t : Tbl w a c L) (v : Value) : Tbl (w.setRow g #[v]) a c L := by
  by_cases hL : L = []
  · exact ⟨.inl hL, t.le, t.cap, t.nil⟩
  · refine t.kept ((Kept.refl [g] w).setRow (.inl (by simp)) _) fun x hx => ?_
    rcases t.at' with h1 | ⟨g', o, h1, h2⟩
    · exact absurd h1 hL
    · intro hm
      have e : g' = g := by rw [hx] at h1; cases h1; simpa using hm
      have hl : 0 < L.length := List.length_pos_iff.2 hL
      have q := h2.row 0 hl 1 (by omega)
      rw [e, hb.cell] at q
      simp at q
      have q2 := (rt L 0).size
      omega
attribute [local go_sem ↓] load_b16_rule store_b16_rule load_ad_rule store_ad_rule load_px_rule store_px_rule eq_b16_rule eq_ad_rule eq_px_rule load_rt_rule store_rt_rule build_ad_rule build_px_rule build_b16_rule build_rt_rule load_tab_rule build_tab_rule store_tab_rule tbuild_rule tapp_rule tcopy_rule eq_rt_rule

end Go.Proofs.YtikdgbmdepplgaaGreatDoor
namespace Go.Proofs.YtikdgbmdepplgaaGreatDoor
open Go.RowKit Go.Shelf
set_option linter.unusedVariables false
set_option maxRecDepth 100000
/-- Bytes that a call owns, from block B on. -/
abbrev OwnB (w : World) (B : Nat) (v : Value) (l : List Nat) : Prop := w.ownsRow B 5 1 v l.length (l.map byc)
theorem OwnB.later {w w' : World} {B : Nat} {v : Value} {l : List Nat} (h : OwnB w B v l) (k : Below w.heap.size w w') : OwnB w' B v l := own_later2 h k
theorem OwnB.less {w : World} {B C : Nat} {v : Value} {l : List Nat} (h : OwnB w B v l) (hC : C ≤ B) : OwnB w C v l := by
  refine ⟨h.1, ?_⟩
  rcases h.2 with h | ⟨g, cap, cur, h1, h2, h3⟩
  · exact .inl h
  · exact .inr ⟨g, cap, cur, h1, Nat.le_trans hC h2, h3⟩
theorem OwnB.same9 {w w' : World} {B : Nat} {v : Value} {l : List Nat} (h : OwnB w B v l) (hs : ∀ g, v.ownBlock = some g → w'.heap[g]? = w.heap[g]?) : OwnB w' B v l := by
  refine ⟨h.1, ?_⟩
  rcases h.2 with h | ⟨g, cap, cur, h1, h2, h3, h4⟩
  · exact .inl h
  · exact .inr ⟨g, cap, cur, h1, h2, (hs g (by rw [h1]; rfl)).trans h3, h4⟩
theorem OwnB.lies {w : World} {B : Nat} {v : Value} {l : List Nat} (h : OwnB w B v l) : ∃ a c, v = .slice a l.length c ∧ l.length ≤ c ∧ c ≤ maxLen ∧ Lies w a l ∧ ∀ x, a = some x → B ≤ x.block := by
  rcases h.2 with ⟨rfl, h0⟩ | ⟨g, cap, cur, rfl, hb, hg, hc, hm, hs, ht⟩
  · have : l = [] := List.eq_nil_of_length_eq_zero h0
    subst this
    exact ⟨none, 0, rfl, by simp, by unfold maxLen; omega, .inl rfl, fun x hx => by cases hx⟩
  · refine ⟨_, cap, rfl, hc, hm, .inr ⟨g, 0, rfl, (Array.getElem?_eq_some_iff.1 hg).1, fun i hi => ?_⟩, fun x hx => by cases hx; exact hb⟩
    rw [Nat.zero_add, cell_of_row w g i cur _ _ hg, ← Array.getElem?_toList]
    have : (cur.toList.take l.length)[i]? = (l.map byc)[i]? := by
      have ht2 := ht
      rw [Nat.mul_one] at ht2
      rw [ht2]
    rw [List.getElem?_take, if_pos hi] at this
    rw [this, List.getElem?_map, List.getElem?_eq_getElem hi]
    simp [byc, List.getD_eq_getElem?_getD, List.getElem?_eq_getElem hi]
theorem byc_one9 (l : List Nat) : ∀ u ∈ l.map byc, u.oneCell' = true := fun u hu => by
  obtain ⟨x, _, rfl⟩ := List.mem_map.1 hu
  rfl
theorem bapp_run {w : World} {B : Nat} {v : Value} {L M : List Nat} {x : Addr} {m c : Nat} (h : OwnB w B v L) (hm : M.length = m) (hM : Lies w (some x) M) (hs : L.length + m ≤ 1000000) (hB : B ≤ w.heap.size) :
    ∃ v' w', (∀ ty : TypeId, (Builtin.append_ #[30, 30] ty #[v, .slice (some x) m c]).run Tryz.prog w = .ok v' w') ∧ OwnB w' B v' (L ++ M) ∧ w.grownBy w' v.ownBlock := by
  obtain ⟨i0, hi, hz0, hz1, hz2⟩ := info_parts Tryz.info5
  have hsrc : ∀ j u, (M.map byc)[j]? = some u → w.cell? (x.add j) = some u := by
    intro j u hj
    have hjl : j < M.length := by have := (List.getElem?_eq_some_iff.1 hj).1; simpa using this
    rcases hM with rfl | ⟨g, o, e, hb, hc⟩
    · simp at hjl
    · cases e
      rw [Addr.add_lit, hc j hjl]
      rw [List.getElem?_map, List.getElem?_eq_getElem hjl] at hj
      simp at hj
      rw [← hj]
      simp [byc, List.getD_eq_getElem?_getD, List.getElem?_eq_getElem hjl]
  have key : ∀ ty : TypeId, ∃ v' w', (Builtin.append_ #[30, 30] ty #[v, .slice (some x) m c]).run Tryz.prog w = .ok v' w' ∧ OwnB w' B v' (L ++ M) ∧ w.grownBy w' v.ownBlock := fun ty => by
    obtain ⟨v', w', h1, h2, h3, _⟩ := run_append_own (P := Tryz.prog) w B 30 ty 5 i0 (.int .u8 0) 1 1 Tryz.underlying30 hi hz0 hz1 hz2 rfl (by decide) v L.length (L.map byc) h x m c (M.map byc) (by simp [hm]) hsrc (byc_one9 M) (by unfold maxLen; omega) (by omega) hB
    refine ⟨v', w', h1, ?_, h3⟩
    show w'.ownsRow B _ 1 v' (L ++ M).length ((L ++ M).map byc)
    rw [List.length_append, hm, List.map_append]
    exact h2
  obtain ⟨v', w', h1, h2, h3⟩ := key 30
  exact ⟨v', w', fun ty => h1, h2, h3⟩
theorem one_byte (w : World) (x : Nat) : Lies (w.alloc (.cells #[.int .u8 (x : Int)] 5)) (some ⟨w.heap.size, 0, none⟩) [x] := by
  have hb := Blk.new w 5 #[.int .u8 (x : Int)]
  refine .inr ⟨w.heap.size, 0, rfl, hb.lt, fun i hi => ?_⟩
  have : i = 0 := by simp at hi; omega
  subst this
  exact hb.cell 0
/-- The bytes of rows, and of a table. -/
noncomputable def rowsB (L : List Rt) : List Nat := L.flatMap (fun r => encP r.p ++ [r.h.toNat])
noncomputable def tabB (L : List Rt) : List Nat := L.length :: rowsB L
theorem rowsB_next {L : List Rt} {k : Nat} (h : k < L.length) : rowsB (L.take (k + 1)) = rowsB (L.take k) ++ (encP (rt L k).p ++ [(rt L k).h.toNat]) := by
  rw [List.take_add_one, rt_some h]
  simp [rowsB]
theorem encP_b {p : Px} (h : okP p) : 2 ≤ (encP p).length ∧ (encP p).length ≤ 18 := by
  have h1 := encP_len h
  have hf := fill8_le (n := p.n.toNat) (by have := h.2.2.1; have := wid_le p.a.v; omega)
  omega
theorem rowsB_len : ∀ L : List Rt, (∀ r ∈ L, okP r.p) → (rowsB L).length ≤ 19 * L.length
  | [], _ => by simp [rowsB]
  | r :: L, h => by
    have h1 := rowsB_len L (fun x hx => h x (by simp [hx]))
    have h2 := (encP_b (h r (by simp))).2
    have : rowsB (r :: L) = (encP r.p ++ [r.h.toNat]) ++ rowsB L := by simp [rowsB]
    rw [this]
    simp
    omega
theorem wrap_b9 {k : Nat} (h : k ≤ 255) : IntKind.u8.wrap (k : Int) = (k : Int) := by
  unfold IntKind.wrap
  simp [IntKind.bits, IntKind.signed]
  omega
theorem wrap_oneD {j : Nat} (h : j + 1 ≤ 4001) : wrap64 ((j : Int) + 1) = ((j + 1 : Nat) : Int) := by unfold wrap64; omega
theorem measD {cnt k : Nat} (h : k < cnt) (hw : wrap64 ((k : Int) + 1) = ((k + 1 : Nat) : Int)) : cnt - (intOf (.int .i64 (wrap64 ((k : Int) + 1)))).toNat < cnt - (intOf (.int .i64 (k : Int))).toNat := by
  rw [hw]
  simp only [intOf]
  omega
theorem bbuild1_run (x : Nat) (w : World) : (Instr.buildSlice 30 1 #[(0, .int .u8 (x : Int))]).run Tryz.prog w = .ok (.slice (some ⟨w.heap.size, 0, none⟩) 1 1) (w.alloc (.cells #[.int .u8 (x : Int)] 5)) := by kernel_rfl
def bbuildSem (n : Nat) (parts : Array (Nat × Value)) : Sem Value := Instr.buildSlice 30 n parts
theorem bbuild_rule (n : Nat) (parts : Array (Nat × Value)) : Instr.buildSlice 30 n parts = bbuildSem n parts := rfl
theorem bbuild1_run9 (x : Nat) (w : World) : (bbuildSem 1 #[(0, .int .u8 (x : Int))]).run Tryz.prog w = .ok (.slice (some ⟨w.heap.size, 0, none⟩) 1 1) (w.alloc (.cells #[.int .u8 (x : Int)] 5)) := bbuild1_run x w
theorem bown1 (x : Nat) (w : World) : OwnB (w.alloc (.cells #[.int .u8 (x : Int)] 5)) w.heap.size (.slice (some ⟨w.heap.size, 0, none⟩) 1 1) [x] := own_one w x
attribute [local go_sem ↓] load_b16_rule store_b16_rule load_ad_rule store_ad_rule load_px_rule store_px_rule eq_b16_rule eq_ad_rule eq_px_rule load_rt_rule store_rt_rule build_ad_rule build_px_rule build_b16_rule build_rt_rule load_tab_rule build_tab_rule store_tab_rule tbuild_rule tapp_rule tcopy_rule eq_rt_rule bbuild_rule
end Go.Proofs.YtikdgbmdepplgaaGreatDoor
namespace Go.Proofs.YtikdgbmdepplgaaGreatDoor
open Go.RowKit Go.Shelf
set_option linter.unusedVariables false
set_option maxRecDepth 100000
theorem X0_size9 {w X : World} (h : w.drew = X) : w.heap.size = X.heap.size := by rw [← h]; rfl
theorem own_of9 {w : World} {g : Nat} {l : List Nat} (h : Own w g l) (hm : l.length ≤ maxLen) : OwnB w g (.slice (some ⟨g, 0, none⟩) l.length l.length) l :=
  ⟨by simp, .inr ⟨g, l.length, (l.map byc).toArray, rfl, Nat.le_refl _, h, Nat.le_refl _, hm, by simp, by simp [List.take_of_length_le]⟩⟩
attribute [local go_sem ↓] load_b16_rule store_b16_rule load_ad_rule store_ad_rule load_px_rule store_px_rule eq_b16_rule eq_ad_rule eq_px_rule load_rt_rule store_rt_rule build_ad_rule build_px_rule build_b16_rule build_rt_rule load_tab_rule build_tab_rule store_tab_rule tbuild_rule tapp_rule tcopy_rule eq_rt_rule bbuild_rule
end Go.Proofs.YtikdgbmdepplgaaGreatDoor
