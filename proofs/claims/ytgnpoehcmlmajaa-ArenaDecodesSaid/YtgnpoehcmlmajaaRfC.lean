/-
  The document's arena: which block is at a place. Nothing here is a statement of the document.
-/
import Derived.Test.YtgnpoehcmlmajaaArnK
import Derived.Test.YtgnpoehcmlmajaaArnX
import Derived.Laws.OwnMore
import Derived.BigQuiet
namespace Go.Proofs.Ytgnpoehcmlmajaa
open Go.RowKit Go.Shelf
set_option linter.unusedVariables false

def wvl (l : List Nat) : List Value := l.map fun n : Nat => Value.int .u32 (n : Int)
def ivl (l : List Nat) : List Value := l.map fun n : Nat => Value.int .i64 (n : Int)
theorem wvl_len (l : List Nat) : (wvl l).length = l.length := by simp [wvl]
theorem ivl_len (l : List Nat) : (ivl l).length = l.length := by simp [ivl]
theorem wvl_one (l : List Nat) : ∀ u ∈ wvl l, u.oneCell' = true := by
  intro u hu
  obtain ⟨n, _, rfl⟩ := List.mem_map.1 hu
  rfl
theorem ivl_one (l : List Nat) : ∀ u ∈ ivl l, u.oneCell' = true := by
  intro u hu
  obtain ⟨n, _, rfl⟩ := List.mem_map.1 hu
  rfl

/-- A block as the document has it. -/
structure Rb where
  x : Nat
  c : Nat
  t : Bool
  ws : List Nat
def Rb.cs (b : Rb) (v : Value) : Array Value := #[.int .i64 (b.x : Int), .int .i64 (b.c : Int), .bool b.t, v]
theorem Rb.cs_size (b : Rb) (v : Value) : (b.cs v).size = 4 := rfl
def rbs (R : List Rb) (vs : List Value) : List Value := (R.zip vs).flatMap fun z => (z.1.cs z.2).toList
theorem rbs_get {R : List Rb} {vs : List Value} {k : Nat} {b : Rb} {v : Value} (h : R[k]? = some b) (hv : vs[k]? = some v) {j : Nat} (hj : j < 4) : (rbs R vs)[k * 4 + j]? = (b.cs v)[j]? :=
  flat_get (f := fun z : Rb × Value => z.1.cs z.2) (n := 4) (fun _ => rfl) (R.zip vs) k (b, v) (by simp [List.getElem?_zip_eq_some, h, hv]) j hj
theorem rbs_len : ∀ {R : List Rb} {vs : List Value}, vs.length = R.length → (rbs R vs).length = R.length * 4
  | [], _, _ => by simp [rbs]
  | b :: R, [], h => by simp at h
  | b :: R, v :: vs, h => by
    have ih := rbs_len (R := R) (vs := vs) (by simpa using h)
    simp only [rbs, List.zip_cons_cons, List.flatMap_cons, List.length_append, List.length_cons] at ih ⊢
    rw [ih]
    show (b.cs v).toList.length + _ = _
    rw [Array.length_toList, Rb.cs_size]; omega
theorem rbs_snoc {R : List Rb} {vs : List Value} (h : vs.length = R.length) (b : Rb) (v : Value) : rbs (R ++ [b]) (vs ++ [v]) = rbs R vs ++ (b.cs v).toList := by
  unfold rbs
  rw [List.zip_append h.symm]
  simp
theorem rbs_ext {R R' : List Rb} {vs vs' : List Value} {xs : List Value} (h : vs'.length = R'.length) (hl : xs.length = R'.length * 4) (hx : ∀ k b v, R'[k]? = some b → vs'[k]? = some v → ∀ j, j < 4 → xs[k * 4 + j]? = (b.cs v)[j]?) : xs = rbs R' vs' := by
  apply List.ext_getElem?
  intro i
  by_cases hi : i < R'.length * 4
  · have hk : i / 4 < R'.length := by omega
    have e : i = i / 4 * 4 + i % 4 := by omega
    rw [e, hx (i / 4) _ _ (List.getElem?_eq_getElem hk) (List.getElem?_eq_getElem (by omega)) (i % 4) (by omega), rbs_get (List.getElem?_eq_getElem hk) (List.getElem?_eq_getElem (by omega)) (by omega)]
  · rw [List.getElem?_eq_none (by omega), List.getElem?_eq_none (by rw [rbs_len h]; omega)]
theorem rbs_setT {R : List Rb} {vs : List Value} (h : vs.length = R.length) {k : Nat} {b : Rb} (hb : R[k]? = some b) (t : Bool) : (rbs R vs).set (k * 4 + 2) (.bool t) = rbs (R.set k { b with t := t }) vs := by
  have hk : k < R.length := (List.getElem?_eq_some_iff.1 hb).1
  refine rbs_ext (R := R) (vs := vs) (by simpa using h) (by simp [rbs_len h]) (fun i b' v hb' hv j hj => ?_)
  rw [List.getElem?_set] at hb' ⊢
  by_cases hik : k = i
  · subst hik
    rw [if_pos rfl, if_pos hk] at hb'
    obtain rfl : _ = b' := by simpa using hb'
    by_cases hj2 : j = 2
    · subst hj2
      rw [if_pos rfl, if_pos (by rw [rbs_len h]; omega)]; rfl
    · rw [if_neg (by omega), rbs_get hb hv hj]
      rcases (show j = 0 ∨ j = 1 ∨ j = 3 by omega) with rfl | rfl | rfl <;> rfl
  · rw [if_neg hik] at hb'
    rw [if_neg (by omega), rbs_get hb' hv hj]
theorem rbs_setV {R : List Rb} {vs : List Value} (h : vs.length = R.length) {k : Nat} {b : Rb} (hb : R[k]? = some b) (l : List Nat) (v : Value) : (rbs R vs).set (k * 4 + 3) v = rbs (R.set k { b with ws := l }) (vs.set k v) := by
  have hk : k < R.length := (List.getElem?_eq_some_iff.1 hb).1
  refine rbs_ext (R := R) (vs := vs) (by simpa using h) (by simp [rbs_len h]) (fun i b' v' hb' hv j hj => ?_)
  rw [List.getElem?_set] at hb' ⊢
  rw [List.getElem?_set] at hv
  by_cases hik : k = i
  · subst hik
    rw [if_pos rfl, if_pos hk] at hb'
    rw [if_pos rfl, if_pos (by omega)] at hv
    obtain rfl : _ = b' := by simpa using hb'
    obtain rfl : v = v' := by simpa using hv
    by_cases hj2 : j = 3
    · subst hj2
      rw [if_pos rfl, if_pos (by rw [rbs_len h]; omega)]; rfl
    · obtain ⟨v0, hv0⟩ : ∃ v0, vs[k]? = some v0 := ⟨_, List.getElem?_eq_getElem (by omega)⟩
      rw [if_neg (by omega), rbs_get hb hv0 hj]
      rcases (show j = 0 ∨ j = 1 ∨ j = 2 by omega) with rfl | rfl | rfl <;> rfl
  · rw [if_neg hik] at hb' hv
    rw [if_neg (by omega), rbs_get hb' hv hj]
theorem rbs_setW {R : List Rb} {vs : List Value} {k : Nat} {b : Rb} (hb : R[k]? = some b) (h : vs.length = R.length) (l : List Nat) : rbs (R.set k { b with ws := l }) vs = rbs R vs := by
  have hk : k < R.length := (List.getElem?_eq_some_iff.1 hb).1
  refine (rbs_ext (R := R) (vs := vs) (by simpa using h) (by simp [rbs_len h]) (fun i b' v' hb' hv j hj => ?_)).symm
  rw [List.getElem?_set] at hb'
  by_cases hik : k = i
  · subst hik
    rw [if_pos rfl, if_pos hk] at hb'
    obtain rfl : _ = b' := by simpa using hb'
    rw [rbs_get hb hv hj]; rfl
  · rw [if_neg hik] at hb'
    rw [rbs_get hb' hv hj]
theorem rbs_one {R : List Rb} {vs : List Value} (h : ∀ v ∈ vs, v.oneCell' = true) : ∀ u ∈ rbs R vs, u.oneCell' = true := by
  intro u hu
  obtain ⟨z, hz, hu⟩ := List.mem_flatMap.1 hu
  have hz2 : z.2 ∈ vs := (List.of_mem_zip (by simpa using hz)).2
  simp only [Rb.cs, List.mem_cons, List.not_mem_nil, or_false] at hu
  rcases hu with rfl | rfl | rfl | rfl
  · rfl
  · rfl
  · rfl
  · exact h _ hz2

/-- What the document's arena is. -/
structure Mo where
  N : Nat
  R : List Rb
  L : Nat → List Nat
  v : Nat
  e : Nat
  four : Int
  six : Int
  gd : Nat
def Mo.vals (M : Mo) (bv : Value) (ls : Nat → Value) : Array Value :=
  #[.int .i64 (M.N : Int), bv, ls 0, ls 1, ls 2, ls 3, ls 4, ls 5, .int .u64 (M.v : Int), .int .u64 (M.e : Int), .int .i64 M.four, .int .i64 M.six, .int .u64 (M.gd : Int)]
theorem Mo.vals_size (M : Mo) (bv : Value) (ls : Nat → Value) : (M.vals bv ls).size = 13 := rfl
theorem Mo.vals_l (M : Mo) (bv : Value) (ls : Nat → Value) {k : Nat} (hk : k ≤ 5) : (M.vals bv ls)[2 + k]? = some (ls k) := by
  rcases (show k = 0 ∨ k = 1 ∨ k = 2 ∨ k = 3 ∨ k = 4 ∨ k = 5 by omega) with rfl | rfl | rfl | rfl | rfl | rfl <;> rfl
/-- Another list of a class. -/
def upd {α : Type} (f : Nat → α) (k : Nat) (x : α) : Nat → α := fun j => if j = k then x else f j
theorem Mo.vals_setL (M : Mo) (bv : Value) (ls : Nat → Value) {k : Nat} (hk : k ≤ 5) (l : Nat → List Nat) (v : Value) : (M.vals bv ls).setIfInBounds (2 + k) v = ({ M with L := l } : Mo).vals bv (upd ls k v) := by
  rcases (show k = 0 ∨ k = 1 ∨ k = 2 ∨ k = 3 ∨ k = 4 ∨ k = 5 by omega) with rfl | rfl | rfl | rfl | rfl | rfl <;> simp [Mo.vals, upd]

/-- A row of places somewhere. -/
def Ints (w : World) (lo : Nat) (v : Value) (l : List Nat) : Prop :=
  ∃ a c, v = .slice a l.length c ∧ l.length ≤ c ∧ (a = none → c = 0) ∧ (l = [] ∨ ∃ g o C, a = some ⟨g, o, none⟩ ∧ lo ≤ g ∧ Blk w g 3 C ∧ ∀ i u, (ivl l)[i]? = some u → C[o + i]? = some u)
theorem Ints.kept {w w' : World} {lo : Nat} {v : Value} {l : List Nat} {S : List Nat} (h : Ints w lo v l) (k : Kept S w w') (hS : ∀ s ∈ S, s < lo) : Ints w' lo v l := by
  obtain ⟨a, c, h1, h2, h0, h3⟩ := h
  exact ⟨a, c, h1, h2, h0, h3.imp id fun ⟨g, o, C, h4, h5, h6, h7⟩ => ⟨g, o, C, h4, h5, h6.kept k (fun h9 => by have := hS _ h9; omega), h7⟩⟩
theorem Ints.later {w w' : World} {lo : Nat} {v : Value} {l : List Nat} (h : Ints w lo v l) (k : Below w.heap.size w w') : Ints w' lo v l := h.kept (Kept.of_below [] k) (by simp)
theorem Ints.mono {w : World} {lo lo' : Nat} {v : Value} {l : List Nat} (h : Ints w lo v l) (hl : lo' ≤ lo) : Ints w lo' v l := by
  obtain ⟨a, c, h1, h2, h0, h3⟩ := h
  exact ⟨a, c, h1, h2, h0, h3.imp id fun ⟨g, o, C, h4, h5, h6⟩ => ⟨g, o, C, h4, by omega, h6⟩⟩
theorem Ints.nil (w : World) (lo : Nat) (a : Option Addr) (c : Nat) (h : a = none → c = 0) : Ints w lo (.slice a 0 c) [] := ⟨a, c, rfl, Nat.zero_le _, h, .inl rfl⟩
theorem Ints.of_own {w : World} {lo : Nat} {v : Value} {l : List Nat} (h : w.ownsRow lo 3 1 v l.length (ivl l)) : Ints w lo v l := by
  rcases h.2 with ⟨rfl, h0⟩ | ⟨g, cap, cur, rfl, hb, hg, hnc, hm, hs, ht⟩
  · exact ⟨none, 0, by rw [h0], by omega, fun _ => rfl, .inl (List.eq_nil_of_length_eq_zero h0)⟩
  · refine ⟨_, cap, rfl, hnc, (fun h9 => by cases h9), .inr ⟨g, 0, cur, rfl, hb, hg, fun i u hu => ?_⟩⟩
    rw [Nat.zero_add]
    rw [← ht, List.getElem?_take] at hu
    split at hu
    · simpa using hu
    · cases hu
/-- A store elsewhere. -/
theorem Ints.far {w : World} {lo : Nat} {v : Value} {l : List Nat} (h : Ints w lo v l) {g : Nat} {t : TypeId} {C : Array Value} (hb : Blk w g t C) (ht : t ≠ 3) (i : Nat) (u : Value) : Ints (w.setCell ⟨g, i, none⟩ u) lo v l := by
  obtain ⟨a, c, h1, h2, h0, h3⟩ := h
  exact ⟨a, c, h1, h2, h0, h3.imp id fun ⟨g', o, C', h4, h5, h6, h7⟩ => ⟨g', o, C', h4, h5, h6.far (p := ⟨g, i, none⟩) (h6.ne hb (Ne.symm ht)) u, h7⟩⟩
theorem Ints.cells {w : World} {lo : Nat} {l : List Nat} {g o c : Nat} (h : Ints w lo (.slice (some ⟨g, o, none⟩) l.length c) l) : ∀ i u, (ivl l)[i]? = some u → w.cell? ⟨g, o + i, none⟩ = some u := by
  obtain ⟨a, c', h1, h2, h0, h3⟩ := h
  intro i u hu
  rcases h3 with h3 | ⟨g', o', C, h4, h5, h6, h7⟩
  · subst h3; simp [ivl] at hu
  · subst h4
    injection h1 with h1 _ _
    injection h1 with h1
    injection h1 with e1 e2
    subst e1; subst e2
    exact (h6.cell _).trans (h7 i u hu)
theorem Ints.one {w : World} {lo : Nat} {v : Value} {l : List Nat} (h : Ints w lo v l) : v.oneCell' = true := by
  obtain ⟨a, c, rfl, _⟩ := h; rfl

theorem own_one {w : World} {B : Nat} {e : TypeId} {z : Nat} {v : Value} {n : Nat} {xs : List Value} (h : w.ownsRow B e z v n xs) : v.oneCell' = true := by
  obtain ⟨a, c, rfl⟩ := owns_sl h; rfl

theorem ownk {S : List Nat} {w w' : World} {b : Nat} {e : TypeId} {size : Nat} {v : Value} {n : Nat} {xs : List Value} (h : w.ownsRow b e size v n xs) (hk : Kept S w w') (hS : ∀ k, v.ownBlock = some k → k ∉ S) : w'.ownsRow b e size v n xs := by
  refine ⟨h.1, ?_⟩
  rcases h.2 with hn | ⟨g, cap, cur, rfl, hb, hg, rest⟩
  · exact .inl hn
  · exact .inr ⟨g, cap, cur, rfl, hb, hk.blk hg (hS g rfl), rest⟩
/-- The document's arena lies in memory, from a block on. -/
structure Rfa (w : World) (lo : Nat) (bv : Value) (ls : Nat → Value) (vs : List Value) (M : Mo) : Prop where
  row : w.ownsRow lo 84 4 bv M.R.length (rbs M.R vs)
  len : vs.length = M.R.length
  wds : ∀ (k : Nat) (b : Rb) (v : Value), M.R[k]? = some b → vs[k]? = some v → w.ownsRow lo 53 1 v (2 ^ b.c) (wvl b.ws)
  apart : ∀ (i j : Nat) (v v' : Value), vs[i]? = some v → vs[j]? = some v' → i ≠ j → v.ownBlock ≠ v'.ownBlock
  ok : ∀ b ∈ M.R, b.c ≤ 5 ∧ b.ws.length = 2 ^ b.c ∧ b.x ≤ 20000
  uq : ∀ (i j : Nat) (b b' : Rb), M.R[i]? = some b → M.R[j]? = some b' → b.x = b'.x → i = j
  lst : ∀ c, c ≤ 5 → Ints w lo (ls c) (M.L c)
  few : M.R.length ≤ 20000
  fewl : ∀ c, c ≤ 5 → (M.L c).length ≤ 20000
  small : M.N ≤ 16384

section
variable {w w' : World} {lo : Nat} {bv : Value} {ls : Nat → Value} {vs : List Value} {M : Mo}
theorem Rfa.kept (h : Rfa w lo bv ls vs M) {S : List Nat} (k : Kept S w w') (hS : ∀ s ∈ S, s < lo) : Rfa w' lo bv ls vs M :=
  ⟨ownk h.row k (fun j hj h9 => by have := (h.row.lt j hj).1; have := hS j h9; omega), h.len, fun i b v hb hv => ownk (h.wds i b v hb hv) k (fun j hj h9 => by have := ((h.wds i b v hb hv).lt j hj).1; have := hS j h9; omega), h.apart, h.ok, h.uq, fun c hc => (h.lst c hc).kept k hS, h.few, h.fewl, h.small⟩
theorem Rfa.later (h : Rfa w lo bv ls vs M) (k : Below w.heap.size w w') : Rfa w' lo bv ls vs M := h.kept (Kept.of_below [] k) (by simp)
theorem Rfa.mono (h : Rfa w lo bv ls vs M) {lo' : Nat} (hl : lo' ≤ lo) : Rfa w lo' bv ls vs M :=
  ⟨ownsRow_le h.row hl, h.len, fun i b v hb hv => ownsRow_le (h.wds i b v hb hv) hl, h.apart, h.ok, h.uq, fun c hc => (h.lst c hc).mono hl, h.few, h.fewl, h.small⟩
theorem Rfa.vs_one (h : Rfa w lo bv ls vs M) : ∀ v ∈ vs, v.oneCell' = true := fun v hv => by
  obtain ⟨k, hk, rfl⟩ := List.mem_iff_getElem.1 hv
  exact own_one (h.wds k _ _ (List.getElem?_eq_getElem (by have := h.len; omega)) (List.getElem?_eq_getElem hk))
theorem Rfa.v_get (h : Rfa w lo bv ls vs M) {k : Nat} {b : Rb} (hb : M.R[k]? = some b) : ∃ v, vs[k]? = some v := ⟨_, List.getElem?_eq_getElem (by have := h.len; have := (List.getElem?_eq_some_iff.1 hb).1; omega)⟩
theorem Rfa.vals_one (h : Rfa w lo bv ls vs M) : (M.vals bv ls).all (·.oneCell') = true := by
  have h1 := own_one h.row
  have l0 := (h.lst 0 (by omega)).one
  have l1 := (h.lst 1 (by omega)).one
  have l2 := (h.lst 2 (by omega)).one
  have l3 := (h.lst 3 (by omega)).one
  have l4 := (h.lst 4 (by omega)).one
  have l5 := (h.lst 5 (by omega)).one
  simp [Mo.vals, h1, l0, l1, l2, l3, l4, l5]
  simp [Value.oneCell']
end

theorem load_ra_rule (v : Value) : Instr.loadAt 36 v = loadSem 36 v := rfl
theorem store_ra_rule (v x : Value) : Instr.storeAt 36 v x = storeSem 36 v x := rfl
theorem load_rb_rule (v : Value) : Instr.loadAt 84 v = loadSem 84 v := rfl
theorem store_rb_rule (v x : Value) : Instr.storeAt 84 v x = storeSem 84 v x := rfl
theorem s_ra : (Try.prog.info? 36).map (·.size) = some 13 := by kernel_rfl
theorem s_rb : (Try.prog.info? 84).map (·.size) = some 4 := by kernel_rfl
theorem lra {W : World} {g : Nat} {V : Array Value} (h : Blk W g 36 V) (hs : V.size = 13) : (loadSem 36 (.pointer (some ⟨g, 0, none⟩))).run Try.prog W = .ok (.agg V) W :=
  loadRes_of (o := 0) h (fun q _ => by rw [Nat.zero_add]) _ Try.underlying36 rfl (by rw [hs]; exact s_ra)
theorem sra {W : World} {g : Nat} {V V' : Array Value} (h : Blk W g 36 V) (hs : V.size = 13) (hs' : V'.size = 13) (ho : V'.all (·.oneCell') = true) : (storeSem 36 (.pointer (some ⟨g, 0, none⟩)) (.agg V')).run Try.prog W = .ok () (W.setRow g V') := by
  have := storeRes_of (P := Try.prog) (ty := 36) (o := 0) (vs := V') h (by omega) (by rw [hs']; exact s_ra) ho
  rwa [over_all (by omega)] at this
theorem lrb {W : World} {g : Nat} {V : Array Value} (h : Blk W g 84 V) (hs : V.size = 4) : (loadSem 84 (.pointer (some ⟨g, 0, none⟩))).run Try.prog W = .ok (.agg V) W :=
  loadRes_of (o := 0) h (fun q _ => by rw [Nat.zero_add]) _ Try.underlying84 rfl (by rw [hs]; exact s_rb)
theorem srb {W : World} {g : Nat} {V V' : Array Value} (h : Blk W g 84 V) (hs : V.size = 4) (hs' : V'.size = 4) (ho : V'.all (·.oneCell') = true) : (storeSem 84 (.pointer (some ⟨g, 0, none⟩)) (.agg V')).run Try.prog W = .ok () (W.setRow g V') := by
  have := storeRes_of (P := Try.prog) (ty := 84) (o := 0) (vs := V') h (by omega) (by rw [hs']; exact s_rb) ho
  rwa [over_all (by omega)] at this
def zeroRb : Array Value := #[.int .i64 0, .int .i64 0, .bool false, .slice none 0 0]
def zeroRa : Array Value := #[.int .i64 0, .slice none 0 0, .slice none 0 0, .slice none 0 0, .slice none 0 0, .slice none 0 0, .slice none 0 0, .slice none 0 0, .int .u64 0, .int .u64 0, .int .i64 0, .int .i64 0, .int .u64 0]
theorem srb_new (w : World) {V : Array Value} (hs : V.size = 4) (ho : V.all (·.oneCell') = true) : (storeSem 84 (.pointer (some ⟨w.heap.size, 0, none⟩)) (.agg V)).run Try.prog (w.alloc (.cells #[.int .i64 0, .int .i64 0, .bool false, .slice none 0 0] 84)) = .ok () (w.alloc (.cells V 84)) := by
  rw [srb (Blk.new w 84 #[.int .i64 0, .int .i64 0, .bool false, .slice none 0 0]) rfl hs ho, World.setRow_alloc_new]
theorem sra_new (w : World) {V : Array Value} (hs : V.size = 13) (ho : V.all (·.oneCell') = true) : (storeSem 36 (.pointer (some ⟨w.heap.size, 0, none⟩)) (.agg V)).run Try.prog (w.alloc (.cells #[.int .i64 0, .slice none 0 0, .slice none 0 0, .slice none 0 0, .slice none 0 0, .slice none 0 0, .slice none 0 0, .slice none 0 0, .int .u64 0, .int .u64 0, .int .i64 0, .int .i64 0, .int .u64 0] 36)) = .ok () (w.alloc (.cells V 36)) := by
  rw [sra (Blk.new w 36 _) rfl hs ho, World.setRow_alloc_new]
theorem Rfa.cs_one {w : World} {lo : Nat} {bv : Value} {ls : Nat → Value} {vs : List Value} {M : Mo} (h : Rfa w lo bv ls vs M) {k : Nat} {b : Rb} {v : Value} (hb : M.R[k]? = some b) (hv : vs[k]? = some v) : (b.cs v).all (·.oneCell') = true := by
  have := own_one (h.wds k b v hb hv)
  simp [Rb.cs, this]; simp [Value.oneCell']
/-- A block out of the row. -/
theorem lrow {w : World} {lo g n c : Nat} {R : List Rb} {vs : List Value} (h : w.ownsRow lo 84 4 (.slice (some ⟨g, 0, none⟩) n c) n (rbs R vs)) {k : Nat} {b : Rb} {v : Value} (hb : R[k]? = some b) (hv : vs[k]? = some v) (hk : k < n) :
    (∀ j, j < 4 → w.cell? ⟨g, k * 4 + j, none⟩ = (b.cs v)[j]?) ∧ (loadSem 84 (.pointer (some ⟨g, k * 4, none⟩))).run Try.prog w = .ok (.agg (b.cs v)) w := by
  have hc : ∀ j, j < 4 → w.cell? ⟨g, k * 4 + j, none⟩ = (b.cs v)[j]? := fun j hj => by
    rw [h.cellAt (k * 4 + j) (by omega), rbs_get hb hv hj]
  refine ⟨hc, ?_⟩
  have := run_loadAt_mid (P := Try.prog) w g (k * 4) 84 (b.cs v).toList _ (fun j u hj => by
    have hl : j < 4 := (List.getElem?_eq_some_iff.1 hj).1
    rw [hc j hl]; simpa using hj) Try.underlying84 rfl s_rb
  exact this

set_option maxRecDepth 100000 in
set_option maxHeartbeats 400000 in
theorem rsize_any (c : Nat) (hc : c ≤ 5) (w : World) : Calls Try.prog 61 #[.int .i64 (c : Int)] w fun e w' => e = .returned (.int .i64 ((2 ^ c : Nat) : Int)) ∧ w = w' := by
  obtain ⟨z, hz⟩ : ∃ z : Int, (c : Int) = z := ⟨_, rfl⟩
  obtain ⟨y, hy⟩ : ∃ y : Int, ((2 ^ c : Nat) : Int) = y := ⟨_, rfl⟩
  have hzy : z = 0 ∧ y = 1 ∨ z = 1 ∧ y = 2 ∨ z = 2 ∧ y = 4 ∨ z = 3 ∧ y = 8 ∨ z = 4 ∧ y = 16 ∨ z = 5 ∧ y = 32 := by
    rcases (show c = 0 ∨ c = 1 ∨ c = 2 ∨ c = 3 ∨ c = 4 ∨ c = 5 by omega) with rfl | rfl | rfl | rfl | rfl | rfl <;> subst hz <;> subst hy <;> decide
  rw [hz, hy]
  clear hz hy hc
  have hix := fun w' => (show (Instr.index 132 (.agg #[.int .i64 1, .int .i64 2, .int .i64 4, .int .i64 8, .int .i64 16, .int .i64 32]) (.int .i64 z)).run Try.prog w' = .ok (.int .i64 y) w' by
    rcases hzy with ⟨rfl, rfl⟩ | ⟨rfl, rfl⟩ | ⟨rfl, rfl⟩ | ⟨rfl, rfl⟩ | ⟨rfl, rfl⟩ | ⟨rfl, rfl⟩ <;> kernel_rfl)
  clear hzy
  go_enter Try.func61, Try.ntmps61
  go_wp2
  go_ret
  exact ⟨rfl, rfl⟩
end Go.Proofs.Ytgnpoehcmlmajaa
namespace Go.Proofs.Ytgnpoehcmlmajaa
open Go.RowKit Go.Shelf
set_option linter.unusedVariables false

attribute [local go_sem ↓] load_ra_rule store_ra_rule load_rb_rule store_rb_rule

/-- Its first word that no block has had. -/
def Mo.edge (M : Mo) : Nat := match M.R.getLast? with
  | none => 16
  | some b => b.x + 2 ^ b.c
theorem Mo.edge_nil {M : Mo} (h : M.R = []) : M.edge = 16 := by simp [Mo.edge, h]
theorem Mo.edge_last {M : Mo} {R : List Rb} {b : Rb} (h : M.R = R ++ [b]) : M.edge = b.x + 2 ^ b.c := by simp [Mo.edge, h]

/-- A box with the arena in it, made as the function begins. -/
structure Bx (w W : World) (g lo : Nat) (bv : Value) (ls : Nat → Value) (vs : List Value) (M : Mo) : Prop where
  hb : Below w.heap.size w W
  bx : Blk W g 36 (M.vals bv ls)
  rf : Rfa W lo bv ls vs M
section
variable {w W W' : World} {g lo : Nat} {bv : Value} {ls : Nat → Value} {vs : List Value} {M : Mo}
theorem Bx.later (h : Bx w W g lo bv ls vs M) (k : Below W.heap.size W W') : Bx w W' g lo bv ls vs M :=
  ⟨h.hb.trans (k.mono h.hb.size), h.bx.kept (Kept.of_below [] k) (by simp), h.rf.later k⟩
theorem Bx.drewN (h : Bx w W g lo bv ls vs M) (n : Nat) : Bx w (W.drewN n) g lo bv ls vs M := ⟨below_drewN h.hb n, h.bx, h.rf.later (below_drewN (Below.refl _ _) n)⟩
theorem bx_new (h : Rfa w lo bv ls vs M) : Bx w (w.alloc (.cells (M.vals bv ls) 36)) w.heap.size lo bv ls vs M :=
  ⟨(Below.refl _ _).alloc (Nat.le_refl _) _, Blk.new _ _ _, h.later ((Below.refl _ _).alloc (Nat.le_refl _) _)⟩
theorem Bx.c0 (h : Bx w W g lo bv ls vs M) : W.cell? ⟨g, 0, none⟩ = some (.int .i64 (M.N : Int)) := h.bx.cell 0
theorem Bx.c1 (h : Bx w W g lo bv ls vs M) : W.cell? ⟨g, 1, none⟩ = some bv := h.bx.cell 1
theorem Bx.cl (h : Bx w W g lo bv ls vs M) {k : Nat} (hk : k ≤ 5) : W.cell? ⟨g, 2 + k, none⟩ = some (ls k) := (h.bx.cell (2 + k)).trans (M.vals_l bv ls hk)
theorem Bx.ld (h : Bx w W g lo bv ls vs M) : (loadSem 36 (.pointer (some ⟨g, 0, none⟩))).run Try.prog W = .ok (.agg (M.vals bv ls)) W := lra h.bx rfl

set_option maxRecDepth 100000 in
set_option maxHeartbeats 1000000 in
theorem redge_any (h : Rfa w lo bv ls vs M) : Calls Try.prog 31 #[.agg (M.vals bv ls)] w fun e w' => e = .returned (.int .i64 (M.edge : Int)) ∧ Below w.heap.size w w' := by
  have hB := bx_new h
  obtain ⟨W1, hW1⟩ : ∃ W1, w.alloc (.cells (M.vals bv ls) 36) = W1 := ⟨_, rfl⟩
  rw [hW1] at hB
  rcases List.eq_nil_or_concat M.R with h0 | ⟨R, b, h0⟩
  · have he := M.edge_nil h0
    obtain ⟨a, c, hbv⟩ := owns_sl h.row
    rw [h0, List.length_nil] at hbv
    have c1 := hB.c1
    rw [hbv] at c1
    have HB := Lib.hid hB.hb
    rw [he]
    clear hB h h0 he
    generalize M.vals bv ls = V at *
    go_enter Try.func31, Try.ntmps31
    go_wp2
    go_ret
    exact ⟨rfl, HB.out⟩
  · rw [List.concat_eq_append] at h0
    have he := M.edge_last h0
    have hb : M.R[R.length]? = some b := by rw [h0]; simp
    obtain ⟨v, hv⟩ := h.v_get hb
    have hlen : M.R.length = R.length + 1 := by rw [h0]; simp
    obtain ⟨gb, c, hbv, _⟩ := owns_cell h.row (by omega)
    have hrow := hB.rf.row
    have c1 : ∀ n, (W1.drewN n).cell? ⟨w.heap.size, 1, none⟩ = some bv := fun n => (hB.drewN n).c1
    rw [hbv] at c1 hrow
    obtain ⟨hc, _⟩ := lrow hrow hb hv (by omega)
    have e0 : ∀ n, (W1.drewN n).cell? ⟨gb, R.length * 4, none⟩ = some (.int .i64 (b.x : Int)) := fun n => hc 0 (by omega)
    have e1 : ∀ n, (W1.drewN n).cell? ⟨gb, R.length * 4 + 1, none⟩ = some (.int .i64 (b.c : Int)) := fun n => hc 1 (by omega)
    obtain ⟨n, hn⟩ : ∃ n, M.R.length = n := ⟨_, rfl⟩
    rw [hn] at c1 hlen
    have hok := h.ok b (by rw [h0]; simp)
    have hs := fun w => rsize_any b.c hok.1 w
    have HB := Lib.hid hB.hb
    have hfew := h.few
    have hp := pow5 hok.1
    rw [hn] at hfew
    rw [he]
    have hx := hok.2.2
    clear hB h h0 he hc hrow hb hv hbv hok hn
    generalize M.vals bv ls = V at *
    generalize R.length = m at *
    generalize 2 ^ b.c = z at *
    have hnm : (n : Int) - 1 = (m : Int) := by omega
    have hmn : m < n := by omega
    have h0n : 0 < n := by omega
    clear hlen
    have ew : IntKind.i64.wrap ((b.x : Int) + (z : Int)) = ((b.x + z : Nat) : Int) := by rw [IntKind.wrap_i64]; omega
    have c10 : W1.cell? ⟨w.heap.size, 1, none⟩ = some (.slice (some ⟨gb, 0, none⟩) n c) := c1 0
    generalize b.x = x at *
    generalize b.c = cc at *
    go_enter Try.func31, Try.ntmps31
    go_wp2_with fail
    go_quiet (first | (go_at_call 61; exact Calls.quiet_of_same ((hs _).mono fun _ _ h => ⟨h.1, h.2.symm⟩)))
    go_wp2
    go_ret
    exact ⟨ret_int (by omega), below_drewN HB.out _⟩
end
end Go.Proofs.Ytgnpoehcmlmajaa
namespace Go.Proofs.Ytgnpoehcmlmajaa
open Go.RowKit Go.Shelf
set_option linter.unusedVariables false
attribute [local go_sem ↓] load_ra_rule store_ra_rule load_rb_rule store_rb_rule

section
variable {w W W' : World} {g lo : Nat} {bv : Value} {ls : Nat → Value} {vs : List Value} {M : Mo}
/-- The number of the block at a place, or -1. -/
def AtIs (R : List Rb) (x r : Int) : Prop := (∃ (i : Nat) (b : Rb), R[i]? = some b ∧ (b.x : Int) = x ∧ r = (i : Int)) ∨ ((∀ b ∈ R, (b.x : Int) ≠ x) ∧ r = -1)
set_option maxRecDepth 100000 in
set_option maxHeartbeats 1000000 in
theorem rat_any (h : Rfa w lo bv ls vs M) (x : Int) : Calls Try.prog 49 #[.agg (M.vals bv ls), .int .i64 x] w fun e w' => ∃ r : Int, e = .returned (.int .i64 r) ∧ AtIs M.R x r ∧ Below w.heap.size w w' := by
  have hB := bx_new h
  obtain ⟨W1, hW1⟩ : ∃ W1, w.alloc (.cells (M.vals bv ls) 36) = W1 := ⟨_, rfl⟩
  rw [hW1] at hB
  obtain ⟨a, c, hbv⟩ := owns_sl h.row
  have c1 := hB.c1
  rw [hbv] at c1
  have hfew := h.few
  obtain ⟨n, hn⟩ : ∃ n, M.R.length = n := ⟨_, rfl⟩
  rw [hn] at c1 hfew
  have HB := Lib.hid (And.intro hB (And.intro hbv hn))
  clear hB h hbv hn
  generalize M.vals bv ls = V at *
  go_enter Try.func49, Try.ntmps49
  go_wp2_with fail
  clear hW1 c1
  go_loopw [10] (fun i wr => ∃ k : Nat, k ≤ n ∧ i = .int .i64 k ∧ (∀ (j : Nat) (b : Rb), j < k → M.R[j]? = some b → (b.x : Int) ≠ x) ∧ Bx w wr w.heap.size lo bv ls vs M) (fun i _ => n - (intOf i).toNat)
  case atStart => exact ⟨0, Nat.zero_le _, rfl, fun j b hj => by omega, HB.out.1⟩
  case round =>
    obtain ⟨k, hk, rfl, hno, hBk⟩ := hrel
    by_cases hlt : k < n
    · obtain ⟨b, hb⟩ : ∃ b, M.R[k]? = some b := ⟨_, List.getElem?_eq_getElem (by rw [HB.out.2.2]; exact hlt)⟩
      obtain ⟨v, hv⟩ := hBk.rf.v_get hb
      obtain ⟨gb, c', hbv', _⟩ := owns_cell hBk.rf.row (by rw [HB.out.2.2]; omega)
      rw [HB.out.2.1, HB.out.2.2] at hbv'
      cases hbv'
      have hrow := hBk.rf.row
      rw [HB.out.2.1] at hrow
      obtain ⟨_, hl⟩ := lrow hrow hb hv (by rw [HB.out.2.2]; exact hlt)
      have hki : (k : Int) < (n : Int) := by omega
      have e0 : (wr.alloc (.cells (b.cs v) 84)).cell? ⟨wr.heap.size, 0, none⟩ = some (.int .i64 (b.x : Int)) := (Blk.new wr _ (b.cs v)).cell 0
      have HX := Lib.hid (And.intro hb (And.intro hno (hBk.later ((Below.refl _ _).alloc (Nat.le_refl _) (.cells (b.cs v) 84)))))
      have hcs : (b.cs v).size = 4 := rfl
      have hst := srb_new wr hcs (hBk.rf.cs_one hb hv)
      clear hno hBk hb hv hrow
      generalize b.cs v = V4 at *
      by_cases hx : (b.x : Int) = x
      · have dx : ((b.x : Int) == x) = true := by simpa using hx
        go_wp2_with fail
        go_ret
        exact ⟨_, rfl, .inl ⟨k, b, HX.out.1, hx, rfl⟩, HX.out.2.2.hb⟩
      · have dx : ((b.x : Int) == x) = false := by simpa using hx
        go_wp2_with fail
        go_roundw
        case rel =>
          refine ⟨k + 1, by omega, by go_num, fun j b' hj hb' => ?_, HX.out.2.2⟩
          by_cases hjk : j = k
          · subst hjk
            rw [HX.out.1] at hb'
            cases hb'
            exact hx
          · exact HX.out.2.1 j b' (by omega) hb'
        case measure => simp [intOf]; omega
    · have hkn : k = n := by omega
      subst hkn
      have HZ := Lib.hid (And.intro hno hBk.hb)
      clear hno hBk
      go_wp2_with fail
      go_ret
      refine ⟨_, rfl, .inr ⟨fun b hb => ?_, rfl⟩, HZ.out.2⟩
      obtain ⟨j, hj, rfl⟩ := List.mem_iff_getElem.1 hb
      exact HZ.out.1 j _ (by have := HB.out.2.2; omega) (List.getElem?_eq_getElem hj)
theorem rat_yes (h : Rfa w lo bv ls vs M) {i : Nat} {b : Rb} (hb : M.R[i]? = some b) : Calls Try.prog 49 #[.agg (M.vals bv ls), .int .i64 (b.x : Int)] w fun e w' => e = .returned (.int .i64 (i : Int)) ∧ Below w.heap.size w w' :=
  (rat_any h _).mono fun e w' ⟨r, he, hr, hw⟩ => by
    rcases hr with ⟨j, b', hb', hx, rfl⟩ | ⟨hno, _⟩
    · rw [h.uq i j b b' hb hb' (by omega)]; exact ⟨he, hw⟩
    · exact absurd rfl (hno b (List.mem_of_getElem? hb))

/-- Whether a block that is taken is at a place. -/
def TkIs (R : List Rb) (x r : Int) : Prop := (∃ (i : Nat) (b : Rb), R[i]? = some b ∧ b.t = true ∧ (b.x : Int) = x ∧ r = (i : Int)) ∨ ((∀ b ∈ R, b.t = true → (b.x : Int) ≠ x) ∧ r = -1)
set_option maxRecDepth 100000 in
set_option maxHeartbeats 1000000 in
theorem rtk_any (h : Rfa w lo bv ls vs M) (x : Int) : Calls Try.prog 36 #[.agg (M.vals bv ls), .int .i64 x] w fun e w' => ∃ r : Int, e = .returned (.int .i64 r) ∧ TkIs M.R x r ∧ Below w.heap.size w w' := by
  have hB := bx_new h
  obtain ⟨W1, hW1⟩ : ∃ W1, w.alloc (.cells (M.vals bv ls) 36) = W1 := ⟨_, rfl⟩
  rw [hW1] at hB
  have hat := rat_any hB.rf x
  have hl := hB.ld
  have HB := Lib.hid (And.intro hB h)
  clear hB h
  generalize M.vals bv ls = V at *
  go_enter Try.func36, Try.ntmps36
  go_wp2_with fail
  refine hat.mono ?_
  rintro e W2 ⟨r, rfl, hr, hb2⟩
  have HB2 := Lib.hid (HB.out.1.later hb2)
  clear hat hl hb2 hW1
  rcases hr with ⟨i, b, hb, hx, rfl⟩ | ⟨hno, rfl⟩
  · obtain ⟨v, hv⟩ := HB2.out.rf.v_get hb
    have hi := (List.getElem?_eq_some_iff.1 hb).1
    obtain ⟨gb, c, hbv, _⟩ := owns_cell HB2.out.rf.row (by omega)
    have c1 := HB2.out.c1
    have hrow := HB2.out.rf.row
    rw [hbv] at c1 hrow
    have e2 := (lrow hrow hb hv hi).1 2 (by omega)
    have e2' : W2.cell? ⟨gb, i * 4 + 2, none⟩ = some (.bool b.t) := e2
    have hfew := HB2.out.rf.few
    obtain ⟨n, hn⟩ : ∃ n, M.R.length = n := ⟨_, rfl⟩
    rw [hn] at c1 hi hfew
    have HX := Lib.hid (And.intro hb (And.intro hx hn))
    clear hb hv hrow e2 hbv hx hn
    have hge : 0 ≤ (i : Int) := by omega
    cases ht : b.t with
    | true =>
      rw [ht] at e2'
      go_wp2_with fail
      go_ret
      exact ⟨_, rfl, .inl ⟨i, b, HX.out.1, ht, HX.out.2.1, rfl⟩, HB2.out.hb⟩
    | false =>
      rw [ht] at e2'
      go_wp2_with fail
      go_ret
      refine ⟨_, rfl, .inr ⟨fun b' hb' ht' hx' => ?_, rfl⟩, HB2.out.hb⟩
      obtain ⟨j, hj, rfl⟩ := List.mem_iff_getElem.1 hb'
      have hij := HB2.out.rf.uq i j b _ HX.out.1 (List.getElem?_eq_getElem hj) (by have := HX.out.2.1; omega)
      subst hij
      have h9 := HX.out.1
      rw [List.getElem?_eq_getElem hj] at h9
      cases h9
      rw [ht] at ht'; cases ht'
  · go_wp2_with fail
    go_ret
    exact ⟨_, rfl, .inr ⟨fun b hb _ => hno b hb, rfl⟩, HB2.out.hb⟩
theorem rtk_yes (h : Rfa w lo bv ls vs M) {i : Nat} {b : Rb} (hb : M.R[i]? = some b) (ht : b.t = true) : Calls Try.prog 36 #[.agg (M.vals bv ls), .int .i64 (b.x : Int)] w fun e w' => e = .returned (.int .i64 (i : Int)) ∧ Below w.heap.size w w' :=
  (rtk_any h _).mono fun e w' ⟨r, he, hr, hw⟩ => by
    rcases hr with ⟨j, b', hb', _, hx, rfl⟩ | ⟨hno, _⟩
    · rw [h.uq i j b b' hb hb' (by omega)]; exact ⟨he, hw⟩
    · exact absurd rfl (hno b (List.mem_of_getElem? hb) ht)
theorem rtk_no (h : Rfa w lo bv ls vs M) {x : Int} (hx : ∀ b ∈ M.R, b.t = true → (b.x : Int) ≠ x) : Calls Try.prog 36 #[.agg (M.vals bv ls), .int .i64 x] w fun e w' => e = .returned (.int .i64 (-1)) ∧ Below w.heap.size w w' :=
  (rtk_any h _).mono fun e w' ⟨r, he, hr, hw⟩ => by
    rcases hr with ⟨j, b', hb', ht, hx', rfl⟩ | ⟨_, rfl⟩
    · exact absurd hx' (hx b' (List.mem_of_getElem? hb') ht)
    · exact ⟨he, hw⟩
end
end Go.Proofs.Ytgnpoehcmlmajaa
