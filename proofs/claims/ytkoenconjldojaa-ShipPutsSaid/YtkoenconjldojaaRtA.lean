/-
  Candidates: as cells, in rows that lie somewhere, in rows that a call owns. Nothing here is a statement of the document.
-/
import Derived.Test.YtkoenconjldojaaPfxD
import Derived.Laws.ResultCell
import Derived.Test.YtkoenconjldojaaPfxB
import Derived.Laws.CopyRow
import Derived.Laws.OwnMore
import Derived.Lib.AppendZerosOnto
import Derived.Lib.SliceRun
namespace Go.Proofs.Ytkoenconjldojaa
open Go.RowKit Go.Shelf
set_option linter.unusedVariables false
attribute [local go_sem ↓] load_b16_rule store_b16_rule load_ad_rule store_ad_rule load_px_rule store_px_rule eq_b16_rule eq_ad_rule eq_px_rule

/-- A bit of an address; its nibble. -/
noncomputable def bitV (a : Ad) (i : Int) : Int := if okA a ∧ 0 ≤ i ∧ i < (wid a.v : Int) then btI a.b i.toNat else 0
noncomputable def nibV (a : Ad) (i : Int) : Int := 8 * bitV a (4 * i) + 4 * bitV a (4 * i + 1) + 2 * bitV a (4 * i + 2) + bitV a (4 * i + 3)
noncomputable def nibW (a : Ad) (i : Int) : Int := if 0 ≤ i ∧ i ≤ 31 then nibV a i else 0
theorem bit_and (b : B16) (i : Nat) : bits .and .u8 ((b.at (i / 8) : Int) / 2 ^ (7 - i % 8)) 1 = btI b i := by
  have hd : b.at (i / 8) / 2 ^ (7 - i % 8) < 256 := Nat.lt_of_le_of_lt (Nat.div_le_self _ _) (b.lt _)
  have e := u8_and_nat (b.at (i / 8) / 2 ^ (7 - i % 8)) 1 hd (by omega)
  have e2 : ((b.at (i / 8) / 2 ^ (7 - i % 8) : Nat) : Int) = (b.at (i / 8) : Int) / 2 ^ (7 - i % 8) := by simp
  rw [e2] at e
  have e1 : ((1 : Nat) : Int) = 1 := rfl
  rw [e1] at e
  rw [e, Nat.and_one_is_mod, bit_num]
  rfl
theorem nib_num : ∀ x, x < 256 → ∀ r, r < 2 → (x / 2 ^ (4 - r * 4)) &&& 15 = 8 * (x / 2 ^ (7 - 4 * r) % 2) + 4 * (x / 2 ^ (7 - (4 * r + 1)) % 2) + 2 * (x / 2 ^ (7 - (4 * r + 2)) % 2) + (x / 2 ^ (7 - (4 * r + 3)) % 2) := by decide +kernel
theorem nib_and (b : B16) (i : Nat) : bits .and .u8 ((b.at (i / 2) : Int) / 2 ^ (4 - i % 2 * 4)) 15 = 8 * btI b (4 * i) + 4 * btI b (4 * i + 1) + 2 * btI b (4 * i + 2) + btI b (4 * i + 3) := by
  have hd : b.at (i / 2) / 2 ^ (4 - i % 2 * 4) < 256 := Nat.lt_of_le_of_lt (Nat.div_le_self _ _) (b.lt _)
  have e := u8_and_nat (b.at (i / 2) / 2 ^ (4 - i % 2 * 4)) 15 hd (by omega)
  have e2 : ((b.at (i / 2) / 2 ^ (4 - i % 2 * 4) : Nat) : Int) = (b.at (i / 2) : Int) / 2 ^ (4 - i % 2 * 4) := by simp
  rw [e2] at e
  have e1 : ((15 : Nat) : Int) = 15 := rfl
  rw [e1] at e
  rw [e, nib_num _ (b.lt _) (i % 2) (by omega)]
  unfold btI bt
  rw [← bit_num, ← bit_num, ← bit_num, ← bit_num]
  rw [show 4 * i / 8 = i / 2 from by omega, show (4 * i + 1) / 8 = i / 2 from by omega, show (4 * i + 2) / 8 = i / 2 from by omega, show (4 * i + 3) / 8 = i / 2 from by omega]
  rw [show 4 * i % 8 = 4 * (i % 2) from by omega, show (4 * i + 1) % 8 = 4 * (i % 2) + 1 from by omega, show (4 * i + 2) % 8 = 4 * (i % 2) + 2 from by omega, show (4 * i + 3) % 8 = 4 * (i % 2) + 3 from by omega]
  omega
theorem btI_01 (b : B16) (i : Nat) : 0 ≤ btI b i ∧ btI b i ≤ 1 := by
  unfold btI
  cases bt b i <;> simp
theorem bitV_01 (a : Ad) (i : Int) : 0 ≤ bitV a i ∧ bitV a i ≤ 1 := by
  unfold bitV
  split
  · exact btI_01 _ _
  · omega
theorem ad_cell {W : World} {g : Nat} {a : Ad} (h : Blk W g 57 a.cs) (j : Nat) (hj : j < 16) : ∀ w', Below W.heap.size W w' → w'.cell? ⟨g, 1 + j, none⟩ = some (.int .u8 (a.b.at j : Int)) :=
  fun w' k => ((h.later k).cell _).trans ((a.c1 j).trans (a.b.get j hj))

end Go.Proofs.Ytkoenconjldojaa
namespace Go.Proofs.Ytkoenconjldojaa
open Go.RowKit Go.Shelf
set_option linter.unusedVariables false
attribute [local go_sem ↓] load_b16_rule store_b16_rule load_ad_rule store_ad_rule load_px_rule store_px_rule eq_b16_rule eq_ad_rule eq_px_rule

/-- Does a prefix contain an address, a prefix? -/
def hasM (p : Px) (a : Ad) : Prop := okP p ∧ okA a ∧ p.a.v = a.v ∧ p.a.b = keptB a.b p.n.toNat
noncomputable instance (p : Px) (a : Ad) : Decidable (hasM p a) := Classical.propDecidable _
def holdsM (p q : Px) : Prop := okP q ∧ p.n ≤ q.n ∧ hasM p q.a
noncomputable instance (p q : Px) : Decidable (holdsM p q) := Classical.propDecidable _
theorem okP_le {p : Px} (h : okP p) : 0 ≤ p.n ∧ p.n ≤ 128 := by
  have := wid_le p.a.v
  have h1 := h.2.1
  have h2 := h.2.2.1
  omega
theorem kept_bits {b c : B16} {n : Nat} (hc : clear b n) : b = keptB c n ↔ ∀ i, i < n → i < 128 → bt b i = bt c i := by
  constructor
  · intro h i hi h2
    rw [h, bt_kept _ _ _ h2]
    simp [hi]
  · intro h
    apply bt_ext
    intro i hi
    rw [bt_kept _ _ _ hi]
    by_cases hn : i < n
    · simp [hn, h i hn hi]
    · rw [hc i (by omega) hi]; simp [hn]

end Go.Proofs.Ytkoenconjldojaa
namespace Go.Proofs.Ytkoenconjldojaa
open Go.RowKit Go.Shelf
set_option linter.unusedVariables false

theorem results_blk {fn : Func} {p u : Tmp} {ty : TypeId} (h : fn.results = #[.cell p ty, .tmp u]) (tmps : Array Value) (w : World) (g : Nat) (vs : Array Value) (d : TypeDesc)
    (hp : tmps.getD p undef = .pointer (some ⟨g, 0, none⟩)) (hb : Blk w g ty vs) (hu : Try.prog.underlying ty = some d) (hd : d.isRow = true) (hi : (Try.prog.info? ty).map (·.size) = some vs.size) :
    (results fn tmps).run Try.prog w = .ok (.tuple #[.agg vs, tmps.getD u undef]) w := by
  have hl := run_loadVar_row (P := Try.prog) w g ty ty vs (0, 0) d hb hu (by cases d <;> simp_all) hi
  rw [results_cell_tmp h, hp]
  simp [asAddr, hl, Result.andThen]
def buildSem (ty : TypeId) (ps : Array (Nat × Value)) : Sem Value := Instr.build ty ps
theorem build_ad_rule (ps : Array (Nat × Value)) : Instr.build 57 ps = buildSem 57 ps := rfl
theorem build_px_rule (ps : Array (Nat × Value)) : Instr.build 59 ps = buildSem 59 ps := rfl
theorem list16 {l : List Nat} (h : l.length = 16) : ∃ a0 a1 a2 a3 a4 a5 a6 a7 a8 a9 a10 a11 a12 a13 a14 a15, l = [a0, a1, a2, a3, a4, a5, a6, a7, a8, a9, a10, a11, a12, a13, a14, a15] := by
  rcases l with _ | ⟨a0, _ | ⟨a1, _ | ⟨a2, _ | ⟨a3, _ | ⟨a4, _ | ⟨a5, _ | ⟨a6, _ | ⟨a7, _ | ⟨a8, _ | ⟨a9, _ | ⟨a10, _ | ⟨a11, _ | ⟨a12, _ | ⟨a13, _ | ⟨a14, _ | ⟨a15, _ | ⟨a16, l⟩⟩⟩⟩⟩⟩⟩⟩⟩⟩⟩⟩⟩⟩⟩⟩⟩ <;> first | exact ⟨_, _, _, _, _, _, _, _, _, _, _, _, _, _, _, _, rfl⟩ | (exfalso; simp at h; done) | (exfalso; simp at h; omega)
theorem B16.out (b : B16) : ∃ a0 a1 a2 a3 a4 a5 a6 a7 a8 a9 a10 a11 a12 a13 a14 a15, b.cs = #[byc a0, byc a1, byc a2, byc a3, byc a4, byc a5, byc a6, byc a7, byc a8, byc a9, byc a10, byc a11, byc a12, byc a13, byc a14, byc a15] := by
  obtain ⟨a0, a1, a2, a3, a4, a5, a6, a7, a8, a9, a10, a11, a12, a13, a14, a15, h⟩ := list16 b.len
  refine ⟨a0, a1, a2, a3, a4, a5, a6, a7, a8, a9, a10, a11, a12, a13, a14, a15, ?_⟩
  unfold B16.cs
  rw [h]
  rfl
theorem build_ad0 (w : World) : (buildSem 57 #[]).run Try.prog w = .ok (.agg Ad.zero.cs) w := by kernel_rfl
theorem build_px0 (w : World) : (buildSem 59 #[]).run Try.prog w = .ok (.agg Px.zero.cs) w := by kernel_rfl
theorem build_adv (v : Int) (w : World) : (buildSem 57 #[(0, .int .i64 v)]).run Try.prog w = .ok (.agg (Ad.mk v B16.zero).cs) w := by kernel_rfl
theorem build_ad (v : Int) (b : B16) (w : World) : (buildSem 57 #[(0, .int .i64 v), (1, .agg b.cs)]).run Try.prog w = .ok (.agg (Ad.mk v b).cs) w := by
  unfold Ad.cs
  show (buildSem 57 #[(0, .int .i64 v), (1, .agg b.cs)]).run Try.prog w = .ok (.agg (#[.int .i64 v] ++ b.cs)) w
  obtain ⟨a0, a1, a2, a3, a4, a5, a6, a7, a8, a9, a10, a11, a12, a13, a14, a15, h⟩ := b.out
  rw [h]
  kernel_rfl
theorem build_px (a : Ad) (n : Int) (w : World) : (buildSem 59 #[(0, .agg a.cs), (1, .int .i64 n)]).run Try.prog w = .ok (.agg (Px.mk a n).cs) w := by
  unfold Px.cs
  show (buildSem 59 #[(0, .agg a.cs), (1, .int .i64 n)]).run Try.prog w = .ok (.agg (a.cs ++ #[.int .i64 n])) w
  unfold Ad.cs
  obtain ⟨a0, a1, a2, a3, a4, a5, a6, a7, a8, a9, a10, a11, a12, a13, a14, a15, h⟩ := a.b.out
  rw [h]
  kernel_rfl
theorem over_b (a : Ad) (b : B16) : over a.cs 1 b.cs = (Ad.mk a.v b).cs := by
  apply Array.ext_getElem?
  intro i
  have hs : 1 + b.cs.size ≤ a.cs.size := by rw [B16.size, Ad.size]; omega
  rw [over_get hs, B16.size]
  rcases i with _ | i
  · rw [if_pos (by omega), a.c0, Ad.c0]
  · rw [if_neg (by omega), show i + 1 = 1 + i from by omega]
    by_cases h : i < 16
    · rw [if_pos (by omega), show 1 + i - 1 = i from by omega]
      exact (Ad.c1 ⟨a.v, b⟩ i).symm
    · rw [if_neg (by omega), Array.getElem?_eq_none (by rw [Ad.size]; omega), Array.getElem?_eq_none (by rw [Ad.size]; omega)]
theorem st_px {w : World} {g : Nat} {p q : Px} (h : Blk w g 59 p.cs) : (storeSem 59 (.pointer (some ⟨g, 0, none⟩)) (.agg q.cs)).run Try.prog w = .ok () (w.setRow g q.cs) := by
  have := storeRes_of (P := Try.prog) (ty := 59) (o := 0) (vs := q.cs) h (by rw [Px.size, Px.size]; omega) (s_px q) q.one
  rwa [over_all (by rw [Px.size, Px.size])] at this
theorem st_ad {w : World} {g : Nat} {p q : Ad} (h : Blk w g 57 p.cs) : (storeSem 57 (.pointer (some ⟨g, 0, none⟩)) (.agg q.cs)).run Try.prog w = .ok () (w.setRow g q.cs) := by
  have := storeRes_of (P := Try.prog) (ty := 57) (o := 0) (vs := q.cs) h (by rw [Ad.size, Ad.size]; omega) (s_ad q) q.one
  rwa [over_all (by rw [Ad.size, Ad.size])] at this
theorem st_b {w : World} {g : Nat} {p : Ad} {b : B16} (h : Blk w g 57 p.cs) : (storeSem 55 (.pointer (some ⟨g, 1, none⟩)) (.agg b.cs)).run Try.prog w = .ok () (w.setRow g (Ad.mk p.v b).cs) := by
  have := storeRes_of (P := Try.prog) (ty := 55) (o := 1) (vs := b.cs) h (by rw [B16.size, Ad.size]; omega) (s_b16 b) b.one
  rwa [over_b] at this
theorem below_setRow {B : Nat} {w w' : World} {g : Nat} (h : Below B w w') (hg : B ≤ g) (cs : Array Value) : Below B w (w'.setRow g cs) :=
  ⟨h.os, h.tape, h.output, by have := h.size; simpa using this, fun k hk => (setRow_other w' g k cs (by omega)).trans (h.block k hk)⟩

/-- What Of answers. -/
noncomputable def ofE (a : Ad) (n : Int) : Int := if okA a then (if 0 ≤ n ∧ n ≤ (wid a.v : Int) then 0 else 2) else 150
noncomputable def ofP (a : Ad) (n : Int) : Px := if okA a ∧ 0 ≤ n ∧ n ≤ (wid a.v : Int) then ⟨⟨a.v, keptB a.b n.toNat⟩, n⟩ else Px.zero
attribute [local go_sem ↓] load_b16_rule store_b16_rule load_ad_rule store_ad_rule load_px_rule store_px_rule eq_b16_rule eq_ad_rule eq_px_rule build_ad_rule build_px_rule

theorem keep_next : ∀ x, x < 256 → ∀ s, s < 8 → keepN x (s + 1) = keepN x s + (x / 2 ^ (7 - s) % 2) * 2 ^ (7 - s) := by decide +kernel
theorem keep_room : ∀ x, x < 256 → ∀ s, s < 8 → keepN x s + 2 ^ (7 - s) < 256 := by
  intro x hx s hs
  have h : ∀ x, x < 256 → ∀ s, s < 8 → keepN x s + 2 ^ (7 - s) < 256 := by decide +kernel
  exact h x hx s hs
theorem kept_next (b : B16) (m : Nat) (hm : m < 128) (i : Nat) (hi : i < 16) : (keptB b (m + 1)).at i = if i = m / 8 then (keptB b m).at i + (bt b m).toNat * 2 ^ (7 - m % 8) else (keptB b m).at i := by
  rw [keptB_at _ _ _ hi, keptB_at _ _ _ hi]
  by_cases h : i = m / 8
  · rw [if_pos h]
    have h1 : stayN m i = m % 8 := by unfold stayN; omega
    have h2 : stayN (m + 1) i = m % 8 + 1 := by unfold stayN; omega
    rw [h1, h2, keep_next _ (b.lt _) _ (by omega)]
    unfold bt
    rw [← bit_num, h]
  · rw [if_neg h]
    have h1 : stayN (m + 1) i = stayN m i := by unfold stayN; omega
    rw [h1]
theorem kept_same (b : B16) (m : Nat) (hm : m < 128) (h : bt b m = false) : keptB b (m + 1) = keptB b m := B16.ext_at fun i hi => by
  rw [kept_next b m hm i hi, h]
  simp
theorem px_set {p : Px} {b : B16} {k x : Nat} (hk : k < 16) (h : ∀ i, i < 16 → b.at i = if i = k then x else p.a.b.at i) : p.cs.setIfInBounds (1 + k) (.int .u8 (x : Int)) = (Px.mk ⟨p.a.v, b⟩ p.n).cs := by
  apply Array.ext_getElem?
  intro i
  rw [Array.getElem?_setIfInBounds]
  by_cases h1 : i < 17
  · rw [Px.ca _ i h1, Px.ca _ i h1]
    rcases i with _ | i
    · rw [if_neg (by omega), Ad.c0, Ad.c0]
    · rw [show i + 1 = 1 + i from by omega, Ad.c1]
      have hi : i < 16 := by omega
      by_cases h2 : k = i
      · subst h2
        rw [if_pos rfl, if_pos (by rw [Px.size]; omega)]
        have e := b.get k hk
        rw [h k hk, if_pos rfl] at e
        exact ((Ad.c1 ⟨p.a.v, b⟩ k).trans e).symm
      · rw [if_neg (by omega), p.a.b.get i hi]
        have e := b.get i hi
        rw [h i hi, if_neg (fun e => h2 e.symm)] at e
        exact ((Ad.c1 ⟨p.a.v, b⟩ i).trans e).symm
  · rw [if_neg (by omega)]
    by_cases h2 : i = 17
    · subst h2; rw [Px.cn, Px.cn]
    · rw [Array.getElem?_eq_none (by rw [Px.size]; omega), Array.getElem?_eq_none (by rw [Px.size]; omega)]

end Go.Proofs.Ytkoenconjldojaa
namespace Go.Proofs.Ytkoenconjldojaa
open Go.RowKit Go.Shelf
set_option linter.unusedVariables false
set_option maxRecDepth 100000
structure Ro where
  p : Px
  s : Int
  f : Int
  h : Int
def Ro.cs (r : Ro) : Array Value := r.p.cs ++ #[.int .i64 r.s, .int .i64 r.f, .int .i64 r.h]
def Ro.zero : Ro := ⟨Px.zero, 0, 0, 0⟩
theorem Ro.size (r : Ro) : r.cs.size = 21 := by simp [Ro.cs, r.p.size]
theorem Ro.one (r : Ro) : r.cs.all (·.oneCell') = true := by
  have := r.p.one
  rw [Array.all_eq_true_iff_forall_mem] at this ⊢
  intro v hv
  rcases Array.mem_append.1 hv with h | h
  · exact this v h
  · simp only [List.mem_toArray, List.mem_cons, List.not_mem_nil, or_false] at h
    rcases h with rfl | rfl | rfl <;> rfl
theorem Ro.cp (r : Ro) (j : Nat) (h : j < 18) : r.cs[j]? = r.p.cs[j]? := by
  unfold Ro.cs
  rw [Array.getElem?_append_left (by rw [Px.size]; exact h)]
theorem Ro.qs (r : Ro) : r.cs[18]? = some (.int .i64 r.s) := by
  unfold Ro.cs
  rw [Array.getElem?_append_right (by rw [Px.size]; omega)]
  simp [Px.size]
theorem Ro.qf (r : Ro) : r.cs[19]? = some (.int .i64 r.f) := by
  unfold Ro.cs
  rw [Array.getElem?_append_right (by rw [Px.size]; omega)]
  simp [Px.size]
theorem Ro.qh (r : Ro) : r.cs[20]? = some (.int .i64 r.h) := by
  unfold Ro.cs
  rw [Array.getElem?_append_right (by rw [Px.size]; omega)]
  simp [Px.size]
theorem Ro.same {x y : Ro} : x = y ↔ x.p = y.p ∧ x.s = y.s ∧ x.f = y.f ∧ x.h = y.h := by
  obtain ⟨p, x1, x2, x3⟩ := x
  obtain ⟨q, y1, y2, y3⟩ := y
  simp
noncomputable instance : DecidableEq Ro := fun _ _ => Classical.propDecidable _
def rog (L : List Ro) (i : Nat) : Ro := L.getD i Ro.zero
theorem rog_get {L : List Ro} {i : Nat} (h : i < L.length) : rog L i = L[i] := by simp [rog, h]
theorem rog_some {L : List Ro} {i : Nat} (h : i < L.length) : L[i]? = some (rog L i) := by simp [rog, h]
theorem rog_mem {L : List Ro} {i : Nat} (h : i < L.length) : rog L i ∈ L := by rw [rog_get h]; exact List.getElem_mem h
theorem z_ro : (Try.prog.info? 61).map (fun i => (i.zero, i.size)) = some (some (.agg Ro.zero.cs), 21) := by kernel_rfl
theorem s_ro (r : Ro) : (Try.prog.info? 61).map (·.size) = some r.cs.size := by rw [r.size]; exact (zero_of_info z_ro).2
theorem load_ro_rule (v : Value) : Instr.loadAt 61 v = loadSem 61 v := rfl
theorem store_ro_rule (v x : Value) : Instr.storeAt 61 v x = storeSem 61 v x := rfl

/-- Rows lie in a block from a place on. -/
structure Ros (w : World) (g o : Nat) (L : List Ro) : Prop where
  lt : g < w.heap.size
  row : ∀ i, i < L.length → ∀ j, j < 21 → w.cell? ⟨g, o + i * 21 + j, none⟩ = (rog L i).cs[j]?
def RoAt (w : World) (a : Option Addr) (L : List Ro) : Prop := L = [] ∨ ∃ g o, a = some ⟨g, o, none⟩ ∧ Ros w g o L
theorem Ros.later {w w' : World} {g o : Nat} {L : List Ro} (h : Ros w g o L) (k : Below w.heap.size w w') : Ros w' g o L :=
  ⟨Nat.lt_of_lt_of_le h.lt k.size, fun i hi j hj => (k.cell (p := ⟨g, o + i * 21 + j, none⟩) h.lt).trans (h.row i hi j hj)⟩
theorem RoAt.later {w w' : World} {a : Option Addr} {L : List Ro} (h : RoAt w a L) (k : Below w.heap.size w w') : RoAt w' a L := by
  rcases h with h | ⟨g, o, h1, h2⟩
  · exact .inl h
  · exact .inr ⟨g, o, h1, h2.later k⟩
theorem Ros.load {w : World} {g o : Nat} {L : List Ro} (h : Ros w g o L) {i : Nat} (hi : i < L.length) : (loadSem 61 (.pointer (some ⟨g, o + i * 21, none⟩))).run Try.prog w = .ok (.agg (rog L i).cs) w :=
  run_loadAt_mid (P := Try.prog) w g (o + i * 21) 61 (rog L i).cs.toList _ (fun j v hj => by
    have hl : j < 21 := by rw [← (rog L i).size]; simpa using (List.getElem?_eq_some_iff.1 hj).1
    rw [h.row i hi j hl]; simpa using hj) Try.underlying61 rfl (by simpa using s_ro (rog L i))
theorem Ros.loadp {w : World} {g o : Nat} {L : List Ro} (h : Ros w g o L) {i : Nat} (hi : i < L.length) : (loadSem 59 (.pointer (some ⟨g, o + i * 21, none⟩))).run Try.prog w = .ok (.agg (rog L i).p.cs) w :=
  run_loadAt_mid (P := Try.prog) w g (o + i * 21) 59 (rog L i).p.cs.toList _ (fun j v hj => by
    have hl : j < 18 := by rw [← (rog L i).p.size]; simpa using (List.getElem?_eq_some_iff.1 hj).1
    rw [h.row i hi j (by omega), (rog L i).cp j hl]; simpa using hj) Try.underlying59 rfl (by simpa using s_px (rog L i).p)
theorem ro_r {W : World} {g : Nat} {r : Ro} (h : Blk W g 61 r.cs) : ∀ w', Below W.heap.size W w' → (loadSem 61 (.pointer (some ⟨g, 0, none⟩))).run Try.prog w' = .ok (.agg r.cs) w' :=
  fun w' k => loadRes_of (o := 0) (h.later k) (fun q _ => by rw [Nat.zero_add]) _ Try.underlying61 rfl (s_ro r)
theorem ro_p {W : World} {g : Nat} {r : Ro} (h : Blk W g 61 r.cs) : ∀ w', Below W.heap.size W w' → (loadSem 59 (.pointer (some ⟨g, 0, none⟩))).run Try.prog w' = .ok (.agg r.p.cs) w' :=
  fun w' k => loadRes_of (o := 0) (h.later k) (fun q hq => by rw [Nat.zero_add]; exact r.cp q (by rw [Px.size] at hq; exact hq)) _ Try.underlying59 rfl (s_px r.p)

theorem st_ro {w : World} {g : Nat} {p q : Ro} (h : Blk w g 61 p.cs) : (storeSem 61 (.pointer (some ⟨g, 0, none⟩)) (.agg q.cs)).run Try.prog w = .ok () (w.setRow g q.cs) := by
  have := storeRes_of (P := Try.prog) (ty := 61) (o := 0) (vs := q.cs) h (by rw [Ro.size, Ro.size]; omega) (s_ro q) q.one
  rwa [over_all (by rw [Ro.size, Ro.size])] at this
theorem ro_s {W : World} {g : Nat} {r : Ro} (h : Blk W g 61 r.cs) : ∀ w', Below W.heap.size W w' → w'.cell? ⟨g, 18, none⟩ = some (.int .i64 r.s) :=
  fun w' k => ((h.later k).cell 18).trans r.qs
theorem Ros.s {w : World} {g o : Nat} {L : List Ro} (h : Ros w g o L) {i : Nat} (hi : i < L.length) : w.cell? ⟨g, o + i * 21 + 18, none⟩ = some (.int .i64 (rog L i).s) := (h.row i hi 18 (by omega)).trans (rog L i).qs
theorem ro_f {W : World} {g : Nat} {r : Ro} (h : Blk W g 61 r.cs) : ∀ w', Below W.heap.size W w' → w'.cell? ⟨g, 19, none⟩ = some (.int .i64 r.f) :=
  fun w' k => ((h.later k).cell 19).trans r.qf
theorem Ros.f {w : World} {g o : Nat} {L : List Ro} (h : Ros w g o L) {i : Nat} (hi : i < L.length) : w.cell? ⟨g, o + i * 21 + 19, none⟩ = some (.int .i64 (rog L i).f) := (h.row i hi 19 (by omega)).trans (rog L i).qf
theorem ro_h {W : World} {g : Nat} {r : Ro} (h : Blk W g 61 r.cs) : ∀ w', Below W.heap.size W w' → w'.cell? ⟨g, 20, none⟩ = some (.int .i64 r.h) :=
  fun w' k => ((h.later k).cell 20).trans r.qh
theorem Ros.h {w : World} {g o : Nat} {L : List Ro} (h : Ros w g o L) {i : Nat} (hi : i < L.length) : w.cell? ⟨g, o + i * 21 + 20, none⟩ = some (.int .i64 (rog L i).h) := (h.row i hi 20 (by omega)).trans (rog L i).qh
def rocs (L : List Ro) : List Value := L.flatMap (fun r => r.cs.toList)
theorem rocs_nil : rocs [] = [] := rfl
theorem rocs_append (L M : List Ro) : rocs (L ++ M) = rocs L ++ rocs M := by simp [rocs]
theorem rocs_one (r : Ro) : rocs [r] = r.cs.toList := by simp [rocs]
theorem rocs_cons (r : Ro) (L : List Ro) : rocs (r :: L) = r.cs.toList ++ rocs L := by simp [rocs]
theorem rocs_len : ∀ L : List Ro, (rocs L).length = L.length * 21
  | [] => rfl
  | r :: L => by rw [rocs_cons, List.length_append, rocs_len L]; simp [r.size]; omega
theorem rocs_all (L : List Ro) : ∀ u ∈ rocs L, u.oneCell' = true := fun u hu => by
  obtain ⟨r, _, h⟩ := List.mem_flatMap.1 hu
  exact Array.all_eq_true_iff_forall_mem.1 r.one u (by simpa using h)
theorem rocs_get : ∀ (L : List Ro) {i j : Nat}, i < L.length → j < 21 → (rocs L)[i * 21 + j]? = (rog L i).cs[j]?
  | [], i, j, h, _ => by simp at h
  | r :: L, 0, j, _, hj => by
    rw [rocs_cons, Nat.zero_mul, Nat.zero_add, List.getElem?_append_left (by simp [r.size]; exact hj)]
    simp [rog]
  | r :: L, i + 1, j, h, hj => by
    rw [rocs_cons, List.getElem?_append_right (by simp [r.size]; omega)]
    rw [show (i + 1) * 21 + j - r.cs.toList.length = i * 21 + j by simp [r.size]; omega, rocs_get L (by simpa using h) hj]
    simp [rog]
theorem rocs_take : ∀ (L : List Ro) (i : Nat), (rocs L).take (i * 21) = rocs (L.take i)
  | [], i => by simp [rocs]
  | r :: L, 0 => by simp [rocs]
  | r :: L, i + 1 => by
    rw [rocs_cons, List.take_succ_cons, rocs_cons, List.take_append, List.take_of_length_le (by simp [r.size]; omega)]
    rw [show (i + 1) * 21 - r.cs.toList.length = i * 21 by simp [r.size]; omega, rocs_take L i]
theorem rocs_drop : ∀ (L : List Ro) (i : Nat), (rocs L).drop (i * 21) = rocs (L.drop i)
  | [], i => by simp [rocs]
  | r :: L, 0 => by simp [rocs]
  | r :: L, i + 1 => by
    rw [rocs_cons, List.drop_succ_cons, List.drop_append, List.drop_eq_nil_of_le (by simp [r.size]; omega), List.nil_append]
    rw [show (i + 1) * 21 - r.cs.toList.length = i * 21 by simp [r.size]; omega, rocs_drop L i]
theorem rorow_cells (w : World) (g : Nat) (L : List Ro) (o : Nat) (hg : g < w.heap.size) (h : ∀ k u, (rocs L)[k]? = some u → w.cell? ⟨g, o + k, none⟩ = some u) : Ros w g o L := by
  refine ⟨hg, fun i hi j hj => ?_⟩
  have h1 := rocs_get L hi hj
  have h2 : j < (rog L i).cs.size := by rw [Ro.size]; exact hj
  rw [Array.getElem?_eq_getElem h2] at h1 ⊢
  rw [Nat.add_assoc]
  exact h _ _ h1
theorem Ros.cells {w : World} {g o : Nat} {L : List Ro} (h : Ros w g o L) : ∀ k u, (rocs L)[k]? = some u → w.cell? ⟨g, o + k, none⟩ = some u := by
  intro k u hk
  have hl : k < L.length * 21 := by rw [← rocs_len]; exact (List.getElem?_eq_some_iff.1 hk).1
  have e := rocs_get L (i := k / 21) (j := k % 21) (by omega) (by omega)
  rw [show k / 21 * 21 + k % 21 = k by omega] at e
  have h1 := h.row (k / 21) (by omega) (k % 21) (by omega)
  rw [← e, hk, Nat.add_assoc, show k / 21 * 21 + k % 21 = k by omega] at h1
  exact h1

/-- Rows that a call owns, from block B on. -/
abbrev OwnRo (w : World) (B : Nat) (v : Value) (L : List Ro) : Prop := w.ownsRow B 61 21 v L.length (rocs L)
theorem OwnRo.lies {w : World} {B : Nat} {v : Value} {L : List Ro} (h : OwnRo w B v L) : ∃ a c, v = .slice a L.length c ∧ L.length ≤ c ∧ c ≤ maxLen ∧ RoAt w a L ∧ ∀ x, a = some x → B ≤ x.block := by
  rcases h.2 with ⟨rfl, h0⟩ | ⟨g, cap, cur, rfl, hb, hg, hc, hm, hs, ht⟩
  · have : L = [] := List.eq_nil_of_length_eq_zero h0
    subst this
    exact ⟨none, 0, rfl, by simp, by unfold maxLen; omega, .inl rfl, fun x hx => by cases hx⟩
  · refine ⟨_, cap, rfl, hc, hm, .inr ⟨g, 0, rfl, rorow_cells w g L 0 (Array.getElem?_eq_some_iff.1 hg).1 fun k u hk => ?_⟩, fun x hx => by cases hx; exact hb⟩
    rw [Nat.zero_add, cell_of_row w g k cur _ _ hg, ← Array.getElem?_toList]
    have hl : k < L.length * 21 := by rw [← rocs_len]; exact (List.getElem?_eq_some_iff.1 hk).1
    rw [← ht, List.getElem?_take, if_pos hl] at hk
    exact hk
theorem info_ro : (Try.prog.info? 61).map (fun i => (i.zero, i.size, i.bytes)) = some (some (.agg Ro.zero.cs), 21, 56) := by kernel_rfl

/-! ### Nothing built, appended to -/
def robuildSem (n : Nat) (parts : Array (Nat × Value)) : Sem Value := Instr.buildSlice 25 n parts
theorem robuild_rule (n : Nat) (parts : Array (Nat × Value)) : Instr.buildSlice 25 n parts = robuildSem n parts := rfl
theorem robuild0_run (w : World) : (robuildSem 0 #[]).run Try.prog w = .ok (.slice (some ⟨w.heap.size, 0, none⟩) 0 0) (w.alloc (.cells #[] 61)) := by
  have hu := run_underlying (P := Try.prog) Try.underlying25 w
  have hz := (zero_of_info z_ro).1 w
  unfold robuildSem Instr.buildSlice
  simp only [Sem.run_bind, hu, Result.andThen_ok]
  go_simp
def roappSem (ty : TypeId) (args : Array Value) : Sem Value := Builtin.append_ #[25, 25] ty args
theorem roapp_rule (ty : TypeId) (args : Array Value) : Builtin.append_ #[25, 25] ty args = roappSem ty args := rfl
theorem roown0 (w : World) (B : Nat) (hB : B ≤ w.heap.size) : OwnRo (w.alloc (.cells #[] 61)) B (.slice (some ⟨w.heap.size, 0, none⟩) 0 0) [] :=
  ⟨rfl, .inr ⟨_, 0, #[], rfl, hB, heap_alloc_new w _, Nat.le_refl _, by simp, rfl, rfl⟩⟩
/-- Rows that lie anywhere are appended to rows that a call owns. -/
theorem roapp_run {w : World} (ty : TypeId) {B : Nat} {v : Value} {L M : List Ro} {x : Addr} {m c : Nat} (h : OwnRo w B v L) (hm : M.length = m) (hM : RoAt w (some x) M) (hs : L.length + m ≤ 1000000) (hB : B ≤ w.heap.size) :
    ∃ v' w', (roappSem ty #[v, .slice (some x) m c]).run Try.prog w = .ok v' w' ∧ OwnRo w' B v' (L ++ M) ∧ w.grownBy w' v.ownBlock ∧ (v' = .slice none 0 0 ↔ v = .slice none 0 0 ∧ m = 0) := by
  obtain ⟨i0, hi, hz0, hz1, hz2⟩ := info_parts info_ro
  have hsrc : ∀ j u, (rocs M)[j]? = some u → w.cell? (x.add j) = some u := by
    intro j u hj
    rcases hM with rfl | ⟨g, o, e, hr⟩
    · simp [rocs] at hj
    · cases e
      rw [Addr.add_lit]
      exact hr.cells j u hj
  obtain ⟨v', w', h1, h2, h3, h4⟩ := run_append_own (P := Try.prog) w B 25 ty 61 i0 (.agg Ro.zero.cs) 21 56 Try.underlying25 hi hz0 hz1 hz2 (Ro.size _) (by decide) v L.length (rocs L) h x m c (rocs M) (by rw [rocs_len, hm]) hsrc (rocs_all M) (by unfold maxLen; omega) (by omega) hB
  refine ⟨v', w', h1, ?_, h3, h4⟩
  show w'.ownsRow B _ 21 v' (L ++ M).length (rocs (L ++ M))
  rw [List.length_append, hm, rocs_append]
  exact h2

/-! ### Rows copied into a block -/
def rocopySem (ty : TypeId) (args : Array Value) : Sem Value := Builtin.copy_ #[25, 25] ty args
theorem rocopy_rule (ty : TypeId) (args : Array Value) : Builtin.copy_ #[25, 25] ty args = rocopySem ty args := rfl
theorem rocopy_run {w : World} {g o : Nat} {a : Addr} {cur : Array Value} {cs : List Value} {n dl sl : Nat} (ty : TypeId) (dc sc : Nat) (hg : Blk w g 61 cur) (hn : Nat.min sl dl = n) (hcs : cs.length = n * 21) (hcur : o + n * 21 ≤ cur.size)
    (hsrc : ∀ j v, cs[j]? = some v → w.cell? (a.add j) = some v) (hone : ∀ v ∈ cs, v.oneCell' = true) :
    (rocopySem ty #[.slice (some ⟨g, o, none⟩) dl dc, .slice (some a) sl sc]).run Try.prog w = .ok (.int .i64 (n : Int)) (w.setRow g (layC o cs cur.toList).toArray) := by
  have hl := run_loadCells_list (P := Try.prog) w a cs hsrc
  have hst := run_storeCells_at Try.prog g o 61 cs 0 cur w hg (by omega) hone
  obtain ⟨i0, hi, hz0, hz1, hz2⟩ := info_parts info_ro
  rw [hcs] at hl
  rw [Nat.add_zero] at hst
  unfold rocopySem layC
  simp [Builtin.copy_, run_underlying Try.underlying25, Builtin.lenOf, Builtin.firstCells, sizeOf, typeInfo, hi, hz1, hn, hl, hst]
  rfl

theorem eql_nil_ro (a : Option Addr) (l c : Nat) (w : World) : (binOp .eql 25 (.slice a l c) (.slice none 0 0)).run Try.prog w = .ok (.bool a.isNone) w :=
  Lib.run_eql_slice_nil w _ _ a l c 0 0 Try.underlying25
attribute [local go_sem ↓] robuild_rule roapp_rule rocopy_rule
set_option maxHeartbeats 1000000 in
theorem roclone_any (a : Option Addr) (n c : Nat) (L : List Ro) (w : World) (hn : L.length = n) (hs : n ≤ 1000) (hR : RoAt w a L) (h0 : a = none → c = 0) :
    Calls Try.prog 52 #[.slice a n c] w fun e w' => ∃ v, e = .returned v ∧ OwnRo w' w.heap.size v L ∧ Below w.heap.size w w' := by
  cases a with
  | none =>
    obtain rfl : L = [] := by
      rcases hR with h | ⟨g, o, h, _⟩
      · exact h
      · cases h
    obtain rfl := h0 rfl
    obtain rfl : n = 0 := hn.symm
    have hq := fun w => eql_nil_ro none 0 0 w
    simp only [Option.isNone_none] at hq
    go_enter Try.func52, Try.ntmps52
    go_wp2
    go_ret
    exact ⟨_, rfl, World.ownsRow_nil _ _ _ _, Below.refl _ _⟩
  | some x =>
    have hq := fun w => eql_nil_ro (some x) n c w
    simp only [Option.isNone_some] at hq
    have hb1 : Below w.heap.size w (w.alloc (.cells #[] 61)) := (Below.refl _ _).alloc (Nat.le_refl _) _
    obtain ⟨v', w', hrun, hown, hgr, _⟩ := roapp_run (c := c) 25 (roown0 w w.heap.size (Nat.le_refl _)) hn (hR.later hb1) (by simp; omega) (by simp)
    have hbs := fun w => robuild0_run w
    have HE := Lib.hid (And.intro hown (hb1.grown hgr (by simp) (fun k hk => by cases hk; exact Nat.le_refl _)))
    clear hown hgr hb1 hR
    go_enter Try.func52, Try.ntmps52
    go_wp2
    go_ret
    exact ⟨_, rfl, by simpa using HE.out.1, HE.out.2⟩
theorem RoAt.spot {w : World} {a : Option Addr} {L : List Ro} (h : RoAt w a L) {i : Nat} (hi : i < L.length) : ∃ g o, a = some ⟨g, o, none⟩ ∧ Ros w g o L := by
  rcases h with rfl | h
  · simp at hi
  · exact h
end Go.Proofs.Ytkoenconjldojaa
