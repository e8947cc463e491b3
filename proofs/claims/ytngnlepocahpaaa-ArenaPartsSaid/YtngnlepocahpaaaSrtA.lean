/-
  A row of pieces that is put in order: words, the comparison, and turning a part round. Nothing here is a statement of the document.
-/
import Derived.Test.YtngnlepocahpaaaArnK
import Derived.Sort.LotB
import Derived.Sort.Lot0
namespace Go.Proofs.Ytngnlepocahpaaa
open Go.RowKit Go.Shelf
set_option linter.unusedVariables false

instance blInhabited : Inhabited Bl := ⟨Bl.zero⟩
/-- Which of two stands first. -/
def bLt (x y : Bl) : Bool := decide (x.x < y.x)
theorem bLt_swo : Go.Sort.SWO bLt where
  irrefl x := by simp [bLt]
  trans x y z h1 h2 := by simp [bLt] at *; omega
  ntrans x y z h1 h2 := by simp [bLt] at *; omega

/-- A row of pieces lies at r, n of them. -/
structure Srow (w : World) (r n : Nat) (d : Array Bl) : Prop where
  size : d.size = n
  le : n ≤ 20000
  bnd : ∀ i, i < n → d[i]!.x ≤ 20000
  row : ∃ C, Blk w r 90 C ∧ 2 * n ≤ C.size ∧ ∀ i, i < n → C[i * 2]? = some (.int .i64 (d[i]!.x : Int)) ∧ C[i * 2 + 1]? = some (.int .i64 (d[i]!.c : Int))
section
variable {w w' : World} {r n : Nat} {d : Array Bl}
theorem Srow.kept (h : Srow w r n d) {S : List Nat} (k : Kept S w w') (hr : r ∉ S) : Srow w' r n d := by
  obtain ⟨C, h1, h2, h3⟩ := h.row
  exact ⟨h.size, h.le, h.bnd, C, h1.kept k hr, h2, h3⟩
theorem Srow.lt (h : Srow w r n d) : r < w.heap.size := by
  obtain ⟨C, h1, _⟩ := h.row
  exact h1.lt
theorem Srow.load (h : Srow w r n d) {i : Nat} (hi : i < n) : (loadSem 90 (.pointer (some ⟨r, i * 2, none⟩))).run Try.prog w = .ok (.agg (pccs d[i]!)) w := by
  obtain ⟨C, h1, h2, h3⟩ := h.row
  obtain ⟨e0, e1⟩ := h3 i hi
  refine loadRes_of h1 (fun j hj => ?_) _ Try.underlying90 rfl (s_piece _)
  rcases (show j = 0 ∨ j = 1 by simp [pccs] at hj; omega) with rfl | rfl
  · rw [Nat.add_zero, e0]; rfl
  · rw [e1]; rfl
theorem set_get (d : Array Bl) {i j : Nat} (b : Bl) (hi : i < d.size) (hj : j < d.size) : (d.setIfInBounds i b)[j]! = if i = j then b else d[j]! := by
  by_cases h : i = j
  · subst h; simp [hi]
  · simp [getElem!_pos, hj, h]
theorem Srow.store (h : Srow w r n d) {i : Nat} (hi : i < n) (b : Bl) (hb : b.x ≤ 20000) : ∃ w', (storeSem 90 (.pointer (some ⟨r, i * 2, none⟩)) (.agg (pccs b))).run Try.prog w = .ok () w' ∧ Srow w' r n (d.setIfInBounds i b) ∧ Kept [r] w w' := by
  obtain ⟨C, h1, h2, h3⟩ := h.row
  have hsz : (pccs b).size = 2 := rfl
  have hs := storeRes_of (P := Try.prog) (ty := 90) (o := i * 2) (vs := pccs b) h1 (by rw [hsz]; omega) (s_piece b) (pc_one b)
  refine ⟨_, hs, ⟨by simp [h.size], h.le, fun j hj => ?_, _, h1.row _, by rw [size_over (by rw [hsz]; omega)]; exact h2, fun j hj => ?_⟩, (Kept.refl _ _).setRow (.inl (by simp)) _⟩
  · rw [set_get _ _ (by rw [h.size]; exact hi) (by rw [h.size]; exact hj)]
    split
    · exact hb
    · exact h.bnd j hj
  · rw [set_get _ _ (by rw [h.size]; exact hi) (by rw [h.size]; exact hj)]
    obtain ⟨e0, e1⟩ := h3 j hj
    have hg := fun q => splice_get (L := C.toList) (o := i * 2) (cs := (pccs b).toList) (by simp [pccs]; omega) q
    have ho : ∀ q, (over C (i * 2) (pccs b))[q]? = (splice C.toList (i * 2) (pccs b).toList)[q]? := fun q => by unfold over; rw [List.getElem?_toArray]
    have hl : (pccs b).toList.length = 2 := rfl
    rw [hl] at hg
    rw [ho, ho]
    by_cases hij : i = j
    · subst hij
      rw [if_pos rfl]
      refine ⟨?_, ?_⟩
      · rw [hg, if_neg (by omega), if_pos (by omega), Nat.sub_self]; rfl
      · rw [hg, if_neg (by omega), if_pos (by omega), show i * 2 + 1 - i * 2 = 1 by omega]; rfl
    · rw [if_neg hij]
      have far : ∀ q, (q < i * 2 ∨ i * 2 + 2 ≤ q) → (splice C.toList (i * 2) (pccs b).toList)[q]? = C[q]? := fun q hq => by
        rw [hg]
        by_cases h9 : q < i * 2
        · rw [if_pos h9]; simp
        · rw [if_neg h9, if_neg (by omega)]; simp
      rw [far _ (by omega), far _ (by omega)]
      exact ⟨e0, e1⟩
/-- Two change places. -/
theorem Srow.swap (h : Srow w r n d) {i j : Nat} (hi : i < n) (hj : j < n) : ∃ w1 w2, (storeSem 90 (.pointer (some ⟨r, i * 2, none⟩)) (.agg (pccs d[j]!))).run Try.prog w = .ok () w1 ∧ (storeSem 90 (.pointer (some ⟨r, j * 2, none⟩)) (.agg (pccs d[i]!))).run Try.prog w1 = .ok () w2 ∧ Srow w2 r n (Go.Sort.swp d i j) ∧ Kept [r] w w2 := by
  obtain ⟨w1, s1, h1, k1⟩ := h.store hi d[j]! (h.bnd j hj)
  obtain ⟨w2, s2, h2, k2⟩ := h1.store hj d[i]! (h.bnd i hi)
  exact ⟨w1, w2, s1, s2, h2, k1.trans k2⟩
end

set_option maxHeartbeats 1000000 in
theorem cmp_any (x y : Bl) (hx : x.x ≤ 20000) (hy : y.x ≤ 20000) (w : World) : Calls Try.prog 57 #[.agg (pccs x), .agg (pccs y)] w fun e w' => e = .returned (.int .i64 ((x.x : Int) - (y.x : Int))) ∧ Below w.heap.size w w' := by
  have hb : Below w.heap.size w ((w.alloc (.cells (pccs x) 90)).alloc (.cells (pccs y) 90)) := ((Below.refl _ _).alloc (Nat.le_refl _) _).alloc (by simp) _
  unfold pccs at *
  have HB := Lib.hid hb
  clear hb
  go_enter Try.func57, Try.ntmps57
  go_wp2
  go_ret
  exact ⟨rfl, HB.out⟩

theorem store_piece_rule (v x : Value) : Instr.storeAt 90 v x = storeSem 90 v x := rfl
attribute [local go_sem ↓] load_piece_rule store_piece_rule

/-- The comparison, as a value. -/
def cmpF : Value := .func (.func 57) #[] #[]
set_option maxRecDepth 100000 in
set_option maxHeartbeats 2000000 in
theorem reverse_any {w : World} {r n cap a b : Nat} {d : Array Bl} (h : Srow w r n d) (hab : a ≤ b) (hb : b ≤ n) :
    Calls Try.prog 99 #[.slice (some ⟨r, 0, none⟩) n cap, .int .i64 (a : Int), .int .i64 (b : Int), cmpF] w fun e w' => e = .returned (.tuple #[]) ∧ ∃ d', Srow w' r n d' ∧ Go.Sort.PermIn a b d d' ∧ Kept [r] w w' := by
  have hn := h.le
  have HS := Lib.hid h
  clear h
  unfold cmpF
  go_enter Try.func99, Try.ntmps99
  go_wp2_with fail
  go_loopw [8, 9] (fun x y wr => ∃ (i : Nat) (z : Int), a ≤ i ∧ i ≤ b + 1 ∧ -1 ≤ z ∧ z < b ∧ x = .int .i64 i ∧ y = .int .i64 z ∧ ∃ d', Srow wr r n d' ∧ Go.Sort.PermIn a b d d' ∧ Kept [r] w wr) (fun x y _ => (intOf y - intOf x).toNat)
  case atStart => exact ⟨a, _, Nat.le_refl _, by omega, by omega, by omega, rfl, rfl, d, HS.out, Go.Sort.permIn_refl _ _ _, Kept.refl _ _⟩
  case round =>
    obtain ⟨i, z, hai, hib, hz1, hz2, rfl, rfl, d', hS, hP, hK⟩ := hrel
    by_cases hlt : (i : Int) < z
    · obtain ⟨j, rfl⟩ := Int.eq_ofNat_of_zero_le (show 0 ≤ z by omega)
      have hin : i < n := by omega
      have hjn : j < n := by omega
      have hSd := hS.kept ((Kept.refl [] wr).drew) (by simp)
      have l1 := hSd.load hin
      have l2 := hSd.load hjn
      obtain ⟨w1, w2, s1, s2, hS2, hK2⟩ := hSd.swap hin hjn
      have hP2 : Go.Sort.PermIn a b d (Go.Sort.swp d' i j) := Go.Sort.permIn_trans _ _ _ _ _ hP (Go.Sort.swp_permIn _ _ _ _ _ hai (by omega) (by omega) (by omega) (by rw [hS.size]; exact hb))
      have hKK := hK.trans ((((Kept.refl [r] wr).drew)).trans hK2)
      have HX := Lib.hid (And.intro hS2 (And.intro hP2 hKK))
      have i1 : (i : Int) < (n : Int) := by omega
      have j1 : (j : Int) < (n : Int) := by omega
      clear hS hSd hS2 hK2 hP hP2 hK hKK
      generalize d'[i]! = bi at *
      generalize d'[j]! = bj at *
      generalize pccs bi = ci at *
      generalize pccs bj = cj at *
      go_wp2_with fail
      go_region
      go_wp2_with fail
      go_roundw
      case rel => exact ⟨i + 1, _, by omega, by omega, by omega, by omega, by go_num, rfl, _, HX.out⟩
      case measure => simp [intOf]; omega
    · have HX := Lib.hid (And.intro hS (And.intro hP hK))
      clear hS hP hK
      go_wp2_with fail
      go_end0
      exact ⟨rfl, _, HX.out⟩
end Go.Proofs.Ytngnlepocahpaaa
