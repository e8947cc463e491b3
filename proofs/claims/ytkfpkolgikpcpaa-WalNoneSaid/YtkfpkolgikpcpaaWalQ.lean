/-
  Checkpoint of a log, done. Nothing here is a statement of the document.
-/
import Derived.Test.YtkfpkolgikpcpaaWalP
namespace Go.Proofs.Ytkfpkolgikpcpaa
open Go.RowKit Go.Shelf
set_option linter.unusedVariables false

theorem errs_one (D : Dk) (x : RowW) : errsOf D [x] = layM D x.items := by
  unfold errsOf
  simp only [List.map_cons, List.map_nil, laysM]
  split
  · rename_i h; rw [← h]
  · rfl
/-- What is written for a frame. -/
def frmL (first t n : Nat) (l : List Nat) : List (Nat × Bk) := (List.range (secN l.length)).map fun k => (first + k, (partAt t n l k).blk)

theorem a_kept {w w' : World} {B p pb g : Nat} {bv : Value} {D : Dk} {a : Option Addr} (h : Dsk w B p pb bv D) (hs : Safe w a) (hap : ∀ x, a = some x → x.block ≠ p ∧ x.block ≠ pb ∧ x.block ≠ g) (hk : Kept (g :: fp p pb bv) w w') : ∀ x, a = some x → w'.heap[x.block]? = w.heap[x.block]? := by
  intro x hx
  obtain ⟨o, ho, hn⟩ := hs x hx
  refine hk.block _ (Array.getElem?_eq_some_iff.1 ho).1 (fun hm => ?_)
  simp only [fp, List.mem_cons, Option.mem_toList] at hm
  obtain ⟨h1, h2, h3⟩ := hap x hx
  rcases hm with h9 | h9 | h9 | h9
  · exact h3 h9
  · exact h1 h9
  · exact h2 h9
  · rcases h.buf.2 with h8 | ⟨q, cap, cur, e1, e2, e3, e4⟩
    · rw [h8.1] at h9; cases h9
    · rw [e1] at h9
      obtain rfl : q = x.block := by simpa [Value.ownBlock] using h9
      rw [e3] at ho
      cases ho
      simp [notRow] at hn
theorem g_far {w : World} {B p pb g : Nat} {bv : Value} {D : Dk} {cs : Array Value} (h : Dsk w B p pb bv D) (hg : Blk w g 71 cs) : g ∉ fp p pb bv := by
  intro hm
  simp only [fp, List.mem_cons, Option.mem_toList] at hm
  rcases hm with h9 | h9 | h9
  · exact hg.ne h.cells (by decide) h9
  · exact hg.ne h.plate (by decide) h9
  · rcases h.buf.2 with h8 | ⟨q, cap, cur, e1, e2, e3, e4⟩
    · rw [h8.1] at h9; cases h9
    · rw [e1] at h9
      obtain rfl : q = g := by simpa [Value.ownBlock] using h9
      exact absurd (Option.some.inj (hg.symm.trans e3)) (by simp)
theorem lies_same {w w' : World} {a : Option Addr} {l : List Nat} (hL : Lies w a l) (h : ∀ x, a = some x → w'.heap[x.block]? = w.heap[x.block]?) : Lies w' a l := by
  rcases hL with h9 | ⟨b, off, rfl, hb9, hc9⟩
  · exact .inl h9
  · have hs9 := h _ rfl
    refine .inr ⟨b, off, rfl, (cell_block_lt hs9 hb9), fun i hi => ?_⟩
    rw [← hc9 i hi]
    simp only [World.cell?, hs9]

attribute [local go_sem ↓] load_chain_rule store_chain_rule

set_option maxRecDepth 100000 in
set_option maxHeartbeats 4000000 in
theorem wcheck_done0 {w : World} {B p pb g t u n : Nat} {bv sv tv : Value} {D : Dk} (hD : Dsk w B p pb bv D) (hB : B ≤ w.heap.size) (h : Blk w g 71 (lgcs t sv tv u p n 0 false)) (hn : n ≤ 1000) (a : Option Addr) (len c : Nat) (l : List Nat) (hL : Lies w a l) (hl : l.length = len) (hlm : len ≤ 40000) (hc : len ≤ c) (hBy : Bys l) (hsf : Safe w a)
    (hap : ∀ x, a = some x → x.block ≠ p ∧ x.block ≠ pb ∧ x.block ≠ g) (h0 : a = none → len = 0) (hN : secN len ≤ n) (ht : t < 4294967295) :
    Calls Try.prog 12 #[.pointer (some ⟨g, 0, none⟩), .slice a len c] w fun e w' => e = .returned (.int .i64 (layM D (frmL (2 + n) (t + 1) 0 l)).2) ∧ ∃ bv', Dsk w' B p pb bv' (layM D (frmL (2 + n) (t + 1) 0 l)).1 ∧
      ((layM D (frmL (2 + n) (t + 1) 0 l)).2 = 0 → ∃ v, w'.ownsRow w.heap.size 5 1 v len (l.map byc) ∧ Blk w' g 71 (lgcs (t + 1) v (.slice none 0 0) (secN len) p n 1 false)) ∧
      ((layM D (frmL (2 + n) (t + 1) 0 l)).2 ≠ 0 → Blk w' g 71 (lgcs t sv tv u p n 0 true)) ∧ Kept (g :: fp p pb bv) w w' ∧ (∀ k, bv'.ownBlock = some k → bv.ownBlock = some k ∨ w.heap.size ≤ k) := by
  have hre := refuses_any (w := w) (g := g) (b := false) (h.cell 10) a len c
  rw [if_neg (by simp), if_neg (by omega)] at hre
  have hse := sectors_any (len : Int)
  rw [secI_nat] at hse
  have c9 : w.cell? ⟨g, 9, none⟩ = some (.int .i64 0) := h.cell 9
  have c0 : ∀ k, (w.drewN k).cell? ⟨g, 0, none⟩ = some (.int .u32 (t : Int)) := fun k => h.cell 0
  have c8 : ∀ k, (w.drewN k).cell? ⟨g, 8, none⟩ = some (.int .i64 (n : Int)) := fun k => h.cell 8
  have c7 : ∀ k, (w.drewN k).cell? ⟨g, 7, none⟩ = some (.int .i64 ((2 : Int) + (n : Int))) := fun k => h.cell 7
  have e1 : fcs (t + 1) 0 a len c = #[.int .u32 ((t : Int) + 1), .int .u32 0, .slice a len c] := by simp [fcs]
  have hro : ∀ W, Calls Try.prog 38 #[.agg #[.int .u32 ((t : Int) + 1), .int .u32 0, .slice a len c], .int .i64 ((2 : Int) + (n : Int))] W fun e w' =>
      e = .returned (.func (.func 59) #[] #[.pointer (some ⟨W.heap.size, 0, none⟩), .pointer (some ⟨W.heap.size + 1, 0, none⟩)]) ∧ Blk w' W.heap.size 79 (fcs (t + 1) 0 a len c) ∧ Blk w' (W.heap.size + 1) 3 #[.int .i64 ((2 + n : Nat) : Int)] ∧ Below W.heap.size W w' := fun W => by
    have h9 := rows_of (2 + n) (t + 1) 0 a len c l W
    rw [e1, show ((2 + n : Nat) : Int) = (2 : Int) + (n : Int) from by omega] at h9
    rw [e1, show ((2 + n : Nat) : Int) = (2 : Int) + (n : Int) from by omega]
    exact h9
  have hq1 : decide (n < secN len) = false := decide_eq_false (by omega)
  have hN2 : ¬ (n : Int) < (secN len : Int) := by omega
  have htn : ¬ ((t : Int) = 4294967295) := by omega
  have hq2 : ((t : Int) == 4294967295) = false := by simpa using htn
  have HH := Lib.hid (And.intro hD (And.intro h (And.intro hL (And.intro hsf (And.intro hap (And.intro h0 hBy))))))
  clear hD h hL hsf hap h0 hBy
  obtain ⟨LR, hLR⟩ : ∃ LR, layM D (frmL (2 + n) (t + 1) 0 l) = LR := ⟨_, rfl⟩
  rw [hLR]
  go_enter Try.func12, Try.ntmps12
  go_wp2_with fail
  refine hre.mono ?_
  rintro e w1 ⟨rfl, rfl⟩
  go_wp2_with fail
  go_quiet ((go_at_call 19; exact Calls.quiet_of_same ((hse _).mono fun _ _ h => ⟨h.1, h.2.symm⟩)))
  have hbq : Below w.heap.size w (w.drewN nq) := ⟨rfl, rfl, rfl, Nat.le_refl _, fun _ _ => rfl⟩
  have d0 := c0 nq
  have d7 := c7 nq
  have d9 : (w.drewN nq).cell? ⟨g, 9, none⟩ = some (.int .i64 0) := c9
  generalize w.drewN nq = W at *
  clear c0 c7 c8 c9 hre hse
  go_wp2_with fail
  refine (hro W).mono ?_
  rintro e W2 ⟨rfl, bf, bi, hb2⟩
  have hb2w : Below w.heap.size w W2 := hbq.trans (hb2.mono hbq.size)
  obtain ⟨W3, hW3⟩ : ∃ W3, W2.alloc (.cells #[.func (.func 59) #[] #[.pointer (some ⟨W.heap.size, 0, none⟩), .pointer (some ⟨W.heap.size + 1, 0, none⟩)]] 74) = W3 := ⟨_, rfl⟩
  have hb3 : Below w.heap.size w W3 := by rw [← hW3]; exact hb2w.alloc hb2w.size _
  have hb23 : Below W2.heap.size W2 W3 := by rw [← hW3]; exact (Below.refl _ _).alloc (Nat.le_refl _) _
  have br : Blk W3 W2.heap.size 74 (rowVals [frameR (2 + n) (t + 1) 0 l W.heap.size (W.heap.size + 1)]) := by rw [← hW3]; exact Blk.new _ _ _
  have hD3 := HH.out.1.later hb3
  have hg3 := HH.out.2.1.kept (Kept.of_below [] hb3) (by simp)
  have hpW : p < W.heap.size := Nat.lt_of_lt_of_le HH.out.1.lt hbq.size
  have hpbW : pb < W.heap.size := Nat.lt_of_lt_of_le HH.out.1.plate.lt hbq.size
  have htold := told_rows (w := W3) (first := 2 + n) (t := t + 1) (n := 0) hl hlm hc HH.out.2.2.2.2.2.2 (by omega) (by omega) (bf.kept (Kept.of_below [] hb23) (by simp)) (bi.kept (Kept.of_below [] hb23) (by simp)) (HH.out.2.2.1.kept hb3) (fun x hx => by
    obtain ⟨o, ho, h9⟩ := HH.out.2.2.2.1 x hx
    exact ⟨o, (hb3.block _ (Array.getElem?_eq_some_iff.1 ho).1).trans ho, h9⟩) (by omega)
  have hnC : ∀ q, q < W.heap.size → (∀ x, a = some x → x.block ≠ q) → q ∉ W.heap.size :: (W.heap.size + 1) :: (a.map (·.block)).toList := fun q hq hx hm => by
    simp only [List.mem_cons, Option.mem_toList] at hm
    rcases hm with h9 | h9 | h9
    · omega
    · omega
    · obtain ⟨x, hx9, h8⟩ := Option.map_eq_some_iff.1 h9
      exact hx x hx9 h8
  have hwr := wwrite_any hD3 (Nat.le_trans hB hb3.size) hg3 rfl rfl [frameR (2 + n) (t + 1) 0 l W.heap.size (W.heap.size + 1)] _ (hnC p hpW (fun x hx => (HH.out.2.2.2.2.1 x hx).1)) (hnC pb hpbW (fun x hx => (HH.out.2.2.2.2.1 x hx).2.1)) (fun x hx => by rw [List.mem_singleton.1 hx]; exact htold) br (by simp)
  rw [errs_one, show (frameR (2 + n) (t + 1) 0 l W.heap.size (W.heap.size + 1)).items = frmL (2 + n) (t + 1) 0 l from rfl, hLR] at hwr
  have HW := Lib.hid (And.intro hb3 (And.intro hg3 hb23))
  clear hD3 hg3 htold hnC br bf bi hb2 hb2w hb23 hb3 hro
  go_wp2_with fail
  refine hwr.mono ?_
  rintro e w4 ⟨rfl, bv', hD4, hg4, hk4, ho4⟩
  obtain ⟨D2, er⟩ := LR
  have hk04 : Kept (g :: fp p pb bv) w w4 := (Kept.of_below _ HW.out.1).trans hk4
  have hL4 : Lies w4 a l := lies_same HH.out.2.2.1 (a_kept HH.out.1 HH.out.2.2.2.1 HH.out.2.2.2.2.1 hk04)
  have hs4 : w.heap.size ≤ w4.heap.size := hk04.size
  have ho04 : ∀ k, bv'.ownBlock = some k → bv.ownBlock = some k ∨ w.heap.size ≤ k := fun k hk => (ho4 k hk).imp id (fun h9 => Nat.le_trans HW.out.1.size h9)
  by_cases he : er = 0
  · subst he
    rw [show decide (((D2, (0 : Int)) : Dk × Int).2 ≠ 0) = false from rfl] at hg4
    have hbe := begun_any (t + 1) (by omega) a len c l w4 hL4 hl hlm HH.out.2.2.2.2.2.1
    rw [show ((t + 1 : Nat) : Int) = (t : Int) + 1 from by omega] at hbe
    clear hwr
    go_wp2_with fail
    refine hbe.mono ?_
    rintro e w5 ⟨v, rfl, hown, hb5⟩
    obtain ⟨a2, c2, rfl⟩ := wown_slice hown
    have hg5 := hg4.kept (Kept.of_below [] hb5) (by simp)
    have hD5 := hD4.later hb5
    have hgp : ∀ i ∈ [g], i ∉ fp p pb bv' := fun i hi => (List.mem_singleton.1 hi) ▸ g_far hD5 hg5
    have hgl : g < w4.heap.size := hg4.lt
    have S := storeRes_of (P := Try.prog) (ty := 68) (o := 0) (vs := chcs (t + 1) (.slice a2 len c2) (.slice none 0 0) (secN len)) hg5 (by simp [lgcs, chcs]) (s_chain _ _ _ _) (by simp [chcs, Value.oneCell'])
    rw [show over ((lgcs t sv tv u p n 0 false).setIfInBounds 10 (.bool false)) 0 (chcs (t + 1) (.slice a2 len c2) (.slice none 0 0) (secN len)) = lgcs (t + 1) (.slice a2 len c2) (.slice none 0 0) (secN len) p n 0 false from rfl] at S
    have hg6 := hg5.row (lgcs (t + 1) (.slice a2 len c2) (.slice none 0 0) (secN len) p n 0 false)
    generalize hW6 : w5.setRow g (lgcs (t + 1) (.slice a2 len c2) (.slice none 0 0) (secN len) p n 0 false) = W6 at *
    have c9 : W6.cell? ⟨g, 9, none⟩ = some (.int .i64 0) := hg6.cell 9
    have z9 := hg6.free 9
    have H5 := Lib.hid (And.intro hg6 (And.intro hD5 (And.intro hown (And.intro hb5 hgp))))
    clear hg6 hg5 hg4 hD4 hD5 hown hb5 hgp hbe hk4 hL4
    go_wp2_with fail
    go_ret
    have hk5 : Kept [g] w5 (W6.setCell ⟨g, 9, none⟩ (.int .i64 1)) := by rw [← hW6]; exact ((Kept.refl [g] w5).setRow (.inl (by simp)) _).setCell (.inl (by simp)) _
    refine ⟨rfl, bv', H5.out.2.1.apart hk5 H5.out.2.2.2.2, ⟨_, ?_, H5.out.1.set 9 (.int .i64 1)⟩, (hk04.trans (Kept.of_below _ H5.out.2.2.2.1)).trans (hk5.more (by simp)), ho04⟩
    rcases H5.out.2.2.1.2 with h9 | ⟨q, cap, cur, h1, h2, h3, h4⟩
    · exact ⟨H5.out.2.2.1.1, .inl h9⟩
    · exact ⟨H5.out.2.2.1.1, .inr ⟨q, cap, cur, h1, by omega, (hk5.block q (Array.getElem?_eq_some_iff.1 h3).1 (by simp; omega)).trans h3, h4⟩⟩
  · have heb : (er != 0) = true := by simpa using he
    rw [show decide (((D2, er) : Dk × Int).2 ≠ 0) = true from decide_eq_true he] at hg4
    clear hwr
    go_wp2_with fail
    go_ret
    exact ⟨rfl, bv', hD4, hg4, hk04, ho04⟩
end Go.Proofs.Ytkfpkolgikpcpaa
