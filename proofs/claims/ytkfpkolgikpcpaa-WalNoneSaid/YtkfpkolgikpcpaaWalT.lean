/-
  Disks that do what they are asked to; a log of such a disk step by step; the layer wakes. Nothing here is a statement of the document.
-/
import Derived.Test.YtkfpkolgikpcpaaWalS
import Derived.Test.YtkfpkolgikpcpaaDskN
namespace Go.Proofs.Ytkfpkolgikpcpaa
open Go.RowKit Go.Shelf
set_option linter.unusedVariables false
/-- A disk that lives and does not fail. -/
structure Dk.Well (D : Dk) (N : Nat) : Prop where
  dead : D.dead = false
  fuse : D.fuse = none
  flaw : D.flaw = none
  len : D.plate.length = N
section
variable {D : Dk} {N : Nat}
theorem well_downs : ∀ (l : List Rw) {D : Dk}, D.Well N → (downsM D l).Well N
  | [], D, h => h
  | r :: l, D, h => well_downs l (D := downM D r) ⟨h.dead, h.fuse, h.flaw, by simp [downM, h.len]⟩
theorem well_drain (h : D.Well N) (n : Nat) : (drainM D n).Well N := by
  have := well_downs (D.rows.take n) h
  exact ⟨this.dead, this.fuse, this.flaw, this.len⟩
theorem well_hold (h : D.Well N) (r : Rw) : (holdM D r).Well N := by
  unfold holdM
  split
  · exact ⟨h.dead, h.fuse, h.flaw, h.len⟩
  · have h2 : (if D.rows.length = 8 then drainM D 1 else D).Well N := by
      split
      · exact well_drain h 1
      · exact h
    exact ⟨h2.dead, h2.fuse, h2.flaw, h2.len⟩
theorem well_flaw (h : D.Well N) : (fuseM (flawM D)).Well N := ⟨h.dead, by simp [fuseM, flawM, h.fuse, passO], by simp [fuseM, flawM, h.flaw, passO], h.len⟩
theorem write_well (h : D.Well N) {i : Nat} (hi : i < N) (b : Bk) : (writeM D (i : Int) b).2 = 0 ∧ (writeM D (i : Int) b).1.Well N := by
  have hr : reachE D (i : Int) = 0 := by
    unfold reachE
    rw [h.dead, h.len]
    simp
    omega
  unfold writeM
  rw [if_neg (by rw [hr]; simp), if_neg (by rw [h.fuse]; simp), if_neg (by rw [h.flaw]; simp)]
  have := well_hold (well_flaw h) ⟨(i : Int).toNat, b⟩
  exact ⟨rfl, this.dead, this.fuse, this.flaw, this.len⟩
theorem sync_well (h : D.Well N) : (syncM D).2 = 0 ∧ (syncM D).1.Well N := by
  unfold syncM
  rw [if_neg (by rw [h.dead]; simp), if_neg (by rw [h.fuse]; simp), if_neg (by rw [h.flaw]; simp)]
  have := well_drain (well_flaw h) D.rows.length
  exact ⟨rfl, this.dead, this.fuse, this.flaw, this.len⟩
theorem puts_well : ∀ (l : List (Nat × Bk)) {D : Dk}, D.Well N → (∀ x ∈ l, x.1 < N) → (putsM D l).2 = 0 ∧ (putsM D l).1.Well N
  | [], D, h, _ => ⟨rfl, h⟩
  | x :: l, D, h, hx => by
    obtain ⟨h1, h2⟩ := write_well h (hx x (by simp)) x.2
    unfold putsM
    rw [if_pos h1]
    exact puts_well l h2 (fun y hy => hx y (by simp [hy]))
theorem lay_well (l : List (Nat × Bk)) (h : D.Well N) (hx : ∀ x ∈ l, x.1 < N) : (layM D l).2 = 0 ∧ (layM D l).1.Well N := by
  obtain ⟨h1, h2⟩ := puts_well l h hx
  unfold layM
  rw [if_pos h1]
  exact sync_well h2
theorem lays_well : ∀ (ls : List (List (Nat × Bk))) {D : Dk}, D.Well N → (∀ l ∈ ls, ∀ x ∈ l, x.1 < N) → (laysM D ls).2 = 0 ∧ (laysM D ls).1.Well N
  | [], D, h, _ => ⟨rfl, h⟩
  | l :: ls, D, h, hx => by
    obtain ⟨h1, h2⟩ := lay_well l h (hx l (by simp))
    unfold laysM
    rw [if_pos h1]
    exact lays_well ls h2 (fun y hy => hx y (by simp [hy]))
end
theorem frm_in {first t n N : Nat} {l : List Nat} (h : first + secN l.length ≤ N) : ∀ x ∈ frmL first t n l, x.1 < N := by
  intro x hx
  obtain ⟨k, hk, rfl⟩ := List.mem_map.1 hx
  have := List.mem_range.1 hk
  show first + k < N
  omega
theorem fil_in {first size N : Nat} {b : Bk} (h : first + size ≤ N) : ∀ x ∈ filL first size b, x.1 < N := by
  intro x hx
  obtain ⟨k, hk, rfl⟩ := List.mem_map.1 hx
  have := List.mem_range.1 hk
  show first + k < N
  omega
theorem fmt_in {n N : Nat} (hn : 1 ≤ n) (h : 2 + 2 * n ≤ N) : ∀ l ∈ fmtL n, ∀ x ∈ l, x.1 < N := by
  intro l hl
  simp only [fmtL, List.mem_cons, List.not_mem_nil, or_false] at hl
  rcases hl with rfl | rfl | rfl
  · exact fil_in (by omega)
  · exact frm_in (by show 2 + 1 ≤ N; omega)
  · exact fil_in (by omega)
/-- A log of four sectors an area on a disk of ten that does not fail: how much is used, how many transactions there are; all of it lies above what was. -/
def Lg (w0 W : World) (p pb g t c u m : Nat) : Prop := ∃ (bv : Value) (D : Dk) (sv : Value) (ta : Option Addr) (tc : Nat) (vs : List Value), Dsk W w0.heap.size p pb bv D ∧ D.Well 10 ∧ Blk W g 71 (lgcs t sv (.slice ta m tc) u p 4 c false) ∧ W.ownsRow w0.heap.size 22 1 (.slice ta m tc) m vs ∧ Below w0.heap.size w0 W ∧ (∀ k, bv.ownBlock = some k → w0.heap.size ≤ k) ∧ w0.heap.size ≤ g
section
variable {w0 W : World} {p pb g t c u m : Nat}
theorem Lg.later {W' : World} (h : Lg w0 W p pb g t c u m) (k : Below W.heap.size W W') : Lg w0 W' p pb g t c u m := by
  obtain ⟨bv, D, sv, ta, tc, vs, h1, h2, h3, h4, h5, h6, h7⟩ := h
  refine ⟨bv, D, sv, ta, tc, vs, h1.later k, h2, h3.kept (Kept.of_below [] k) (by simp), ?_, bel_lat h5 k, h6, h7⟩
  rcases h4.2 with h9 | ⟨q, cap, cur, e1, e2, e3, e4⟩
  · exact ⟨h4.1, .inl h9⟩
  · exact ⟨h4.1, .inr ⟨q, cap, cur, e1, e2, (k.block q (Array.getElem?_eq_some_iff.1 e3).1).trans e3, e4⟩⟩
theorem lg_len (h : Lg w0 W p pb g t c u m) : Calls Try.prog 14 #[.pointer (some ⟨g, 0, none⟩)] W fun e w' => e = .returned (.int .i64 (m : Int)) ∧ Lg w0 w' p pb g t c u m := by
  obtain ⟨bv, D, sv, ta, tc, vs, h1, h2, h3, h4, h5, h6, h7⟩ := h
  exact (wlen_any h3).mono fun e w' ⟨he, hw⟩ => ⟨he, by rw [← hw]; exact ⟨bv, D, sv, ta, tc, vs, h1, h2, h3, h4, h5, h6, h7⟩⟩
theorem lg_turn (h : Lg w0 W p pb g t c u m) : Calls Try.prog 16 #[.pointer (some ⟨g, 0, none⟩)] W fun e w' => e = .returned (.int .u32 (t : Int)) ∧ Lg w0 w' p pb g t c u m := by
  obtain ⟨bv, D, sv, ta, tc, vs, h1, h2, h3, h4, h5, h6, h7⟩ := h
  exact (wturn_any h3).mono fun e w' ⟨he, hw⟩ => ⟨he, by rw [← hw]; exact ⟨bv, D, sv, ta, tc, vs, h1, h2, h3, h4, h5, h6, h7⟩⟩
theorem lg_left (h : Lg w0 W p pb g t c u m) (hc : c < 2) (hu : u ≤ 4) : Calls Try.prog 15 #[.pointer (some ⟨g, 0, none⟩)] W fun e w' => e = .returned (.int .i64 ((4 - u : Nat) : Int)) ∧ Lg w0 w' p pb g t c u m := by
  have hh := h
  obtain ⟨bv, D, sv, ta, tc, vs, h1, h2, h3, h4, h5, h6, h7⟩ := h
  exact (wleft_any h3 hc hu (by omega)).mono fun e w' ⟨he, hw⟩ => ⟨by rw [he, show ((4 - u : Nat) : Int) = ((4 : Nat) : Int) - (u : Int) by omega], hh.later hw⟩
/-- Noughts that were made. -/
def zsB (k : Nat) : Array Value := ((List.replicate k 0).map byc).toArray
theorem lies_zs (w : World) (k : Nat) : Lies (w.alloc (.cells (zsB k) 5)) (some ⟨w.heap.size, 0, none⟩) (List.replicate k 0) := by
  refine .inr ⟨_, 0, rfl, by simp, fun i hi => ?_⟩
  have hb := Blk.new w 5 (zsB k)
  rw [Nat.zero_add, hb.cell]
  simp [zsB, byc] at hi ⊢
  simp [hi]
theorem safe_zs (w : World) (cs : Array Value) : Safe (w.alloc (.cells cs 5)) (some ⟨w.heap.size, 0, none⟩) := by
  intro x hx
  cases hx
  have hb := Blk.new w 5 cs
  exact ⟨_, hb, rfl⟩
theorem lg_full (h : Lg w0 W p pb g t c u m) (hc : c < 2) (hu : u ≤ 4) (a : Option Addr) (len cp : Nat) (hl : len ≤ 40000) (hN : 4 - u < secN len) : Calls Try.prog 11 #[.pointer (some ⟨g, 0, none⟩), .slice a len cp] W fun e w' => e = .returned (.int .i64 6) ∧ Lg w0 w' p pb g t c u m := by
  have hh := h
  obtain ⟨bv, D, sv, ta, tc, vs, h1, h2, h3, h4, h5, h6, h7⟩ := h
  exact (wappend_full h3 hc (by omega) hu a len cp hl hN).mono fun e w' ⟨he, hw⟩ => ⟨he, hh.later hw⟩
theorem lg_append (h : Lg w0 W p pb g t c u m) (hc : c < 2) (hu : u ≤ 4) (hm : m ≤ 1000) (ht : t ≤ 4294967295) (hp : w0.heap.size ≤ p ∧ w0.heap.size ≤ pb) (k : Nat) (hk : k ≤ 40000) (hN : secN k ≤ 4 - u) : Calls Try.prog 11 #[.pointer (some ⟨g, 0, none⟩), .slice (some ⟨W.heap.size, 0, none⟩) k k] (W.alloc (.cells (zsB k) 5)) fun e w' => e = .returned (.int .i64 0) ∧ Lg w0 w' p pb g t c (u + secN k) (m + 1) := by
  obtain ⟨W1, hW1⟩ : ∃ W1, W.alloc (.cells (zsB k) 5) = W1 := ⟨_, rfl⟩
  have hb1 : Below W.heap.size W W1 := by rw [← hW1]; exact (Below.refl _ _).alloc (Nat.le_refl _) _
  have hL1 := lies_zs W k
  have hS1 := safe_zs W (zsB k)
  have l1 : p < W.heap.size ∧ pb < W.heap.size ∧ g < W.heap.size := by
    obtain ⟨bv, D, sv, ta, tc, vs, h1, h2, h3, h4, h5, h6, h7⟩ := h
    exact ⟨h1.cells.lt, h1.plate.lt, h3.lt⟩
  have h := h.later hb1
  rw [hW1] at hL1 hS1 ⊢
  obtain ⟨bv, D, sv, ta, tc, vs, h1, h2, h3, h4, h5, h6, h7⟩ := h
  have hap := wappend_done h1 h5.size h3 hc (by omega) hu hm ht h4 h5.size (some ⟨W.heap.size, 0, none⟩) k k (List.replicate k 0) hL1 (by simp) hk (Nat.le_refl _) (fun x hx => by have := List.eq_of_mem_replicate hx; omega) hS1 (fun x hx => by cases hx; exact ⟨by show W.heap.size ≠ p; omega, by show W.heap.size ≠ pb; omega, by show W.heap.size ≠ g; omega⟩) (fun hx => by cases hx) hN
  obtain ⟨e0, w2⟩ := lay_well (frmL (areaN 4 c + u) t (m + 1) (List.replicate k 0)) h2 (frm_in (by rw [List.length_replicate]; unfold areaN; split <;> omega))
  refine hap.mono ?_
  rintro e w' ⟨rfl, bv', hD', hok, _, hk', ho'⟩
  obtain ⟨v, tv', hv, htv', hg'⟩ := hok e0
  obtain ⟨ta', tc', rfl⟩ := wown_slice htv'
  refine ⟨by rw [e0], bv', _, sv, ta', tc', _, hD', w2, hg', htv', h5.trans (hk'.below ?_ h5.size), fun j hj => ?_, h7⟩
  · intro i hi
    simp only [List.mem_cons, List.mem_append, fp, Option.mem_toList] at hi
    rcases hi with rfl | h9 | rfl | rfl | h9
    · exact h7
    · rcases h4.2 with h8 | ⟨q, cap, cur, e1, e2, e3, e4⟩
      · rw [h8.1] at h9; simp [Value.ownBlock] at h9
      · rw [e1] at h9
        obtain rfl : q = i := by simpa [Value.ownBlock] using h9
        exact e2
    · exact hp.1
    · exact hp.2
    · exact h6 i h9
  · rcases ho' j hj with h9 | h9
    · exact h6 j h9
    · exact Nat.le_trans h5.size h9
/-- A checkpoint of a few bytes that were made, out of the area 0. -/
theorem lg_check (h : Lg w0 W p pb g t 0 u m) (ht : t < 4294967295) (hp : w0.heap.size ≤ p ∧ w0.heap.size ≤ pb) (l : List Nat) (hl : l.length ≤ 40000) (hB : Bys l) (hN : secN l.length ≤ 4) : Calls Try.prog 12 #[.pointer (some ⟨g, 0, none⟩), .slice (some ⟨W.heap.size, 0, none⟩) l.length l.length] (W.alloc (.cells (l.map byc).toArray 5)) fun e w' => e = .returned (.int .i64 0) ∧ Lg w0 w' p pb g (t + 1) 1 (secN l.length) 0 := by
  obtain ⟨W1, hW1⟩ : ∃ W1, W.alloc (.cells (l.map byc).toArray 5) = W1 := ⟨_, rfl⟩
  have hb1 : Below W.heap.size W W1 := by rw [← hW1]; exact (Below.refl _ _).alloc (Nat.le_refl _) _
  have hL1 : Lies W1 (some ⟨W.heap.size, 0, none⟩) l := by
    have hb := Blk.new W 5 (l.map byc).toArray
    refine .inr ⟨_, 0, rfl, by rw [← hW1]; simp, fun i hi => ?_⟩
    rw [Nat.zero_add, ← hW1, hb.cell]
    simp [byc, hi]
  have hS1 := safe_zs W (l.map byc).toArray
  have l1 : p < W.heap.size ∧ pb < W.heap.size ∧ g < W.heap.size := by
    obtain ⟨bv, D, sv, ta, tc, vs, h1, h2, h3, h4, h5, h6, h7⟩ := h
    exact ⟨h1.cells.lt, h1.plate.lt, h3.lt⟩
  have h := h.later hb1
  rw [hW1] at hS1 ⊢
  obtain ⟨bv, D, sv, ta, tc, vs, h1, h2, h3, h4, h5, h6, h7⟩ := h
  have hch := wcheck_done0 h1 h5.size h3 (by omega) (some ⟨W.heap.size, 0, none⟩) l.length l.length l hL1 rfl hl (Nat.le_refl _) hB hS1 (fun x hx => by cases hx; exact ⟨by show W.heap.size ≠ p; omega, by show W.heap.size ≠ pb; omega, by show W.heap.size ≠ g; omega⟩) (fun hx => by cases hx) hN ht
  obtain ⟨e0, w2⟩ := lay_well (frmL (2 + 4) (t + 1) 0 l) h2 (frm_in (by omega))
  refine hch.mono ?_
  rintro e w' ⟨rfl, bv', hD', hok, _, hk', ho'⟩
  obtain ⟨v, hv, hg'⟩ := hok e0
  refine ⟨by rw [e0], bv', _, v, none, 0, [], hD', w2, hg', World.ownsRow_nil _ _ _ _, h5.trans (hk'.below ?_ h5.size), fun j hj => ?_, h7⟩
  · intro i hi
    simp only [List.mem_cons, fp, Option.mem_toList] at hi
    rcases hi with rfl | rfl | rfl | h9
    · exact h7
    · exact hp.1
    · exact hp.2
    · exact h6 i h9
  · rcases ho' j hj with h9 | h9
    · exact h6 j h9
    · exact Nat.le_trans h5.size h9
end
theorem i_uint8 : (Try.prog.info? 5).map (fun i => (i.zero, i.size, i.bytes)) = some (some (.int .u8 0), 1, 1) := by kernel_rfl
theorem make_bytes (k : Nat) (hk : k ≤ 40000) (w : World) : (Instr.makeSlice 22 (.int .i64 (k : Int)) (.int .i64 (k : Int))).run Try.prog w = .ok (.slice (some ⟨w.heap.size, 0, none⟩) k k) (w.alloc (.cells (zsB k) 5)) := by
  obtain ⟨i0, hi, hz0, hz1, hz2⟩ := info_parts i_uint8
  have h := run_make (P := Try.prog) w 22 5 i0 (.int .u8 0) Try.underlying22 hi hz0 .i64 .i64 (k : Int) (k : Int) (by omega) (by omega) (by rw [hz2]; omega) (by omega)
  rw [hz1, show (k : Int).toNat = k from by omega, Nat.mul_one, made_bytes] at h
  exact h
set_option maxRecDepth 100000 in
set_option maxHeartbeats 2000000 in
theorem wakes4_any (w : World) : Calls Try.prog 7 #[] w fun e w' => e = .returned (.bool true) ∧ Below w.heap.size w w' := by
  have hnew := new_any 10 (by omega) (by omega) w
  rw [show ((10 : Nat) : Int) = 10 from rfl] at hnew
  have m48 := fun w' => make_bytes 48 (by omega) w'
  have m49 := fun w' => make_bytes 49 (by omega) w'
  have m97 := fun w' => make_bytes 97 (by omega) w'
  rw [show ((48 : Nat) : Int) = 48 from rfl] at m48
  rw [show ((49 : Nat) : Int) = 49 from rfl] at m49
  rw [show ((97 : Nat) : Int) = 97 from rfl] at m97
  obtain ⟨z48, hz48⟩ : ∃ z, zsB 48 = z := ⟨_, rfl⟩
  obtain ⟨z49, hz49⟩ : ∃ z, zsB 49 = z := ⟨_, rfl⟩
  obtain ⟨z97, hz97⟩ : ∃ z, zsB 97 = z := ⟨_, rfl⟩
  simp only [hz48] at m48
  simp only [hz49] at m49
  simp only [hz97] at m97
  have HZ := Lib.hid (And.intro hz48 (And.intro hz49 hz97))
  clear hz48 hz49 hz97
  go_enter Try.func7, Try.ntmps7
  go_wp2_with fail
  refine hnew.mono ?_
  rintro e W1 ⟨rfl, hD1, hb1⟩
  clear hnew
  have hfo := wformat_done hD1 hb1.size (n := 4) (by omega) (by omega) (by simp [newM])
  obtain ⟨e0, w2⟩ := lays_well (fmtL 4) (D := newM 10) (N := 10) ⟨rfl, rfl, rfl, by simp [newM]⟩ (fmt_in (by omega) (by omega))
  have hfo' : Calls Try.prog 8 #[.pointer (some ⟨w.heap.size + 1, 0, none⟩), .int .i64 4] W1 fun e W2 => ∃ g, e = .returned (.tuple #[.pointer (some ⟨g, 0, none⟩), .int .i64 0]) ∧ Lg w W2 (w.heap.size + 1) w.heap.size g 1 0 1 0 := by
    refine hfo.mono ?_
    rintro e W2 ⟨bv', hD2, hok, _, hk2, ho2⟩
    obtain ⟨g, v, he, hgw, hv, hg⟩ := hok e0
    refine ⟨g, he, bv', _, v, none, 0, [], hD2, w2, hg, World.ownsRow_nil _ _ _ _, hb1.trans (hk2.below ?_ hb1.size), fun j hj => ?_, Nat.le_trans hb1.size hgw⟩
    · intro i hi
      simp only [fp, List.mem_cons, Option.mem_toList] at hi
      rcases hi with rfl | rfl | h9
      · omega
      · omega
      · simp [Value.ownBlock] at h9
    · rcases ho2 j hj with h9 | h9
      · simp [Value.ownBlock] at h9
      · exact Nat.le_trans hb1.size h9
  have hpp : w.heap.size ≤ w.heap.size + 1 ∧ w.heap.size ≤ w.heap.size := ⟨by omega, by omega⟩
  obtain ⟨p, hp⟩ : ∃ p, w.heap.size + 1 = p := ⟨_, rfl⟩
  rw [hp] at hfo' hpp ⊢
  have HP := Lib.hid (show w.heap.size ≤ p ∧ w.heap.size ≤ w.heap.size from ⟨by omega, by omega⟩)
  clear hfo hD1 hb1 e0 w2 hpp hp
  go_wp2_with fail
  refine hfo'.mono ?_
  rintro e W2 ⟨g, rfl, hG2⟩
  clear hfo'
  have c2 : Calls Try.prog 15 #[.pointer (some ⟨g, 0, none⟩)] W2 fun e w' => e = .returned (.int .i64 3) ∧ Lg w w' p w.heap.size g 1 0 1 0 := lg_left hG2 (by omega) (by omega)
  go_wp2_with fail
  refine c2.mono ?_
  rintro e W3 ⟨rfl, hG3⟩
  clear c2 hG2
  have c3 : Calls Try.prog 11 #[.pointer (some ⟨g, 0, none⟩), .slice (some ⟨W3.heap.size, 0, none⟩) 48 48] (W3.alloc (.cells z48 5)) fun e w' => e = .returned (.int .i64 0) ∧ Lg w w' p w.heap.size g 1 0 2 1 := by rw [← HZ.out.1]; exact lg_append hG3 (by omega) (by omega) (by omega) (by omega) HP.out 48 (by omega) (by decide)
  go_wp2_with fail
  refine c3.mono ?_
  rintro e W4 ⟨rfl, hG4⟩
  clear c3 hG3
  have c4 : Calls Try.prog 11 #[.pointer (some ⟨g, 0, none⟩), .slice (some ⟨W4.heap.size, 0, none⟩) 97 97] (W4.alloc (.cells z97 5)) fun e w' => e = .returned (.int .i64 6) ∧ Lg w w' p w.heap.size g 1 0 2 1 := lg_full (hG4.later ((Below.refl _ _).alloc (Nat.le_refl _) _)) (by omega) (by omega) _ 97 97 (by omega) (by decide)
  go_wp2_with fail
  refine c4.mono ?_
  rintro e W5 ⟨rfl, hG5⟩
  clear c4 hG4
  have c5 : Calls Try.prog 11 #[.pointer (some ⟨g, 0, none⟩), .slice (some ⟨W5.heap.size, 0, none⟩) 49 49] (W5.alloc (.cells z49 5)) fun e w' => e = .returned (.int .i64 0) ∧ Lg w w' p w.heap.size g 1 0 4 2 := by rw [← HZ.out.2.1]; exact lg_append hG5 (by omega) (by omega) (by omega) (by omega) HP.out 49 (by omega) (by decide)
  go_wp2_with fail
  refine c5.mono ?_
  rintro e W6 ⟨rfl, hG6⟩
  clear c5 hG5
  have c6 : Calls Try.prog 14 #[.pointer (some ⟨g, 0, none⟩)] W6 fun e w' => e = .returned (.int .i64 2) ∧ Lg w w' p w.heap.size g 1 0 4 2 := lg_len hG6
  go_wp2_with fail
  refine c6.mono ?_
  rintro e W7 ⟨rfl, hG7⟩
  clear c6 hG6
  have c7 : Calls Try.prog 15 #[.pointer (some ⟨g, 0, none⟩)] W7 fun e w' => e = .returned (.int .i64 0) ∧ Lg w w' p w.heap.size g 1 0 4 2 := lg_left hG7 (by omega) (by omega)
  go_wp2_with fail
  refine c7.mono ?_
  rintro e W8 ⟨rfl, hG8⟩
  clear c7 hG7
  have c8 : Calls Try.prog 12 #[.pointer (some ⟨g, 0, none⟩), .slice (some ⟨W8.heap.size, 0, none⟩) 1 1] (W8.alloc (.cells #[.int .u8 5] 5)) fun e w' => e = .returned (.int .i64 0) ∧ Lg w w' p w.heap.size g 2 1 1 0 := lg_check hG8 (by omega) HP.out [5] (by decide) (by intro n hn; simp at hn; omega) (by decide)
  go_wp2_with fail
  refine c8.mono ?_
  rintro e W9 ⟨rfl, hG9⟩
  clear c8 hG8
  have c9 : Calls Try.prog 16 #[.pointer (some ⟨g, 0, none⟩)] W9 fun e w' => e = .returned (.int .u32 2) ∧ Lg w w' p w.heap.size g 2 1 1 0 := lg_turn hG9
  go_wp2_with fail
  refine c9.mono ?_
  rintro e W10 ⟨rfl, hG10⟩
  clear c9 hG9
  have c10 : Calls Try.prog 14 #[.pointer (some ⟨g, 0, none⟩)] W10 fun e w' => e = .returned (.int .i64 0) ∧ Lg w w' p w.heap.size g 2 1 1 0 := lg_len hG10
  go_wp2_with fail
  refine c10.mono ?_
  rintro e W11 ⟨rfl, hG11⟩
  clear c10 hG10
  go_wp2_with fail
  go_ret
  obtain ⟨_, _, _, _, _, _, _, _, _, _, h5, _⟩ := hG11
  exact ⟨rfl, h5⟩
end Go.Proofs.Ytkfpkolgikpcpaa
