/-
  The contracts of the law's own kind, keep and block. Nothing here is a statement of the document.
-/
import Derived.Test.YtaikgngigaohmaaDoorDskM
import Derived.Test.YtaikgngigaohmaaDoorDskN
import Derived.Test.YtaikgngigaohmaaDoorDskP
import Derived.Test.YtaikgngigaohmaaDoorDskQ
import Derived.Laws.AppendOwn
namespace Go.Proofs.YtaikgngigaohmaaDoor
open Go.RowKit Go.Shelf
set_option linter.unusedVariables false

/-! ### A deed -/
structure Deed where
  kind : Int
  sector : Int
  num : Int
  fill : Nat
  ad : Option Addr
  len : Nat
  cap : Nat
def Deed.cs (x : Deed) : Array Value := #[.int .i64 x.kind, .int .i64 x.sector, .int .i64 x.num, .int .u8 (x.fill : Int), .slice x.ad x.len x.cap]
def Deed.k (x : Deed) : Nat := (x.kind % 18446744073709551616).toNat % 10

set_option maxHeartbeats 1000000 in
theorem kind_any (x : Deed) (w : World) : Calls Tryd.prog 11 #[.agg x.cs] w fun e w' => e = .returned (.int .u64 (x.k : Int)) ∧ Below w.heap.size w w' := by
  simp only [Deed.cs]
  go_enter Tryd.func11, Tryd.ntmps11
  go_wp2
  go_ret
  refine ⟨?_, (Below.refl _ _).alloc (Nat.le_refl _) _⟩
  have e : (IntKind.u64.wrap x.kind).tmod 10 = (x.k : Int) := by
    have e1 : IntKind.u64.wrap x.kind = x.kind % 18446744073709551616 := by rfl
    rw [e1, Int.tmod_eq_emod_of_nonneg (by omega)]
    simp only [Deed.k]
    omega
  rw [e]; rfl

theorem cell_lt {w : World} {a : Addr} {v : Value} (h : w.cell? a = some v) : a.block < w.heap.size := by
  refine Nat.lt_of_not_le fun h9 => ?_
  have : w.heap[a.block]? = none := Array.getElem?_eq_none h9
  simp [World.cell?, this] at h

/-- What a row of truths holds. -/
def Truths (w : World) (a : Option Addr) (ks : List Bool) : Prop := (a = none ∧ ks = []) ∨ ∃ x, a = some x ∧ ∀ i, i < ks.length → w.cell? (x.add i) = some (.bool (ks.getD i false))
theorem Truths.below {w w' : World} {a : Option Addr} {ks : List Bool} (h : Truths w a ks) (hb : Below w.heap.size w w') : Truths w' a ks := by
  rcases h with h | ⟨x, rfl, h⟩
  · exact .inl h
  · exact .inr ⟨x, rfl, fun i hi => (hb.cell (cell_lt (h i hi))).trans (h i hi)⟩
theorem Truths.take {w : World} {a : Option Addr} {ks : List Bool} (h : Truths w a ks) (n : Nat) : Truths w a (ks.take n) := by
  rcases h with ⟨rfl, rfl⟩ | ⟨x, rfl, h⟩
  · exact .inl ⟨rfl, by simp⟩
  · refine .inr ⟨x, rfl, fun i hi => ?_⟩
    simp only [List.length_take] at hi
    rw [h i (by omega)]
    simp only [List.getD_eq_getElem?_getD, List.getElem?_take, if_pos (show i < n by omega)]

theorem i_bool : (Tryd.prog.info? 4).map (fun i => (i.zero, i.size, i.bytes)) = some (some (.bool false), 1, 1) := by kernel_rfl
set_option maxHeartbeats 2000000 in
theorem clone_some (ad : Addr) (c : Nat) (ks : List Bool) (w : World) (h : Truths w (some ad) ks) (hn : ks.length ≤ 30) :
    Calls Tryd.prog 39 #[.slice (some ad) ks.length c] w fun e w' => ∃ v, e = .returned v ∧ w'.ownsRow w.heap.size 4 1 v ks.length (ks.map Value.bool) ∧ Below w.heap.size w w' := by
  obtain ⟨i0, hi, hz0, hz1, hz2⟩ := info_parts i_bool
  have A0 : (∀ i, i < ks.length → w.cell? (ad.add i) = some (.bool (ks.getD i false))) := by
    rcases h with ⟨h9, _⟩ | ⟨x, h9, h⟩
    · cases h9
    · obtain rfl : ad = x := by injection h9
      exact h
  have A := Lib.hid A0
  clear h A0
  have q : ∀ (w : World) (a : Option Addr) (n c n' c' : Nat), (binOp .eql 23 (.slice a n c) (.slice none n' c')).run Tryd.prog w = .ok (.bool a.isNone) w := fun w a n c n' c' => Lib.run_eql_slice_nil w _ _ a n c n' c' Tryd.underlying23
  go_enter Tryd.func39, Tryd.ntmps39
  go_wp2_with (at_builtin; refine wpList_append_own _ rfl _ _ 23 rfl w.heap.size 4 i0 (.bool false) 1 1 Tryd.underlying23 hi hz0 hz1 hz2 rfl (by decide) _ _ _ rfl (World.ownsRow_made w #[] 0 (Nat.le_refl _) (Nat.zero_le _) rfl) ad ks.length c (ks.map Value.bool) rfl ?qc1 ?qc2 ?qc3 ?qc4 ?qc5 ?qc6 ?_)
  case qc1 => simp
  case qc2 =>
    intro j u hj
    have hjl : j < ks.length := by simpa using (List.getElem?_eq_some_iff.1 hj).1
    rw [List.getElem?_map, List.getElem?_eq_getElem hjl, Option.map_some] at hj
    refine Lib.cell?_alloc_some _ ?_
    rw [A.out j hjl, ← hj, List.getD_eq_getElem?_getD, List.getElem?_eq_getElem hjl]
    rfl
  case qc3 => intro u hu; obtain ⟨x, _, rfl⟩ := List.mem_map.1 hu; rfl
  case qc4 => unfold maxLen; omega
  case qc5 => omega
  case qc6 => simp
  intro v' w1 hown hgrow hnil
  go_wp2
  go_ret
  exact ⟨v', rfl, by simpa using hown, ((Below.refl _ w).alloc (Nat.le_refl _) _).grown hgrow (by simp) (by intro k hk; simp [Value.ownBlock] at hk; omega)⟩

set_option maxHeartbeats 1000000 in
theorem clone_none (c : Nat) (w : World) : Calls Tryd.prog 39 #[.slice none 0 c] w fun e w' => e = .returned (.slice none 0 0) ∧ w = w' := by
  have q : ∀ (w : World) (a : Option Addr) (n c n' c' : Nat), (binOp .eql 23 (.slice a n c) (.slice none n' c')).run Tryd.prog w = .ok (.bool a.isNone) w := fun w a n c n' c' => Lib.run_eql_slice_nil w _ _ a n c n' c' Tryd.underlying23
  go_enter Tryd.func39, Tryd.ntmps39
  go_wp2
  go_ret
  exact ⟨rfl, rfl⟩

theorem clone_any (a : Option Addr) (c : Nat) (ks : List Bool) (w : World) (h : Truths w a ks) (hn : ks.length ≤ 30) :
    Calls Tryd.prog 39 #[.slice a ks.length c] w fun e w' => ∃ v, e = .returned v ∧ w'.ownsRow w.heap.size 4 1 v ks.length (ks.map Value.bool) ∧ Below w.heap.size w w' := by
  cases a with
  | some ad => exact clone_some ad c ks w h hn
  | none =>
    rcases h with ⟨_, rfl⟩ | ⟨x, h9, _⟩
    · exact (clone_none c w).mono fun e w' ⟨he, hw⟩ => ⟨_, he, by subst hw; exact ⟨rfl, .inl ⟨rfl, rfl⟩⟩, hw ▸ Below.refl _ _⟩
    · cases h9

set_option maxHeartbeats 1000000 in
theorem keep_any (x : Deed) (ks : List Bool) (w : World) (h : Truths w x.ad ks) (hl : ks.length = x.len) (hc : x.len ≤ x.cap) (hm : x.cap ≤ maxLen) :
    Calls Tryd.prog 25 #[.agg x.cs] w fun e w' => ∃ v, e = .returned v ∧ w'.ownsRow w.heap.size 4 1 v (ks.take 30).length ((ks.take 30).map Value.bool) ∧ Below w.heap.size w w' := by
  obtain ⟨k, s, n, f, a, len, cap⟩ := x
  simp only [Deed.cs] at *
  subst hl
  have key : ∀ (m : Nat), (ks.take 30).length = m → ∀ W, Below w.heap.size w W → Calls Tryd.prog 39 #[.slice a m cap] W fun e w' => ∃ v, e = .returned v ∧ w'.ownsRow w.heap.size 4 1 v (ks.take 30).length ((ks.take 30).map Value.bool) ∧ Below w.heap.size w w' := by
    intro m hm W hW
    subst hm
    refine (clone_any a cap (ks.take 30) W ((h.below hW).take 30) (by simp; omega)).mono ?_
    rintro e w' ⟨v, he, hown, hb⟩
    refine ⟨v, he, ⟨hown.1, ?_⟩, hW.trans (hb.mono hW.size)⟩
    rcases hown.2 with h9 | ⟨g, c, cur, h1, h2, h3⟩
    · exact .inl h9
    · exact .inr ⟨g, c, cur, h1, Nat.le_trans hW.size h2, h3⟩
  have K := Lib.hid key
  clear h key
  go_enter Tryd.func25, Tryd.ntmps25
  go_wp2_with fail
  · refine (K.out 30 (by simp; omega) _ ((Below.refl _ _).alloc (Nat.le_refl _) _)).mono ?_
    rintro e W1 ⟨v, rfl, hown, hb⟩
    go_wp2
    go_ret
    exact ⟨v, rfl, hown, hb⟩
  · refine (K.out ks.length (by simp; omega) _ ((Below.refl _ _).alloc (Nat.le_refl _) _)).mono ?_
    rintro e W1 ⟨v, rfl, hown, hb⟩
    go_wp2
    go_ret
    exact ⟨v, rfl, hown, hb⟩

/-! ### block -/
def Bk.fill (n : Nat) : Bk := ⟨List.replicate 64 (n : Int), by simp⟩
def Bk.upTo (n k : Nat) : Bk := ⟨List.replicate (min k 64) (n : Int) ++ List.replicate (64 - k) 0, by simp; omega⟩
theorem Bk.upTo_zero (n : Nat) : Bk.upTo n 0 = Bk.zero := by simp [Bk.upTo, Bk.zero]
theorem Bk.upTo_all (n : Nat) : Bk.upTo n 64 = Bk.fill n := by simp [Bk.upTo, Bk.fill]
theorem Bk.upTo_succ (n k : Nat) (h : k < 64) : (Bk.upTo n k).cs.setIfInBounds k (.int .u8 (n : Int)) = (Bk.upTo n (k + 1)).cs := by
  apply Array.ext'
  rw [Array.toList_setIfInBounds]
  simp only [Bk.cs, Bk.upTo, Nat.min_eq_left (show k ≤ 64 by omega), Nat.min_eq_left (show k + 1 ≤ 64 by omega), List.map_append, List.map_replicate, List.set_append_right _ _ (show (List.replicate k (Value.int .u8 (n : Int))).length ≤ k by simp), List.length_replicate, Nat.sub_self]
  rw [show 64 - k = (64 - (k + 1)) + 1 from by omega, List.replicate_succ, List.set_cons_zero, List.replicate_succ' (n := k)]
  simp

set_option maxRecDepth 100000 in
set_option maxHeartbeats 1000000 in
theorem block_any (n : Nat) (w : World) : Calls Tryd.prog 18 #[.int .u8 (n : Int)] w fun e w' => e = .returned (.agg (Bk.fill n).cs) ∧ Below w.heap.size w w' := by
  go_enter Tryd.func18, Tryd.ntmps18
  go_wp2_with (with_reducible refine wpList_alloc_z rfl 31 rfl Bk.zero.cs 64 z_blk ?_)
  have i0 : Blk ((w.alloc (.cells Bk.zero.cs 31)).alloc (.cells Bk.zero.cs 31)) (w.heap.size + 1) 31 (Bk.upTo n 0).cs := by
    rw [Bk.upTo_zero]
    have := Blk.new (w.alloc (.cells Bk.zero.cs 31)) 31 Bk.zero.cs
    rwa [World.size_alloc] at this
  have z0 : Blk ((w.alloc (.cells Bk.zero.cs 31)).alloc (.cells Bk.zero.cs 31)) w.heap.size 31 Bk.zero.cs := (Blk.new w _ _).alloc _
  have hb0 : Below w.heap.size w ((w.alloc (.cells Bk.zero.cs 31)).alloc (.cells Bk.zero.cs 31)) := ((Below.refl _ _).alloc (Nat.le_refl _) _).alloc (by simp) _
  go_loopw [5] (fun i wr => ∃ k : Nat, k ≤ 64 ∧ i = .int .i64 k ∧ Blk wr (w.heap.size + 1) 31 (Bk.upTo n k).cs ∧ Blk wr w.heap.size 31 Bk.zero.cs ∧ Below w.heap.size w wr) (fun i _ => 64 - (intOf i).toNat)
  case atStart => exact ⟨0, by omega, rfl, i0, z0, hb0⟩
  case round =>
    obtain ⟨k, hk, rfl, hB, hZ, hbw⟩ := hrel
    clear i0 z0 hb0
    by_cases hlt : k < 64
    · have hki : (k : Int) < 64 := by omega
      have hB2 := hB.set k (.int .u8 (n : Int))
      rw [Bk.upTo_succ n k hlt] at hB2
      have hc : wr.cell? ⟨w.heap.size + 1, k, none⟩ = some ((Bk.upTo n k).cs[k]'(by rw [Bk.size]; exact hlt)) := by rw [hB.cell, Array.getElem?_eq_getElem]
      have hf := hB.free k
      have hZ2 := hZ.far (p := ⟨w.heap.size + 1, k, none⟩) (by simp) (.int .u8 (n : Int))
      have hb2 : Below w.heap.size w (wr.setCell ⟨w.heap.size + 1, k, none⟩ (.int .u8 (n : Int))) := hbw.setCell (p := ⟨w.heap.size + 1, k, none⟩) (by simp) _
      generalize (Bk.upTo n k).cs[k]'(by rw [Bk.size]; exact hlt) = vv at hc
      have H := Lib.hid (And.intro hB2 (And.intro hZ2 hb2))
      clear hB hZ hbw hB2 hZ2 hb2
      go_wp2
      go_roundw
      case rel => exact ⟨k + 1, by omega, by go_num, H.out.1, H.out.2.1, H.out.2.2⟩
      case measure => simp [intOf]; omega
    · obtain rfl : k = 64 := by omega
      rw [Bk.upTo_all] at hB
      have hfit : 0 + (Bk.fill n).cs.size ≤ Bk.zero.cs.size := by rw [Bk.size, Bk.size]; omega
      have ho := over_all (C := Bk.zero.cs) (vs := (Bk.fill n).cs) (by rw [Bk.size, Bk.size])
      have h00 : ∀ j, j < (Bk.fill n).cs.size → (Bk.fill n).cs[0 + j]? = (Bk.fill n).cs[j]? := fun j _ => by rw [Nat.zero_add]
      have H0 := Lib.hid h00
      have HO := Lib.hid ho
      have hZ2 := hZ.row (over Bk.zero.cs 0 (Bk.fill n).cs)
      have hb2 : Below w.heap.size w (wr.setRow w.heap.size (over Bk.zero.cs 0 (Bk.fill n).cs)) := below_setRow hbw (Nat.le_refl _) _
      rw [ho] at hZ2
      have H := Lib.hid (And.intro hZ2 hb2)
      clear hZ2 hb2 ho hlt hk hbw h00
      go_wp2_with (first | (with_reducible refine wpList_load_blk rfl 31 (.tmp 3) rfl (w.heap.size + 1) 0 rfl (Bk.fill n).cs (Bk.fill n).cs _ hB H0.out _ Tryd.underlying31 rfl (s_blk (Bk.fill n)) ?_) | (with_reducible refine wpList_store_blk rfl 31 (.tmp 2) (.tmp 12) rfl w.heap.size 0 (Bk.fill n).cs Bk.zero.cs _ rfl rfl hZ hfit (s_blk (Bk.fill n)) (Bk.fill n).one ?_))
      rw [HO.out]
      refine bodyPost_ret (results_cell_row rfl _ _ w.heap.size 31 (Bk.fill n).cs (0, 0) _ rfl H.out.1 Tryd.underlying31 rfl (s_blk _)) rfl ?_
      exact ⟨rfl, HO.out ▸ H.out.2⟩

set_option maxHeartbeats 1000000 in
theorem copy_nil (w : World) : Calls Tryd.prog 24 #[.pointer none] w fun e w' => e = .returned (.pointer none) ∧ w = w' := by
  go_enter Tryd.func24, Tryd.ntmps24
  go_wp2
  go_ret
  exact ⟨rfl, rfl⟩

/-! ### does, of nothing -/
set_option maxRecDepth 100000 in
set_option maxHeartbeats 2000000 in
theorem does_nil (x : Deed) (ks : List Bool) (w : World) (h : Truths w x.ad ks) (hl : ks.length = x.len) (hc : x.len ≤ x.cap) (hm : x.cap ≤ maxLen) :
    Calls Tryd.prog 10 #[.pointer none, .agg x.cs] w fun e w' => e = .returned (.tuple #[.agg Bk.zero.cs, .int .i64 1]) ∧ Below w.heap.size w w' := by
  have hkind := fun W => kind_any x W
  obtain ⟨W1, hW1⟩ : ∃ W1, (w.alloc (.cells x.cs 37)).alloc (.cells Bk.zero.cs 31) = W1 := ⟨_, rfl⟩
  have hb1 : Below w.heap.size w W1 := by rw [← hW1]; exact ((Below.refl _ _).alloc (Nat.le_refl _) _).alloc (by simp) _
  have b1 : Blk W1 w.heap.size 37 x.cs := by rw [← hW1]; exact (Blk.new w _ _).alloc _
  have b2 : Blk W1 (w.heap.size + 1) 31 Bk.zero.cs := by
    rw [← hW1]
    have := Blk.new (w.alloc (.cells x.cs 37)) 31 Bk.zero.cs
    rwa [World.size_alloc] at this
  have hxs : x.cs.size = 5 := rfl
  obtain ⟨k, s, n, f, a, len, cap⟩ := x
  simp only [Deed.cs] at *
  have c0 := b1.cell 0
  have c1 := b1.cell 1
  have c2 := b1.cell 2
  have c3 := b1.cell 3
  have c4 := b1.cell 4
  simp only [List.getElem?_toArray, List.getElem?_cons_zero, List.getElem?_cons_succ] at c0 c1 c2 c3 c4
  have hk1 := hkind W1
  have H := Lib.hid (And.intro h (And.intro hb1 (And.intro b1 b2)))
  have HL := Lib.hid (And.intro hl (And.intro hc hm))
  clear hkind h hb1 b1 b2 hxs hl hc hm
  go_enter Tryd.func10, Tryd.ntmps10
  go_wp2_with (with_reducible refine wpList_alloc_z rfl 31 rfl Bk.zero.cs 64 z_blk ?_)
  have hW1s : w.heap.size + 1 < W1.heap.size := H.out.2.2.2.lt
  refine hk1.mono ?_
  rintro e W2 ⟨rfl, hb2⟩
  replace c0 := (hb2.cell (p := ⟨w.heap.size, 0, none⟩) (show w.heap.size < W1.heap.size by omega)).trans c0
  replace c1 := (hb2.cell (p := ⟨w.heap.size, 1, none⟩) (show w.heap.size < W1.heap.size by omega)).trans c1
  replace c2 := (hb2.cell (p := ⟨w.heap.size, 2, none⟩) (show w.heap.size < W1.heap.size by omega)).trans c2
  replace c3 := (hb2.cell (p := ⟨w.heap.size, 3, none⟩) (show w.heap.size < W1.heap.size by omega)).trans c3
  replace c4 := (hb2.cell (p := ⟨w.heap.size, 4, none⟩) (show w.heap.size < W1.heap.size by omega)).trans c4
  have H2 := Lib.hid (And.intro (H.out.1.below (H.out.2.1.trans (hb2.mono H.out.2.1.size))) (And.intro (H.out.2.1.trans (hb2.mono H.out.2.1.size)) (H.out.2.2.2.kept (Kept.of_below [] hb2) (by simp))))
  generalize hm : Deed.k ⟨k, s, n, f, a, len, cap⟩ = m
  clear hk1 hb2 hW1 hm hW1s H
  have HZ := Lib.hid zero_store
  have h00 : ∀ j, j < Bk.zero.cs.size → Bk.zero.cs[0 + j]? = Bk.zero.cs[j]? := fun j _ => by rw [Nat.zero_add]
  have H0 := Lib.hid h00
  have hfit : 0 + Bk.zero.cs.size ≤ Bk.zero.cs.size := by omega
  have HF := Lib.hid hfit
  clear h00 hfit
  have hw0 : w.heap.size < W2.heap.size := by have := H2.out.2.2.lt; omega
  have HW := Lib.hid hw0
  clear hw0
  go_wp2_with fail
  · refine (read_nil s W2).mono ?_
    rintro e W3 ⟨rfl, hb3⟩
    have hB3 : Below w.heap.size w W3 := H2.out.2.1.trans (hb3.mono H2.out.2.1.size)
    have b3 := H2.out.2.2.kept (Kept.of_below [] hb3) (by simp)
    have HB := Lib.hid (And.intro (b3.row Bk.zero.cs) (below_setRow hB3 (Nat.le_succ _) Bk.zero.cs))
    clear hB3 hb3
    obtain ⟨W4, hW4⟩ : ∃ W4, W3.setRow (w.heap.size + 1) Bk.zero.cs = W4 := ⟨_, rfl⟩
    have b0 := b3
    have b4 : Blk W4 (w.heap.size + 1) 31 Bk.zero.cs := by rw [← hW4]; exact b3.row _
    have HB4 := Lib.hid (And.intro (b4.row Bk.zero.cs) (below_setRow (by rw [← hW4]; exact HB.out.2 : Below w.heap.size w W4) (Nat.le_succ _) Bk.zero.cs))
    clear b3
    go_wp2_with (first | (with_reducible refine wpList_store_blk rfl 31 (.tmp 4) (.tmp 22) rfl (w.heap.size + 1) 0 Bk.zero.cs Bk.zero.cs _ rfl rfl b0 HF.out (s_blk Bk.zero) Bk.zero.one ?_; rw [HZ.out, hW4]) | (with_reducible refine wpList_load_blk rfl 31 (.tmp 4) rfl (w.heap.size + 1) 0 rfl Bk.zero.cs Bk.zero.cs _ b4 H0.out _ Tryd.underlying31 rfl (s_blk Bk.zero) ?_) | (with_reducible refine wpList_store_blk rfl 31 (.tmp 4) (.tmp 46) rfl (w.heap.size + 1) 0 Bk.zero.cs Bk.zero.cs _ rfl rfl b4 HF.out (s_blk Bk.zero) Bk.zero.one ?_; rw [HZ.out]))
    refine bodyPost_ret (results_blk rfl _ _ (w.heap.size + 1) Bk.zero.cs _ rfl HB4.out.1 Tryd.underlying31 rfl (s_blk Bk.zero)) rfl ?_
    exact ⟨rfl, HB4.out.2⟩
  · refine (sync_nil W2).mono ?_
    rintro e W3 ⟨rfl, hb3⟩
    have hB3 : Below w.heap.size w W3 := H2.out.2.1.trans (hb3.mono H2.out.2.1.size)
    have b3 := H2.out.2.2.kept (Kept.of_below [] hb3) (by simp)
    have HB := Lib.hid (And.intro (b3.row Bk.zero.cs) (below_setRow hB3 (Nat.le_succ _) Bk.zero.cs))
    clear hB3 hb3
    go_wp2_with (first | (with_reducible refine wpList_load_blk rfl 31 (.tmp 4) rfl (w.heap.size + 1) 0 rfl Bk.zero.cs Bk.zero.cs _ b3 H0.out _ Tryd.underlying31 rfl (s_blk Bk.zero) ?_) | (with_reducible refine wpList_store_blk rfl 31 (.tmp 4) (.tmp 46) rfl (w.heap.size + 1) 0 Bk.zero.cs Bk.zero.cs _ rfl rfl b3 HF.out (s_blk Bk.zero) Bk.zero.one ?_; rw [HZ.out]))
    refine bodyPost_ret (results_blk rfl _ _ (w.heap.size + 1) Bk.zero.cs _ rfl HB.out.1 Tryd.underlying31 rfl (s_blk Bk.zero)) rfl ?_
    exact ⟨rfl, HB.out.2⟩
  · refine ((arm_nil n W2).mono fun e w' ⟨he, hw⟩ => (⟨he, hw ▸ Below.refl _ _⟩ : e = Ending.returned (Value.int .i64 1) ∧ Below W2.heap.size W2 w')).mono ?_
    rintro e W3 ⟨rfl, hb3⟩
    have hB3 : Below w.heap.size w W3 := H2.out.2.1.trans (hb3.mono H2.out.2.1.size)
    have b3 := H2.out.2.2.kept (Kept.of_below [] hb3) (by simp)
    have HB := Lib.hid (And.intro (b3.row Bk.zero.cs) (below_setRow hB3 (Nat.le_succ _) Bk.zero.cs))
    clear hB3 hb3
    go_wp2_with (first | (with_reducible refine wpList_load_blk rfl 31 (.tmp 4) rfl (w.heap.size + 1) 0 rfl Bk.zero.cs Bk.zero.cs _ b3 H0.out _ Tryd.underlying31 rfl (s_blk Bk.zero) ?_) | (with_reducible refine wpList_store_blk rfl 31 (.tmp 4) (.tmp 46) rfl (w.heap.size + 1) 0 Bk.zero.cs Bk.zero.cs _ rfl rfl b3 HF.out (s_blk Bk.zero) Bk.zero.one ?_; rw [HZ.out]))
    refine bodyPost_ret (results_blk rfl _ _ (w.heap.size + 1) Bk.zero.cs _ rfl HB.out.1 Tryd.underlying31 rfl (s_blk Bk.zero)) rfl ?_
    exact ⟨rfl, HB.out.2⟩
  · refine ((fail_nil n W2).mono fun e w' ⟨he, hw⟩ => (⟨he, hw ▸ Below.refl _ _⟩ : e = Ending.returned (Value.int .i64 1) ∧ Below W2.heap.size W2 w')).mono ?_
    rintro e W3 ⟨rfl, hb3⟩
    have hB3 : Below w.heap.size w W3 := H2.out.2.1.trans (hb3.mono H2.out.2.1.size)
    have b3 := H2.out.2.2.kept (Kept.of_below [] hb3) (by simp)
    have HB := Lib.hid (And.intro (b3.row Bk.zero.cs) (below_setRow hB3 (Nat.le_succ _) Bk.zero.cs))
    clear hB3 hb3
    go_wp2_with (first | (with_reducible refine wpList_load_blk rfl 31 (.tmp 4) rfl (w.heap.size + 1) 0 rfl Bk.zero.cs Bk.zero.cs _ b3 H0.out _ Tryd.underlying31 rfl (s_blk Bk.zero) ?_) | (with_reducible refine wpList_store_blk rfl 31 (.tmp 4) (.tmp 46) rfl (w.heap.size + 1) 0 Bk.zero.cs Bk.zero.cs _ rfl rfl b3 HF.out (s_blk Bk.zero) Bk.zero.one ?_; rw [HZ.out]))
    refine bodyPost_ret (results_blk rfl _ _ (w.heap.size + 1) Bk.zero.cs _ rfl HB.out.1 Tryd.underlying31 rfl (s_blk Bk.zero)) rfl ?_
    exact ⟨rfl, HB.out.2⟩
  · refine (keep_any ⟨k, s, n, f, a, len, cap⟩ ks W2 H2.out.1 HL.out.1 HL.out.2.1 HL.out.2.2).mono ?_
    rintro e W5 ⟨v, rfl, hown, hb5⟩
    obtain ⟨va, vl, vc, rfl⟩ : ∃ va vl vc, v = .slice va vl vc := by
      rcases hown.2 with ⟨h9, _⟩ | ⟨g, c, cur, h9, _⟩
      · exact ⟨_, _, _, h9⟩
      · exact ⟨_, _, _, h9⟩
    have H5 := Lib.hid hb5
    clear hown hb5
    go_wp2_with fail
    refine (crash_nil _ va vl vc rfl W5).mono ?_
    rintro e W3 ⟨rfl, hb6⟩
    have hb3 : Below W2.heap.size W2 W3 := H5.out.trans (hb6.mono H5.out.size)
    clear hb6
    have hB3 : Below w.heap.size w W3 := H2.out.2.1.trans (hb3.mono H2.out.2.1.size)
    have b3 := H2.out.2.2.kept (Kept.of_below [] hb3) (by simp)
    have HB := Lib.hid (And.intro (b3.row Bk.zero.cs) (below_setRow hB3 (Nat.le_succ _) Bk.zero.cs))
    clear hB3 hb3
    go_wp2_with (first | (with_reducible refine wpList_load_blk rfl 31 (.tmp 4) rfl (w.heap.size + 1) 0 rfl Bk.zero.cs Bk.zero.cs _ b3 H0.out _ Tryd.underlying31 rfl (s_blk Bk.zero) ?_) | (with_reducible refine wpList_store_blk rfl 31 (.tmp 4) (.tmp 46) rfl (w.heap.size + 1) 0 Bk.zero.cs Bk.zero.cs _ rfl rfl b3 HF.out (s_blk Bk.zero) Bk.zero.one ?_; rw [HZ.out]))
    refine bodyPost_ret (results_blk rfl _ _ (w.heap.size + 1) Bk.zero.cs _ rfl HB.out.1 Tryd.underlying31 rfl (s_blk Bk.zero)) rfl ?_
    exact ⟨rfl, HB.out.2⟩
  · go_region_held3 (fun w' => w'.cell? ⟨w.heap.size, 1, none⟩ = some (.int .i64 s) ∧ w'.cell? ⟨w.heap.size, 3, none⟩ = some (.int .u8 (f : Int))) (first | exact ⟨c1b, c3b⟩ | exact ⟨c1a, c3a⟩ | exact ⟨c1, c3⟩) (first | (go_at_call 18; (with_reducible refine (block_any f _).mono ?_); rintro e w4 ⟨rfl, hb4⟩; have c1a : w4.cell? ⟨w.heap.size, 1, none⟩ = some (.int .i64 s) := (hb4.cell (p := ⟨w.heap.size, 1, none⟩) (by exact HW.out)).trans (by exact c1); have c3a : w4.cell? ⟨w.heap.size, 3, none⟩ = some (.int .u8 (f : Int)) := (hb4.cell (p := ⟨w.heap.size, 3, none⟩) (by exact HW.out)).trans (by exact c3)) | (go_at_call 17; (with_reducible refine (write_nil s (Bk.fill f) _).mono ?_); rintro e W3 ⟨rfl, hb5⟩; have c1b : W3.cell? ⟨w.heap.size, 1, none⟩ = some (.int .i64 s) := (hb5.cell (p := ⟨w.heap.size, 1, none⟩) (by have := hb4.size; exact Nat.lt_of_lt_of_le HW.out this)).trans (by exact c1a); have c3b : W3.cell? ⟨w.heap.size, 3, none⟩ = some (.int .u8 (f : Int)) := (hb5.cell (p := ⟨w.heap.size, 3, none⟩) (by have := hb4.size; exact Nat.lt_of_lt_of_le HW.out this)).trans (by exact c3a)))
    have hb3 : Below W2.heap.size W2 W3 := (show Below W2.heap.size W2 w4 from ⟨hb4.os, hb4.tape, hb4.output, hb4.size, hb4.block⟩).trans (hb5.mono hb4.size)
    have hB3 : Below w.heap.size w W3 := H2.out.2.1.trans (hb3.mono H2.out.2.1.size)
    have b3 := H2.out.2.2.kept (Kept.of_below [] hb3) (by simp)
    have HB := Lib.hid (And.intro (b3.row Bk.zero.cs) (below_setRow hB3 (Nat.le_succ _) Bk.zero.cs))
    clear hB3 hb3
    clear hb4 hb5 c1a c3a c1b c3b c0 c1 c2 c3 c4
    go_wp2_with (first | (with_reducible refine wpList_load_blk rfl 31 (.tmp 4) rfl (w.heap.size + 1) 0 rfl Bk.zero.cs Bk.zero.cs _ b3 H0.out _ Tryd.underlying31 rfl (s_blk Bk.zero) ?_) | (with_reducible refine wpList_store_blk rfl 31 (.tmp 4) (.tmp 46) rfl (w.heap.size + 1) 0 Bk.zero.cs Bk.zero.cs _ rfl rfl b3 HF.out (s_blk Bk.zero) Bk.zero.one ?_; rw [HZ.out]))
    refine bodyPost_ret (results_blk rfl _ _ (w.heap.size + 1) Bk.zero.cs _ rfl HB.out.1 Tryd.underlying31 rfl (s_blk Bk.zero)) rfl ?_
    exact ⟨rfl, HB.out.2⟩

end Go.Proofs.YtaikgngigaohmaaDoor
