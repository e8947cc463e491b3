/-
  The contracts of route.laid, Encode and EncodeBatch. Nothing here is a statement of the document.
-/
import Derived.Test.YtikdgbmdepplgaaGreatDoorRvX
import Derived.Test.YtikdgbmdepplgaaGreatDoorRtP
import Derived.Test.YtikdgbmdepplgaaGreatDoorRtT
import Derived.Test.YtikdgbmdepplgaaGreatDoorRvG
import Derived.Test.YtikdgbmdepplgaaGreatDoorRvS
namespace Go.Proofs.YtikdgbmdepplgaaGreatDoor
open Go.RowKit Go.Shelf
set_option linter.unusedVariables false
set_option maxRecDepth 100000
theorem build_bat0 (w : World) : (buildSem 27 #[]).run Tryz.prog w = .ok (.agg #[.slice none 0 0]) w := by kernel_rfl
theorem bat_t9 {W : World} {g : Nat} {a : Option Addr} {n c : Nat} (h : Blk W g 27 #[.slice a n c]) : ∀ w', Below W.heap.size W w' → (loadSem 27 (.pointer (some ⟨g, 0, none⟩))).run Tryz.prog w' = .ok (.agg #[.slice a n c]) w' := bat_t h
theorem load_rib_rule9 (v : Value) : Instr.loadAt 24 v = loadSem 24 v := rfl
theorem store_rib_rule9 (v x : Value) : Instr.storeAt 24 v x = storeSem 24 v x := rfl
theorem load_bat_rule9 (v : Value) : Instr.loadAt 27 v = loadSem 27 v := rfl
theorem store_bat_rule9 (v x : Value) : Instr.storeAt 27 v x = storeSem 27 v x := rfl
theorem takeN_len {T : Type} {one : List Nat → Int × T × List Nat} {wr : Int} : ∀ (k : Nat) (L : List Nat) (A : List T), (takeN one wr k L A).2.length ≤ A.length + k
  | 0, L, A => by
    rw [takeN]
    split <;> simp
  | k + 1, L, A => by
    rw [takeN]
    split
    · have := takeN_len (one := one) (wr := wr) k (one L).2.2 (A ++ [(one L).2.1])
      simp at this
      omega
    · simp
theorem takeA_len {T : Type} {one : List Nat → Int × T × List Nat} {wr : Int} {L : List Nat} (hB : Bys L) : (takeA one wr L).2.length ≤ 255 := by
  match L with
  | [] => simp [takeA]
  | k :: R =>
    rw [takeA]
    have h1 := takeN_len (one := one) (wr := wr) k R []
    have h2 := hB k (by simp)
    simp at h1
    omega
attribute [local go_sem ↓] build_rib_rule build_bat_rule load_rib_rule9 store_rib_rule9 load_bat_rule9 store_bat_rule9
set_option maxHeartbeats 3200000 in
theorem rdecode_any {w : World} {a : Option Addr} {R : List Nat} {c : Nat} (hW : Wid w) (hL : Lies w a R) (hc : R.length ≤ c) (hm : c ≤ maxLen) (hB : Bys R) (hl : R.length ≤ 6000) :
    Calls Tryz.prog 7 #[.slice a R.length c] w fun e w' => ∃ v, e = .returned (.tuple #[.agg #[v], .int .i64 (decRo R).1]) ∧ OwnRo w' w.heap.size v (decRo R).2 ∧ Below w.heap.size w w' := by
  obtain ⟨W0, hW0⟩ : ∃ W0, w.alloc (.cells #[.slice none 0 0] 24) = W0 := ⟨_, rfl⟩
  have hb0 : Below w.heap.size w W0 := by rw [← hW0]; exact (Below.refl _ _).alloc (Nat.le_refl _) _
  have hbz : Blk W0 w.heap.size 24 #[.slice none 0 0] := by rw [← hW0]; exact Blk.new _ _ _
  obtain ⟨E, L, hq⟩ : ∃ E L, takeA roR 211 R = (E, L) := ⟨_, _, rfl⟩
  have HT := rtaken_any hq (hW.later hb0) (hL.kept hb0) hc hm hB hl
  have hLl : L.length ≤ 255 := by have := takeA_len (one := roR) (wr := 211) hB; rw [hq] at this; exact this
  have hD : decRo R = if E = 0 then (if okRib L then (0, L) else (211, [])) else (E, []) := by
    unfold decRo; rw [hq]
  rw [hD]
  obtain ⟨n0, hn0⟩ : ∃ n0, R.length = n0 := ⟨_, rfl⟩
  rw [hn0] at HT ⊢
  have B0 := build_rib0
  have HB := Lib.hid (And.intro hb0 (And.intro hbz hW))
  clear hb0 hbz hW hL hc hm hB hl hD hq hn0
  by_cases hE : E = 0
  · subst hE
    rw [if_pos rfl]
    by_cases hk : okRib L
    · rw [if_pos hk]
      have hkE : ribE L = 0 := if_pos hk
      clear hk
      go_enter Tryz.func7, Tryz.ntmps7
      go_wp2_with (with_reducible refine wpList_alloc_z rfl 24 rfl #[.slice none 0 0] 1 z_rib ?_)
      refine HT.mono ?_
      rintro e W1 ⟨v, rfl, hO1, hb1⟩
      obtain ⟨a1, c1, rfl, hc1, hm1, hAt1, _⟩ := hO1.lies
      have hn1 : a1 = none → c1 = 0 := fun h => by
        rcases hO1.2 with ⟨h9, _⟩ | ⟨g9, cap, cur, h9, _⟩
        · injection h9
        · rw [h] at h9; injection h9 with h9; cases h9
      have B1 := build_rib1 a1 L.length c1
      have hbq := Blk.new W1 24 #[.slice none 0 0]
      have ST2 := st_rib (a2 := a1) (n2 := L.length) (c2 := c1) hbq
      obtain ⟨W2, hW2⟩ : ∃ W2, (W1.alloc (.cells #[.slice none 0 0] 24)).setRow W1.heap.size #[.slice a1 L.length c1] = W2 := ⟨_, rfl⟩
      have hbn : Blk W2 W1.heap.size 24 #[.slice a1 L.length c1] := by rw [← hW2]; exact Blk.row hbq _
      have k12 : Below W1.heap.size W1 W2 := by rw [← hW2]; exact below_setRow ((Below.refl _ _).alloc (Nat.le_refl _) _) (Nat.le_refl _) _
      rw [hW2] at ST2
      clear hbq
      have LD := rib_t hbn
      have LD2 := LD W2 (Below.refl _ _)
      have HC := rcheck_any a1 L.length c1 L W2 ((HB.out.2.2.later HB.out.1).later (bel_trans hb1 k12)) rfl (by omega) (hAt1.later k12) hn1
      rw [hkE] at HC
      have HY := Lib.hid (And.intro hO1 (And.intro hb1 (And.intro k12 hbn)))
      clear HT hO1 hb1 k12 hbn hAt1 hc1 hm1 hn1 hW2
      go_wp2_with (with_reducible refine wpList_alloc_z rfl 24 rfl #[.slice none 0 0] 1 z_rib ?_)
      refine HC.mono ?_
      rintro e W3 ⟨rfl, hb3⟩
      have LD3 := LD W3 hb3
      have hk03 := bel_trans HY.out.2.1 (bel_trans HY.out.2.2.1 hb3)
      have hbz3 := HB.out.2.1.later hk03
      have SZ := st_rib (a2 := a1) (n2 := L.length) (c2 := c1) hbz3
      have HZ := Lib.hid (And.intro hb3 (And.intro hk03 hbz3))
      clear hb3 hk03 hbz3 LD HC
      go_wp2_with (with_reducible refine wpList_alloc_z rfl 24 rfl #[.slice none 0 0] 1 z_rib ?_)
      refine bodyPost_ret (results_blk rfl _ _ w.heap.size _ _ rfl (HZ.out.2.2.row _) Tryz.underlying24 rfl s_rib1) rfl ?_
      have h5 := HY.out.1.later (HY.out.2.2.1.trans (HZ.out.1.mono HY.out.2.2.1.size))
      have k9 : Kept [w.heap.size] W3 (W3.setRow w.heap.size #[.slice a1 L.length c1]) := (Kept.refl _ W3).setRow (.inl (by simp)) _
      have hlt0 := HB.out.2.1.lt
      refine ⟨_, rfl, (h5.kept9 k9 (by intro g9 h9; have := (roown_above h5 g9 h9).1; simp; omega)).less9 (by omega), ?_⟩
      exact below_setRow (HB.out.1.trans (HZ.out.2.1.mono HB.out.1.size)) (Nat.le_refl _) _
    · rw [if_neg hk]
      have hkE : ribE L = 211 := if_neg hk
      clear hk
      go_enter Tryz.func7, Tryz.ntmps7
      go_wp2_with (with_reducible refine wpList_alloc_z rfl 24 rfl #[.slice none 0 0] 1 z_rib ?_)
      refine HT.mono ?_
      rintro e W1 ⟨v, rfl, hO1, hb1⟩
      obtain ⟨a1, c1, rfl, hc1, hm1, hAt1, _⟩ := hO1.lies
      have hn1 : a1 = none → c1 = 0 := fun h => by
        rcases hO1.2 with ⟨h9, _⟩ | ⟨g9, cap, cur, h9, _⟩
        · injection h9
        · rw [h] at h9; injection h9 with h9; cases h9
      have B1 := build_rib1 a1 L.length c1
      have hbq := Blk.new W1 24 #[.slice none 0 0]
      have ST2 := st_rib (a2 := a1) (n2 := L.length) (c2 := c1) hbq
      obtain ⟨W2, hW2⟩ : ∃ W2, (W1.alloc (.cells #[.slice none 0 0] 24)).setRow W1.heap.size #[.slice a1 L.length c1] = W2 := ⟨_, rfl⟩
      have hbn : Blk W2 W1.heap.size 24 #[.slice a1 L.length c1] := by rw [← hW2]; exact Blk.row hbq _
      have k12 : Below W1.heap.size W1 W2 := by rw [← hW2]; exact below_setRow ((Below.refl _ _).alloc (Nat.le_refl _) _) (Nat.le_refl _) _
      rw [hW2] at ST2
      clear hbq
      have LD := rib_t hbn
      have LD2 := LD W2 (Below.refl _ _)
      have HC := rcheck_any a1 L.length c1 L W2 ((HB.out.2.2.later HB.out.1).later (bel_trans hb1 k12)) rfl (by omega) (hAt1.later k12) hn1
      rw [hkE] at HC
      have HY := Lib.hid (And.intro hO1 (And.intro hb1 (And.intro k12 hbn)))
      clear HT hO1 hb1 k12 hbn hAt1 hc1 hm1 hn1 hW2
      go_wp2_with (with_reducible refine wpList_alloc_z rfl 24 rfl #[.slice none 0 0] 1 z_rib ?_)
      refine HC.mono ?_
      rintro e W3 ⟨rfl, hb3⟩
      have LD3 := LD W3 hb3
      have hk03 := bel_trans HY.out.2.1 (bel_trans HY.out.2.2.1 hb3)
      have hbz3 := HB.out.2.1.later hk03
      have SZ := st_rib (a2 := none) (n2 := 0) (c2 := 0) hbz3
      have HZ := Lib.hid (And.intro hb3 (And.intro hk03 hbz3))
      clear hb3 hk03 hbz3 LD HC
      go_wp2_with (with_reducible refine wpList_alloc_z rfl 24 rfl #[.slice none 0 0] 1 z_rib ?_)
      refine bodyPost_ret (results_blk rfl _ _ w.heap.size _ _ rfl (HZ.out.2.2.row _) Tryz.underlying24 rfl s_rib1) rfl ?_
      exact ⟨_, rfl, World.ownsRow_nil _ _ _ _, below_setRow (HB.out.1.trans (HZ.out.2.1.mono HB.out.1.size)) (Nat.le_refl _) _⟩
  · rw [if_neg hE]
    have hE9 : (E == 0) = false := by simpa using hE
    go_enter Tryz.func7, Tryz.ntmps7
    go_wp2_with (with_reducible refine wpList_alloc_z rfl 24 rfl #[.slice none 0 0] 1 z_rib ?_)
    refine HT.mono ?_
    rintro e W1 ⟨v, rfl, hO1, hb1⟩
    have hbz1 := HB.out.2.1.later hb1
    have SZ := st_rib (a2 := none) (n2 := 0) (c2 := 0) hbz1
    have HZ := Lib.hid (And.intro hb1 hbz1)
    clear hO1 hb1 hbz1 HT
    go_wp2_with (with_reducible refine wpList_alloc_z rfl 24 rfl #[.slice none 0 0] 1 z_rib ?_)
    refine bodyPost_ret (results_blk rfl _ _ w.heap.size _ _ rfl (HZ.out.2.row _) Tryz.underlying24 rfl s_rib1) rfl ?_
    exact ⟨_, rfl, World.ownsRow_nil _ _ _ _, below_setRow (HB.out.1.trans (HZ.out.1.mono HB.out.1.size)) (Nat.le_refl _) _⟩
set_option maxHeartbeats 3200000 in
theorem udecode_any {w : World} {a : Option Addr} {R : List Nat} {c : Nat} (hW : Wid w) (hL : Lies w a R) (hc : R.length ≤ c) (hm : c ≤ maxLen) (hB : Bys R) (hl : R.length ≤ 6000) :
    Calls Tryz.prog 10 #[.slice a R.length c] w fun e w' => ∃ v, e = .returned (.tuple #[.agg #[v], .int .i64 (decUp R).1]) ∧ OwnUp w' w.heap.size v (decUp R).2 ∧ Below w.heap.size w w' := by
  obtain ⟨W0, hW0⟩ : ∃ W0, w.alloc (.cells #[.slice none 0 0] 27) = W0 := ⟨_, rfl⟩
  have hb0 : Below w.heap.size w W0 := by rw [← hW0]; exact (Below.refl _ _).alloc (Nat.le_refl _) _
  have hbz : Blk W0 w.heap.size 27 #[.slice none 0 0] := by rw [← hW0]; exact Blk.new _ _ _
  obtain ⟨E, L, hq⟩ : ∃ E L, takeA upR 210 R = (E, L) := ⟨_, _, rfl⟩
  have HT := utaken_any hq (hW.later hb0) (hL.kept hb0) hc hm hB hl
  have hLl : L.length ≤ 255 := by have := takeA_len (one := upR) (wr := 210) hB; rw [hq] at this; exact this
  have hD : decUp R = if E = 0 then (if okBat L then (0, L) else (210, [])) else (E, []) := by
    unfold decUp; rw [hq]
  rw [hD]
  obtain ⟨n0, hn0⟩ : ∃ n0, R.length = n0 := ⟨_, rfl⟩
  rw [hn0] at HT ⊢
  have B0 := build_bat0
  have HB := Lib.hid (And.intro hb0 (And.intro hbz hW))
  clear hb0 hbz hW hL hc hm hB hl hD hq hn0
  by_cases hE : E = 0
  · subst hE
    rw [if_pos rfl]
    by_cases hk : okBat L
    · rw [if_pos hk]
      have hkE : batE L = 0 := if_pos hk
      clear hk
      go_enter Tryz.func10, Tryz.ntmps10
      go_wp2_with (with_reducible refine wpList_alloc_z rfl 27 rfl #[.slice none 0 0] 1 z_bat ?_)
      refine HT.mono ?_
      rintro e W1 ⟨v, rfl, hO1, hb1⟩
      obtain ⟨a1, c1, rfl, hc1, hm1, hAt1, _⟩ := hO1.lies
      have hn1 : a1 = none → c1 = 0 := fun h => by
        rcases hO1.2 with ⟨h9, _⟩ | ⟨g9, cap, cur, h9, _⟩
        · injection h9
        · rw [h] at h9; injection h9 with h9; cases h9
      have B1 := build_bat1 a1 L.length c1
      have hbq := Blk.new W1 27 #[.slice none 0 0]
      have ST2 := st_bat (a2 := a1) (n2 := L.length) (c2 := c1) hbq
      obtain ⟨W2, hW2⟩ : ∃ W2, (W1.alloc (.cells #[.slice none 0 0] 27)).setRow W1.heap.size #[.slice a1 L.length c1] = W2 := ⟨_, rfl⟩
      have hbn : Blk W2 W1.heap.size 27 #[.slice a1 L.length c1] := by rw [← hW2]; exact Blk.row hbq _
      have k12 : Below W1.heap.size W1 W2 := by rw [← hW2]; exact below_setRow ((Below.refl _ _).alloc (Nat.le_refl _) _) (Nat.le_refl _) _
      rw [hW2] at ST2
      clear hbq
      have LD := bat_t9 hbn
      have LD2 := LD W2 (Below.refl _ _)
      have HC := bcheck_any a1 L.length c1 L W2 ((HB.out.2.2.later HB.out.1).later (bel_trans hb1 k12)) rfl (by omega) hc1 (hAt1.later k12)
      rw [hkE] at HC
      have HY := Lib.hid (And.intro hO1 (And.intro hb1 (And.intro k12 hbn)))
      clear HT hO1 hb1 k12 hbn hAt1 hc1 hm1 hn1 hW2
      go_wp2_with (with_reducible refine wpList_alloc_z rfl 27 rfl #[.slice none 0 0] 1 z_bat ?_)
      refine HC.mono ?_
      rintro e W3 ⟨rfl, hb3⟩
      have LD3 := LD W3 hb3
      have hk03 := bel_trans HY.out.2.1 (bel_trans HY.out.2.2.1 hb3)
      have hbz3 := HB.out.2.1.later hk03
      have SZ := st_bat (a2 := a1) (n2 := L.length) (c2 := c1) hbz3
      have HZ := Lib.hid (And.intro hb3 (And.intro hk03 hbz3))
      clear hb3 hk03 hbz3 LD HC
      go_wp2_with (with_reducible refine wpList_alloc_z rfl 27 rfl #[.slice none 0 0] 1 z_bat ?_)
      refine bodyPost_ret (results_blk rfl _ _ w.heap.size _ _ rfl (HZ.out.2.2.row _) Tryz.underlying27 rfl s_bat1) rfl ?_
      have h5 := HY.out.1.later (HY.out.2.2.1.trans (HZ.out.1.mono HY.out.2.2.1.size))
      have k9 : Kept [w.heap.size] W3 (W3.setRow w.heap.size #[.slice a1 L.length c1]) := (Kept.refl _ W3).setRow (.inl (by simp)) _
      have hlt0 := HB.out.2.1.lt
      refine ⟨_, rfl, (h5.kept9 k9 (by intro g9 h9; have := (upown_above h5 g9 h9).1; simp; omega)).less9 (by omega), ?_⟩
      exact below_setRow (HB.out.1.trans (HZ.out.2.1.mono HB.out.1.size)) (Nat.le_refl _) _
    · rw [if_neg hk]
      have hkE : batE L = 210 := if_neg hk
      clear hk
      go_enter Tryz.func10, Tryz.ntmps10
      go_wp2_with (with_reducible refine wpList_alloc_z rfl 27 rfl #[.slice none 0 0] 1 z_bat ?_)
      refine HT.mono ?_
      rintro e W1 ⟨v, rfl, hO1, hb1⟩
      obtain ⟨a1, c1, rfl, hc1, hm1, hAt1, _⟩ := hO1.lies
      have hn1 : a1 = none → c1 = 0 := fun h => by
        rcases hO1.2 with ⟨h9, _⟩ | ⟨g9, cap, cur, h9, _⟩
        · injection h9
        · rw [h] at h9; injection h9 with h9; cases h9
      have B1 := build_bat1 a1 L.length c1
      have hbq := Blk.new W1 27 #[.slice none 0 0]
      have ST2 := st_bat (a2 := a1) (n2 := L.length) (c2 := c1) hbq
      obtain ⟨W2, hW2⟩ : ∃ W2, (W1.alloc (.cells #[.slice none 0 0] 27)).setRow W1.heap.size #[.slice a1 L.length c1] = W2 := ⟨_, rfl⟩
      have hbn : Blk W2 W1.heap.size 27 #[.slice a1 L.length c1] := by rw [← hW2]; exact Blk.row hbq _
      have k12 : Below W1.heap.size W1 W2 := by rw [← hW2]; exact below_setRow ((Below.refl _ _).alloc (Nat.le_refl _) _) (Nat.le_refl _) _
      rw [hW2] at ST2
      clear hbq
      have LD := bat_t9 hbn
      have LD2 := LD W2 (Below.refl _ _)
      have HC := bcheck_any a1 L.length c1 L W2 ((HB.out.2.2.later HB.out.1).later (bel_trans hb1 k12)) rfl (by omega) hc1 (hAt1.later k12)
      rw [hkE] at HC
      have HY := Lib.hid (And.intro hO1 (And.intro hb1 (And.intro k12 hbn)))
      clear HT hO1 hb1 k12 hbn hAt1 hc1 hm1 hn1 hW2
      go_wp2_with (with_reducible refine wpList_alloc_z rfl 27 rfl #[.slice none 0 0] 1 z_bat ?_)
      refine HC.mono ?_
      rintro e W3 ⟨rfl, hb3⟩
      have LD3 := LD W3 hb3
      have hk03 := bel_trans HY.out.2.1 (bel_trans HY.out.2.2.1 hb3)
      have hbz3 := HB.out.2.1.later hk03
      have SZ := st_bat (a2 := none) (n2 := 0) (c2 := 0) hbz3
      have HZ := Lib.hid (And.intro hb3 (And.intro hk03 hbz3))
      clear hb3 hk03 hbz3 LD HC
      go_wp2_with (with_reducible refine wpList_alloc_z rfl 27 rfl #[.slice none 0 0] 1 z_bat ?_)
      refine bodyPost_ret (results_blk rfl _ _ w.heap.size _ _ rfl (HZ.out.2.2.row _) Tryz.underlying27 rfl s_bat1) rfl ?_
      exact ⟨_, rfl, World.ownsRow_nil _ _ _ _, below_setRow (HB.out.1.trans (HZ.out.2.1.mono HB.out.1.size)) (Nat.le_refl _) _⟩
  · rw [if_neg hE]
    have hE9 : (E == 0) = false := by simpa using hE
    go_enter Tryz.func10, Tryz.ntmps10
    go_wp2_with (with_reducible refine wpList_alloc_z rfl 27 rfl #[.slice none 0 0] 1 z_bat ?_)
    refine HT.mono ?_
    rintro e W1 ⟨v, rfl, hO1, hb1⟩
    have hbz1 := HB.out.2.1.later hb1
    have SZ := st_bat (a2 := none) (n2 := 0) (c2 := 0) hbz1
    have HZ := Lib.hid (And.intro hb1 hbz1)
    clear hO1 hb1 hbz1 HT
    go_wp2_with (with_reducible refine wpList_alloc_z rfl 27 rfl #[.slice none 0 0] 1 z_bat ?_)
    refine bodyPost_ret (results_blk rfl _ _ w.heap.size _ _ rfl (HZ.out.2.row _) Tryz.underlying27 rfl s_bat1) rfl ?_
    exact ⟨_, rfl, World.ownsRow_nil _ _ _ _, below_setRow (HB.out.1.trans (HZ.out.1.mono HB.out.1.size)) (Nat.le_refl _) _⟩
end Go.Proofs.YtikdgbmdepplgaaGreatDoor
namespace Go.Proofs.YtikdgbmdepplgaaGreatDoor
open Go.RowKit Go.Shelf
set_option linter.unusedVariables false
set_option maxRecDepth 100000
theorem Lies.grown9 {w w' : World} {row : Option Nat} {g o : Nat} {l : List Nat} (h : Lies w (some ⟨g, o, none⟩) l) (k : w.grownBy w' row) (hg : row ≠ some g) : Lies w' (some ⟨g, o, none⟩) l := by
  rcases h with h | ⟨g', o', e, hlt, hc⟩
  · exact .inl h
  · cases e
    exact .inr ⟨g, o, rfl, Nat.lt_of_lt_of_le hlt k.size, fun i hi => (World.cell?_of_block (w := w) (k.block g hlt (fun e => hg e.symm))).trans (hc i hi)⟩
theorem OwnB.some9 {w : World} {B : Nat} {v : Value} {l : List Nat} (h : OwnB w B v l) (hl : l ≠ []) : ∃ g o c, v = .slice (some ⟨g, o, none⟩) l.length c ∧ B ≤ g ∧ Lies w (some ⟨g, o, none⟩) l := by
  obtain ⟨a, c, rfl, _, _, hL, hB⟩ := h.lies
  rcases hL with hL | ⟨g, o, rfl, h2⟩
  · exact absurd hL hl
  · exact ⟨g, o, c, rfl, hB _ rfl, .inr ⟨g, o, rfl, h2⟩⟩
def bappSem (ty : TypeId) (args : Array Value) : Sem Value := Builtin.append_ #[30, 30] ty args
theorem bapp_rule (ty : TypeId) (args : Array Value) : Builtin.append_ #[30, 30] ty args = bappSem ty args := rfl
theorem bapp_run9 {w : World} {B : Nat} {v : Value} {L M : List Nat} {x : Addr} {m c : Nat} (h : OwnB w B v L) (hm : M.length = m) (hM : Lies w (some x) M) (hs : L.length + m ≤ 1000000) (hB : B ≤ w.heap.size) :
    ∃ v' w', (∀ ty : TypeId, (bappSem ty #[v, .slice (some x) m c]).run Tryz.prog w = .ok v' w') ∧ OwnB w' B v' (L ++ M) ∧ w.grownBy w' v.ownBlock := bapp_run h hm hM hs hB
attribute [local go_sem ↓] bapp_rule load_b16_rule store_b16_rule load_ad_rule store_ad_rule load_px_rule store_px_rule load_ro_rule store_ro_rule load_up_rule store_up_rule load_rib_rule load_bat_rule bbuild_rule
set_option maxHeartbeats 4000000 in
theorem laidro_any (a : Option Addr) (n c : Nat) (L : List Ro) (w : World) (hW : Wid w) (hn : L.length = n) (hs : n ≤ 160) (hR : RoAt w a L) (ho : ∀ j, j < L.length → okRo (rog L j)) :
    Calls Tryz.prog 17 #[.slice a n c, .func (.func 18) #[] #[]] w fun e w' => ∃ v, e = .returned v ∧ OwnB w' w.heap.size v (ribB L) ∧ Below w.heap.size w w' := by
  have hcv : IntKind.u8.wrap (n : Int) = (n : Int) := wrap_b9 (by omega)
  have r2 := bbuild1_run9 n w
  obtain ⟨W3, hW3⟩ : ∃ W3, w.alloc (.cells #[.int .u8 (n : Int)] 5) = W3 := ⟨_, rfl⟩
  rw [hW3] at r2
  have k23 : Below w.heap.size w W3 := by rw [← hW3]; exact (Below.refl _ _).alloc (Nat.le_refl _) _
  have o3 : OwnB W3 w.heap.size (.slice (some ⟨w.heap.size, 0, none⟩) 1 1) [n] := by
    have h9 := bown1 n w
    rwa [hW3] at h9
  have H3 := Lib.hid (And.intro k23 o3)
  have HR := Lib.hid (fun (w' : World) (h : Below w.heap.size w w') => And.intro (hW.later h) (hR.later h))
  have HB := Lib.hid (And.intro hn ho)
  have hpp : ∀ r ∈ L, okP r.p := fun r hr => by
    obtain ⟨j, hj, e⟩ := List.getElem_of_mem hr
    rw [← rog_get hj] at e
    rw [← e]; exact (okRo_b (ho j hj)).1
  have HPP := Lib.hid hpp
  clear k23 o3 hW3 hW hR hn ho hpp
  go_enter Tryz.func17, Tryz.ntmps17
  go_wp2_with fail
  go_loopw [5, 18] (fun ov i wr => ∃ (k m : Nat) (va : Option Addr) (vc : Nat) (O : List Nat), k ≤ n ∧ i = .int .i64 (k : Int) ∧ ov = .slice va m vc ∧ O.length = m ∧ O = n :: rosB (L.take k) ∧ OwnB wr w.heap.size (.slice va m vc) O ∧ Below w.heap.size w wr) (fun _ i _ => n - (intOf i).toNat)
  case atStart => exact ⟨0, 1, _, 1, [n], Nat.zero_le _, rfl, rfl, rfl, by simp [rosB], H3.out.2, H3.out.1⟩
  case round =>
    obtain ⟨k, m, va, vc, O, hk, rfl, rfl, hOm, hOe, hown, hkb⟩ := hrel
    by_cases hlt : k < n
    · have hkl : k < L.length := by have := HB.out.1; omega
      obtain ⟨g, o, hao, hrow⟩ := (HR.out wr hkb).2.spot hkl
      have LK := hrow.load hkl
      obtain ⟨W4, hst, hblk, hb4⟩ := ro_new (rog L k) wr
      have LX4 := ro_r hblk W4 (Below.refl _ _)
      have hokr := HB.out.2 k hkl
      have HEN := enc1_any (rog L k) W4 hokr
      have hOlen : O.length ≤ 4000 := by
        have h1 := rosB_len (L.take k) (fun r hr => HPP.out r (List.mem_of_mem_take hr))
        have h2 : (L.take k).length ≤ 160 := by rw [List.length_take]; have := HB.out.1; omega
        rw [hOe]
        simp at h1 ⊢
        omega
      have hvb : ∀ x, (Value.slice va m vc).ownBlock = some x → w.heap.size ≤ x ∧ x < wr.heap.size := fun x hx => hown.lt x hx
      have HX := Lib.hid (And.intro hkl (And.intro hokr (And.intro hOlen (And.intro hvb (And.intro hOm (And.intro hOe (And.intro hown (And.intro hkb hb4))))))))
      subst hao
      clear hkl hokr hOlen hvb hOm hOe hown hkb hb4 hrow hblk r2
      go_wp2_with (with_reducible refine wpList_alloc_z rfl 50 rfl Ro.zero.cs 21 z_ro ?_)
      refine HEN.mono ?_
      rintro e W5 ⟨vb, rfl, hOb, hb5⟩
      obtain ⟨gb, ob, cb, rfl, hgb, hLb⟩ := hOb.some9 (by unfold roT; simp)
      obtain ⟨nb, hnb⟩ : ∃ nb, (roT (rog L k)).length = nb := ⟨_, rfl⟩
      rw [hnb]
      obtain ⟨W6, STP, hbp, hb6⟩ := px_box W5 (rog L k).p
      have LP6 := px_p hbp W6 (Below.refl _ _)
      have hb16 : Below w.heap.size w W6 := bel_trans HX.out.2.2.2.2.2.2.2.1 (bel_trans HX.out.2.2.2.2.2.2.2.2 (bel_trans hb5 hb6))
      have HPE := encode_any (rog L k).p W6 (HR.out W6 hb16).1
      have hP := (okRo_b HX.out.2.1).1
      rw [eP_ok hP] at HPE
      have HY := Lib.hid (And.intro hgb (And.intro (hLb.kept hb6) (And.intro hb5 (And.intro hb6 (And.intro hb16 (And.intro hP hnb))))))
      clear HEN LX4 LK hst hOb hgb hLb hb5 hb6 hb16 hP hnb hbp
      go_wp2_with (with_reducible refine wpList_alloc_z rfl 46 rfl Px.zero.cs 18 z_px ?_)
      refine HPE.mono ?_
      rintro e W7 ⟨vp, rfl, hG, _, hb7⟩
      have hOp : OwnB W7 W6.heap.size vp (encP (rog L k).p) := hG HY.out.2.2.2.2.2.1
      have hPb := encP_b HY.out.2.2.2.2.2.1
      obtain ⟨gp, op, cp, rfl, hgp, hLp⟩ := hOp.some9 (by intro e; rw [e] at hPb; simp at hPb)
      obtain ⟨np, hnp⟩ : ∃ np, (encP (rog L k).p).length = np := ⟨_, rfl⟩
      rw [hnp]
      have hb37 : Below wr.heap.size wr W7 := bel_trans HX.out.2.2.2.2.2.2.2.2 (bel_trans HY.out.2.2.1 (bel_trans HY.out.2.2.2.1 hb7))
      have hOw := HX.out.2.2.2.2.2.2.1.later hb37
      have hw7 : w.heap.size ≤ W7.heap.size := Nat.le_trans HX.out.2.2.2.2.2.2.2.1.size hb37.size
      have hnpb : np ≤ 18 := by rw [← hnp]; exact hPb.2
      obtain ⟨v8, W8, r8, o8, g8⟩ := bapp_run9 (c := cp) hOw hnp hLp (by have := HX.out.2.2.1; omega) hw7
      obtain ⟨a8, c8, rfl, _⟩ := o8.lies
      have hlen8 : (O ++ encP (rog L k).p).length = m + np := by rw [List.length_append, HX.out.2.2.2.2.1, hnp]
      rw [hlen8] at r8 o8
      have hLb7 := HY.out.2.1.kept hb7
      have hbl := HX.out.2.2.2.1
      have hwr4 : wr.heap.size ≤ W4.heap.size := HX.out.2.2.2.2.2.2.2.2.size
      have hLb8 := hLb7.grown9 g8 (fun e => by have := (hbl _ e).2; have := HY.out.1; omega)
      have hb8 : Below w.heap.size w W8 := ((bel_trans HX.out.2.2.2.2.2.2.2.1 hb37)).grown g8 hw7 (fun x hx => (hbl x hx).1)
      obtain ⟨v9, W9, r9, o9, g9⟩ := bapp_run9 (c := cb) o8 HY.out.2.2.2.2.2.2 hLb8 (by rw [hlen8]; have h1 := HX.out.2.2.1; have h2 := HX.out.2.2.2.2.1; have h3 := HY.out.2.2.2.2.2.2; unfold roT at h3; simp at h3; omega) hb8.size
      obtain ⟨a9, c9, rfl, _⟩ := o9.lies
      have o8l := o8.lt
      have hb9 : Below w.heap.size w W9 := hb8.grown g9 hb8.size (fun x hx => (o8l x hx).1)
      obtain ⟨m9, hm9⟩ : ∃ m9, ((O ++ encP (rog L k).p) ++ roT (rog L k)).length = m9 := ⟨_, rfl⟩
      have hOP : (O ++ encP (rog L k).p) ++ roT (rog L k) = n :: rosB (L.take (k + 1)) := by
        rw [rosB_next HX.out.1, HX.out.2.2.2.2.2.1]
        simp [roB]
      rw [hm9] at r9 o9
      have HZ := Lib.hid (And.intro o9 (And.intro hb9 (And.intro hOP hm9)))
      clear HPE LP6 STP hOp hPb hLp hgp hb37 hOw hw7 hnpb hlen8 hLb7 hbl hwr4 hLb8 hb8 hb9 o8 o9 o8l g8 g9 hm9 hOP hG hb7 hnp
      go_wp2_with fail
      go_roundw
      case rel => exact ⟨k + 1, m9, a9, c9, _, by omega, by go_num, rfl, HZ.out.2.2.2, HZ.out.2.2.1, HZ.out.1, HZ.out.2.1⟩
      case measure => (simp [intOf]; try omega)
    · have i1 : ¬ ((k : Int) < (n : Int)) := by omega
      have e1 : L.take k = L := List.take_of_length_le (by have := HB.out.1; omega)
      rw [e1] at hOe
      have e2 : O = ribB L := by rw [hOe, ribB, HB.out.1]
      have HQ := Lib.hid (And.intro hown (And.intro hkb (And.intro hOm e2)))
      clear hown hkb hOe hOm e1 e2
      go_wp2_with fail
      go_ret
      exact ⟨_, rfl, by have h9 := HQ.out.1; rw [HQ.out.2.2.2] at h9; exact h9, HQ.out.2.1⟩
set_option maxHeartbeats 4000000 in
theorem laidup_any (a : Option Addr) (n c : Nat) (L : List Up) (w : World) (hW : Wid w) (hn : L.length = n) (hs : n ≤ 100) (hR : UpAt w a L) (ho : ∀ j, j < L.length → okUp (upg L j)) :
    Calls Tryz.prog 23 #[.slice a n c, .func (.func 24) #[] #[]] w fun e w' => ∃ v, e = .returned v ∧ OwnB w' w.heap.size v (batB L) ∧ Below w.heap.size w w' := by
  have hcv : IntKind.u8.wrap (n : Int) = (n : Int) := wrap_b9 (by omega)
  have r2 := bbuild1_run9 n w
  obtain ⟨W3, hW3⟩ : ∃ W3, w.alloc (.cells #[.int .u8 (n : Int)] 5) = W3 := ⟨_, rfl⟩
  rw [hW3] at r2
  have k23 : Below w.heap.size w W3 := by rw [← hW3]; exact (Below.refl _ _).alloc (Nat.le_refl _) _
  have o3 : OwnB W3 w.heap.size (.slice (some ⟨w.heap.size, 0, none⟩) 1 1) [n] := by
    have h9 := bown1 n w
    rwa [hW3] at h9
  have H3 := Lib.hid (And.intro k23 o3)
  have HR := Lib.hid (fun (w' : World) (h : Below w.heap.size w w') => And.intro (hW.later h) (hR.later h))
  have HB := Lib.hid (And.intro hn ho)
  have hpp : ∀ r ∈ L, okP r.p := fun r hr => by
    obtain ⟨j, hj, e⟩ := List.getElem_of_mem hr
    rw [← upg_get hj] at e
    rw [← e]; exact (okUp_b (ho j hj)).1
  have HPP := Lib.hid hpp
  clear k23 o3 hW3 hW hR hn ho hpp
  go_enter Tryz.func23, Tryz.ntmps23
  go_wp2_with fail
  go_loopw [5, 18] (fun ov i wr => ∃ (k m : Nat) (va : Option Addr) (vc : Nat) (O : List Nat), k ≤ n ∧ i = .int .i64 (k : Int) ∧ ov = .slice va m vc ∧ O.length = m ∧ O = n :: upsB (L.take k) ∧ OwnB wr w.heap.size (.slice va m vc) O ∧ Below w.heap.size w wr) (fun _ i _ => n - (intOf i).toNat)
  case atStart => exact ⟨0, 1, _, 1, [n], Nat.zero_le _, rfl, rfl, rfl, by simp [upsB], H3.out.2, H3.out.1⟩
  case round =>
    obtain ⟨k, m, va, vc, O, hk, rfl, rfl, hOm, hOe, hown, hkb⟩ := hrel
    by_cases hlt : k < n
    · have hkl : k < L.length := by have := HB.out.1; omega
      obtain ⟨g, o, hao, hrow⟩ := (HR.out wr hkb).2.spot hkl
      have LK := hrow.load hkl
      obtain ⟨W4, hst, hblk, hb4⟩ := up_new (upg L k) wr
      have LX4 := up_r hblk W4 (Below.refl _ _)
      have hokr := HB.out.2 k hkl
      have HEN := encb1_any (upg L k) W4 hokr
      have hOlen : O.length ≤ 4000 := by
        have h1 := upsB_len (L.take k) (fun r hr => HPP.out r (List.mem_of_mem_take hr))
        have h2 : (L.take k).length ≤ 100 := by rw [List.length_take]; have := HB.out.1; omega
        rw [hOe]
        simp at h1 ⊢
        omega
      have hvb : ∀ x, (Value.slice va m vc).ownBlock = some x → w.heap.size ≤ x ∧ x < wr.heap.size := fun x hx => hown.lt x hx
      have HX := Lib.hid (And.intro hkl (And.intro hokr (And.intro hOlen (And.intro hvb (And.intro hOm (And.intro hOe (And.intro hown (And.intro hkb hb4))))))))
      subst hao
      clear hkl hokr hOlen hvb hOm hOe hown hkb hb4 hrow hblk r2
      go_wp2_with (with_reducible refine wpList_alloc_z rfl 48 rfl Up.zero.cs 22 z_up ?_)
      refine HEN.mono ?_
      rintro e W5 ⟨vb, rfl, hOb, hb5⟩
      obtain ⟨gb, ob, cb, rfl, hgb, hLb⟩ := hOb.some9 (by unfold upT; simp)
      obtain ⟨nb, hnb⟩ : ∃ nb, (upT (upg L k)).length = nb := ⟨_, rfl⟩
      rw [hnb]
      obtain ⟨W6, STP, hbp, hb6⟩ := px_box W5 (upg L k).p
      have LP6 := px_p hbp W6 (Below.refl _ _)
      have hb16 : Below w.heap.size w W6 := bel_trans HX.out.2.2.2.2.2.2.2.1 (bel_trans HX.out.2.2.2.2.2.2.2.2 (bel_trans hb5 hb6))
      have HPE := encode_any (upg L k).p W6 (HR.out W6 hb16).1
      have hP := (okUp_b HX.out.2.1).1
      rw [eP_ok hP] at HPE
      have HY := Lib.hid (And.intro hgb (And.intro (hLb.kept hb6) (And.intro hb5 (And.intro hb6 (And.intro hb16 (And.intro hP hnb))))))
      clear HEN LX4 LK hst hOb hgb hLb hb5 hb6 hb16 hP hnb hbp
      go_wp2_with (with_reducible refine wpList_alloc_z rfl 46 rfl Px.zero.cs 18 z_px ?_)
      refine HPE.mono ?_
      rintro e W7 ⟨vp, rfl, hG, _, hb7⟩
      have hOp : OwnB W7 W6.heap.size vp (encP (upg L k).p) := hG HY.out.2.2.2.2.2.1
      have hPb := encP_b HY.out.2.2.2.2.2.1
      obtain ⟨gp, op, cp, rfl, hgp, hLp⟩ := hOp.some9 (by intro e; rw [e] at hPb; simp at hPb)
      obtain ⟨np, hnp⟩ : ∃ np, (encP (upg L k).p).length = np := ⟨_, rfl⟩
      rw [hnp]
      have hb37 : Below wr.heap.size wr W7 := bel_trans HX.out.2.2.2.2.2.2.2.2 (bel_trans HY.out.2.2.1 (bel_trans HY.out.2.2.2.1 hb7))
      have hOw := HX.out.2.2.2.2.2.2.1.later hb37
      have hw7 : w.heap.size ≤ W7.heap.size := Nat.le_trans HX.out.2.2.2.2.2.2.2.1.size hb37.size
      have hnpb : np ≤ 18 := by rw [← hnp]; exact hPb.2
      obtain ⟨v8, W8, r8, o8, g8⟩ := bapp_run9 (c := cp) hOw hnp hLp (by have := HX.out.2.2.1; omega) hw7
      obtain ⟨a8, c8, rfl, _⟩ := o8.lies
      have hlen8 : (O ++ encP (upg L k).p).length = m + np := by rw [List.length_append, HX.out.2.2.2.2.1, hnp]
      rw [hlen8] at r8 o8
      have hLb7 := HY.out.2.1.kept hb7
      have hbl := HX.out.2.2.2.1
      have hwr4 : wr.heap.size ≤ W4.heap.size := HX.out.2.2.2.2.2.2.2.2.size
      have hLb8 := hLb7.grown9 g8 (fun e => by have := (hbl _ e).2; have := HY.out.1; omega)
      have hb8 : Below w.heap.size w W8 := ((bel_trans HX.out.2.2.2.2.2.2.2.1 hb37)).grown g8 hw7 (fun x hx => (hbl x hx).1)
      obtain ⟨v9, W9, r9, o9, g9⟩ := bapp_run9 (c := cb) o8 HY.out.2.2.2.2.2.2 hLb8 (by rw [hlen8]; have h1 := HX.out.2.2.1; have h2 := HX.out.2.2.2.2.1; have h3 := HY.out.2.2.2.2.2.2; unfold upT at h3; simp at h3; omega) hb8.size
      obtain ⟨a9, c9, rfl, _⟩ := o9.lies
      have o8l := o8.lt
      have hb9 : Below w.heap.size w W9 := hb8.grown g9 hb8.size (fun x hx => (o8l x hx).1)
      obtain ⟨m9, hm9⟩ : ∃ m9, ((O ++ encP (upg L k).p) ++ upT (upg L k)).length = m9 := ⟨_, rfl⟩
      have hOP : (O ++ encP (upg L k).p) ++ upT (upg L k) = n :: upsB (L.take (k + 1)) := by
        rw [upsB_next HX.out.1, HX.out.2.2.2.2.2.1]
        simp [upB]
      rw [hm9] at r9 o9
      have HZ := Lib.hid (And.intro o9 (And.intro hb9 (And.intro hOP hm9)))
      clear HPE LP6 STP hOp hPb hLp hgp hb37 hOw hw7 hnpb hlen8 hLb7 hbl hwr4 hLb8 hb8 hb9 o8 o9 o8l g8 g9 hm9 hOP hG hb7 hnp
      go_wp2_with fail
      go_roundw
      case rel => exact ⟨k + 1, m9, a9, c9, _, by omega, by go_num, rfl, HZ.out.2.2.2, HZ.out.2.2.1, HZ.out.1, HZ.out.2.1⟩
      case measure => (simp [intOf]; try omega)
    · have i1 : ¬ ((k : Int) < (n : Int)) := by omega
      have e1 : L.take k = L := List.take_of_length_le (by have := HB.out.1; omega)
      rw [e1] at hOe
      have e2 : O = batB L := by rw [hOe, batB, HB.out.1]
      have HQ := Lib.hid (And.intro hown (And.intro hkb (And.intro hOm e2)))
      clear hown hkb hOe hOm e1 e2
      go_wp2_with fail
      go_ret
      exact ⟨_, rfl, by have h9 := HQ.out.1; rw [HQ.out.2.2.2] at h9; exact h9, HQ.out.2.1⟩
set_option maxHeartbeats 4000000 in
theorem rencode_any (a : Option Addr) (n c : Nat) (L : List Ro) (w : World) (hW : Wid w) (hn : L.length = n) (hs : n ≤ 900) (hR : RoAt w a L) (hc : a = none → c = 0) :
    Calls Tryz.prog 6 #[.agg #[.slice a n c]] w fun e w' => ∃ v, e = .returned (.tuple #[v, .int .i64 (ribE L)]) ∧ (okRib L → OwnB w' w.heap.size v (ribB L)) ∧ (¬ okRib L → v = .slice none 0 0) ∧ Below w.heap.size w w' := by
  obtain ⟨W1, hW1⟩ : ∃ W1, w.alloc (.cells #[.slice a n c] 24) = W1 := ⟨_, rfl⟩
  have hb1 : Below w.heap.size w W1 := by rw [← hW1]; exact (Below.refl _ _).alloc (Nat.le_refl _) _
  have b1 : Blk W1 w.heap.size 24 #[.slice a n c] := by rw [← hW1]; exact Blk.new _ _ _
  have LR := rib_t b1
  have LR1 := LR W1 (Below.refl _ _)
  have HCK := rcheck_any a n c L W1 (hW.later hb1) hn (by omega) (hR.later hb1) hc
  have HB := Lib.hid (And.intro hb1 (And.intro (hW.later hb1) (hR.later hb1)))
  have HN := Lib.hid hn
  have CR : ∀ w', Below W1.heap.size W1 w' → w'.cell? ⟨w.heap.size, 0, none⟩ = some (.slice a n c) := fun w' k => (b1.later k).cell 0
  clear hW hR hb1 b1 hn
  by_cases h1 : okRib L
  · have e1 : ribE L = 0 := if_pos h1
    rw [e1] at HCK ⊢
    have HO := Lib.hid h1
    clear e1 h1
    go_enter Tryz.func6, Tryz.ntmps6
    go_wp2_with fail
    refine HCK.mono ?_
    rintro e W2 ⟨rfl, hb2⟩
    have CR2 := CR W2 hb2
    have HLA := laidro_any a n c L W2 (HB.out.2.1.later hb2) HN.out (by have h9 := HO.out; have := HN.out; have := okRib_len h9; omega) (HB.out.2.2.later hb2) HO.out.1
    have HB2 := Lib.hid hb2
    clear HCK LR LR1 hb2
    go_wp2_with fail
    refine HLA.mono ?_
    rintro e W3 ⟨v, rfl, hO, hb3⟩
    go_wp2_with fail
    refine bodyPost_ret (results_tmp2 rfl _ _ _) rfl ?_
    exact ⟨v, rfl, fun _ => OwnB.less hO (Nat.le_trans HB.out.1.size HB2.out.size), fun h => absurd HO.out h, bel_trans HB.out.1 (bel_trans HB2.out hb3)⟩
  · have e1 : ribE L = 211 := if_neg h1
    rw [e1] at HCK ⊢
    have HO := Lib.hid h1
    clear e1 h1
    go_enter Tryz.func6, Tryz.ntmps6
    go_wp2_with fail
    refine HCK.mono ?_
    rintro e W2 ⟨rfl, hb2⟩
    go_wp2_with fail
    refine bodyPost_ret (results_tmp2 rfl _ _ _) rfl ?_
    exact ⟨_, rfl, fun h => absurd h HO.out, fun _ => rfl, bel_trans HB.out.1 hb2⟩
set_option maxHeartbeats 4000000 in
theorem rencodeb_any (a : Option Addr) (n c : Nat) (L : List Up) (w : World) (hW : Wid w) (hn : L.length = n) (hs : n ≤ 900) (hR : UpAt w a L) (hc : n ≤ c) :
    Calls Tryz.prog 9 #[.agg #[.slice a n c]] w fun e w' => ∃ v, e = .returned (.tuple #[v, .int .i64 (batE L)]) ∧ (okBat L → OwnB w' w.heap.size v (batB L)) ∧ (¬ okBat L → v = .slice none 0 0) ∧ Below w.heap.size w w' := by
  obtain ⟨W1, hW1⟩ : ∃ W1, w.alloc (.cells #[.slice a n c] 27) = W1 := ⟨_, rfl⟩
  have hb1 : Below w.heap.size w W1 := by rw [← hW1]; exact (Below.refl _ _).alloc (Nat.le_refl _) _
  have b1 : Blk W1 w.heap.size 27 #[.slice a n c] := by rw [← hW1]; exact Blk.new _ _ _
  have LR := bat_t b1
  have LR1 := LR W1 (Below.refl _ _)
  have HCK := bcheck_any a n c L W1 (hW.later hb1) hn (by omega) hc (hR.later hb1)
  have HB := Lib.hid (And.intro hb1 (And.intro (hW.later hb1) (hR.later hb1)))
  have HN := Lib.hid hn
  have CR : ∀ w', Below W1.heap.size W1 w' → w'.cell? ⟨w.heap.size, 0, none⟩ = some (.slice a n c) := fun w' k => (b1.later k).cell 0
  clear hW hR hb1 b1 hn
  by_cases h1 : okBat L
  · have e1 : batE L = 0 := if_pos h1
    rw [e1] at HCK ⊢
    have HO := Lib.hid h1
    clear e1 h1
    go_enter Tryz.func9, Tryz.ntmps9
    go_wp2_with fail
    refine HCK.mono ?_
    rintro e W2 ⟨rfl, hb2⟩
    have CR2 := CR W2 hb2
    have HLA := laidup_any a n c L W2 (HB.out.2.1.later hb2) HN.out (by have h9 := HO.out; have := HN.out; have := h9.1.2; omega) (HB.out.2.2.later hb2) HO.out.2.1
    have HB2 := Lib.hid hb2
    clear HCK LR LR1 hb2
    go_wp2_with fail
    refine HLA.mono ?_
    rintro e W3 ⟨v, rfl, hO, hb3⟩
    go_wp2_with fail
    refine bodyPost_ret (results_tmp2 rfl _ _ _) rfl ?_
    exact ⟨v, rfl, fun _ => OwnB.less hO (Nat.le_trans HB.out.1.size HB2.out.size), fun h => absurd HO.out h, bel_trans HB.out.1 (bel_trans HB2.out hb3)⟩
  · have e1 : batE L = 210 := if_neg h1
    rw [e1] at HCK ⊢
    have HO := Lib.hid h1
    clear e1 h1
    go_enter Tryz.func9, Tryz.ntmps9
    go_wp2_with fail
    refine HCK.mono ?_
    rintro e W2 ⟨rfl, hb2⟩
    go_wp2_with fail
    refine bodyPost_ret (results_tmp2 rfl _ _ _) rfl ?_
    exact ⟨_, rfl, fun h => absurd h HO.out, fun _ => rfl, bel_trans HB.out.1 hb2⟩
end Go.Proofs.YtikdgbmdepplgaaGreatDoor
