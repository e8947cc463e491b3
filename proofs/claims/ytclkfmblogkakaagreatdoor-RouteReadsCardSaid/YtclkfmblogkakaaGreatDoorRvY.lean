/-
  The contracts of Decode and DecodeBatch. Nothing here is a statement of the document.
-/
import Derived.Test.YtclkfmblogkakaaGreatDoorRtZb
import Derived.Test.YtclkfmblogkakaaGreatDoorRvX
import Derived.Test.YtclkfmblogkakaaGreatDoorRtP
namespace Go.Proofs.YtclkfmblogkakaaGreatDoor
open Go.RowKit Go.Shelf
set_option linter.unusedVariables false
set_option maxRecDepth 100000
theorem z_bat : (Tryz.prog.info? 32).map (fun i => (i.zero, i.size)) = some (some (.agg #[.slice none 0 0]), 1) := by kernel_rfl
theorem s_bat1 {a : Option Addr} {n c : Nat} : (Tryz.prog.info? 32).map (·.size) = some (#[Value.slice a n c] : Array Value).size := (zero_of_info z_bat).2
theorem st_bat {w : World} {g : Nat} {a a2 : Option Addr} {n c n2 c2 : Nat} (h : Blk w g 32 #[.slice a n c]) : (storeSem 32 (.pointer (some ⟨g, 0, none⟩)) (.agg #[.slice a2 n2 c2])).run Tryz.prog w = .ok () (w.setRow g #[.slice a2 n2 c2]) := by
  have := storeRes_of (P := Tryz.prog) (ty := 32) (o := 0) (vs := #[.slice a2 n2 c2]) h (by simp) s_bat1 (by simp [Value.oneCell'])
  rwa [over_all (by simp)] at this
def owF (B n n2 : Nat) (L : List Ro) (U : List Up) (i : Nat) (v : Value) (w : World) : Prop :=
  (i = 0 → ∃ g, v = .slice (some ⟨g, 0, none⟩) 0 0 ∧ B ≤ g ∧ Blk w g 57 #[]) ∧ (i = 3 → ∃ a c, v = .slice a n c ∧ OwnRo w B (.slice a n c) L) ∧
  (i = 5 → ∃ g, v = .slice (some ⟨g, 0, none⟩) 0 0 ∧ B ≤ g ∧ Blk w g 46 #[]) ∧ (i = 8 → ∃ a c, v = .slice a n2 c ∧ OwnUp w B (.slice a n2 c) U)
theorem owF.later {B n n2 : Nat} {L : List Ro} {U : List Up} {w w' : World} {i : Nat} {v : Value} (h : owF B n n2 L U i v w) (k : Below w.heap.size w w') : owF B n n2 L U i v w' := by
  refine ⟨fun e => ?_, fun e => ?_, fun e => ?_, fun e => ?_⟩
  · obtain ⟨g, h1, h2, h3⟩ := h.1 e; exact ⟨g, h1, h2, h3.later k⟩
  · obtain ⟨a, c, h1, h2⟩ := h.2.1 e; exact ⟨a, c, h1, h2.later k⟩
  · obtain ⟨g, h1, h2, h3⟩ := h.2.2.1 e; exact ⟨g, h1, h2, h3.later k⟩
  · obtain ⟨a, c, h1, h2⟩ := h.2.2.2 e; exact ⟨a, c, h1, h2.later k⟩
theorem OwnUp.lies9 {w : World} {B : Nat} {v : Value} {U : List Up} {n : Nat} (h : OwnUp w B v U) (hn : U.length = n) : ∃ a c, v = .slice a n c := by
  obtain ⟨a, c, h1, _⟩ := h.lies
  rw [hn] at h1; exact ⟨a, c, h1⟩
theorem OwnRo.lies9 {w : World} {B : Nat} {v : Value} {U : List Ro} {n : Nat} (h : OwnRo w B v U) (hn : U.length = n) : ∃ a c, v = .slice a n c := by
  obtain ⟨a, c, h1, _⟩ := h.lies
  rw [hn] at h1; exact ⟨a, c, h1⟩
attribute [local go_sem ↓] load_rib_rule store_rib_rule build_rib_rule build_bat_rule load_bat_rule store_bat_rule upbuild_rule robuild_rule roapp_rule upapp_rule
end Go.Proofs.YtclkfmblogkakaaGreatDoor
namespace Go.Proofs.YtclkfmblogkakaaGreatDoor
open Go.RowKit Go.Shelf
set_option linter.unusedVariables false
set_option maxRecDepth 100000
theorem build_bat0 (w : World) : (buildSem 32 #[]).run Tryz.prog w = .ok (.agg #[.slice none 0 0]) w := by kernel_rfl
theorem bat_t9 {W : World} {g : Nat} {a : Option Addr} {n c : Nat} (h : Blk W g 32 #[.slice a n c]) : ∀ w', Below W.heap.size W w' → (loadSem 32 (.pointer (some ⟨g, 0, none⟩))).run Tryz.prog w' = .ok (.agg #[.slice a n c]) w' := bat_t h
theorem load_rib_rule9 (v : Value) : Instr.loadAt 26 v = loadSem 26 v := rfl
theorem store_rib_rule9 (v x : Value) : Instr.storeAt 26 v x = storeSem 26 v x := rfl
theorem load_bat_rule9 (v : Value) : Instr.loadAt 32 v = loadSem 32 v := rfl
theorem store_bat_rule9 (v x : Value) : Instr.storeAt 32 v x = storeSem 32 v x := rfl
theorem takeN_len {T : Type} {one : List Nat → Int × T × List Nat} {wr : Int} : ∀ (k : Nat) (L : List Nat) (A : List T), (takeN one wr k L A).2.length ≤ A.length + k
  | 0, L, A => by
    rw [takeN]
    split <;> simp
  | k + 1, L, A => by
    rw [takeN]
    split
    · have := takeN_len (one := one) (wr := wr) k (one L).2.2 (A ++ [(one L).2.1])
      simp at this
      omega
    · simp
theorem takeA_len {T : Type} {one : List Nat → Int × T × List Nat} {wr : Int} {L : List Nat} (hB : Bys L) : (takeA one wr L).2.length ≤ 255 := by
  match L with
  | [] => simp [takeA]
  | k :: R =>
    rw [takeA]
    have h1 := takeN_len (one := one) (wr := wr) k R []
    have h2 := hB k (by simp)
    simp at h1
    omega
attribute [local go_sem ↓] build_rib_rule build_bat_rule load_rib_rule9 store_rib_rule9 load_bat_rule9 store_bat_rule9
set_option maxHeartbeats 3200000 in
theorem rdecode_any {w : World} {a : Option Addr} {R : List Nat} {c : Nat} (hW : Wid w) (hL : Lies w a R) (hc : R.length ≤ c) (hm : c ≤ maxLen) (hB : Bys R) (hl : R.length ≤ 6000) :
    Calls Tryz.prog 5 #[.slice a R.length c] w fun e w' => ∃ v, e = .returned (.tuple #[.agg #[v], .int .i64 (decRo R).1]) ∧ OwnRo w' w.heap.size v (decRo R).2 ∧ Below w.heap.size w w' := by
  obtain ⟨W0, hW0⟩ : ∃ W0, w.alloc (.cells #[.slice none 0 0] 26) = W0 := ⟨_, rfl⟩
  have hb0 : Below w.heap.size w W0 := by rw [← hW0]; exact (Below.refl _ _).alloc (Nat.le_refl _) _
  have hbz : Blk W0 w.heap.size 26 #[.slice none 0 0] := by rw [← hW0]; exact Blk.new _ _ _
  obtain ⟨E, L, hq⟩ : ∃ E L, takeA roR 211 R = (E, L) := ⟨_, _, rfl⟩
  have HT := rtaken_any hq (hW.later hb0) (hL.kept hb0) hc hm hB hl
  have hLl : L.length ≤ 255 := by have := takeA_len (one := roR) (wr := 211) hB; rw [hq] at this; exact this
  have hD : decRo R = if E = 0 then (if okRib L then (0, L) else (211, [])) else (E, []) := by
    unfold decRo; rw [hq]
  rw [hD]
  obtain ⟨n0, hn0⟩ : ∃ n0, R.length = n0 := ⟨_, rfl⟩
  rw [hn0] at HT ⊢
  have B0 := build_rib0
  have HB := Lib.hid (And.intro hb0 (And.intro hbz hW))
  clear hb0 hbz hW hL hc hm hB hl hD hq hn0
  by_cases hE : E = 0
  · subst hE
    rw [if_pos rfl]
    by_cases hk : okRib L
    · rw [if_pos hk]
      have hkE : ribE L = 0 := if_pos hk
      clear hk
      go_enter Tryz.func5, Tryz.ntmps5
      go_wp2_with (with_reducible refine wpList_alloc_z rfl 26 rfl #[.slice none 0 0] 1 z_rib ?_)
      refine HT.mono ?_
      rintro e W1 ⟨v, rfl, hO1, hb1⟩
      obtain ⟨a1, c1, rfl, hc1, hm1, hAt1, _⟩ := hO1.lies
      have hn1 : a1 = none → c1 = 0 := fun h => by
        rcases hO1.2 with ⟨h9, _⟩ | ⟨g9, cap, cur, h9, _⟩
        · injection h9
        · rw [h] at h9; injection h9 with h9; cases h9
      have B1 := build_rib1 a1 L.length c1
      have hbq := Blk.new W1 26 #[.slice none 0 0]
      have ST2 := st_rib (a2 := a1) (n2 := L.length) (c2 := c1) hbq
      obtain ⟨W2, hW2⟩ : ∃ W2, (W1.alloc (.cells #[.slice none 0 0] 26)).setRow W1.heap.size #[.slice a1 L.length c1] = W2 := ⟨_, rfl⟩
      have hbn : Blk W2 W1.heap.size 26 #[.slice a1 L.length c1] := by rw [← hW2]; exact Blk.row hbq _
      have k12 : Below W1.heap.size W1 W2 := by rw [← hW2]; exact below_setRow ((Below.refl _ _).alloc (Nat.le_refl _) _) (Nat.le_refl _) _
      rw [hW2] at ST2
      clear hbq
      have LD := rib_t hbn
      have LD2 := LD W2 (Below.refl _ _)
      have HC := rcheck_any a1 L.length c1 L W2 ((HB.out.2.2.later HB.out.1).later (bel_trans hb1 k12)) rfl (by omega) (hAt1.later k12) hn1
      rw [hkE] at HC
      have HY := Lib.hid (And.intro hO1 (And.intro hb1 (And.intro k12 hbn)))
      clear HT hO1 hb1 k12 hbn hAt1 hc1 hm1 hn1 hW2
      go_wp2_with (with_reducible refine wpList_alloc_z rfl 26 rfl #[.slice none 0 0] 1 z_rib ?_)
      refine HC.mono ?_
      rintro e W3 ⟨rfl, hb3⟩
      have LD3 := LD W3 hb3
      have hk03 := bel_trans HY.out.2.1 (bel_trans HY.out.2.2.1 hb3)
      have hbz3 := HB.out.2.1.later hk03
      have SZ := st_rib (a2 := a1) (n2 := L.length) (c2 := c1) hbz3
      have HZ := Lib.hid (And.intro hb3 (And.intro hk03 hbz3))
      clear hb3 hk03 hbz3 LD HC
      go_wp2_with (with_reducible refine wpList_alloc_z rfl 26 rfl #[.slice none 0 0] 1 z_rib ?_)
      refine bodyPost_ret (results_blk rfl _ _ w.heap.size _ _ rfl (HZ.out.2.2.row _) Tryz.underlying26 rfl s_rib1) rfl ?_
      have h5 := HY.out.1.later (HY.out.2.2.1.trans (HZ.out.1.mono HY.out.2.2.1.size))
      have k9 : Kept [w.heap.size] W3 (W3.setRow w.heap.size #[.slice a1 L.length c1]) := (Kept.refl _ W3).setRow (.inl (by simp)) _
      have hlt0 := HB.out.2.1.lt
      refine ⟨_, rfl, (h5.kept9 k9 (by intro g9 h9; have := (roown_above h5 g9 h9).1; simp; omega)).less9 (by omega), ?_⟩
      exact below_setRow (HB.out.1.trans (HZ.out.2.1.mono HB.out.1.size)) (Nat.le_refl _) _
    · rw [if_neg hk]
      have hkE : ribE L = 211 := if_neg hk
      clear hk
      go_enter Tryz.func5, Tryz.ntmps5
      go_wp2_with (with_reducible refine wpList_alloc_z rfl 26 rfl #[.slice none 0 0] 1 z_rib ?_)
      refine HT.mono ?_
      rintro e W1 ⟨v, rfl, hO1, hb1⟩
      obtain ⟨a1, c1, rfl, hc1, hm1, hAt1, _⟩ := hO1.lies
      have hn1 : a1 = none → c1 = 0 := fun h => by
        rcases hO1.2 with ⟨h9, _⟩ | ⟨g9, cap, cur, h9, _⟩
        · injection h9
        · rw [h] at h9; injection h9 with h9; cases h9
      have B1 := build_rib1 a1 L.length c1
      have hbq := Blk.new W1 26 #[.slice none 0 0]
      have ST2 := st_rib (a2 := a1) (n2 := L.length) (c2 := c1) hbq
      obtain ⟨W2, hW2⟩ : ∃ W2, (W1.alloc (.cells #[.slice none 0 0] 26)).setRow W1.heap.size #[.slice a1 L.length c1] = W2 := ⟨_, rfl⟩
      have hbn : Blk W2 W1.heap.size 26 #[.slice a1 L.length c1] := by rw [← hW2]; exact Blk.row hbq _
      have k12 : Below W1.heap.size W1 W2 := by rw [← hW2]; exact below_setRow ((Below.refl _ _).alloc (Nat.le_refl _) _) (Nat.le_refl _) _
      rw [hW2] at ST2
      clear hbq
      have LD := rib_t hbn
      have LD2 := LD W2 (Below.refl _ _)
      have HC := rcheck_any a1 L.length c1 L W2 ((HB.out.2.2.later HB.out.1).later (bel_trans hb1 k12)) rfl (by omega) (hAt1.later k12) hn1
      rw [hkE] at HC
      have HY := Lib.hid (And.intro hO1 (And.intro hb1 (And.intro k12 hbn)))
      clear HT hO1 hb1 k12 hbn hAt1 hc1 hm1 hn1 hW2
      go_wp2_with (with_reducible refine wpList_alloc_z rfl 26 rfl #[.slice none 0 0] 1 z_rib ?_)
      refine HC.mono ?_
      rintro e W3 ⟨rfl, hb3⟩
      have LD3 := LD W3 hb3
      have hk03 := bel_trans HY.out.2.1 (bel_trans HY.out.2.2.1 hb3)
      have hbz3 := HB.out.2.1.later hk03
      have SZ := st_rib (a2 := none) (n2 := 0) (c2 := 0) hbz3
      have HZ := Lib.hid (And.intro hb3 (And.intro hk03 hbz3))
      clear hb3 hk03 hbz3 LD HC
      go_wp2_with (with_reducible refine wpList_alloc_z rfl 26 rfl #[.slice none 0 0] 1 z_rib ?_)
      refine bodyPost_ret (results_blk rfl _ _ w.heap.size _ _ rfl (HZ.out.2.2.row _) Tryz.underlying26 rfl s_rib1) rfl ?_
      exact ⟨_, rfl, World.ownsRow_nil _ _ _ _, below_setRow (HB.out.1.trans (HZ.out.2.1.mono HB.out.1.size)) (Nat.le_refl _) _⟩
  · rw [if_neg hE]
    have hE9 : (E == 0) = false := by simpa using hE
    go_enter Tryz.func5, Tryz.ntmps5
    go_wp2_with (with_reducible refine wpList_alloc_z rfl 26 rfl #[.slice none 0 0] 1 z_rib ?_)
    refine HT.mono ?_
    rintro e W1 ⟨v, rfl, hO1, hb1⟩
    have hbz1 := HB.out.2.1.later hb1
    have SZ := st_rib (a2 := none) (n2 := 0) (c2 := 0) hbz1
    have HZ := Lib.hid (And.intro hb1 hbz1)
    clear hO1 hb1 hbz1 HT
    go_wp2_with (with_reducible refine wpList_alloc_z rfl 26 rfl #[.slice none 0 0] 1 z_rib ?_)
    refine bodyPost_ret (results_blk rfl _ _ w.heap.size _ _ rfl (HZ.out.2.row _) Tryz.underlying26 rfl s_rib1) rfl ?_
    exact ⟨_, rfl, World.ownsRow_nil _ _ _ _, below_setRow (HB.out.1.trans (HZ.out.1.mono HB.out.1.size)) (Nat.le_refl _) _⟩
set_option maxHeartbeats 3200000 in
theorem udecode_any {w : World} {a : Option Addr} {R : List Nat} {c : Nat} (hW : Wid w) (hL : Lies w a R) (hc : R.length ≤ c) (hm : c ≤ maxLen) (hB : Bys R) (hl : R.length ≤ 6000) :
    Calls Tryz.prog 7 #[.slice a R.length c] w fun e w' => ∃ v, e = .returned (.tuple #[.agg #[v], .int .i64 (decUp R).1]) ∧ OwnUp w' w.heap.size v (decUp R).2 ∧ Below w.heap.size w w' := by
  obtain ⟨W0, hW0⟩ : ∃ W0, w.alloc (.cells #[.slice none 0 0] 32) = W0 := ⟨_, rfl⟩
  have hb0 : Below w.heap.size w W0 := by rw [← hW0]; exact (Below.refl _ _).alloc (Nat.le_refl _) _
  have hbz : Blk W0 w.heap.size 32 #[.slice none 0 0] := by rw [← hW0]; exact Blk.new _ _ _
  obtain ⟨E, L, hq⟩ : ∃ E L, takeA upR 210 R = (E, L) := ⟨_, _, rfl⟩
  have HT := utaken_any hq (hW.later hb0) (hL.kept hb0) hc hm hB hl
  have hLl : L.length ≤ 255 := by have := takeA_len (one := upR) (wr := 210) hB; rw [hq] at this; exact this
  have hD : decUp R = if E = 0 then (if okBat L then (0, L) else (210, [])) else (E, []) := by
    unfold decUp; rw [hq]
  rw [hD]
  obtain ⟨n0, hn0⟩ : ∃ n0, R.length = n0 := ⟨_, rfl⟩
  rw [hn0] at HT ⊢
  have B0 := build_bat0
  have HB := Lib.hid (And.intro hb0 (And.intro hbz hW))
  clear hb0 hbz hW hL hc hm hB hl hD hq hn0
  by_cases hE : E = 0
  · subst hE
    rw [if_pos rfl]
    by_cases hk : okBat L
    · rw [if_pos hk]
      have hkE : batE L = 0 := if_pos hk
      clear hk
      go_enter Tryz.func7, Tryz.ntmps7
      go_wp2_with (with_reducible refine wpList_alloc_z rfl 32 rfl #[.slice none 0 0] 1 z_bat ?_)
      refine HT.mono ?_
      rintro e W1 ⟨v, rfl, hO1, hb1⟩
      obtain ⟨a1, c1, rfl, hc1, hm1, hAt1, _⟩ := hO1.lies
      have hn1 : a1 = none → c1 = 0 := fun h => by
        rcases hO1.2 with ⟨h9, _⟩ | ⟨g9, cap, cur, h9, _⟩
        · injection h9
        · rw [h] at h9; injection h9 with h9; cases h9
      have B1 := build_bat1 a1 L.length c1
      have hbq := Blk.new W1 32 #[.slice none 0 0]
      have ST2 := st_bat (a2 := a1) (n2 := L.length) (c2 := c1) hbq
      obtain ⟨W2, hW2⟩ : ∃ W2, (W1.alloc (.cells #[.slice none 0 0] 32)).setRow W1.heap.size #[.slice a1 L.length c1] = W2 := ⟨_, rfl⟩
      have hbn : Blk W2 W1.heap.size 32 #[.slice a1 L.length c1] := by rw [← hW2]; exact Blk.row hbq _
      have k12 : Below W1.heap.size W1 W2 := by rw [← hW2]; exact below_setRow ((Below.refl _ _).alloc (Nat.le_refl _) _) (Nat.le_refl _) _
      rw [hW2] at ST2
      clear hbq
      have LD := bat_t9 hbn
      have LD2 := LD W2 (Below.refl _ _)
      have HC := bcheck_any a1 L.length c1 L W2 ((HB.out.2.2.later HB.out.1).later (bel_trans hb1 k12)) rfl (by omega) hc1 (hAt1.later k12)
      rw [hkE] at HC
      have HY := Lib.hid (And.intro hO1 (And.intro hb1 (And.intro k12 hbn)))
      clear HT hO1 hb1 k12 hbn hAt1 hc1 hm1 hn1 hW2
      go_wp2_with (with_reducible refine wpList_alloc_z rfl 32 rfl #[.slice none 0 0] 1 z_bat ?_)
      refine HC.mono ?_
      rintro e W3 ⟨rfl, hb3⟩
      have LD3 := LD W3 hb3
      have hk03 := bel_trans HY.out.2.1 (bel_trans HY.out.2.2.1 hb3)
      have hbz3 := HB.out.2.1.later hk03
      have SZ := st_bat (a2 := a1) (n2 := L.length) (c2 := c1) hbz3
      have HZ := Lib.hid (And.intro hb3 (And.intro hk03 hbz3))
      clear hb3 hk03 hbz3 LD HC
      go_wp2_with (with_reducible refine wpList_alloc_z rfl 32 rfl #[.slice none 0 0] 1 z_bat ?_)
      refine bodyPost_ret (results_blk rfl _ _ w.heap.size _ _ rfl (HZ.out.2.2.row _) Tryz.underlying32 rfl s_bat1) rfl ?_
      have h5 := HY.out.1.later (HY.out.2.2.1.trans (HZ.out.1.mono HY.out.2.2.1.size))
      have k9 : Kept [w.heap.size] W3 (W3.setRow w.heap.size #[.slice a1 L.length c1]) := (Kept.refl _ W3).setRow (.inl (by simp)) _
      have hlt0 := HB.out.2.1.lt
      refine ⟨_, rfl, (h5.kept9 k9 (by intro g9 h9; have := (upown_above h5 g9 h9).1; simp; omega)).less9 (by omega), ?_⟩
      exact below_setRow (HB.out.1.trans (HZ.out.2.1.mono HB.out.1.size)) (Nat.le_refl _) _
    · rw [if_neg hk]
      have hkE : batE L = 210 := if_neg hk
      clear hk
      go_enter Tryz.func7, Tryz.ntmps7
      go_wp2_with (with_reducible refine wpList_alloc_z rfl 32 rfl #[.slice none 0 0] 1 z_bat ?_)
      refine HT.mono ?_
      rintro e W1 ⟨v, rfl, hO1, hb1⟩
      obtain ⟨a1, c1, rfl, hc1, hm1, hAt1, _⟩ := hO1.lies
      have hn1 : a1 = none → c1 = 0 := fun h => by
        rcases hO1.2 with ⟨h9, _⟩ | ⟨g9, cap, cur, h9, _⟩
        · injection h9
        · rw [h] at h9; injection h9 with h9; cases h9
      have B1 := build_bat1 a1 L.length c1
      have hbq := Blk.new W1 32 #[.slice none 0 0]
      have ST2 := st_bat (a2 := a1) (n2 := L.length) (c2 := c1) hbq
      obtain ⟨W2, hW2⟩ : ∃ W2, (W1.alloc (.cells #[.slice none 0 0] 32)).setRow W1.heap.size #[.slice a1 L.length c1] = W2 := ⟨_, rfl⟩
      have hbn : Blk W2 W1.heap.size 32 #[.slice a1 L.length c1] := by rw [← hW2]; exact Blk.row hbq _
      have k12 : Below W1.heap.size W1 W2 := by rw [← hW2]; exact below_setRow ((Below.refl _ _).alloc (Nat.le_refl _) _) (Nat.le_refl _) _
      rw [hW2] at ST2
      clear hbq
      have LD := bat_t9 hbn
      have LD2 := LD W2 (Below.refl _ _)
      have HC := bcheck_any a1 L.length c1 L W2 ((HB.out.2.2.later HB.out.1).later (bel_trans hb1 k12)) rfl (by omega) hc1 (hAt1.later k12)
      rw [hkE] at HC
      have HY := Lib.hid (And.intro hO1 (And.intro hb1 (And.intro k12 hbn)))
      clear HT hO1 hb1 k12 hbn hAt1 hc1 hm1 hn1 hW2
      go_wp2_with (with_reducible refine wpList_alloc_z rfl 32 rfl #[.slice none 0 0] 1 z_bat ?_)
      refine HC.mono ?_
      rintro e W3 ⟨rfl, hb3⟩
      have LD3 := LD W3 hb3
      have hk03 := bel_trans HY.out.2.1 (bel_trans HY.out.2.2.1 hb3)
      have hbz3 := HB.out.2.1.later hk03
      have SZ := st_bat (a2 := none) (n2 := 0) (c2 := 0) hbz3
      have HZ := Lib.hid (And.intro hb3 (And.intro hk03 hbz3))
      clear hb3 hk03 hbz3 LD HC
      go_wp2_with (with_reducible refine wpList_alloc_z rfl 32 rfl #[.slice none 0 0] 1 z_bat ?_)
      refine bodyPost_ret (results_blk rfl _ _ w.heap.size _ _ rfl (HZ.out.2.2.row _) Tryz.underlying32 rfl s_bat1) rfl ?_
      exact ⟨_, rfl, World.ownsRow_nil _ _ _ _, below_setRow (HB.out.1.trans (HZ.out.2.1.mono HB.out.1.size)) (Nat.le_refl _) _⟩
  · rw [if_neg hE]
    have hE9 : (E == 0) = false := by simpa using hE
    go_enter Tryz.func7, Tryz.ntmps7
    go_wp2_with (with_reducible refine wpList_alloc_z rfl 32 rfl #[.slice none 0 0] 1 z_bat ?_)
    refine HT.mono ?_
    rintro e W1 ⟨v, rfl, hO1, hb1⟩
    have hbz1 := HB.out.2.1.later hb1
    have SZ := st_bat (a2 := none) (n2 := 0) (c2 := 0) hbz1
    have HZ := Lib.hid (And.intro hb1 hbz1)
    clear hO1 hb1 hbz1 HT
    go_wp2_with (with_reducible refine wpList_alloc_z rfl 32 rfl #[.slice none 0 0] 1 z_bat ?_)
    refine bodyPost_ret (results_blk rfl _ _ w.heap.size _ _ rfl (HZ.out.2.row _) Tryz.underlying32 rfl s_bat1) rfl ?_
    exact ⟨_, rfl, World.ownsRow_nil _ _ _ _, below_setRow (HB.out.1.trans (HZ.out.1.mono HB.out.1.size)) (Nat.le_refl _) _⟩
end Go.Proofs.YtclkfmblogkakaaGreatDoor
