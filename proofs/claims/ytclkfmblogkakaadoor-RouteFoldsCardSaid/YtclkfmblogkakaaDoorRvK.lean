/-
  The walk of RouteFolds. Nothing here is a statement of the document.
-/
import Derived.Test.YtclkfmblogkakaaDoorRvH
import Derived.Test.YtclkfmblogkakaaDoorLinW
import Derived.Test.YtclkfmblogkakaaDoorRvG
namespace Go.Proofs.YtclkfmblogkakaaDoor
open Go.RowKit Go.Shelf
set_option linter.unusedVariables false
set_option maxRecDepth 100000
/-- What stands at the head of each round: the RIB's box and its candidates, and what is still to come. -/
structure FW (Z : Prop) (A : List Ro → List Up → List Ro → Int → Prop) (W w : World) (rb : Nat) (Us : List (List Up)) (k : Nat) : Prop where
  st : ∃ a c M, Blk w rb 24 #[.slice a (List.length M) c] ∧ RoAt w a M ∧ (Z → a = none → c = 0) ∧ M.length ≤ 168 ∧ ∀ D er, FoldR A M (Us.drop k) D er → FoldR A [] Us D er
  bel : Below rb W w
theorem fw_next {A : List Ro → List Up → List Ro → Int → Prop} {Us : List (List Up)} {M N : List Ro} {k : Nat} (hk : k < Us.length) (h : ∀ D er, FoldR A M (Us.drop k) D er → FoldR A [] Us D er) (hA : A M (batg Us k) N 0) : ∀ D er, FoldR A N (Us.drop (k + 1)) D er → FoldR A [] Us D er := fun D er hf => by
  refine h D er ?_
  rw [List.drop_eq_getElem_cons hk, ← batg_get hk]
  exact .next hA hf
theorem fw_stop {A : List Ro → List Up → List Ro → Int → Prop} {Us : List (List Up)} {M N : List Ro} {k : Nat} {er : Int} (hk : k < Us.length) (h : ∀ D er, FoldR A M (Us.drop k) D er → FoldR A [] Us D er) (hA : A M (batg Us k) N er) (h0 : er ≠ 0) : FoldR A [] Us [] er := by
  refine h [] er ?_
  rw [List.drop_eq_getElem_cons hk, ← batg_get hk]
  exact .stop hA h0
attribute [local go_sem ↓] load_rib_rule store_rib_rule build_rib_rule load_bat_rule store_bat_rule
set_option maxHeartbeats 4000000 in
theorem rfold_any (a : Option Addr) (n c : Nat) (Us : List (List Up)) (w : World) (hW : Wid w) (hn : Us.length = n) (hs : n ≤ 1000) (hR : BatsAt w a Us) (hl : ∀ i, i < Us.length → (batg Us i).length ≤ 100) :
    Calls Tryd.prog 29 #[.slice a n c] w fun e w' => ∃ a' c' M er, e = .returned (.tuple #[.agg #[.slice a' (List.length M) c'], .int .i64 er]) ∧ RoAt w' a' M ∧ FoldR AppR [] Us M er ∧ M.length ≤ 168 ∧ Below w.heap.size w w' := by
  obtain ⟨W0, hW0⟩ : ∃ W0, w.alloc (.cells #[.slice none 0 0] 24) = W0 := ⟨_, rfl⟩
  obtain ⟨W1, hW1⟩ : ∃ W1, W0.alloc (.cells #[.slice none 0 0] 24) = W1 := ⟨_, rfl⟩
  have sz0 : W0.heap.size = w.heap.size + 1 := by rw [← hW0]; simp
  have sz1 : W1.heap.size = w.heap.size + 2 := by rw [← hW1, World.size_alloc, sz0]
  have hb0 : Below w.heap.size w W0 := by rw [← hW0]; exact (Below.refl w.heap.size w).alloc (Nat.le_refl _) _
  have hb01 : Below W0.heap.size W0 W1 := by rw [← hW1]; exact (Below.refl _ _).alloc (Nat.le_refl _) _
  have hb1 : Below w.heap.size w W1 := bel_trans hb0 hb01
  have b1 : Blk W1 w.heap.size 24 #[.slice none 0 0] := by
    have h9 := Blk.new w 24 #[.slice none 0 0]
    rw [hW0] at h9
    exact h9.later hb01
  have b2 : Blk W1 W0.heap.size 24 #[.slice none 0 0] := by rw [← hW1]; exact Blk.new _ _ _
  have HB := Lib.hid (And.intro hb1 (And.intro b1 (And.intro sz0 (And.intro sz1 (And.intro hn hl)))))
  have h0 : FW True AppR W1 W1 W0.heap.size Us 0 := ⟨⟨none, 0, [], b2, .inl rfl, fun _ _ => rfl, by simp, fun D er h => h⟩, Below.refl _ _⟩
  have H0 := Lib.hid h0
  have HK : ∀ wr, Below W0.heap.size W1 wr → Below w.heap.size w wr ∧ BatsAt wr a Us ∧ Wid wr ∧ Blk wr w.heap.size 24 #[.slice none 0 0] := fun wr h => by
    have k1 : Below w.heap.size w wr := HB.out.1.trans (h.mono (by have := HB.out.2.2.1; omega))
    exact ⟨k1, hR.later k1, hW.later k1, (h.block _ (by have := HB.out.2.2.1; omega)).trans HB.out.2.1⟩
  have HKh := Lib.hid HK
  have BZ := build_rib0
  clear hR hW hn hl sz0 sz1 hb0 hb01 hb1 b1 b2 h0 HK
  go_enter Tryd.func29, Tryd.ntmps29
  go_wp2_with (first | (with_reducible refine wpList_alloc_z rfl 24 rfl #[.slice none 0 0] 1 z_rib ?_) | (with_reducible refine wpList_alloc_z rfl 27 rfl #[.slice none 0 0] 1 z_bat ?_) | (with_reducible refine wpList_alloc_z rfl 41 rfl #[.slice none 0 0] 1 z_tab ?_))
  go_loopw [11] (fun i wr => ∃ k : Nat, k ≤ n ∧ i = .int .i64 (k : Int) ∧ FW True AppR W1 wr W0.heap.size Us k) (fun i _ => n - (intOf i).toNat)
  case atStart => exact ⟨0, Nat.zero_le _, rfl, H0.out⟩
  case round =>
    obtain ⟨k, hk, rfl, hf⟩ := hrel
    obtain ⟨hkw, hkr, hkW, hbr⟩ := HKh.out wr hf.bel
    obtain ⟨⟨a', c', M, h1, h2, h3, h4, h5⟩, hbel⟩ := hf
    by_cases hlt : k < n
    · have hkl : k < Us.length := by have := HB.out.2.2.2.2.1; omega
      obtain ⟨g, o, hao, hrow⟩ := hkr.spot hkl
      obtain ⟨a2, n2, c2, LK, hn2, hU2, hnc2, hcm2, h02⟩ := hrow.load hkl
      have hl2 : n2 ≤ 100 := by have := HB.out.2.2.2.2.2 k hkl; omega
      subst hao
      have hsz : W0.heap.size < wr.heap.size := h1.lt
      obtain ⟨W3, hst, hblk, hb3⟩ := bat_box wr a2 n2 c2
      have LK0 := LK wr (Below.refl _ _)
      have LB3 := bat_t hblk W3 (Below.refl _ _)
      have LR3 := rib_t (h1.later hb3) W3 (Below.refl _ _)
      have HAP := rapply_any a' M.length c' M a2 n2 c2 (batg Us k) W3 (hkW.later hb3) rfl (by omega) (h2.later hb3) (h3 trivial) hn2 (by omega) hnc2 ((hU2.later hb3))
      have HX := Lib.hid (And.intro hkl (And.intro h5 (And.intro (h1.later hb3) (And.intro (hbr.later hb3) (hbel.trans (hb3.mono (Nat.le_of_lt hsz)))))))
      have hsz3 : W0.heap.size < W3.heap.size := by have := hb3.size; omega
      clear h1 h2 h3 h4 h5 hbel hkw hkr hkW hbr hrow hkl hblk hb3 hsz LK hU2 hnc2 hcm2 h02 hn2
      go_wp2_with (first | (with_reducible refine wpList_alloc_z rfl 24 rfl #[.slice none 0 0] 1 z_rib ?_) | (with_reducible refine wpList_alloc_z rfl 27 rfl #[.slice none 0 0] 1 z_bat ?_) | (with_reducible refine wpList_alloc_z rfl 41 rfl #[.slice none 0 0] 1 z_tab ?_))
      refine HAP.mono ?_
      rintro e W4 ⟨a4, c4, M4, er, rfl, hO4, hA4, hb4⟩
      obtain ⟨W5, SN, bn, hb5⟩ := rib_box W4 a4 M4.length c4
      have hb35 := bel_trans hb4 hb5
      have hO5 := hO4.later hb5
      have HY := Lib.hid (And.intro (HX.out.2.2.1.later hb35) (And.intro (HX.out.2.2.2.1.later hb35) (And.intro bn (And.intro hO5.lies2.2.2.2.1 (And.intro (fun (_ : True) => hO5.lies2.2.2.2.2) (And.intro hA4 (HX.out.2.2.2.2.trans (hb35.mono (Nat.le_of_lt hsz3)))))))))
      clear hb35 hO5 hb4 hb5 hO4 hA4 bn HAP LB3 LR3 LK0 hst hsz3
      go_upto_region 6 with (first | (with_reducible refine wpList_alloc_z rfl 24 rfl #[.slice none 0 0] 1 z_rib ?_) | (with_reducible refine wpList_alloc_z rfl 27 rfl #[.slice none 0 0] 1 z_bat ?_) | (with_reducible refine wpList_alloc_z rfl 41 rfl #[.slice none 0 0] 1 z_tab ?_))
      by_cases he : er = 0
      · subst he
        have LN := rib_t HY.out.2.2.1 W5 (Below.refl _ _)
        have SR := st_rib (a2 := a4) (n2 := M4.length) (c2 := c4) HY.out.1
        go_wp2_with fail
        go_roundw
        case rel => exact ⟨k + 1, by omega, by go_num, ⟨⟨a4, c4, M4, HY.out.1.row _, HY.out.2.2.2.1.set (HY.out.2.2.2.1.off HY.out.1) _, HY.out.2.2.2.2.1, appR_len HY.out.2.2.2.2.2.1, fw_next HX.out.1 HX.out.2.1 HY.out.2.2.2.2.2.1⟩, below_setRow HY.out.2.2.2.2.2.2 (Nat.le_refl _) _⟩⟩
        case measure => (simp [intOf]; try omega)
      · have de : (er == 0) = false := by simpa using he
        have de2 : (er != 0) = true := by simpa using he
        have SO := st_rib (a2 := none) (n2 := 0) (c2 := 0) HY.out.2.1
        have HE := Lib.hid he
        clear he
        go_wp2_with fail
        refine bodyPost_ret (results_blk rfl _ _ w.heap.size _ _ rfl (HY.out.2.1.row _) Tryd.underlying24 rfl s_rib1) rfl ?_
        exact ⟨none, 0, [], er, rfl, .inl rfl, fw_stop HX.out.1 HX.out.2.1 HY.out.2.2.2.2.2.1 HE.out, by simp, below_setRow (HB.out.1.trans (HY.out.2.2.2.2.2.2.mono (by have := HB.out.2.2.1; omega))) (Nat.le_refl _) _⟩
    · have i1 : ¬ ((k : Int) < (n : Int)) := by omega
      have hkn : k = Us.length := by have := HB.out.2.2.2.2.1; omega
      have hd : FoldR AppR [] Us M 0 := h5 M 0 (by rw [hkn, List.drop_length]; exact .done)
      have LN := rib_t h1 wr (Below.refl _ _)
      have SO := st_rib (a2 := a') (n2 := M.length) (c2 := c') hbr
      have HF := Lib.hid (And.intro hd (And.intro hbr (And.intro h2 (And.intro h4 hkw))))
      clear hd hkn h1 h2 h3 h4 h5 hbel hkw hkr hkW hbr
      go_wp2_with fail
      refine bodyPost_ret (results_blk rfl _ _ w.heap.size _ _ rfl (HF.out.2.1.row _) Tryd.underlying24 rfl s_rib1) rfl ?_
      exact ⟨a', c', M, 0, rfl, HF.out.2.2.1.set (HF.out.2.2.1.off HF.out.2.1) _, HF.out.1, HF.out.2.2.2.1, below_setRow HF.out.2.2.2.2 (Nat.le_refl _) _⟩
/-- What the makers of the reference's fifth region give. -/
def rfF (W : World) (M : List Ro) (er : Int) (i : Nat) (v : Value) (w : World) : Prop :=
  (i = 5 → ∃ a c, v = .tuple #[.agg #[.slice a M.length c], .int .i64 er] ∧ RoAt w a M) ∧ (i = 9 → ∃ g, v = .pointer (some ⟨g, 0, none⟩) ∧ W.heap.size ≤ g ∧ Blk w g 24 #[.slice none 0 0])
theorem rfF.later {W w w' : World} {M : List Ro} {er : Int} {i : Nat} {v : Value} (h : rfF W M er i v w) (k : Below w.heap.size w w') : rfF W M er i v w' := by
  refine ⟨fun e => ?_, fun e => ?_⟩
  · obtain ⟨a, c, h1, h2⟩ := h.1 e
    exact ⟨a, c, h1, h2.later k⟩
  · obtain ⟨g, h1, h2, h3⟩ := h.2 e
    exact ⟨g, h1, h2, h3.later k⟩
theorem rfF_9 {W w : World} {M : List Ro} {er : Int} {g : Nat} (h : W.heap.size ≤ g) (hb : Blk w g 24 #[.slice none 0 0]) : rfF W M er 9 (.pointer (some ⟨g, 0, none⟩)) w := ⟨fun e => (by cases e), fun _ => ⟨g, rfl, h, hb⟩⟩
theorem rfF_5 {W w : World} {M : List Ro} {er : Int} {a : Option Addr} {c : Nat} (h : RoAt w a M) : rfF W M er 5 (.tuple #[.agg #[.slice a M.length c], .int .i64 er]) w := ⟨fun _ => ⟨a, c, rfl, h⟩, fun e => (by cases e)⟩
set_option maxHeartbeats 4000000 in
theorem rrfold_any (a : Option Addr) (n c : Nat) (Us : List (List Up)) (w : World) (hW : Wid w) (hn : Us.length = n) (hs : n ≤ 1000) (hR : BatsAt w a Us) (hl : ∀ i, i < Us.length → (batg Us i).length ≤ 100) :
    Calls Tryd.prog 30 #[.slice a n c] w fun e w' => ∃ a' c' M er, e = .returned (.tuple #[.agg #[.slice a' (List.length M) c'], .int .i64 er]) ∧ RoAt w' a' M ∧ FoldR AppI [] Us M er ∧ M.length ≤ 168 ∧ Below w.heap.size w w' := by
  obtain ⟨W0, hW0⟩ : ∃ W0, w.alloc (.cells #[.slice none 0 0] 24) = W0 := ⟨_, rfl⟩
  obtain ⟨W1, hW1⟩ : ∃ W1, W0.alloc (.cells #[.slice none 0 0] 24) = W1 := ⟨_, rfl⟩
  have sz0 : W0.heap.size = w.heap.size + 1 := by rw [← hW0]; simp
  have sz1 : W1.heap.size = w.heap.size + 2 := by rw [← hW1, World.size_alloc, sz0]
  have hb0 : Below w.heap.size w W0 := by rw [← hW0]; exact (Below.refl w.heap.size w).alloc (Nat.le_refl _) _
  have hb01 : Below W0.heap.size W0 W1 := by rw [← hW1]; exact (Below.refl _ _).alloc (Nat.le_refl _) _
  have hb1 : Below w.heap.size w W1 := bel_trans hb0 hb01
  have b1 : Blk W1 w.heap.size 24 #[.slice none 0 0] := by
    have h9 := Blk.new w 24 #[.slice none 0 0]
    rw [hW0] at h9
    exact h9.later hb01
  have b2 : Blk W1 W0.heap.size 24 #[.slice none 0 0] := by rw [← hW1]; exact Blk.new _ _ _
  have HB := Lib.hid (And.intro hb1 (And.intro b1 (And.intro sz0 (And.intro sz1 (And.intro hn hl)))))
  have h0 : FW False AppI W1 W1 W0.heap.size Us 0 := ⟨⟨none, 0, [], b2, .inl rfl, fun _ _ => rfl, by simp, fun D er h => h⟩, Below.refl _ _⟩
  have H0 := Lib.hid h0
  have HK : ∀ wr, Below W0.heap.size W1 wr → Below w.heap.size w wr ∧ BatsAt wr a Us ∧ Wid wr ∧ Blk wr w.heap.size 24 #[.slice none 0 0] := fun wr h => by
    have k1 : Below w.heap.size w wr := HB.out.1.trans (h.mono (by have := HB.out.2.2.1; omega))
    exact ⟨k1, hR.later k1, hW.later k1, (h.block _ (by have := HB.out.2.2.1; omega)).trans HB.out.2.1⟩
  have HKh := Lib.hid HK
  have BZ := build_rib0
  clear hR hW hn hl sz0 sz1 hb0 hb01 hb1 b1 b2 h0 HK
  go_enter Tryd.func30, Tryd.ntmps30
  go_wp2_with (first | (with_reducible refine wpList_alloc_z rfl 24 rfl #[.slice none 0 0] 1 z_rib ?_) | (with_reducible refine wpList_alloc_z rfl 27 rfl #[.slice none 0 0] 1 z_bat ?_) | (with_reducible refine wpList_alloc_z rfl 41 rfl #[.slice none 0 0] 1 z_tab ?_))
  go_loopw [5] (fun i wr => ∃ k : Nat, k ≤ n ∧ i = .int .i64 (k : Int) ∧ FW False AppI W1 wr W0.heap.size Us k) (fun i _ => n - (intOf i).toNat)
  case atStart => exact ⟨0, Nat.zero_le _, rfl, H0.out⟩
  case round =>
    obtain ⟨k, hk, rfl, hf⟩ := hrel
    obtain ⟨hkw, hkr, hkW, hbr⟩ := HKh.out wr hf.bel
    obtain ⟨⟨a', c', M, h1, h2, h3, h4, h5⟩, hbel⟩ := hf
    by_cases hlt : k < n
    · have hkl : k < Us.length := by have := HB.out.2.2.2.2.1; omega
      obtain ⟨g, o, hao, hrow⟩ := hkr.spot hkl
      obtain ⟨a2, n2, c2, LK, hn2, hU2, hnc2, hcm2, h02⟩ := hrow.load hkl
      have hl2 : n2 ≤ 100 := by have := HB.out.2.2.2.2.2 k hkl; omega
      subst hao
      have hsz : W0.heap.size < wr.heap.size := h1.lt
      obtain ⟨M4, er, hA4⟩ := appI_some M (batg Us k)
      have LR3 := rib_t h1
      have hX : ∀ w', Below wr.heap.size wr w' → Calls Tryd.prog 12 #[.agg #[.slice a' M.length c'], .agg #[.slice a2 n2 c2]] w' fun e w2 => ∃ v, e = .returned v ∧ rfF wr M4 er 5 v w2 ∧ Below w'.heap.size w' w2 := fun w' h => by
        refine (rrapply_any a' M.length c' M a2 n2 c2 (batg Us k) w' rfl (by omega) (h2.later h) hn2 (by omega) (hU2.later h)).mono ?_
        rintro e w2 ⟨a9, c9, M9, er9, rfl, hR9, hA9, hb9⟩
        obtain ⟨rfl, rfl⟩ := appI_one hA4 hA9
        exact ⟨_, rfl, rfF_5 hR9, hb9⟩
      have hne : ∀ i, [5, 9].contains i = true → ∃ v w, rfF wr M4 er i v w := fun i hi => by
        have hi2 : i = 5 ∨ i = 9 := by simpa using hi
        rcases hi2 with rfl | rfl
        · obtain ⟨e, w', fr, ⟨v, _, h5, _⟩, _⟩ := hX wr (Below.refl _ _) []
          exact ⟨v, w', h5⟩
        · exact ⟨_, _, rfF_9 (Nat.le_refl _) (Blk.new wr _ _)⟩
      have h03 : Below wr.heap.size wr wr := Below.refl _ _
      have HX := Lib.hid (And.intro hkl (And.intro h5 (And.intro h1 (And.intro hbr hbel))))
      have HA4 := Lib.hid hA4
      have HSZ := Lib.hid hsz
      clear h1 h2 h3 h4 h5 hbel hkw hkr hkW hbr hrow hkl hsz hU2 hnc2 hcm2 h02 hn2 hA4
      go_upto_region 5 with fail
      refine wp_region_linW (fun w' => Below wr.heap.size wr w') (fun _ _ => True) (rfF wr M4 er) [5, 9] [10] [0, 1, 2, 3, 4, 5, 6, 7, 8, 9] [10, 11] (by kernel_rfl) (by kernel_rfl) hne (bel_drew h03) (fun _ => trivial) ?_
      (refine linW_op (v := ?_) rfl rfl (by rfl) (fun w9 hS9 => ?_) ?_; rotate_left; (focus (((try dsimp only at hS9); go_simp; (try go_bits)) <;> with_reducible rfl)); (try simp only [Act.put, List.getElem_toArray, List.getElem_cons_zero, List.getElem_cons_succ, List.setIfInBounds_toArray, List.set_cons_zero, List.set_cons_succ]))
      (refine linW_op (v := ?_) rfl rfl (by rfl) (fun w9 hS9 => ?_) ?_; rotate_left; (focus (((try dsimp only at hS9); go_simp; (try go_bits)) <;> with_reducible rfl)); (try simp only [Act.put, List.getElem_toArray, List.getElem_cons_zero, List.getElem_cons_succ, List.setIfInBounds_toArray, List.set_cons_zero, List.set_cons_succ]))
      (refine linW_op (v := ?_) rfl rfl (by rfl) (fun w9 hS9 => ?_) ?_; rotate_left; (focus (((try dsimp only at hS9); go_simp; (try go_bits)) <;> with_reducible rfl)); (try simp only [Act.put, List.getElem_toArray, List.getElem_cons_zero, List.getElem_cons_succ, List.setIfInBounds_toArray, List.set_cons_zero, List.set_cons_succ]))
      (refine linW_op (v := ?_) rfl rfl (by rfl) (fun w9 hS9 => ?_) ?_; rotate_left; (focus (((try dsimp only at hS9); go_simp; (try go_bits)) <;> with_reducible rfl)); (try simp only [Act.put, List.getElem_toArray, List.getElem_cons_zero, List.getElem_cons_succ, List.setIfInBounds_toArray, List.set_cons_zero, List.set_cons_succ]))
      (refine linW_op (v := ?_) rfl rfl (by rfl) (fun w9 hS9 => ?_) ?_; rotate_left; (focus (((try dsimp only at hS9); go_simp; (try go_bits)) <;> with_reducible rfl)); (try simp only [Act.put, List.getElem_toArray, List.getElem_cons_zero, List.getElem_cons_succ, List.setIfInBounds_toArray, List.set_cons_zero, List.set_cons_succ]))
      refine linW_call (f := 12) (args := #[.agg #[.slice a' M.length c'], .agg #[.slice a2 n2 c2]]) rfl rfl (by rfl) rfl rfl (enters_of Tryd.func12 (by kernel_rfl) rfl) (by simp [Act.eval]) (fun w9 hS9 _ hF9 => ?_) (fun v5 hv5 => ?_)
      · refine (hX w9 hS9).mono ?_
        rintro e w8 ⟨v, rfl, hv, hb8⟩
        exact ⟨v, rfl, bel_trans hS9 hb8, fun _ _ _ => trivial, fun d u _ h => h.later hb8, hv⟩
      obtain ⟨a4, c4, rfl⟩ : ∃ a4 c4, v5 = .tuple #[.agg #[.slice a4 M4.length c4], .int .i64 er] := by
        obtain ⟨_, h⟩ := hv5
        obtain ⟨a, c, h1, _⟩ := h.1 rfl
        exact ⟨a, c, h1⟩
      (try simp only [Act.put, List.getElem_toArray, List.getElem_cons_zero, List.getElem_cons_succ, List.setIfInBounds_toArray, List.set_cons_zero, List.set_cons_succ])
      (refine linW_op (v := ?_) rfl rfl (by rfl) (fun w9 hS9 => ?_) ?_; rotate_left; (focus (((try dsimp only at hS9); go_simp; (try go_bits)) <;> with_reducible rfl)); (try simp only [Act.put, List.getElem_toArray, List.getElem_cons_zero, List.getElem_cons_succ, List.setIfInBounds_toArray, List.set_cons_zero, List.set_cons_succ]))
      (refine linW_op (v := ?_) rfl rfl (by rfl) (fun w9 hS9 => ?_) ?_; rotate_left; (focus (((try dsimp only at hS9); go_simp; (try go_bits)) <;> with_reducible rfl)); (try simp only [Act.put, List.getElem_toArray, List.getElem_cons_zero, List.getElem_cons_succ, List.setIfInBounds_toArray, List.set_cons_zero, List.set_cons_succ]))
      (refine linW_op (v := ?_) rfl rfl (by rfl) (fun w9 hS9 => ?_) ?_; rotate_left; (focus (((try dsimp only at hS9); go_simp; (try go_bits)) <;> with_reducible rfl)); (try simp only [Act.put, List.getElem_toArray, List.getElem_cons_zero, List.getElem_cons_succ, List.setIfInBounds_toArray, List.set_cons_zero, List.set_cons_succ]))
      refine linW_do rfl rfl (by rfl) (fun w9 hS9 _ _ => ?_) (fun v9 hv9 => ?_)
      · have k9 : Below w9.heap.size w9 (w9.alloc (.cells #[.slice none 0 0] 24)) := (Below.refl _ _).alloc (Nat.le_refl _) _
        exact ⟨_, _, by go_simp, bel_trans hS9 k9, fun _ _ _ => trivial, fun d u _ h => h.later k9, rfF_9 hS9.size (Blk.new w9 _ _)⟩
      obtain ⟨g9, rfl⟩ : ∃ g9, v9 = .pointer (some ⟨g9, 0, none⟩) := by
        obtain ⟨_, h⟩ := hv9
        obtain ⟨g, h1, _⟩ := h.2 rfl
        exact ⟨g, h1⟩
      (try simp only [Act.put, List.getElem_toArray, List.getElem_cons_zero, List.getElem_cons_succ, List.setIfInBounds_toArray, List.set_cons_zero, List.set_cons_succ])
      refine linW_nil (fun w9 hS9 hF9 => ?_)
      have f5 := hF9 (5, .tuple #[.agg #[.slice a4 M4.length c4], .int .i64 er]) (by simp)
      have f9 := hF9 (9, .pointer (some ⟨g9, 0, none⟩)) (by simp)
      obtain ⟨a4', c4', e5, hR5⟩ := f5.1 rfl
      obtain ⟨g9', e9, hg9, hb9⟩ := f9.2 rfl
      injection e9 with e9a
      injection e9a with e9b
      injection e9b with e9c
      subst e9c
      have e5' : a4' = a4 ∧ c4' = c4 := by
        injection e5 with q1
        simp only [Array.mk.injEq, List.cons.injEq, Value.agg.injEq, Value.slice.injEq, and_true, true_and] at q1
        exact ⟨q1.1.symm, q1.2.symm⟩
      obtain ⟨rfl, rfl⟩ := e5'
      have SX := st_rib (a2 := a4') (n2 := M4.length) (c2 := c4') hb9
      obtain ⟨W5, hW5⟩ : ∃ W5, w9.setRow g9 #[.slice a4' M4.length c4'] = W5 := ⟨_, rfl⟩
      rw [hW5] at SX
      have b10 : Blk W5 g9 24 #[.slice a4' M4.length c4'] := by rw [← hW5]; exact hb9.row _
      have k7X : Below wr.heap.size wr W5 := by rw [← hW5]; exact below_setRow hS9 hg9 _
      have hR6 : RoAt W5 a4' M4 := by rw [← hW5]; exact hR5.set (hR5.off hb9) _
      have hszw := HSZ.out
      have HY := Lib.hid (And.intro (HX.out.2.2.1.later k7X) (And.intro (HX.out.2.2.2.1.later k7X) (And.intro b10 (And.intro hR6 (And.intro (show False → a4' = none → c4' = 0 from fun h => h.elim) (And.intro HA4.out (HX.out.2.2.2.2.trans (k7X.mono (Nat.le_of_lt hszw)))))))))
      have HK7 := Lib.hid k7X
      clear hR5 hR6 b10 hW5 hb9 f5 f9 hS9 hF9 hg9 hv5 hv9 hne hX LR3 LK hszw
      refine linX_store (w' := W5) rfl rfl (by rfl) ?_ HK7.out ?_; (focus (go_simp; done))
      (try simp only [Act.put, List.getElem_toArray, List.getElem_cons_zero, List.getElem_cons_succ, List.setIfInBounds_toArray, List.set_cons_zero, List.set_cons_succ])
      (repeat (first | (refine linX_off rfl rfl (by rfl) ?_; (try simp only [Act.put, List.getElem_toArray, List.getElem_cons_zero, List.getElem_cons_succ, List.setIfInBounds_toArray, List.set_cons_zero, List.set_cons_succ])) | (refine linX_op (v := ?_) rfl rfl (by rfl) (fun w9 hS9 => ?_) ?_; rotate_left; (focus (((try dsimp only at hS9); go_simp; (try go_bits)) <;> with_reducible rfl)); (try simp only [Act.put, List.getElem_toArray, List.getElem_cons_zero, List.getElem_cons_succ, List.setIfInBounds_toArray, List.set_cons_zero, List.set_cons_succ]))))
      refine linX_nil ?_
      obtain ⟨a4, ha4⟩ : ∃ a4, a4 = a4' := ⟨_, rfl⟩
      subst ha4
      obtain ⟨c4, hc4⟩ : ∃ c4, c4 = c4' := ⟨_, rfl⟩
      subst hc4
      by_cases he : er = 0
      · subst he
        have LN := rib_t HY.out.2.2.1 W5 (Below.refl _ _)
        have SR := st_rib (a2 := a4) (n2 := M4.length) (c2 := c4) HY.out.1
        go_wp2_with fail
        go_roundw
        case rel => exact ⟨k + 1, by omega, by go_num, ⟨⟨a4, c4, M4, HY.out.1.row _, HY.out.2.2.2.1.set (HY.out.2.2.2.1.off HY.out.1) _, HY.out.2.2.2.2.1, appI_len HY.out.2.2.2.2.2.1, fw_next HX.out.1 HX.out.2.1 HY.out.2.2.2.2.2.1⟩, below_setRow HY.out.2.2.2.2.2.2 (Nat.le_refl _) _⟩⟩
        case measure => (simp [intOf]; try omega)
      · have de : (er == 0) = false := by simpa using he
        have de2 : (er != 0) = true := by simpa using he
        have SO := st_rib (a2 := none) (n2 := 0) (c2 := 0) HY.out.2.1
        have HE := Lib.hid he
        clear he
        go_wp2_with fail
        refine bodyPost_ret (results_blk rfl _ _ w.heap.size _ _ rfl (HY.out.2.1.row _) Tryd.underlying24 rfl s_rib1) rfl ?_
        exact ⟨none, 0, [], er, rfl, .inl rfl, fw_stop HX.out.1 HX.out.2.1 HY.out.2.2.2.2.2.1 HE.out, by simp, below_setRow (HB.out.1.trans (HY.out.2.2.2.2.2.2.mono (by have := HB.out.2.2.1; omega))) (Nat.le_refl _) _⟩
    · have i1 : ¬ ((k : Int) < (n : Int)) := by omega
      have hkn : k = Us.length := by have := HB.out.2.2.2.2.1; omega
      have hd : FoldR AppI [] Us M 0 := h5 M 0 (by rw [hkn, List.drop_length]; exact .done)
      have LN := rib_t h1 wr (Below.refl _ _)
      have SO := st_rib (a2 := a') (n2 := M.length) (c2 := c') hbr
      have HF := Lib.hid (And.intro hd (And.intro hbr (And.intro h2 (And.intro h4 hkw))))
      clear hd hkn h1 h2 h3 h4 h5 hbel hkw hkr hkW hbr
      go_wp2_with fail
      refine bodyPost_ret (results_blk rfl _ _ w.heap.size _ _ rfl (HF.out.2.1.row _) Tryd.underlying24 rfl s_rib1) rfl ?_
      exact ⟨a', c', M, 0, rfl, HF.out.2.2.1.set (HF.out.2.2.1.off HF.out.2.1) _, HF.out.1, HF.out.2.2.2.1, below_setRow HF.out.2.2.2.2 (Nat.le_refl _) _⟩
end Go.Proofs.YtclkfmblogkakaaDoor
namespace Go.Proofs.YtclkfmblogkakaaDoor
open Go.RowKit Go.Shelf
set_option linter.unusedVariables false
set_option maxRecDepth 100000
attribute [local go_sem ↓] load_rib_rule store_rib_rule build_rib_rule load_bat_rule store_bat_rule
set_option maxHeartbeats 4000000 in
theorem rfolds_walk (a : Option Addr) (n c : Nat) (Us : List (List Up)) (w : World) (hW : Wid w) (hn : Us.length = n) (hR : BatsAt w a Us) (hc : n ≤ c ∧ c ≤ maxLen) :
    Calls Tryd.prog 6 #[.slice a n c] w fun e w' => e = .returned (.bool true) ∧ Below w.heap.size w w' := by
  have HWK := wakes11_any w hW
  have HC := Lib.hid hc
  have hcc := hc.1
  have hcm : n ≤ 9223372036854775807 := by have := hc.2; unfold maxLen at this; omega
  have HR := Lib.hid (fun (w' : World) (h : Below w.heap.size w w') => And.intro (hW.later h) (hR.later h))
  have HN := Lib.hid hn
  by_cases h30 : 30 < n
  · obtain ⟨g, o, hao, _⟩ := hR.spot (show 0 < Us.length by omega)
    subst hao
    have hV2 := hR.take 30
    have hL2 : (Us.take 30).length = 30 := by rw [List.length_take]; omega
    obtain ⟨Vs, hVs⟩ : ∃ Vs, Us.take 30 = Vs := ⟨_, rfl⟩
    rw [hVs] at hV2 hL2
    have HL := Lib.hid hL2
    have HLE := Lib.hid (show (30 : Nat) ≤ 1000 by omega)
    have HV := Lib.hid (fun (w' : World) (h : Below w.heap.size w w') => And.intro (hW.later h) (hV2.later h))
    have d0 : (30 : Int) < (n : Int) := by omega
    have d30 : (30 : Nat) ≤ c := by omega
    clear hc hR hn hV2 hL2 hVs hW
    go_enter Tryd.func6, Tryd.ntmps6
    go_wp2_with fail
    refine HWK.mono ?_
    rintro e w2 ⟨rfl, hb2⟩
    have HB2 := Lib.hid hb2
    clear HWK hb2
    go_wp2_with fail
    go_loopw [18] (fun i wr => ∃ k : Nat, k ≤ 30 ∧ i = .int .i64 (k : Int) ∧ (∀ j, j < k → (batg Vs j).length ≤ 100) ∧ Below w.heap.size w wr) (fun i _ => 30 - (intOf i).toNat)
    case atStart => exact ⟨0, Nat.zero_le _, rfl, fun j hj => absurd hj (Nat.not_lt_zero _), HB2.out⟩
    case round =>
      obtain ⟨k, hk, rfl, hle, hkb⟩ := hrel
      by_cases hlt : k < 30
      · have hkl : k < (Vs).length := by have := HL.out; omega
        obtain ⟨g4, o4, hao4, hrow⟩ := (HV.out wr hkb).2.spot hkl
        obtain ⟨a2, n2, c2, LK, hn2, hU2, hnc2, hcm2, h02⟩ := hrow.load hkl
        obtain ⟨rfl, rfl⟩ : g = g4 ∧ o = o4 := by injection hao4 with h9; injection h9 with h8 h7; exact ⟨h8, h7⟩
        obtain ⟨W3, hst, hblk, hb3⟩ := bat_box wr a2 n2 c2
        have LK0 := LK wr (Below.refl _ _)
        have CB3 : W3.cell? ⟨wr.heap.size, 0, none⟩ = some (.slice a2 n2 c2) := hblk.cell 0
        have HX := Lib.hid (And.intro hle (And.intro (bel_trans hkb hb3) hn2))
        clear hle hkb hb3 hn2 LK hrow hkl hU2 hnc2 hcm2 h02 hblk
        by_cases h100 : 100 < n2
        · have d1 : (100 : Int) < (n2 : Int) := by omega
          clear h100
          go_wp2_with (first | (with_reducible refine wpList_alloc_z rfl 24 rfl #[.slice none 0 0] 1 z_rib ?_) | (with_reducible refine wpList_alloc_z rfl 27 rfl #[.slice none 0 0] 1 z_bat ?_) | (with_reducible refine wpList_alloc_z rfl 41 rfl #[.slice none 0 0] 1 z_tab ?_))
          go_ret
          exact ⟨rfl, HX.out.2.1⟩
        · have d1 : ¬ ((100 : Int) < (n2 : Int)) := by omega
          have HH := Lib.hid h100
          clear h100
          go_wp2_with (first | (with_reducible refine wpList_alloc_z rfl 24 rfl #[.slice none 0 0] 1 z_rib ?_) | (with_reducible refine wpList_alloc_z rfl 27 rfl #[.slice none 0 0] 1 z_bat ?_) | (with_reducible refine wpList_alloc_z rfl 41 rfl #[.slice none 0 0] 1 z_tab ?_))
          go_roundw
          case rel => exact ⟨k + 1, by omega, by go_num, fun j hj => by
            by_cases e : j = k
            · subst e; have := HX.out.2.2; have := HH.out; omega
            · exact HX.out.1 j (by omega), HX.out.2.1⟩
          case measure => (simp [intOf]; try omega)
      · have i1 : ¬ ((k : Int) < (30 : Int)) := by omega
        have hkn : k = 30 := by omega
        have hall : ∀ i, i < (Vs).length → (batg Vs i).length ≤ 100 := fun i hi => hle i (by have := HL.out; omega)
        have HF1 := rfold_any (some ⟨g, o, none⟩) 30 c Vs wr (HV.out wr hkb).1 HL.out HLE.out (HV.out wr hkb).2 hall
        have HX := Lib.hid (And.intro hall hkb)
        clear hle hkb hkn hall
        go_wp2_with (first | (with_reducible refine wpList_alloc_z rfl 24 rfl #[.slice none 0 0] 1 z_rib ?_) | (with_reducible refine wpList_alloc_z rfl 27 rfl #[.slice none 0 0] 1 z_bat ?_) | (with_reducible refine wpList_alloc_z rfl 41 rfl #[.slice none 0 0] 1 z_tab ?_))
        refine HF1.mono ?_
        rintro e W4 ⟨a4, c4, M, er, rfl, hR4, hF4, hl4, hb4⟩
        obtain ⟨W5, SN, bn, hb5⟩ := rib_box W4 a4 M.length c4
        have hb45 := bel_trans hb4 hb5
        have hb05 := bel_trans HX.out.2 hb45
        have HF2 := rrfold_any (some ⟨g, o, none⟩) 30 c Vs W5 (HV.out W5 hb05).1 HL.out HLE.out (HV.out W5 hb05).2 HX.out.1
        have HY := Lib.hid (And.intro hF4 (And.intro (hR4.later hb5) (And.intro hl4 (And.intro bn hb05))))
        clear HF1 hR4 hF4 hl4 hb4 hb5 hb45 hb05 bn
        go_wp2_with (first | (with_reducible refine wpList_alloc_z rfl 24 rfl #[.slice none 0 0] 1 z_rib ?_) | (with_reducible refine wpList_alloc_z rfl 27 rfl #[.slice none 0 0] 1 z_bat ?_) | (with_reducible refine wpList_alloc_z rfl 41 rfl #[.slice none 0 0] 1 z_tab ?_))
        refine HF2.mono ?_
        rintro e W6 ⟨a6, c6, N, er2, rfl, hR6, hF6, hl6, hb6⟩
        obtain ⟨rfl, rfl⟩ := fold_same HY.out.1 hF6
        obtain ⟨W7, SW, bw, hb7⟩ := rib_box W6 a6 M.length c6
        have hb57 := bel_trans hb6 hb7
        have LN := rib_t (HY.out.2.2.2.1.later hb57) W7 (Below.refl _ _)
        have LW := rib_t bw W7 (Below.refl _ _)
        have HS := rorsame_any a4 a6 M.length c4 M.length c6 M M W7 rfl (by omega) (HY.out.2.1.later hb57) rfl (by omega) (hR6.later hb7)
        simp only [decide_true] at HS
        have HZ := Lib.hid (bel_trans HY.out.2.2.2.2 hb57)
        clear HF2 hR6 hF6 hl6 hb6 hb7 hb57 bw SN
        go_wp2_with (first | (with_reducible refine wpList_alloc_z rfl 24 rfl #[.slice none 0 0] 1 z_rib ?_) | (with_reducible refine wpList_alloc_z rfl 27 rfl #[.slice none 0 0] 1 z_bat ?_) | (with_reducible refine wpList_alloc_z rfl 41 rfl #[.slice none 0 0] 1 z_tab ?_))
        refine HS.mono ?_
        rintro e W8 ⟨rfl, hb8⟩
        go_wp2_with fail
        go_ret
        exact ⟨rfl, bel_trans HZ.out hb8⟩
  · have HL := Lib.hid hn
    have HLE := Lib.hid (show n ≤ 1000 by omega)
    have HV := Lib.hid (fun (w' : World) (h : Below w.heap.size w w') => And.intro (hW.later h) (hR.later h))
    have d0 : ¬ ((30 : Int) < (n : Int)) := by omega
    clear hc hR hn hW
    go_enter Tryd.func6, Tryd.ntmps6
    go_wp2_with fail
    refine HWK.mono ?_
    rintro e w2 ⟨rfl, hb2⟩
    have HB2 := Lib.hid hb2
    clear HWK hb2
    go_wp2_with fail
    go_loopw [18] (fun i wr => ∃ k : Nat, k ≤ n ∧ i = .int .i64 (k : Int) ∧ (∀ j, j < k → (batg Us j).length ≤ 100) ∧ Below w.heap.size w wr) (fun i _ => n - (intOf i).toNat)
    case atStart => exact ⟨0, Nat.zero_le _, rfl, fun j hj => absurd hj (Nat.not_lt_zero _), HB2.out⟩
    case round =>
      obtain ⟨k, hk, rfl, hle, hkb⟩ := hrel
      by_cases hlt : k < n
      · have hkl : k < (Us).length := by have := HL.out; omega
        obtain ⟨g4, o4, hao4, hrow⟩ := (HV.out wr hkb).2.spot hkl
        obtain ⟨a2, n2, c2, LK, hn2, hU2, hnc2, hcm2, h02⟩ := hrow.load hkl
        subst hao4
        obtain ⟨W3, hst, hblk, hb3⟩ := bat_box wr a2 n2 c2
        have LK0 := LK wr (Below.refl _ _)
        have CB3 : W3.cell? ⟨wr.heap.size, 0, none⟩ = some (.slice a2 n2 c2) := hblk.cell 0
        have HX := Lib.hid (And.intro hle (And.intro (bel_trans hkb hb3) hn2))
        clear hle hkb hb3 hn2 LK hrow hkl hU2 hnc2 hcm2 h02 hblk
        by_cases h100 : 100 < n2
        · have d1 : (100 : Int) < (n2 : Int) := by omega
          clear h100
          go_wp2_with (first | (with_reducible refine wpList_alloc_z rfl 24 rfl #[.slice none 0 0] 1 z_rib ?_) | (with_reducible refine wpList_alloc_z rfl 27 rfl #[.slice none 0 0] 1 z_bat ?_) | (with_reducible refine wpList_alloc_z rfl 41 rfl #[.slice none 0 0] 1 z_tab ?_))
          go_ret
          exact ⟨rfl, HX.out.2.1⟩
        · have d1 : ¬ ((100 : Int) < (n2 : Int)) := by omega
          have HH := Lib.hid h100
          clear h100
          go_wp2_with (first | (with_reducible refine wpList_alloc_z rfl 24 rfl #[.slice none 0 0] 1 z_rib ?_) | (with_reducible refine wpList_alloc_z rfl 27 rfl #[.slice none 0 0] 1 z_bat ?_) | (with_reducible refine wpList_alloc_z rfl 41 rfl #[.slice none 0 0] 1 z_tab ?_))
          go_roundw
          case rel => exact ⟨k + 1, by omega, by go_num, fun j hj => by
            by_cases e : j = k
            · subst e; have := HX.out.2.2; have := HH.out; omega
            · exact HX.out.1 j (by omega), HX.out.2.1⟩
          case measure => (simp [intOf]; try omega)
      · have i1 : ¬ ((k : Int) < (n : Int)) := by omega
        have hkn : k = n := by omega
        have hall : ∀ i, i < (Us).length → (batg Us i).length ≤ 100 := fun i hi => hle i (by have := HL.out; omega)
        have HF1 := rfold_any a n c Us wr (HV.out wr hkb).1 HL.out HLE.out (HV.out wr hkb).2 hall
        have HX := Lib.hid (And.intro hall hkb)
        clear hle hkb hkn hall
        go_wp2_with (first | (with_reducible refine wpList_alloc_z rfl 24 rfl #[.slice none 0 0] 1 z_rib ?_) | (with_reducible refine wpList_alloc_z rfl 27 rfl #[.slice none 0 0] 1 z_bat ?_) | (with_reducible refine wpList_alloc_z rfl 41 rfl #[.slice none 0 0] 1 z_tab ?_))
        refine HF1.mono ?_
        rintro e W4 ⟨a4, c4, M, er, rfl, hR4, hF4, hl4, hb4⟩
        obtain ⟨W5, SN, bn, hb5⟩ := rib_box W4 a4 M.length c4
        have hb45 := bel_trans hb4 hb5
        have hb05 := bel_trans HX.out.2 hb45
        have HF2 := rrfold_any a n c Us W5 (HV.out W5 hb05).1 HL.out HLE.out (HV.out W5 hb05).2 HX.out.1
        have HY := Lib.hid (And.intro hF4 (And.intro (hR4.later hb5) (And.intro hl4 (And.intro bn hb05))))
        clear HF1 hR4 hF4 hl4 hb4 hb5 hb45 hb05 bn
        go_wp2_with (first | (with_reducible refine wpList_alloc_z rfl 24 rfl #[.slice none 0 0] 1 z_rib ?_) | (with_reducible refine wpList_alloc_z rfl 27 rfl #[.slice none 0 0] 1 z_bat ?_) | (with_reducible refine wpList_alloc_z rfl 41 rfl #[.slice none 0 0] 1 z_tab ?_))
        refine HF2.mono ?_
        rintro e W6 ⟨a6, c6, N, er2, rfl, hR6, hF6, hl6, hb6⟩
        obtain ⟨rfl, rfl⟩ := fold_same HY.out.1 hF6
        obtain ⟨W7, SW, bw, hb7⟩ := rib_box W6 a6 M.length c6
        have hb57 := bel_trans hb6 hb7
        have LN := rib_t (HY.out.2.2.2.1.later hb57) W7 (Below.refl _ _)
        have LW := rib_t bw W7 (Below.refl _ _)
        have HS := rorsame_any a4 a6 M.length c4 M.length c6 M M W7 rfl (by omega) (HY.out.2.1.later hb57) rfl (by omega) (hR6.later hb7)
        simp only [decide_true] at HS
        have HZ := Lib.hid (bel_trans HY.out.2.2.2.2 hb57)
        clear HF2 hR6 hF6 hl6 hb6 hb7 hb57 bw SN
        go_wp2_with (first | (with_reducible refine wpList_alloc_z rfl 24 rfl #[.slice none 0 0] 1 z_rib ?_) | (with_reducible refine wpList_alloc_z rfl 27 rfl #[.slice none 0 0] 1 z_bat ?_) | (with_reducible refine wpList_alloc_z rfl 41 rfl #[.slice none 0 0] 1 z_tab ?_))
        refine HS.mono ?_
        rintro e W8 ⟨rfl, hb8⟩
        go_wp2_with fail
        go_ret
        exact ⟨rfl, bel_trans HZ.out hb8⟩
end Go.Proofs.YtclkfmblogkakaaDoor
