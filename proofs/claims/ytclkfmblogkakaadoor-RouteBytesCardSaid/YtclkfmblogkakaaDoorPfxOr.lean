/-
  That containing is an order and that Compare goes with it. Nothing here is a statement of the document.
-/
import Derived.Test.YtclkfmblogkakaaDoorPfxR
import Derived.Maps.AppendAt
namespace Go.Proofs.YtclkfmblogkakaaDoor
open Go.RowKit Go.Shelf
set_option linter.unusedVariables false
attribute [local go_sem ↓] load_b16_rule store_b16_rule load_ad_rule store_ad_rule load_px_rule store_px_rule eq_b16_rule eq_ad_rule eq_px_rule build_ad_rule build_px_rule build_b16_rule

def inc (x : Int) : Value := .int .i64 x
theorem or_append : ∀ (l m : List Int), orL (l ++ m) = if orL l = 0 then orL m else orL l
  | [], m => by simp [orL]
  | x :: l, m => by
    have ih := or_append l m
    by_cases h : x = 0
    · have e : ∀ r, orL (x :: r) = orL r := fun r => if_pos h
      rw [List.cons_append, e, e, ih]
    · have e : ∀ r, orL (x :: r) = x := fun r => if_neg h
      rw [List.cons_append, e, e, if_neg h]
def zipC : List Int → List Int → List Int
  | x :: l, y :: m => cmpI x y :: zipC l m
  | _, _ => []
theorem zipC_len : ∀ (l m : List Int), l.length = m.length → (zipC l m).length = l.length
  | [], [], _ => rfl
  | [], _ :: _, h => by simp at h
  | _ :: _, [], h => by simp at h
  | _ :: l, _ :: m, h => by simp [zipC, zipC_len l m (by simpa using h)]
theorem zipC_at : ∀ (l m : List Int) (k : Nat), k < l.length → l.length = m.length → (zipC l m).getD k 0 = cmpI (l.getD k 0) (m.getD k 0)
  | [], [], k, h, _ => by simp at h
  | [], _ :: _, _, _, h => by simp at h
  | _ :: _, [], _, _, h => by simp at h
  | _ :: l, _ :: m, 0, _, _ => rfl
  | _ :: l, _ :: m, k + 1, h, h2 => by
    simp only [zipC, List.getD_cons_succ]
    exact zipC_at l m k (by simpa using h) (by simpa using h2)
theorem zipC_append : ∀ (l m l2 m2 : List Int), l.length = m.length → zipC (l ++ l2) (m ++ m2) = zipC l m ++ zipC l2 m2
  | [], [], _, _, _ => rfl
  | [], _ :: _, _, _, h => by simp at h
  | _ :: _, [], _, _, h => by simp at h
  | _ :: l, _ :: m, l2, m2, h => by simp [zipC, zipC_append l m l2 m2 (by simpa using h)]
theorem or_bytes : ∀ (l m : List Nat), l.length = m.length → orL (zipC (l.map Int.ofNat) (m.map Int.ofNat)) = cmpB l m
  | [], [], _ => rfl
  | [], _ :: _, h => by simp at h
  | _ :: _, [], h => by simp at h
  | a :: l, b :: m, h => by
    have ih := or_bytes l m (by simpa using h)
    simp only [List.map_cons, zipC, orL, cmpB, cmpI]
    by_cases h1 : a < b
    · have : Int.ofNat a < Int.ofNat b := by simpa using h1
      simp [h1]
    · by_cases h2 : b < a
      · simp [h1, h2]
      · simp [h1, h2, ih]
def rowP (p : Px) : List Int := p.a.v :: p.a.b.l.map Int.ofNat ++ [p.n]
theorem rowP_len (p : Px) : (rowP p).length = 18 := by simp [rowP, p.a.b.len]
theorem or_rows (p q : Px) : orL (zipC (rowP p) (rowP q)) = cmpP p q := by
  have hl : p.a.b.l.length = q.a.b.l.length := by rw [p.a.b.len, q.a.b.len]
  have h := or_bytes _ _ hl
  unfold rowP cmpP
  rw [zipC_append _ _ _ _ (by simp [hl])]
  simp only [zipC, List.cons_append, orL, or_append, h]
def rowK (p : Px) (k : Nat) : List Value := (p.a.v :: (p.a.b.l.take k).map Int.ofNat).map inc
theorem rowK_next (p : Px) (k : Nat) (hk : k < 16) : rowK p (k + 1) = rowK p k ++ [.int .i64 (p.a.b.at k : Int)] := by
  unfold rowK
  rw [take_more0 p.a.b.l k (by rw [p.a.b.len]; exact hk)]
  simp [B16.at, inc]
theorem rowK_all (p : Px) : rowK p 16 ++ [.int .i64 p.n] = (rowP p).map inc := by
  unfold rowK rowP
  rw [List.take_of_length_le (by rw [p.a.b.len]; exact Nat.le_refl _)]
  simp [inc]
theorem info_int : ∃ i, Tryd.prog.info? 3 = some i ∧ i.zero = some (.int .i64 0) ∧ i.size = 1 ∧ i.bytes = 8 := by
  have h : (Tryd.prog.info? 3).map (fun i => (i.zero, i.size, i.bytes)) = some (some (.int .i64 0), 1, 8) := by kernel_rfl
  obtain ⟨i, hi, he⟩ := Option.map_eq_some_iff.1 h
  simp only [Prod.mk.injEq] at he
  exact ⟨i, hi, he.1, he.2.1, he.2.2⟩
theorem own_new {w : World} {v1 x y : Value} {B m : Nat} (hne : x.ownBlock ≠ y.ownBlock) (hv : v1.ownBlock = x.ownBlock ∨ v1.ownBlock = some m) (hy : ∀ k, y.ownBlock = some k → B ≤ k ∧ k < w.heap.size) (hm : w.heap.size ≤ m) : v1.ownBlock ≠ y.ownBlock := fun h => by
  rcases hv with h9 | h9
  · exact hne (h9.symm.trans h)
  · have := (hy m (h.symm.trans h9)).2
    omega
theorem row_form {w : World} {B : Nat} {v : Value} {l : List Value} (h : w.ownsRow B 3 1 v 18 l) : ∃ g cap, v = .slice (some ⟨g, 0, none⟩) 18 cap := by
  rcases h.2 with ⟨_, h0⟩ | ⟨g, cap, _, h1, _⟩
  · omega
  · exact ⟨g, cap, h1⟩
theorem add_zero_addr (g j : Nat) : (⟨g, 0, none⟩ : Addr).add j = ⟨g, j, none⟩ := by
  unfold Addr.add
  split
  · rename_i h; rw [show j = 0 from by simpa using h]
  · simp
theorem row_at {w : World} {B g cap : Nat} {l : List Int} (h : w.ownsRow B 3 1 (.slice (some ⟨g, 0, none⟩) 18 cap) 18 (l.map inc)) (hl : l.length = 18) : ∀ j, j < 18 → w.cell? ⟨g, j, none⟩ = some (.int .i64 (l.getD j 0)) := fun j hj => by
  have := h.cells rfl j (inc (l.getD j 0)) (by simp [hl, hj])
  rw [add_zero_addr] at this
  exact this
theorem wrap_byte {x : Nat} (h : x < 256) : wrap64 (x : Int) = (x : Int) := by unfold wrap64; omega
theorem und_ints : Tryd.prog.underlying 136 = some (.slice 3) := by kernel_rfl
theorem own_int1 (w : World) (x : Int) {B : Nat} (hB : B ≤ w.heap.size) : (w.alloc (.cells #[.int .i64 x] 3)).ownsRow B 3 1 (.slice (some ⟨w.heap.size, 0, none⟩) 1 1) 1 [.int .i64 x] :=
  ⟨rfl, .inr ⟨w.heap.size, 1, _, rfl, hB, heap_alloc_new _ _, Nat.le_refl _, by unfold maxLen; omega, rfl, rfl⟩⟩

set_option maxRecDepth 100000 in
set_option maxHeartbeats 1600000 in
theorem refcompare_any (p q : Px) (w : World) : Calls Tryd.prog 71 #[.agg p.cs, .agg q.cs] w fun e w' => e = .returned (.int .i64 (cmpP p q)) ∧ Below w.heap.size w w' := by
  obtain ⟨i0, hi, hz0, hz1, hz2⟩ := info_int
  obtain ⟨W1, hW1⟩ : ∃ W1, (w.alloc (.cells p.cs 65)).alloc (.cells q.cs 65) = W1 := ⟨_, rfl⟩
  have hb1 : Below w.heap.size w W1 := by rw [← hW1]; exact (((Below.refl w.heap.size w).alloc (Nat.le_refl _) _).alloc (by simp) _)
  have b1 : Blk W1 (w.heap.size) 65 p.cs := by
    have h9 := Blk.new w 65 p.cs
    rw [← hW1]; exact (h9.alloc _)
  have b2 : Blk W1 (w.heap.size + 1) 65 q.cs := by
    have h9 := Blk.new (w.alloc (.cells p.cs 65)) 65 q.cs
    rw [World.size_alloc] at h9
    rw [← hW1]; exact h9
  have LPp := px_p b1
  have LAp := px_a b1
  have LBp := px_b b1
  have LVp := px_v b1
  have LNp := px_n b1
  have LPq := px_p b2
  have LAq := px_a b2
  have LBq := px_b b2
  have LVq := px_v b2
  have LNq := px_n b2
  have LCp := px_cell b1
  have LCq := px_cell b2
  have h0 : Below W1.heap.size W1 W1 := Below.refl _ _
  have HB := Lib.hid hb1
  clear hb1 b1 b2
  have LD := bel_drew_all W1
  have LE := bel_alloc_all W1
  have HE := Lib.hid (or_rows p q)
  have HO1 := fun (w' : World) (x : Int) (h : W1.heap.size ≤ w'.heap.size) => own_int1 w' x h
  go_enter Tryd.func71, Tryd.ntmps71
  go_wp2
  clear hW1
  go_loopw [5, 6, 7] (fun x y i wr => ∃ k : Nat, k ≤ 16 ∧ i = .int .i64 k ∧ Below W1.heap.size W1 wr ∧ wr.ownsRow W1.heap.size 3 1 x (1 + k) (rowK p k) ∧ wr.ownsRow W1.heap.size 3 1 y (1 + k) (rowK q k) ∧ x.ownBlock ≠ y.ownBlock) (fun x y i _ => 16 - (intOf i).toNat)
  case atStart =>
    refine ⟨0, by omega, rfl, LE _ _ (LE _ _ h0), ?_, ?_, ?_⟩
    · exact (own_int1 W1 p.a.v (Nat.le_refl _)).alloc _
    · have h9 := own_int1 (W1.alloc (.cells #[.int .i64 p.a.v] 3)) q.a.v (B := W1.heap.size) (by simp)
      rw [World.size_alloc] at h9
      exact h9
    · simp [Value.ownBlock]
  case round =>
    obtain ⟨k, hk, rfl, hb, hox, hoy, hne⟩ := hrel
    have hbs := hb.size
    by_cases hlt : k < 16
    · have hc1 := LCp k (by omega)
      have hc2 := LCq k (by omega)
      have HS := Lib.hid (And.intro (rowK_next p k hlt) (rowK_next q k hlt))
      have d1 : decide ((k : Int) < 16) = true := by simp; omega
      have hw1 := wrap_byte (p.a.b.lt k)
      have hw2 := wrap_byte (q.a.b.lt k)
      generalize p.a.b.at k = y1 at *
      generalize q.a.b.at k = y2 at *
      have HN := Lib.hid hne
      clear hne LCp LCq
      go_wp2_with (first | (at_builtin; refine wpList_append_own_at _ rfl _ _ 136 rfl W1.heap.size 3 i0 (.int .i64 0) 1 8 und_ints hi hz0 hz1 hz2 rfl (by decide) _ _ _ rfl (hox.alloc _) ⟨wr.heap.size, 0, none⟩ 1 1 [.int .i64 (y1 : Int)] rfl rfl ?c1 ?c2 ?c3 ?c4 ?c5 ?_))
      case c1 =>
        intro j u hj
        match j, hj with
        | 0, hj => simp at hj; subst hj; simp [Addr.add]
      case c2 => intro u hu; simp at hu; subst hu; rfl
      case c3 => unfold maxLen; omega
      case c4 => omega
      case c5 => simp; omega
      intro v1 w1 hown1 hgrow1 _ hv1
      have hb2 : Below W1.heap.size W1 w1 := (hb.alloc hbs _).grown hgrow1 (by simp; omega) (fun j hj => (hox.lt j hj).1)
      have hy1 := (hoy.alloc _).kept hgrow1 (.inr (fun h => HN.out h.symm))
      have hn1 := own_new HN.out hv1 hoy.lt (by simp)
      have HX1 := Lib.hid (And.intro hown1 hn1)
      clear hown1 hn1 hv1 hgrow1 hox hoy hb HN
      have hbs2 := hb2.size
      go_wp2_with (first | (at_builtin; refine wpList_append_own_at _ rfl _ _ 136 rfl W1.heap.size 3 i0 (.int .i64 0) 1 8 und_ints hi hz0 hz1 hz2 rfl (by decide) _ _ _ rfl (hy1.alloc _) ⟨w1.heap.size, 0, none⟩ 1 1 [.int .i64 (y2 : Int)] rfl rfl ?c1 ?c2 ?c3 ?c4 ?c5 ?_))
      case c1 =>
        intro j u hj
        match j, hj with
        | 0, hj => simp at hj; subst hj; simp [Addr.add]
      case c2 => intro u hu; simp at hu; subst hu; rfl
      case c3 => unfold maxLen; omega
      case c4 => omega
      case c5 => simp; omega
      intro v2 w2 hown2 hgrow2 _ hv2
      have hb3 : Below W1.heap.size W1 w2 := (hb2.alloc hbs2 _).grown hgrow2 (by simp; omega) (fun j hj => (hy1.lt j hj).1)
      have hx2 := (HX1.out.1.alloc (.cells #[.int .i64 (y2 : Int)] 3)).kept hgrow2 (.inr HX1.out.2)
      have hn2 := (own_new HX1.out.2.symm hv2 HX1.out.1.lt (by simp)).symm
      have HX2 := Lib.hid (And.intro hb3 (And.intro hx2 (And.intro hown2 hn2)))
      clear hb3 hx2 hown2 hn2 hv2 hgrow2 hy1 hb2 HX1
      go_wp2
      go_roundw
      case rel => exact ⟨k + 1, by omega, by go_num, HX2.out.1, by rw [HS.out.1]; exact HX2.out.2.1, by rw [HS.out.2]; exact HX2.out.2.2.1, HX2.out.2.2.2⟩
      case measure => simp [intOf]; omega
    · obtain rfl : k = 16 := by omega
      have HN := Lib.hid hne
      clear hne LCp LCq
      go_wp2_with (first | (at_builtin; refine wpList_append_own_at _ rfl _ _ 136 rfl W1.heap.size 3 i0 (.int .i64 0) 1 8 und_ints hi hz0 hz1 hz2 rfl (by decide) _ _ _ rfl (hox.alloc _) ⟨wr.heap.size, 0, none⟩ 1 1 [.int .i64 p.n] rfl rfl ?c1 ?c2 ?c3 ?c4 ?c5 ?_))
      case c1 =>
        intro j u hj
        match j, hj with
        | 0, hj => simp at hj; subst hj; simp [Addr.add]
      case c2 => intro u hu; simp at hu; subst hu; rfl
      case c3 => unfold maxLen; omega
      case c4 => omega
      case c5 => simp; omega
      intro v1 w1 hown1 hgrow1 _ hv1
      have hb2 : Below W1.heap.size W1 w1 := (hb.alloc hbs _).grown hgrow1 (by simp; omega) (fun j hj => (hox.lt j hj).1)
      have hy1 := (hoy.alloc (.cells #[.int .i64 p.n] 3)).kept hgrow1 (.inr (fun h => HN.out h.symm))
      have hn1 := own_new HN.out hv1 hoy.lt (by simp)
      have HX1 := Lib.hid (And.intro hown1 hn1)
      clear hown1 hn1 hv1 hgrow1 hox hoy hb HN
      have hbs2 := hb2.size
      go_wp2_with (first | (at_builtin; refine wpList_append_own_at _ rfl _ _ 136 rfl W1.heap.size 3 i0 (.int .i64 0) 1 8 und_ints hi hz0 hz1 hz2 rfl (by decide) _ _ _ rfl (hy1.alloc _) ⟨w1.heap.size, 0, none⟩ 1 1 [.int .i64 q.n] rfl rfl ?c1 ?c2 ?c3 ?c4 ?c5 ?_))
      case c1 =>
        intro j u hj
        match j, hj with
        | 0, hj => simp at hj; subst hj; simp [Addr.add]
      case c2 => intro u hu; simp at hu; subst hu; rfl
      case c3 => unfold maxLen; omega
      case c4 => omega
      case c5 => simp; omega
      intro v2 w2 hown2 hgrow2 _ hv2
      have hb3 : Below W1.heap.size W1 w2 := (hb2.alloc hbs2 _).grown hgrow2 (by simp; omega) (fun j hj => (hy1.lt j hj).1)
      have hx2 := (HX1.out.1.alloc (.cells #[.int .i64 q.n] 3)).kept hgrow2 (.inr HX1.out.2)
      have hx5 : w2.ownsRow W1.heap.size 3 1 v1 18 ((rowP p).map inc) := by rw [← rowK_all]; exact hx2
      have hy5 : w2.ownsRow W1.heap.size 3 1 v2 18 ((rowP q).map inc) := by rw [← rowK_all]; exact hown2
      obtain ⟨g1, cap1, rfl⟩ := row_form hx5
      obtain ⟨g2, cap2, rfl⟩ := row_form hy5
      have FP := row_at hx5 (rowP_len p)
      have FQ := row_at hy5 (rowP_len q)
      have HX2 := Lib.hid (bel_trans HB.out hb3)
      have HD := Lib.hid (fun k (h : k < 18) => (or_drop (zipC (rowP p) (rowP q)) k (by rw [zipC_len _ _ (by rw [rowP_len, rowP_len]), rowP_len]; exact h)).trans (by rw [zipC_at _ _ _ (by rw [rowP_len]; exact h) (by rw [rowP_len, rowP_len])]))
      have HL := Lib.hid (show (zipC (rowP p) (rowP q)).drop 18 = [] from List.drop_eq_nil_of_le (by rw [zipC_len _ _ (by rw [rowP_len, rowP_len]), rowP_len]; omega))
      clear hb3 hx2 hown2 hv2 hgrow2 hy1 hb2 HX1 hx5 hy5
      clear LPp LAp LBp LVp LNp LPq LAq LBq LVq LNq LD LE h0
      generalize zipC (rowP p) (rowP q) = D at *
      generalize rowP p = X at *
      generalize rowP q = Y at *
      have FP2 := fun j hj w' (h : Below w2.heap.size w2 w') => (h.cell (cell_lt (FP j hj))).trans (FP j hj)
      have FQ2 := fun j hj w' (h : Below w2.heap.size w2 w') => (h.cell (cell_lt (FQ j hj))).trans (FQ j hj)
      have h02 : Below w2.heap.size w2 w2 := Below.refl _ _
      clear FP FQ
      go_wp2_with fail
      go_loopw [8] (fun i wr => ∃ k : Nat, k ≤ 18 ∧ i = .int .i64 k ∧ orL (D.drop k) = orL D ∧ Below w2.heap.size w2 wr) (fun i _ => 18 - (intOf i).toNat)
      case atStart => exact ⟨0, Nat.zero_le _, rfl, by rw [List.drop_zero], h02⟩
      case round =>
        obtain ⟨k, hk, rfl, ho, hkw⟩ := hrel
        by_cases hlt : k < 18
        · have hc1 := FP2 k hlt
          have hc2 := FQ2 k hlt
          have HO := Lib.hid (And.intro ho (HD.out k hlt))
          have d1 : decide ((k : Int) < 18) = true := by simp; omega
          generalize X.getD k 0 = x at *
          generalize Y.getD k 0 = y at *
          have hk18 : (k : Int) < 18 := by omega
          clear ho FP2 FQ2
          have h3 : (decide (x < y) = true ∧ cmpI x y = -1) ∨ (decide (x < y) = false ∧ decide (y < x) = true ∧ cmpI x y = 1) ∨ (decide (x < y) = false ∧ decide (y < x) = false ∧ cmpI x y = 0) := by
            unfold cmpI
            by_cases h1 : x < y
            · simp [h1]
            · by_cases h2 : y < x
              · simp [h1, h2]
              · simp [h1, h2]
          rcases h3 with ⟨d2, e⟩ | ⟨d2, d3, e⟩ | ⟨d2, d3, e⟩
          · have HF := Lib.hid (show cmpP p q = -1 by rw [← HE.out, ← HO.out.1, HO.out.2, e]; rfl)
            clear e
            go_wp2_with (first   | (refine wp_region_lin (fun w' => Below w2.heap.size w2 w') (by kernel_rfl) (by kernel_rfl) (bel_drew (by assumption)) ?_; (repeat (first | (refine lin_off (by rfl) ?_; (try simp only [Act.put, List.setIfInBounds_toArray, List.set_cons_zero, List.set_cons_succ])) | (refine lin_op (v := ?_) (by rfl) (fun w9 hS9 => ?_) ?_; rotate_left; (focus (((try dsimp only at hS9); go_simp; (try go_bits)) <;> with_reducible rfl)); (try simp only [Act.put, List.setIfInBounds_toArray, List.set_cons_zero, List.set_cons_succ])) )); refine lin_nil (fun w8 hS8 => ?_)))
            all_goals go_ret
            all_goals exact ⟨by rw [HF.out]; rfl, bel_trans HX2.out (by assumption)⟩
          · have HF := Lib.hid (show cmpP p q = 1 by rw [← HE.out, ← HO.out.1, HO.out.2, e]; rfl)
            clear e
            go_wp2_with (first   | (refine wp_region_lin (fun w' => Below w2.heap.size w2 w') (by kernel_rfl) (by kernel_rfl) (bel_drew (by assumption)) ?_; (repeat (first | (refine lin_off (by rfl) ?_; (try simp only [Act.put, List.setIfInBounds_toArray, List.set_cons_zero, List.set_cons_succ])) | (refine lin_op (v := ?_) (by rfl) (fun w9 hS9 => ?_) ?_; rotate_left; (focus (((try dsimp only at hS9); go_simp; (try go_bits)) <;> with_reducible rfl)); (try simp only [Act.put, List.setIfInBounds_toArray, List.set_cons_zero, List.set_cons_succ])) )); refine lin_nil (fun w8 hS8 => ?_)))
            all_goals go_ret
            all_goals exact ⟨by rw [HF.out]; rfl, bel_trans HX2.out (by assumption)⟩
          · have HF := Lib.hid (show orL (D.drop (k + 1)) = orL D by rw [← HO.out.1, HO.out.2, e]; rfl)
            clear e
            go_wp2_with (first   | (refine wp_region_lin (fun w' => Below w2.heap.size w2 w') (by kernel_rfl) (by kernel_rfl) (bel_drew (by assumption)) ?_; (repeat (first | (refine lin_off (by rfl) ?_; (try simp only [Act.put, List.setIfInBounds_toArray, List.set_cons_zero, List.set_cons_succ])) | (refine lin_op (v := ?_) (by rfl) (fun w9 hS9 => ?_) ?_; rotate_left; (focus (((try dsimp only at hS9); go_simp; (try go_bits)) <;> with_reducible rfl)); (try simp only [Act.put, List.setIfInBounds_toArray, List.set_cons_zero, List.set_cons_succ])) )); refine lin_nil (fun w8 hS8 => ?_)))
            all_goals go_roundw
            case rel => exact ⟨k + 1, by omega, by go_num, HF.out, by assumption⟩
            case measure => simp [intOf]; omega
        · obtain rfl : k = 18 := by omega
          have HF := Lib.hid (show cmpP p q = 0 by rw [← HE.out, ← ho, HL.out]; rfl)
          clear ho FP2 FQ2
          go_wp2
          go_ret
          exact ⟨by rw [HF.out]; rfl, bel_trans HX2.out (by assumption)⟩
end Go.Proofs.YtclkfmblogkakaaDoor
namespace Go.Proofs.YtclkfmblogkakaaDoor
open Go.RowKit Go.Shelf
set_option linter.unusedVariables false
attribute [local go_sem ↓] load_b16_rule store_b16_rule load_ad_rule store_ad_rule load_px_rule store_px_rule eq_b16_rule eq_ad_rule eq_px_rule build_ad_rule build_px_rule build_b16_rule

theorem of_okA {a : Ad} {n : Int} (h : okA a) (h0 : 0 ≤ n) (h1 : n ≤ (wid a.v : Int)) : ofE a n = 0 ∧ ofP a n = ⟨⟨a.v, keptB a.b n.toNat⟩, n⟩ := by
  unfold ofE ofP
  exact ⟨by rw [if_pos h, if_pos ⟨h0, h1⟩], if_pos ⟨h, h0, h1⟩⟩
theorem kept_okA {a : Ad} (h : okA a) (n : Nat) : okA ⟨a.v, keptB a.b n⟩ := ⟨h.1, fun i h1 h2 => by
  rw [bt_kept _ _ _ h2, h.2 i h1 h2, Bool.and_false]⟩
theorem of_okP {a : Ad} {n : Int} (h : okA a) (h0 : 0 ≤ n) (h1 : n ≤ (wid a.v : Int)) : okP ⟨⟨a.v, keptB a.b n.toNat⟩, n⟩ :=
  ⟨kept_okA h _, h0, h1, kept_clear _ _⟩
theorem of_has {a : Ad} {n : Int} (h : okA a) (h0 : 0 ≤ n) (h1 : n ≤ (wid a.v : Int)) : hasM ⟨⟨a.v, keptB a.b n.toNat⟩, n⟩ a := ⟨of_okP h h0 h1, h, rfl, rfl⟩
theorem of_bit {a : Ad} (h : okA a) (n : Nat) (i : Nat) (hi : i < wid a.v) : bitV ⟨a.v, keptB a.b n⟩ (i : Int) = if i < n then bitV a (i : Int) else 0 := by
  have hw := wid_le a.v
  have e1 : bitV ⟨a.v, keptB a.b n⟩ (i : Int) = btI (keptB a.b n) i := by
    unfold bitV
    rw [if_pos ⟨kept_okA h n, by omega, by exact_mod_cast hi⟩, Int.toNat_natCast]
  have e2 : bitV a (i : Int) = btI a.b i := by
    unfold bitV
    rw [if_pos ⟨h, by omega, by exact_mod_cast hi⟩, Int.toNat_natCast]
  rw [e1, e2]
  unfold btI
  rw [bt_kept _ _ _ (by omega)]
  by_cases hn : i < n
  · rw [if_pos hn, decide_eq_true hn, Bool.true_and]
  · rw [if_neg hn, decide_eq_false hn, Bool.false_and]; rfl
theorem kept_kept (b : B16) {n m : Nat} (h : n ≤ m) : keptB (keptB b m) n = keptB b n := bt_ext fun i hi => by
  rw [bt_kept _ _ _ hi, bt_kept _ _ _ hi, bt_kept _ _ _ hi]
  by_cases h1 : i < n
  · rw [decide_eq_true (show i < m by omega), Bool.true_and]
  · rw [decide_eq_false h1, Bool.false_and, Bool.false_and]
theorem of_holds {a : Ad} {n m : Int} (h : okA a) (h0 : 0 ≤ n) (h1 : n ≤ (wid a.v : Int)) (h2 : 0 ≤ m) (h3 : m ≤ (wid a.v : Int)) :
    decide (holdsM ⟨⟨a.v, keptB a.b n.toNat⟩, n⟩ ⟨⟨a.v, keptB a.b m.toNat⟩, m⟩) = decide (n ≤ m) := by
  rw [decide_eq_decide]
  constructor
  · exact fun k => k.2.1
  · intro k
    exact ⟨of_okP h h2 h3, k, of_okP h h0 h1, kept_okA h _, rfl, (kept_kept _ (by omega)).symm⟩

end Go.Proofs.YtclkfmblogkakaaDoor
namespace Go.Proofs.YtclkfmblogkakaaDoor
open Go.RowKit Go.Shelf
set_option linter.unusedVariables false

theorem cmpI_cases (x y : Int) : (x < y ∧ cmpI x y = -1) ∨ (x = y ∧ cmpI x y = 0) ∨ (y < x ∧ cmpI x y = 1) := by
  unfold cmpI
  by_cases h1 : x < y
  · simp [h1]
  · by_cases h2 : y < x
    · simp [h1, h2]
    · have : x = y := by omega
      simp [this]
theorem or_cons0 {x : Int} (l : List Int) (h : x = 0) : orL (x :: l) = orL l := if_pos h
theorem or_cons1 {x : Int} (l : List Int) (h : x ≠ 0) : orL (x :: l) = x := if_neg h
theorem lex_zero : ∀ (l m : List Int), l.length = m.length → (orL (zipC l m) = 0 ↔ l = m)
  | [], [], _ => by simp [zipC, orL]
  | [], _ :: _, h => by simp at h
  | _ :: _, [], h => by simp at h
  | x :: l, y :: m, h => by
    have ih := lex_zero l m (by simpa using h)
    simp only [zipC]
    rcases cmpI_cases x y with ⟨h1, e⟩ | ⟨h1, e⟩ | ⟨h1, e⟩
    · rw [or_cons1 _ (by omega), e]
      simp only [List.cons.injEq]
      constructor
      · intro h2; omega
      · intro h2; omega
    · rw [or_cons0 _ e, ih, h1]
      simp
    · rw [or_cons1 _ (by omega), e]
      simp only [List.cons.injEq]
      constructor
      · intro h2; omega
      · intro h2; omega
theorem lex_neg : ∀ (l m : List Int), orL (zipC l m) = - orL (zipC m l)
  | [], [] => by simp [zipC, orL]
  | [], _ :: _ => by simp [zipC, orL]
  | _ :: _, [] => by simp [zipC, orL]
  | x :: l, y :: m => by
    have ih := lex_neg l m
    simp only [zipC]
    rcases cmpI_cases x y with ⟨h1, e⟩ | ⟨h1, e⟩ | ⟨h1, e⟩ <;> rcases cmpI_cases y x with ⟨h2, e2⟩ | ⟨h2, e2⟩ | ⟨h2, e2⟩
    all_goals first
      | (exfalso; omega)
      | (rw [or_cons1 _ (by omega), or_cons1 _ (by omega), e, e2] <;> rfl)
      | (rw [or_cons0 _ e, or_cons0 _ e2, ih])
theorem lex_three : ∀ (l m : List Int), orL (zipC l m) = -1 ∨ orL (zipC l m) = 0 ∨ orL (zipC l m) = 1
  | [], [] => by simp [zipC, orL]
  | [], _ :: _ => by simp [zipC, orL]
  | _ :: _, [] => by simp [zipC, orL]
  | x :: l, y :: m => by
    have ih := lex_three l m
    simp only [zipC]
    rcases cmpI_cases x y with ⟨h1, e⟩ | ⟨h1, e⟩ | ⟨h1, e⟩
    · rw [or_cons1 _ (by omega), e]; simp
    · rw [or_cons0 _ e]; exact ih
    · rw [or_cons1 _ (by omega), e]; simp
theorem lex_lt : ∀ (l m n : List Int), l.length = m.length → m.length = n.length → orL (zipC l m) < 0 → orL (zipC m n) < 0 → orL (zipC l n) < 0
  | [], [], _, _, _, h1, _ => by simp [zipC, orL] at h1
  | [], _ :: _, _, h, _, _, _ => by simp at h
  | _ :: _, [], _, h, _, _, _ => by simp at h
  | _ :: _, _ :: _, [], _, h, _, _ => by simp at h
  | x :: l, y :: m, z :: n, h1, h2, h3, h4 => by
    have ih := lex_lt l m n (by simpa using h1) (by simpa using h2)
    simp only [zipC] at h3 h4 ⊢
    rcases cmpI_cases x y with ⟨a1, e1⟩ | ⟨a1, e1⟩ | ⟨a1, e1⟩
    · rw [or_cons1 _ (by omega)] at h3
      rcases cmpI_cases y z with ⟨a2, e2⟩ | ⟨a2, e2⟩ | ⟨a2, e2⟩
      · rcases cmpI_cases x z with ⟨a3, e3⟩ | ⟨a3, e3⟩ | ⟨a3, e3⟩
        · rw [or_cons1 _ (by omega)]; omega
        · omega
        · omega
      · rcases cmpI_cases x z with ⟨a3, e3⟩ | ⟨a3, e3⟩ | ⟨a3, e3⟩
        · rw [or_cons1 _ (by omega)]; omega
        · omega
        · omega
      · rw [or_cons1 _ (by omega)] at h4; omega
    · rw [or_cons0 _ e1] at h3
      rcases cmpI_cases y z with ⟨a2, e2⟩ | ⟨a2, e2⟩ | ⟨a2, e2⟩
      · rcases cmpI_cases x z with ⟨a3, e3⟩ | ⟨a3, e3⟩ | ⟨a3, e3⟩
        · rw [or_cons1 _ (by omega)]; omega
        · omega
        · omega
      · rw [or_cons0 _ e2] at h4
        rcases cmpI_cases x z with ⟨a3, e3⟩ | ⟨a3, e3⟩ | ⟨a3, e3⟩
        · rw [or_cons1 _ (by omega)]; omega
        · rw [or_cons0 _ e3]; exact ih h3 h4
        · omega
      · rw [or_cons1 _ (by omega)] at h4; omega
    · rw [or_cons1 _ (by omega)] at h3; omega
theorem rowP_inj {p q : Px} (h : rowP p = rowP q) : p = q := by
  unfold rowP at h
  simp only [List.cons_append, List.cons.injEq] at h
  have hl : (p.a.b.l.map Int.ofNat).length = (q.a.b.l.map Int.ofNat).length := by simp [p.a.b.len, q.a.b.len]
  have h2 := List.append_inj h.2 hl
  have h3 : p.a.b.l = q.a.b.l := (List.map_inj_right (fun a b h => Int.ofNat.inj h)).1 h2.1
  exact Px.same.2 ⟨Ad.same.2 ⟨h.1, B16.same h3⟩, by simpa using h2.2⟩
theorem cmpP_zero (p q : Px) : cmpP p q = 0 ↔ p = q := by
  rw [← or_rows, lex_zero _ _ (by rw [rowP_len, rowP_len])]
  exact ⟨rowP_inj, fun h => by rw [h]⟩
theorem cmpP_neg (p q : Px) : cmpP p q = - cmpP q p := by rw [← or_rows, ← or_rows]; exact lex_neg _ _
theorem cmpP_three (p q : Px) : cmpP p q = -1 ∨ cmpP p q = 0 ∨ cmpP p q = 1 := by rw [← or_rows]; exact lex_three _ _
theorem cmpP_lt (p q r : Px) : cmpP p q < 0 → cmpP q r < 0 → cmpP p r < 0 := by
  rw [← or_rows, ← or_rows, ← or_rows]
  exact lex_lt _ _ _ (by rw [rowP_len, rowP_len]) (by rw [rowP_len, rowP_len])
theorem cmpB_le : ∀ (l m : List Nat), l.length = m.length → (∀ i, i < l.length → l.getD i 0 ≤ m.getD i 0) → cmpB l m ≤ 0
  | [], [], _, _ => by simp [cmpB]
  | [], _ :: _, h, _ => by simp at h
  | _ :: _, [], h, _ => by simp at h
  | a :: l, b :: m, h, hi => by
    have h0 := hi 0 (by simp)
    simp only [List.getD_cons_zero] at h0
    have ih := cmpB_le l m (by simpa using h) (fun i hl => by
      have := hi (i + 1) (by simpa using hl)
      simpa only [List.getD_cons_succ] using this)
    simp only [cmpB]
    split
    · omega
    · split
      · omega
      · exact ih
theorem holds_refl {p : Px} (h : okP p) : holdsM p p := ⟨h, Int.le_refl _, h, h.1, rfl, ((kept_iff _ _).2 h.2.2.2).symm⟩
theorem holds_okP {p q : Px} (h : holdsM p q) : okP p ∧ okP q := ⟨h.2.2.1, h.1⟩
theorem holds_same {p q : Px} (h : holdsM p q) (k : holdsM q p) : p = q := by
  have hn : p.n = q.n := Int.le_antisymm h.2.1 k.2.1
  have h1 := h.2.2.2.2.2
  rw [hn, (kept_iff _ _).2 h.1.2.2.2] at h1
  exact Px.same.2 ⟨Ad.same.2 ⟨h.2.2.2.2.1, h1⟩, hn⟩
theorem holds_trans {p q r : Px} (h : holdsM p q) (k : holdsM q r) : holdsM p r := by
  have hp := okP_le h.2.2.1
  refine ⟨k.1, Int.le_trans h.2.1 k.2.1, h.2.2.1, k.1.1, h.2.2.2.2.1.trans k.2.2.2.2.1, ?_⟩
  have h1 := h.2.2.2.2.2
  rw [k.2.2.2.2.2, kept_kept _ (by have := h.2.1; omega)] at h1
  exact h1
theorem has_both {p q : Px} {a : Ad} (h : hasM p a) (k : hasM q a) : holdsM p q ∨ holdsM q p := by
  have key : ∀ {p q : Px}, hasM p a → hasM q a → p.n ≤ q.n → holdsM p q := fun {p q} h k hn => by
    refine ⟨k.1, hn, h.1, k.1.1, h.2.2.1.trans k.2.2.1.symm, ?_⟩
    rw [k.2.2.2, kept_kept _ (by omega)]
    exact h.2.2.2
  by_cases hn : p.n ≤ q.n
  · exact .inl (key h k hn)
  · exact .inr (key k h (by omega))
theorem holds_cmp {p q : Px} (h : holdsM p q) : cmpP p q ≤ 0 := by
  have h1 : cmpB p.a.b.l q.a.b.l ≤ 0 := by
    refine cmpB_le _ _ (by rw [p.a.b.len, q.a.b.len]) fun i hi => ?_
    have h2 : p.a.b.at i = keepN (q.a.b.at i) (stayN p.n.toNat i) := by
      have h3 := h.2.2.2.2.2
      have h4 := keptB_at q.a.b p.n.toNat i (by rw [← p.a.b.len]; exact hi)
      rw [← h3] at h4
      exact h4
    have h5 := keepN_le (q.a.b.at i) (stayN p.n.toNat i)
    rw [← h2] at h5
    exact h5
  have h2 : cmpI p.a.v q.a.v = 0 := by rw [h.2.2.2.2.1]; simp [cmpI]
  have h3 : cmpI p.n q.n ≤ 0 := by
    have := h.2.1
    rcases cmpI_cases p.n q.n with ⟨a, e⟩ | ⟨a, e⟩ | ⟨a, e⟩ <;> omega
  unfold cmpP
  rw [or_cons0 _ h2]
  by_cases h4 : cmpB p.a.b.l q.a.b.l = 0
  · rw [or_cons0 _ h4]
    by_cases h5 : cmpI p.n q.n = 0
    · rw [or_cons0 _ h5]; simp [orL]
    · rw [or_cons1 _ h5]; exact h3
  · rw [or_cons1 _ h4]; exact h1
end Go.Proofs.YtclkfmblogkakaaDoor
