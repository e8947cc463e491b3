/-
  The walk of PrefixOf. Nothing here is a statement of the document.
-/
import Derived.Test.YtclkfmblogkakaaGreatDoorPfxM
import Derived.Test.YtclkfmblogkakaaGreatDoorDskB
import Derived.Maps.AppendAt
namespace Go.Proofs.YtclkfmblogkakaaGreatDoor
open Go.RowKit Go.Shelf
set_option linter.unusedVariables false

theorem build_b16_rule (ps : Array (Nat × Value)) : Instr.build 39 ps = buildSem 39 ps := rfl
def tenB : B16 := ⟨[10, 1, 2, 3, 0, 0, 0, 0, 0, 0, 0, 0, 0, 0, 0, 0], rfl, by unfold Bys; decide⟩
def ten8 : B16 := ⟨[10, 0, 0, 0, 0, 0, 0, 0, 0, 0, 0, 0, 0, 0, 0, 0], rfl, by unfold Bys; decide⟩
def tenA : Ad := ⟨4, tenB⟩
def tenP : Px := ⟨⟨4, ten8⟩, 8⟩
theorem build_ten (w : World) : (buildSem 39 #[(0, .int .u8 10), (1, .int .u8 1), (2, .int .u8 2), (3, .int .u8 3)]).run Tryz.prog w = .ok (.agg tenB.cs) w := by kernel_rfl
theorem ten_kept : keptB tenB 8 = ten8 := B16.same rfl
theorem ten8_kept : keptB ten8 8 = ten8 := B16.same rfl
theorem ten_clear : clear tenB 32 := by
  have : ∀ i, i < 128 → 32 ≤ i → bt tenB i = false := by decide +kernel
  exact fun i h1 h2 => this i h2 h1
theorem ten8_clear : clear ten8 8 := (kept_iff _ _).1 ten8_kept
theorem ten_okA : okA tenA := ⟨by decide, ten_clear⟩
theorem ten_okP : okP tenP := ⟨⟨by decide, clear_mono ten8_clear (by decide)⟩, by decide, by decide, ten8_clear⟩
theorem ten_ofP : ofP tenA 8 = tenP := by
  have : ofP tenA 8 = ⟨⟨4, keptB tenB 8⟩, 8⟩ := if_pos ⟨ten_okA, by decide, by decide⟩
  rw [this, ten_kept]
  rfl
theorem ten_ofE : ofE tenA 8 = 0 := by
  unfold ofE
  rw [if_pos ten_okA, if_pos (by decide)]
theorem ten_hasM : hasM tenP tenA := ⟨ten_okP, ten_okA, rfl, ten_kept.symm⟩
theorem ten_enc : encP tenP = [4, 8, 10] := rfl
theorem ten_decE : decPE [4, 8, 10] = 0 := by
  unfold decPE
  rw [if_neg (by decide), if_neg (by decide), if_neg (by decide), if_neg (by decide)]
  unfold bodyE
  have e : padF [4, 8, 10] 2 (by1 [4, 8, 10]) = ten8 := B16.same rfl
  rw [if_neg (by decide), e, show by1 [4, 8, 10] = 8 from rfl, if_pos ten8_kept]
theorem ten_decX : decPX [4, 8, 10] = tenP := by
  have h : decPX [4, 8, 10] = ⟨⟨(by0 [4, 8, 10] : Int), padF [4, 8, 10] 2 (by1 [4, 8, 10])⟩, (by1 [4, 8, 10] : Int)⟩ := if_pos ten_decE
  have e : padF [4, 8, 10] 2 (by1 [4, 8, 10]) = ten8 := B16.same rfl
  rw [h, e]
  rfl
theorem ten_decN : decPN [4, 8, 10] = 3 := by
  have h : decPN [4, 8, 10] = 2 + fill8 (by1 [4, 8, 10]) := if_pos ten_decE
  rw [h]
  rfl
theorem ten_nib : nibW tenA 1 = 10 := by
  unfold nibW
  rw [if_pos (by decide)]
  unfold nibV bitV
  rw [if_pos ⟨ten_okA, by decide, by decide⟩, if_pos ⟨ten_okA, by decide, by decide⟩, if_pos ⟨ten_okA, by decide, by decide⟩, if_pos ⟨ten_okA, by decide, by decide⟩]
  decide +kernel
/-- What owns a row of bytes lies. -/
theorem own_lies {w : World} {B : Nat} {v : Value} {l : List Nat} (h : w.ownsRow B 5 1 v l.length (l.map byc)) : ∃ a cap, v = .slice a l.length cap ∧ Lies w a l ∧ l.length ≤ cap ∧ cap ≤ 9223372036854775807 ∧ (a = none → l = []) := by
  rcases h.2 with ⟨rfl, h0⟩ | ⟨g, cap, cur, rfl, hb, hg, hc, hm, hs, ht⟩
  · have : l = [] := List.eq_nil_of_length_eq_zero h0
    subst this
    exact ⟨none, 0, rfl, .inl rfl, Nat.le_refl _, by omega, fun _ => rfl⟩
  · refine ⟨_, cap, rfl, ?_, hc, by unfold maxLen at hm; omega, fun e => by cases e⟩
    refine .inr ⟨g, 0, rfl, (Array.getElem?_eq_some_iff.1 hg).1, fun i hi => ?_⟩
    rw [Nat.zero_add]
    have h1 : cur.toList[i]? = (l.map byc)[i]? := by
      rw [← ht, List.getElem?_take, if_pos (by omega)]
    have h2 : w.cell? ⟨g, i, none⟩ = cur[i]? := cell_of_row w g i cur _ (0, 0) hg
    rw [h2, ← Array.getElem?_toList, h1]
    simp [byc, hi]
attribute [local go_sem ↓] load_b16_rule store_b16_rule load_ad_rule store_ad_rule load_px_rule store_px_rule eq_b16_rule eq_ad_rule eq_px_rule build_ad_rule build_px_rule build_b16_rule

end Go.Proofs.YtclkfmblogkakaaGreatDoor
namespace Go.Proofs.YtclkfmblogkakaaGreatDoor
open Go.RowKit Go.Shelf
set_option linter.unusedVariables false

/-- Which of two ints comes first. -/
def cmpI (x y : Int) : Int := if x < y then -1 else if y < x then 1 else 0
/-- The first one that is not nought. -/
def orL : List Int → Int
  | [] => 0
  | x :: l => if x = 0 then orL l else x
noncomputable def cmpP (p q : Px) : Int := orL [cmpI p.a.v q.a.v, cmpB p.a.b.l q.a.b.l, cmpI p.n q.n]
set_option maxHeartbeats 400000 in
theorem nanI (x : Int) (w : World) : Calls Tryz.prog 89 #[.int .i64 x] w fun e w' => e = .returned (.bool false) ∧ w = w' := by
  have h : (x != x) = false := by simp
  go_enter Tryz.func89, Tryz.ntmps89
  go_wp2
  go_ret
  exact ⟨rfl, rfl⟩
set_option maxHeartbeats 800000 in
theorem cmpI_any (x y : Int) (w : World) : Calls Tryz.prog 72 #[.int .i64 x, .int .i64 y] w fun e w' => e = .returned (.int .i64 (cmpI x y)) ∧ w = w' := by
  have h3 : (decide (x < y) = true ∧ cmpI x y = -1) ∨ (decide (x < y) = false ∧ decide (y < x) = true ∧ cmpI x y = 1) ∨ (decide (x < y) = false ∧ decide (y < x) = false ∧ cmpI x y = 0) := by
    unfold cmpI
    by_cases h1 : x < y
    · simp [h1]
    · by_cases h2 : y < x
      · simp [h1, h2]
      · simp [h1, h2]
  generalize cmpI x y = z at *
  rcases h3 with ⟨d1, rfl⟩ | ⟨d1, d2, rfl⟩ | ⟨d1, d2, rfl⟩
  all_goals
    go_enter Tryz.func72, Tryz.ntmps72
    go_wp2_with (go_at_call 89; refine (nanI _ _).mono ?_; rintro e w' ⟨rfl, rfl⟩)
    go_ret
    exact ⟨rfl, rfl⟩
theorem or_drop (l : List Int) (k : Nat) (h : k < l.length) : orL (l.drop k) = if l.getD k 0 = 0 then orL (l.drop (k + 1)) else l.getD k 0 := by
  rw [List.drop_eq_getElem_cons h]
  simp [orL, h]
set_option maxHeartbeats 800000 in
theorem or_any (l : List Int) (n : Nat) (hn : l.length = n) (hm : n < 100) (g : Nat) (w : World) (hc : ∀ j, j < n → w.cell? ⟨g, j, none⟩ = some (.int .i64 (l.getD j 0))) : Calls Tryz.prog 87 #[.slice (some ⟨g, 0, none⟩) n n] w fun e w' => e = .returned (.int .i64 (orL l)) ∧ w = w' := by
  have H := Lib.hid (And.intro hn hc)
  clear hn hc
  go_enter Tryz.func87, Tryz.ntmps87
  go_wp2_with fail
  go_loopw [5, 8] (fun u i wr => ∃ k : Nat, k ≤ n ∧ i = .int .i64 k ∧ orL (l.drop k) = orL l ∧ wr = w) (fun u i _ => n - (intOf i).toNat)
  case atStart => exact ⟨0, Nat.zero_le _, rfl, by rw [List.drop_zero], by trivial⟩
  case round =>
    obtain ⟨k, hk, rfl, ho, rfl⟩ := hrel
    by_cases hlt : k < n
    · have hc := H.out.2 k hlt
      have hd := or_drop l k (by have := H.out.1; omega)
      have HO := Lib.hid (And.intro ho hd)
      generalize l.getD k 0 = x at *
      clear ho hd
      by_cases hx : x = 0
      · have HX := Lib.hid hx
        have d1 : (x != 0) = false := by simp [hx]
        clear hx
        go_wp2
        go_roundw
        case rel => exact ⟨k + 1, by omega, by go_num, by rw [← HO.out.1, HO.out.2, if_pos HX.out], by trivial⟩
        case measure => simp [intOf]; omega
      · have d1 : (x != 0) = true := by simp [hx]
        have HX := Lib.hid hx
        clear hx
        go_wp2
        go_ret
        exact ⟨by rw [← HO.out.1, HO.out.2, if_neg HX.out]; rfl, rfl⟩
    · obtain rfl : k = n := by omega
      have HO := Lib.hid (show orL l = 0 by rw [← ho, List.drop_eq_nil_of_le (by have := H.out.1; omega)]; rfl)
      clear ho
      go_wp2
      go_ret
      exact ⟨by rw [HO.out]; rfl, rfl⟩

attribute [local go_sem ↓] load_b16_rule store_b16_rule load_ad_rule store_ad_rule load_px_rule store_px_rule eq_b16_rule eq_ad_rule eq_px_rule build_ad_rule build_px_rule build_b16_rule

theorem px_lies {W : World} {g : Nat} {p : Px} (h : Blk W g 43 p.cs) : ∀ w', Below W.heap.size W w' → Lies w' (some ⟨g, 1, none⟩) p.a.b.l := fun w' hb => by
  have h' := h.later hb
  refine .inr ⟨g, 1, rfl, h'.lt, fun i hi => ?_⟩
  have hi16 : i < 16 := by rw [← p.a.b.len]; exact hi
  rw [h'.cell, p.cb i hi16, p.a.b.get i hi16]
  simp [B16.at, hi]

set_option maxRecDepth 100000 in
set_option maxHeartbeats 1600000 in
theorem compare_any (p q : Px) (w : World) : Calls Tryz.prog 71 #[.agg p.cs, .agg q.cs] w fun e w' => e = .returned (.int .i64 (cmpP p q)) ∧ Below w.heap.size w w' := by
  obtain ⟨W1, hW1⟩ : ∃ W1, (w.alloc (.cells p.cs 43)).alloc (.cells q.cs 43) = W1 := ⟨_, rfl⟩
  have hb1 : Below w.heap.size w W1 := by rw [← hW1]; exact (((Below.refl w.heap.size w).alloc (Nat.le_refl _) _).alloc (by simp) _)
  have b1 : Blk W1 (w.heap.size) 43 p.cs := by
    have h9 := Blk.new w 43 p.cs
    rw [← hW1]; exact (h9.alloc _)
  have b2 : Blk W1 (w.heap.size + 1) 43 q.cs := by
    have h9 := Blk.new (w.alloc (.cells p.cs 43)) 43 q.cs
    rw [World.size_alloc] at h9
    rw [← hW1]; exact h9
  have LPp := px_p b1
  have LAp := px_a b1
  have LBp := px_b b1
  have LVp := px_v b1
  have LNp := px_n b1
  have LPq := px_p b2
  have LAq := px_a b2
  have LBq := px_b b2
  have LVq := px_v b2
  have LNq := px_n b2
  have LIp := px_lies b1
  have LIq := px_lies b2
  have h0 : Below W1.heap.size W1 W1 := Below.refl _ _
  have HB := Lib.hid hb1
  clear hb1 b1 b2
  have LD := bel_drew_all W1
  have LE := bel_alloc_all W1
  have HCV := cmpI_any p.a.v q.a.v
  have HCN := cmpI_any p.n q.n
  have HCB := fun w' h => bcompare_any _ _ 16 16 16 16 _ _ w' p.a.b.len q.a.b.len p.a.b.bys q.a.b.bys (LIp w' h) (LIq w' h)
  have HOR := or_any [cmpI p.a.v q.a.v, cmpB p.a.b.l q.a.b.l, cmpI p.n q.n] 3 rfl (by omega)
  have HE := Lib.hid (show orL [cmpI p.a.v q.a.v, cmpB p.a.b.l q.a.b.l, cmpI p.n q.n] = cmpP p q from rfl)
  generalize cmpI p.a.v q.a.v = x1 at *
  generalize cmpI p.n q.n = x3 at *
  generalize cmpB p.a.b.l q.a.b.l = x2 at *
  clear LIp LIq
  go_enter Tryz.func71, Tryz.ntmps71
  go_wp2_with fail
  refine wp_region_linX (fun w' => Below W1.heap.size W1 w') [19, 20] [0, 1, 2, 3, 4, 5, 6, 7, 8, 9, 10, 11, 12, 13, 14, 15, 16, 17, 18, 19, 20, 21] (by kernel_rfl) (by kernel_rfl) (bel_drew (by assumption)) ?_
  (repeat (first | (refine linX_off rfl rfl (by rfl) ?_; (try simp only [Act.put, List.getElem_toArray, List.getElem_cons_zero, List.getElem_cons_succ, List.setIfInBounds_toArray, List.set_cons_zero, List.set_cons_succ])) | (refine linX_op (v := ?_) rfl rfl (by rfl) (fun w9 hS9 => ?_) ?_; rotate_left; (focus (((try dsimp only at hS9); go_simp; (try go_bits)) <;> with_reducible rfl)); (try simp only [Act.put, List.getElem_toArray, List.getElem_cons_zero, List.getElem_cons_succ, List.setIfInBounds_toArray, List.set_cons_zero, List.set_cons_succ])) | (refine linX_fn (f := 72) rfl rfl (by rfl) rfl rfl (enters_of Tryz.func72 (by kernel_rfl) rfl) (fun w9 hS9 => (HCV w9).mono (fun e w' h => ⟨h.1, h.2⟩)) ?_ ?_; (focus (simp [Act.eval]; done)); (try simp only [Act.put, List.getElem_toArray, List.getElem_cons_zero, List.getElem_cons_succ, List.setIfInBounds_toArray, List.set_cons_zero, List.set_cons_succ])) | (refine linX_fn (f := 72) rfl rfl (by rfl) rfl rfl (enters_of Tryz.func72 (by kernel_rfl) rfl) (fun w9 hS9 => (HCN w9).mono (fun e w' h => ⟨h.1, h.2⟩)) ?_ ?_; (focus (simp [Act.eval]; done)); (try simp only [Act.put, List.getElem_toArray, List.getElem_cons_zero, List.getElem_cons_succ, List.setIfInBounds_toArray, List.set_cons_zero, List.set_cons_succ])) | (refine linX_fn (f := 88) rfl rfl (by rfl) rfl rfl (enters_of Tryz.func88 (by kernel_rfl) rfl) (fun w9 hS9 => (HCB w9 hS9).mono (fun e w' h => ⟨h.1, h.2⟩)) ?_ ?_; (focus (simp [Act.eval]; done)); (try simp only [Act.put, List.getElem_toArray, List.getElem_cons_zero, List.getElem_cons_succ, List.setIfInBounds_toArray, List.set_cons_zero, List.set_cons_succ]))))
  refine linX_do (v := .slice (some ⟨W1.heap.size, 0, none⟩) 3 3) (w' := (W1.alloc (.cells #[.int .i64 x1, .int .i64 x2, .int .i64 x3] 3)).drew) rfl rfl (by rfl) ?_ ?_ ?_; (focus (go_simp; done))
  · exact LD _ (LE _ _ h0)
  (try simp only [Act.put, List.getElem_toArray, List.getElem_cons_zero, List.getElem_cons_succ, List.setIfInBounds_toArray, List.set_cons_zero, List.set_cons_succ])
  have hk3 : Below W1.heap.size W1 (W1.alloc (.cells #[.int .i64 x1, .int .i64 x2, .int .i64 x3] 3)).drew := LD _ (LE _ _ h0)
  have HC3 : ∀ j, j < 3 → (W1.alloc (.cells #[.int .i64 x1, .int .i64 x2, .int .i64 x3] 3)).drew.cell? ⟨W1.heap.size, j, none⟩ = some (.int .i64 ([x1, x2, x3].getD j 0)) := fun j hj => by
    rw [(Blk.drew (Blk.new W1 3 _)).cell]
    match j, hj with
    | 0, _ => rfl
    | 1, _ => rfl
    | 2, _ => rfl
  generalize (W1.alloc (.cells #[.int .i64 x1, .int .i64 x2, .int .i64 x3] 3)).drew = w3 at *
  refine linX_call (f := 87) (args := #[.slice (some ⟨W1.heap.size, 0, none⟩) 3 3]) rfl rfl (by rfl) rfl rfl (enters_of Tryz.func87 (by kernel_rfl) rfl) ?_ ?_; (focus (simp [Act.eval]; done)); refine (HOR W1.heap.size w3 HC3).mono ?_; rintro e w4 ⟨rfl, rfl⟩; refine ⟨_, rfl, hk3, ?_⟩
  (try simp only [Act.put, List.getElem_toArray, List.getElem_cons_zero, List.getElem_cons_succ, List.setIfInBounds_toArray, List.set_cons_zero, List.set_cons_succ])
  (repeat (first | (refine linX_off rfl rfl (by rfl) ?_; (try simp only [Act.put, List.getElem_toArray, List.getElem_cons_zero, List.getElem_cons_succ, List.setIfInBounds_toArray, List.set_cons_zero, List.set_cons_succ])) | (refine linX_op (v := ?_) rfl rfl (by rfl) (fun w9 hS9 => ?_) ?_; rotate_left; (focus (((try dsimp only at hS9); go_simp; (try go_bits)) <;> with_reducible rfl)); (try simp only [Act.put, List.getElem_toArray, List.getElem_cons_zero, List.getElem_cons_succ, List.setIfInBounds_toArray, List.set_cons_zero, List.set_cons_succ])) ))
  refine linX_nil ?_
  go_wp2
  go_ret
  exact ⟨by rw [HE.out]; rfl, bel_trans HB.out hk3⟩
end Go.Proofs.YtclkfmblogkakaaGreatDoor
namespace Go.Proofs.YtclkfmblogkakaaGreatDoor
open Go.RowKit Go.Shelf
set_option linter.unusedVariables false
attribute [local go_sem ↓] load_b16_rule store_b16_rule load_ad_rule store_ad_rule load_px_rule store_px_rule eq_b16_rule eq_ad_rule eq_px_rule build_ad_rule build_px_rule build_b16_rule

def inc (x : Int) : Value := .int .i64 x
theorem or_append : ∀ (l m : List Int), orL (l ++ m) = if orL l = 0 then orL m else orL l
  | [], m => by simp [orL]
  | x :: l, m => by
    have ih := or_append l m
    by_cases h : x = 0
    · have e : ∀ r, orL (x :: r) = orL r := fun r => if_pos h
      rw [List.cons_append, e, e, ih]
    · have e : ∀ r, orL (x :: r) = x := fun r => if_neg h
      rw [List.cons_append, e, e, if_neg h]
def zipC : List Int → List Int → List Int
  | x :: l, y :: m => cmpI x y :: zipC l m
  | _, _ => []
theorem zipC_len : ∀ (l m : List Int), l.length = m.length → (zipC l m).length = l.length
  | [], [], _ => rfl
  | [], _ :: _, h => by simp at h
  | _ :: _, [], h => by simp at h
  | _ :: l, _ :: m, h => by simp [zipC, zipC_len l m (by simpa using h)]
theorem zipC_at : ∀ (l m : List Int) (k : Nat), k < l.length → l.length = m.length → (zipC l m).getD k 0 = cmpI (l.getD k 0) (m.getD k 0)
  | [], [], k, h, _ => by simp at h
  | [], _ :: _, _, _, h => by simp at h
  | _ :: _, [], _, _, h => by simp at h
  | _ :: l, _ :: m, 0, _, _ => rfl
  | _ :: l, _ :: m, k + 1, h, h2 => by
    simp only [zipC, List.getD_cons_succ]
    exact zipC_at l m k (by simpa using h) (by simpa using h2)
theorem zipC_append : ∀ (l m l2 m2 : List Int), l.length = m.length → zipC (l ++ l2) (m ++ m2) = zipC l m ++ zipC l2 m2
  | [], [], _, _, _ => rfl
  | [], _ :: _, _, _, h => by simp at h
  | _ :: _, [], _, _, h => by simp at h
  | _ :: l, _ :: m, l2, m2, h => by simp [zipC, zipC_append l m l2 m2 (by simpa using h)]
theorem or_bytes : ∀ (l m : List Nat), l.length = m.length → orL (zipC (l.map Int.ofNat) (m.map Int.ofNat)) = cmpB l m
  | [], [], _ => rfl
  | [], _ :: _, h => by simp at h
  | _ :: _, [], h => by simp at h
  | a :: l, b :: m, h => by
    have ih := or_bytes l m (by simpa using h)
    simp only [List.map_cons, zipC, orL, cmpB, cmpI]
    by_cases h1 : a < b
    · have : Int.ofNat a < Int.ofNat b := by simpa using h1
      simp [h1]
    · by_cases h2 : b < a
      · simp [h1, h2]
      · simp [h1, h2, ih]
def rowP (p : Px) : List Int := p.a.v :: p.a.b.l.map Int.ofNat ++ [p.n]
theorem rowP_len (p : Px) : (rowP p).length = 18 := by simp [rowP, p.a.b.len]
theorem or_rows (p q : Px) : orL (zipC (rowP p) (rowP q)) = cmpP p q := by
  have hl : p.a.b.l.length = q.a.b.l.length := by rw [p.a.b.len, q.a.b.len]
  have h := or_bytes _ _ hl
  unfold rowP cmpP
  rw [zipC_append _ _ _ _ (by simp [hl])]
  simp only [zipC, List.cons_append, orL, or_append, h]
def rowK (p : Px) (k : Nat) : List Value := (p.a.v :: (p.a.b.l.take k).map Int.ofNat).map inc
theorem rowK_next (p : Px) (k : Nat) (hk : k < 16) : rowK p (k + 1) = rowK p k ++ [.int .i64 (p.a.b.at k : Int)] := by
  unfold rowK
  rw [take_more0 p.a.b.l k (by rw [p.a.b.len]; exact hk)]
  simp [B16.at, inc]
theorem rowK_all (p : Px) : rowK p 16 ++ [.int .i64 p.n] = (rowP p).map inc := by
  unfold rowK rowP
  rw [List.take_of_length_le (by rw [p.a.b.len]; exact Nat.le_refl _)]
  simp [inc]
theorem info_int : ∃ i, Tryz.prog.info? 3 = some i ∧ i.zero = some (.int .i64 0) ∧ i.size = 1 ∧ i.bytes = 8 := by
  have h : (Tryz.prog.info? 3).map (fun i => (i.zero, i.size, i.bytes)) = some (some (.int .i64 0), 1, 8) := by kernel_rfl
  obtain ⟨i, hi, he⟩ := Option.map_eq_some_iff.1 h
  simp only [Prod.mk.injEq] at he
  exact ⟨i, hi, he.1, he.2.1, he.2.2⟩
theorem own_new {w : World} {v1 x y : Value} {B m : Nat} (hne : x.ownBlock ≠ y.ownBlock) (hv : v1.ownBlock = x.ownBlock ∨ v1.ownBlock = some m) (hy : ∀ k, y.ownBlock = some k → B ≤ k ∧ k < w.heap.size) (hm : w.heap.size ≤ m) : v1.ownBlock ≠ y.ownBlock := fun h => by
  rcases hv with h9 | h9
  · exact hne (h9.symm.trans h)
  · have := (hy m (h.symm.trans h9)).2
    omega
theorem row_form {w : World} {B : Nat} {v : Value} {l : List Value} (h : w.ownsRow B 3 1 v 18 l) : ∃ g cap, v = .slice (some ⟨g, 0, none⟩) 18 cap := by
  rcases h.2 with ⟨_, h0⟩ | ⟨g, cap, _, h1, _⟩
  · omega
  · exact ⟨g, cap, h1⟩
theorem add_zero_addr (g j : Nat) : (⟨g, 0, none⟩ : Addr).add j = ⟨g, j, none⟩ := by
  unfold Addr.add
  split
  · rename_i h; rw [show j = 0 from by simpa using h]
  · simp
theorem row_at {w : World} {B g cap : Nat} {l : List Int} (h : w.ownsRow B 3 1 (.slice (some ⟨g, 0, none⟩) 18 cap) 18 (l.map inc)) (hl : l.length = 18) : ∀ j, j < 18 → w.cell? ⟨g, j, none⟩ = some (.int .i64 (l.getD j 0)) := fun j hj => by
  have := h.cells rfl j (inc (l.getD j 0)) (by simp [hl, hj])
  rw [add_zero_addr] at this
  exact this
theorem wrap_byte {x : Nat} (h : x < 256) : wrap64 (x : Int) = (x : Int) := by unfold wrap64; omega
theorem und_ints : Tryz.prog.underlying 121 = some (.slice 3) := by kernel_rfl
theorem own_int1 (w : World) (x : Int) {B : Nat} (hB : B ≤ w.heap.size) : (w.alloc (.cells #[.int .i64 x] 3)).ownsRow B 3 1 (.slice (some ⟨w.heap.size, 0, none⟩) 1 1) 1 [.int .i64 x] :=
  ⟨rfl, .inr ⟨w.heap.size, 1, _, rfl, hB, heap_alloc_new _ _, Nat.le_refl _, by unfold maxLen; omega, rfl, rfl⟩⟩

set_option maxRecDepth 100000 in
set_option maxHeartbeats 1600000 in
theorem refcompare_any (p q : Px) (w : World) : Calls Tryz.prog 59 #[.agg p.cs, .agg q.cs] w fun e w' => e = .returned (.int .i64 (cmpP p q)) ∧ Below w.heap.size w w' := by
  obtain ⟨i0, hi, hz0, hz1, hz2⟩ := info_int
  obtain ⟨W1, hW1⟩ : ∃ W1, (w.alloc (.cells p.cs 43)).alloc (.cells q.cs 43) = W1 := ⟨_, rfl⟩
  have hb1 : Below w.heap.size w W1 := by rw [← hW1]; exact (((Below.refl w.heap.size w).alloc (Nat.le_refl _) _).alloc (by simp) _)
  have b1 : Blk W1 (w.heap.size) 43 p.cs := by
    have h9 := Blk.new w 43 p.cs
    rw [← hW1]; exact (h9.alloc _)
  have b2 : Blk W1 (w.heap.size + 1) 43 q.cs := by
    have h9 := Blk.new (w.alloc (.cells p.cs 43)) 43 q.cs
    rw [World.size_alloc] at h9
    rw [← hW1]; exact h9
  have LPp := px_p b1
  have LAp := px_a b1
  have LBp := px_b b1
  have LVp := px_v b1
  have LNp := px_n b1
  have LPq := px_p b2
  have LAq := px_a b2
  have LBq := px_b b2
  have LVq := px_v b2
  have LNq := px_n b2
  have LCp := px_cell b1
  have LCq := px_cell b2
  have h0 : Below W1.heap.size W1 W1 := Below.refl _ _
  have HB := Lib.hid hb1
  clear hb1 b1 b2
  have LD := bel_drew_all W1
  have LE := bel_alloc_all W1
  have HE := Lib.hid (or_rows p q)
  have HO1 := fun (w' : World) (x : Int) (h : W1.heap.size ≤ w'.heap.size) => own_int1 w' x h
  go_enter Tryz.func59, Tryz.ntmps59
  go_wp2
  clear hW1
  go_loopw [5, 6, 7] (fun x y i wr => ∃ k : Nat, k ≤ 16 ∧ i = .int .i64 k ∧ Below W1.heap.size W1 wr ∧ wr.ownsRow W1.heap.size 3 1 x (1 + k) (rowK p k) ∧ wr.ownsRow W1.heap.size 3 1 y (1 + k) (rowK q k) ∧ x.ownBlock ≠ y.ownBlock) (fun x y i _ => 16 - (intOf i).toNat)
  case atStart =>
    refine ⟨0, by omega, rfl, LE _ _ (LE _ _ h0), ?_, ?_, ?_⟩
    · exact (own_int1 W1 p.a.v (Nat.le_refl _)).alloc _
    · have h9 := own_int1 (W1.alloc (.cells #[.int .i64 p.a.v] 3)) q.a.v (B := W1.heap.size) (by simp)
      rw [World.size_alloc] at h9
      exact h9
    · simp [Value.ownBlock]
  case round =>
    obtain ⟨k, hk, rfl, hb, hox, hoy, hne⟩ := hrel
    have hbs := hb.size
    by_cases hlt : k < 16
    · have hc1 := LCp k (by omega)
      have hc2 := LCq k (by omega)
      have HS := Lib.hid (And.intro (rowK_next p k hlt) (rowK_next q k hlt))
      have d1 : decide ((k : Int) < 16) = true := by simp; omega
      have hw1 := wrap_byte (p.a.b.lt k)
      have hw2 := wrap_byte (q.a.b.lt k)
      generalize p.a.b.at k = y1 at *
      generalize q.a.b.at k = y2 at *
      have HN := Lib.hid hne
      clear hne LCp LCq
      go_wp2_with (first | (at_builtin; refine wpList_append_own_at _ rfl _ _ 121 rfl W1.heap.size 3 i0 (.int .i64 0) 1 8 und_ints hi hz0 hz1 hz2 rfl (by decide) _ _ _ rfl (hox.alloc _) ⟨wr.heap.size, 0, none⟩ 1 1 [.int .i64 (y1 : Int)] rfl rfl ?c1 ?c2 ?c3 ?c4 ?c5 ?_))
      case c1 =>
        intro j u hj
        match j, hj with
        | 0, hj => simp at hj; subst hj; simp [Addr.add]
      case c2 => intro u hu; simp at hu; subst hu; rfl
      case c3 => unfold maxLen; omega
      case c4 => omega
      case c5 => simp; omega
      intro v1 w1 hown1 hgrow1 _ hv1
      have hb2 : Below W1.heap.size W1 w1 := (hb.alloc hbs _).grown hgrow1 (by simp; omega) (fun j hj => (hox.lt j hj).1)
      have hy1 := (hoy.alloc _).kept hgrow1 (.inr (fun h => HN.out h.symm))
      have hn1 := own_new HN.out hv1 hoy.lt (by simp)
      have HX1 := Lib.hid (And.intro hown1 hn1)
      clear hown1 hn1 hv1 hgrow1 hox hoy hb HN
      have hbs2 := hb2.size
      go_wp2_with (first | (at_builtin; refine wpList_append_own_at _ rfl _ _ 121 rfl W1.heap.size 3 i0 (.int .i64 0) 1 8 und_ints hi hz0 hz1 hz2 rfl (by decide) _ _ _ rfl (hy1.alloc _) ⟨w1.heap.size, 0, none⟩ 1 1 [.int .i64 (y2 : Int)] rfl rfl ?c1 ?c2 ?c3 ?c4 ?c5 ?_))
      case c1 =>
        intro j u hj
        match j, hj with
        | 0, hj => simp at hj; subst hj; simp [Addr.add]
      case c2 => intro u hu; simp at hu; subst hu; rfl
      case c3 => unfold maxLen; omega
      case c4 => omega
      case c5 => simp; omega
      intro v2 w2 hown2 hgrow2 _ hv2
      have hb3 : Below W1.heap.size W1 w2 := (hb2.alloc hbs2 _).grown hgrow2 (by simp; omega) (fun j hj => (hy1.lt j hj).1)
      have hx2 := (HX1.out.1.alloc (.cells #[.int .i64 (y2 : Int)] 3)).kept hgrow2 (.inr HX1.out.2)
      have hn2 := (own_new HX1.out.2.symm hv2 HX1.out.1.lt (by simp)).symm
      have HX2 := Lib.hid (And.intro hb3 (And.intro hx2 (And.intro hown2 hn2)))
      clear hb3 hx2 hown2 hn2 hv2 hgrow2 hy1 hb2 HX1
      go_wp2
      go_roundw
      case rel => exact ⟨k + 1, by omega, by go_num, HX2.out.1, by rw [HS.out.1]; exact HX2.out.2.1, by rw [HS.out.2]; exact HX2.out.2.2.1, HX2.out.2.2.2⟩
      case measure => simp [intOf]; omega
    · obtain rfl : k = 16 := by omega
      have HN := Lib.hid hne
      clear hne LCp LCq
      go_wp2_with (first | (at_builtin; refine wpList_append_own_at _ rfl _ _ 121 rfl W1.heap.size 3 i0 (.int .i64 0) 1 8 und_ints hi hz0 hz1 hz2 rfl (by decide) _ _ _ rfl (hox.alloc _) ⟨wr.heap.size, 0, none⟩ 1 1 [.int .i64 p.n] rfl rfl ?c1 ?c2 ?c3 ?c4 ?c5 ?_))
      case c1 =>
        intro j u hj
        match j, hj with
        | 0, hj => simp at hj; subst hj; simp [Addr.add]
      case c2 => intro u hu; simp at hu; subst hu; rfl
      case c3 => unfold maxLen; omega
      case c4 => omega
      case c5 => simp; omega
      intro v1 w1 hown1 hgrow1 _ hv1
      have hb2 : Below W1.heap.size W1 w1 := (hb.alloc hbs _).grown hgrow1 (by simp; omega) (fun j hj => (hox.lt j hj).1)
      have hy1 := (hoy.alloc (.cells #[.int .i64 p.n] 3)).kept hgrow1 (.inr (fun h => HN.out h.symm))
      have hn1 := own_new HN.out hv1 hoy.lt (by simp)
      have HX1 := Lib.hid (And.intro hown1 hn1)
      clear hown1 hn1 hv1 hgrow1 hox hoy hb HN
      have hbs2 := hb2.size
      go_wp2_with (first | (at_builtin; refine wpList_append_own_at _ rfl _ _ 121 rfl W1.heap.size 3 i0 (.int .i64 0) 1 8 und_ints hi hz0 hz1 hz2 rfl (by decide) _ _ _ rfl (hy1.alloc _) ⟨w1.heap.size, 0, none⟩ 1 1 [.int .i64 q.n] rfl rfl ?c1 ?c2 ?c3 ?c4 ?c5 ?_))
      case c1 =>
        intro j u hj
        match j, hj with
        | 0, hj => simp at hj; subst hj; simp [Addr.add]
      case c2 => intro u hu; simp at hu; subst hu; rfl
      case c3 => unfold maxLen; omega
      case c4 => omega
      case c5 => simp; omega
      intro v2 w2 hown2 hgrow2 _ hv2
      have hb3 : Below W1.heap.size W1 w2 := (hb2.alloc hbs2 _).grown hgrow2 (by simp; omega) (fun j hj => (hy1.lt j hj).1)
      have hx2 := (HX1.out.1.alloc (.cells #[.int .i64 q.n] 3)).kept hgrow2 (.inr HX1.out.2)
      have hx5 : w2.ownsRow W1.heap.size 3 1 v1 18 ((rowP p).map inc) := by rw [← rowK_all]; exact hx2
      have hy5 : w2.ownsRow W1.heap.size 3 1 v2 18 ((rowP q).map inc) := by rw [← rowK_all]; exact hown2
      obtain ⟨g1, cap1, rfl⟩ := row_form hx5
      obtain ⟨g2, cap2, rfl⟩ := row_form hy5
      have FP := row_at hx5 (rowP_len p)
      have FQ := row_at hy5 (rowP_len q)
      have HX2 := Lib.hid (bel_trans HB.out hb3)
      have HD := Lib.hid (fun k (h : k < 18) => (or_drop (zipC (rowP p) (rowP q)) k (by rw [zipC_len _ _ (by rw [rowP_len, rowP_len]), rowP_len]; exact h)).trans (by rw [zipC_at _ _ _ (by rw [rowP_len]; exact h) (by rw [rowP_len, rowP_len])]))
      have HL := Lib.hid (show (zipC (rowP p) (rowP q)).drop 18 = [] from List.drop_eq_nil_of_le (by rw [zipC_len _ _ (by rw [rowP_len, rowP_len]), rowP_len]; omega))
      clear hb3 hx2 hown2 hv2 hgrow2 hy1 hb2 HX1 hx5 hy5
      clear LPp LAp LBp LVp LNp LPq LAq LBq LVq LNq LD LE h0
      generalize zipC (rowP p) (rowP q) = D at *
      generalize rowP p = X at *
      generalize rowP q = Y at *
      have FP2 := fun j hj w' (h : Below w2.heap.size w2 w') => (h.cell (cell_lt (FP j hj))).trans (FP j hj)
      have FQ2 := fun j hj w' (h : Below w2.heap.size w2 w') => (h.cell (cell_lt (FQ j hj))).trans (FQ j hj)
      have h02 : Below w2.heap.size w2 w2 := Below.refl _ _
      clear FP FQ
      go_wp2_with fail
      go_loopw [8] (fun i wr => ∃ k : Nat, k ≤ 18 ∧ i = .int .i64 k ∧ orL (D.drop k) = orL D ∧ Below w2.heap.size w2 wr) (fun i _ => 18 - (intOf i).toNat)
      case atStart => exact ⟨0, Nat.zero_le _, rfl, by rw [List.drop_zero], h02⟩
      case round =>
        obtain ⟨k, hk, rfl, ho, hkw⟩ := hrel
        by_cases hlt : k < 18
        · have hc1 := FP2 k hlt
          have hc2 := FQ2 k hlt
          have HO := Lib.hid (And.intro ho (HD.out k hlt))
          have d1 : decide ((k : Int) < 18) = true := by simp; omega
          generalize X.getD k 0 = x at *
          generalize Y.getD k 0 = y at *
          have hk18 : (k : Int) < 18 := by omega
          clear ho FP2 FQ2
          have h3 : (decide (x < y) = true ∧ cmpI x y = -1) ∨ (decide (x < y) = false ∧ decide (y < x) = true ∧ cmpI x y = 1) ∨ (decide (x < y) = false ∧ decide (y < x) = false ∧ cmpI x y = 0) := by
            unfold cmpI
            by_cases h1 : x < y
            · simp [h1]
            · by_cases h2 : y < x
              · simp [h1, h2]
              · simp [h1, h2]
          rcases h3 with ⟨d2, e⟩ | ⟨d2, d3, e⟩ | ⟨d2, d3, e⟩
          · have HF := Lib.hid (show cmpP p q = -1 by rw [← HE.out, ← HO.out.1, HO.out.2, e]; rfl)
            clear e
            go_wp2_with (first   | (refine wp_region_lin (fun w' => Below w2.heap.size w2 w') (by kernel_rfl) (by kernel_rfl) (bel_drew (by assumption)) ?_; (repeat (first | (refine lin_off (by rfl) ?_; (try simp only [Act.put, List.setIfInBounds_toArray, List.set_cons_zero, List.set_cons_succ])) | (refine lin_op (v := ?_) (by rfl) (fun w9 hS9 => ?_) ?_; rotate_left; (focus (((try dsimp only at hS9); go_simp; (try go_bits)) <;> with_reducible rfl)); (try simp only [Act.put, List.setIfInBounds_toArray, List.set_cons_zero, List.set_cons_succ])) )); refine lin_nil (fun w8 hS8 => ?_)))
            all_goals go_ret
            all_goals exact ⟨by rw [HF.out]; rfl, bel_trans HX2.out (by assumption)⟩
          · have HF := Lib.hid (show cmpP p q = 1 by rw [← HE.out, ← HO.out.1, HO.out.2, e]; rfl)
            clear e
            go_wp2_with (first   | (refine wp_region_lin (fun w' => Below w2.heap.size w2 w') (by kernel_rfl) (by kernel_rfl) (bel_drew (by assumption)) ?_; (repeat (first | (refine lin_off (by rfl) ?_; (try simp only [Act.put, List.setIfInBounds_toArray, List.set_cons_zero, List.set_cons_succ])) | (refine lin_op (v := ?_) (by rfl) (fun w9 hS9 => ?_) ?_; rotate_left; (focus (((try dsimp only at hS9); go_simp; (try go_bits)) <;> with_reducible rfl)); (try simp only [Act.put, List.setIfInBounds_toArray, List.set_cons_zero, List.set_cons_succ])) )); refine lin_nil (fun w8 hS8 => ?_)))
            all_goals go_ret
            all_goals exact ⟨by rw [HF.out]; rfl, bel_trans HX2.out (by assumption)⟩
          · have HF := Lib.hid (show orL (D.drop (k + 1)) = orL D by rw [← HO.out.1, HO.out.2, e]; rfl)
            clear e
            go_wp2_with (first   | (refine wp_region_lin (fun w' => Below w2.heap.size w2 w') (by kernel_rfl) (by kernel_rfl) (bel_drew (by assumption)) ?_; (repeat (first | (refine lin_off (by rfl) ?_; (try simp only [Act.put, List.setIfInBounds_toArray, List.set_cons_zero, List.set_cons_succ])) | (refine lin_op (v := ?_) (by rfl) (fun w9 hS9 => ?_) ?_; rotate_left; (focus (((try dsimp only at hS9); go_simp; (try go_bits)) <;> with_reducible rfl)); (try simp only [Act.put, List.setIfInBounds_toArray, List.set_cons_zero, List.set_cons_succ])) )); refine lin_nil (fun w8 hS8 => ?_)))
            all_goals go_roundw
            case rel => exact ⟨k + 1, by omega, by go_num, HF.out, by assumption⟩
            case measure => simp [intOf]; omega
        · obtain rfl : k = 18 := by omega
          have HF := Lib.hid (show cmpP p q = 0 by rw [← HE.out, ← ho, HL.out]; rfl)
          clear ho FP2 FQ2
          go_wp2
          go_ret
          exact ⟨by rw [HF.out]; rfl, bel_trans HX2.out (by assumption)⟩
end Go.Proofs.YtclkfmblogkakaaGreatDoor
namespace Go.Proofs.YtclkfmblogkakaaGreatDoor
open Go.RowKit Go.Shelf
set_option linter.unusedVariables false
attribute [local go_sem ↓] load_b16_rule store_b16_rule load_ad_rule store_ad_rule load_px_rule store_px_rule eq_b16_rule eq_ad_rule eq_px_rule build_ad_rule build_px_rule build_b16_rule

theorem of_okA {a : Ad} {n : Int} (h : okA a) (h0 : 0 ≤ n) (h1 : n ≤ (wid a.v : Int)) : ofE a n = 0 ∧ ofP a n = ⟨⟨a.v, keptB a.b n.toNat⟩, n⟩ := by
  unfold ofE ofP
  exact ⟨by rw [if_pos h, if_pos ⟨h0, h1⟩], if_pos ⟨h, h0, h1⟩⟩
theorem kept_okA {a : Ad} (h : okA a) (n : Nat) : okA ⟨a.v, keptB a.b n⟩ := ⟨h.1, fun i h1 h2 => by
  rw [bt_kept _ _ _ h2, h.2 i h1 h2, Bool.and_false]⟩
theorem of_okP {a : Ad} {n : Int} (h : okA a) (h0 : 0 ≤ n) (h1 : n ≤ (wid a.v : Int)) : okP ⟨⟨a.v, keptB a.b n.toNat⟩, n⟩ :=
  ⟨kept_okA h _, h0, h1, kept_clear _ _⟩
theorem of_has {a : Ad} {n : Int} (h : okA a) (h0 : 0 ≤ n) (h1 : n ≤ (wid a.v : Int)) : hasM ⟨⟨a.v, keptB a.b n.toNat⟩, n⟩ a := ⟨of_okP h h0 h1, h, rfl, rfl⟩
theorem of_bit {a : Ad} (h : okA a) (n : Nat) (i : Nat) (hi : i < wid a.v) : bitV ⟨a.v, keptB a.b n⟩ (i : Int) = if i < n then bitV a (i : Int) else 0 := by
  have hw := wid_le a.v
  have e1 : bitV ⟨a.v, keptB a.b n⟩ (i : Int) = btI (keptB a.b n) i := by
    unfold bitV
    rw [if_pos ⟨kept_okA h n, by omega, by exact_mod_cast hi⟩, Int.toNat_natCast]
  have e2 : bitV a (i : Int) = btI a.b i := by
    unfold bitV
    rw [if_pos ⟨h, by omega, by exact_mod_cast hi⟩, Int.toNat_natCast]
  rw [e1, e2]
  unfold btI
  rw [bt_kept _ _ _ (by omega)]
  by_cases hn : i < n
  · rw [if_pos hn, decide_eq_true hn, Bool.true_and]
  · rw [if_neg hn, decide_eq_false hn, Bool.false_and]; rfl
theorem kept_kept (b : B16) {n m : Nat} (h : n ≤ m) : keptB (keptB b m) n = keptB b n := bt_ext fun i hi => by
  rw [bt_kept _ _ _ hi, bt_kept _ _ _ hi, bt_kept _ _ _ hi]
  by_cases h1 : i < n
  · rw [decide_eq_true (show i < m by omega), Bool.true_and]
  · rw [decide_eq_false h1, Bool.false_and, Bool.false_and]
theorem of_holds {a : Ad} {n m : Int} (h : okA a) (h0 : 0 ≤ n) (h1 : n ≤ (wid a.v : Int)) (h2 : 0 ≤ m) (h3 : m ≤ (wid a.v : Int)) :
    decide (holdsM ⟨⟨a.v, keptB a.b n.toNat⟩, n⟩ ⟨⟨a.v, keptB a.b m.toNat⟩, m⟩) = decide (n ≤ m) := by
  rw [decide_eq_decide]
  constructor
  · exact fun k => k.2.1
  · intro k
    exact ⟨of_okP h h2 h3, k, of_okP h h0 h1, kept_okA h _, rfl, (kept_kept _ (by omega)).symm⟩

end Go.Proofs.YtclkfmblogkakaaGreatDoor
