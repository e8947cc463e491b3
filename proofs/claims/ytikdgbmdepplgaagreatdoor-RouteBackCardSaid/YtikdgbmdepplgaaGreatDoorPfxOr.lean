/-
  That containing is an order and that Compare goes with it. Nothing here is a statement of the document.
-/
import Derived.Test.YtikdgbmdepplgaaGreatDoorPfxM
import Derived.Test.YtikdgbmdepplgaaGreatDoorDskB
import Derived.Maps.AppendAt
namespace Go.Proofs.YtikdgbmdepplgaaGreatDoor
open Go.RowKit Go.Shelf
set_option linter.unusedVariables false

theorem build_b16_rule (ps : Array (Nat × Value)) : Instr.build 42 ps = buildSem 42 ps := rfl
def tenB : B16 := ⟨[10, 1, 2, 3, 0, 0, 0, 0, 0, 0, 0, 0, 0, 0, 0, 0], rfl, by unfold Bys; decide⟩
def ten8 : B16 := ⟨[10, 0, 0, 0, 0, 0, 0, 0, 0, 0, 0, 0, 0, 0, 0, 0], rfl, by unfold Bys; decide⟩
def tenA : Ad := ⟨4, tenB⟩
def tenP : Px := ⟨⟨4, ten8⟩, 8⟩
theorem build_ten (w : World) : (buildSem 42 #[(0, .int .u8 10), (1, .int .u8 1), (2, .int .u8 2), (3, .int .u8 3)]).run Tryz.prog w = .ok (.agg tenB.cs) w := by kernel_rfl
theorem ten_kept : keptB tenB 8 = ten8 := B16.same rfl
theorem ten8_kept : keptB ten8 8 = ten8 := B16.same rfl
theorem ten_clear : clear tenB 32 := by
  have : ∀ i, i < 128 → 32 ≤ i → bt tenB i = false := by decide +kernel
  exact fun i h1 h2 => this i h2 h1
theorem ten8_clear : clear ten8 8 := (kept_iff _ _).1 ten8_kept
theorem ten_okA : okA tenA := ⟨by decide, ten_clear⟩
theorem ten_okP : okP tenP := ⟨⟨by decide, clear_mono ten8_clear (by decide)⟩, by decide, by decide, ten8_clear⟩
theorem ten_ofP : ofP tenA 8 = tenP := by
  have : ofP tenA 8 = ⟨⟨4, keptB tenB 8⟩, 8⟩ := if_pos ⟨ten_okA, by decide, by decide⟩
  rw [this, ten_kept]
  rfl
theorem ten_ofE : ofE tenA 8 = 0 := by
  unfold ofE
  rw [if_pos ten_okA, if_pos (by decide)]
theorem ten_hasM : hasM tenP tenA := ⟨ten_okP, ten_okA, rfl, ten_kept.symm⟩
theorem ten_enc : encP tenP = [4, 8, 10] := rfl
theorem ten_decE : decPE [4, 8, 10] = 0 := by
  unfold decPE
  rw [if_neg (by decide), if_neg (by decide), if_neg (by decide), if_neg (by decide)]
  unfold bodyE
  have e : padF [4, 8, 10] 2 (by1 [4, 8, 10]) = ten8 := B16.same rfl
  rw [if_neg (by decide), e, show by1 [4, 8, 10] = 8 from rfl, if_pos ten8_kept]
theorem ten_decX : decPX [4, 8, 10] = tenP := by
  have h : decPX [4, 8, 10] = ⟨⟨(by0 [4, 8, 10] : Int), padF [4, 8, 10] 2 (by1 [4, 8, 10])⟩, (by1 [4, 8, 10] : Int)⟩ := if_pos ten_decE
  have e : padF [4, 8, 10] 2 (by1 [4, 8, 10]) = ten8 := B16.same rfl
  rw [h, e]
  rfl
theorem ten_decN : decPN [4, 8, 10] = 3 := by
  have h : decPN [4, 8, 10] = 2 + fill8 (by1 [4, 8, 10]) := if_pos ten_decE
  rw [h]
  rfl
theorem ten_nib : nibW tenA 1 = 10 := by
  unfold nibW
  rw [if_pos (by decide)]
  unfold nibV bitV
  rw [if_pos ⟨ten_okA, by decide, by decide⟩, if_pos ⟨ten_okA, by decide, by decide⟩, if_pos ⟨ten_okA, by decide, by decide⟩, if_pos ⟨ten_okA, by decide, by decide⟩]
  decide +kernel
/-- What owns a row of bytes lies. -/
theorem own_lies {w : World} {B : Nat} {v : Value} {l : List Nat} (h : w.ownsRow B 5 1 v l.length (l.map byc)) : ∃ a cap, v = .slice a l.length cap ∧ Lies w a l ∧ l.length ≤ cap ∧ cap ≤ 9223372036854775807 ∧ (a = none → l = []) := by
  rcases h.2 with ⟨rfl, h0⟩ | ⟨g, cap, cur, rfl, hb, hg, hc, hm, hs, ht⟩
  · have : l = [] := List.eq_nil_of_length_eq_zero h0
    subst this
    exact ⟨none, 0, rfl, .inl rfl, Nat.le_refl _, by omega, fun _ => rfl⟩
  · refine ⟨_, cap, rfl, ?_, hc, by unfold maxLen at hm; omega, fun e => by cases e⟩
    refine .inr ⟨g, 0, rfl, (Array.getElem?_eq_some_iff.1 hg).1, fun i hi => ?_⟩
    rw [Nat.zero_add]
    have h1 : cur.toList[i]? = (l.map byc)[i]? := by
      rw [← ht, List.getElem?_take, if_pos (by omega)]
    have h2 : w.cell? ⟨g, i, none⟩ = cur[i]? := cell_of_row w g i cur _ (0, 0) hg
    rw [h2, ← Array.getElem?_toList, h1]
    simp [byc, hi]
attribute [local go_sem ↓] load_b16_rule store_b16_rule load_ad_rule store_ad_rule load_px_rule store_px_rule eq_b16_rule eq_ad_rule eq_px_rule build_ad_rule build_px_rule build_b16_rule

end Go.Proofs.YtikdgbmdepplgaaGreatDoor
namespace Go.Proofs.YtikdgbmdepplgaaGreatDoor
open Go.RowKit Go.Shelf
set_option linter.unusedVariables false

/-- Which of two ints comes first. -/
def cmpI (x y : Int) : Int := if x < y then -1 else if y < x then 1 else 0
/-- The first one that is not nought. -/
def orL : List Int → Int
  | [] => 0
  | x :: l => if x = 0 then orL l else x
noncomputable def cmpP (p q : Px) : Int := orL [cmpI p.a.v q.a.v, cmpB p.a.b.l q.a.b.l, cmpI p.n q.n]
set_option maxHeartbeats 400000 in
theorem nanI (x : Int) (w : World) : Calls Tryz.prog 93 #[.int .i64 x] w fun e w' => e = .returned (.bool false) ∧ w = w' := by
  have h : (x != x) = false := by simp
  go_enter Tryz.func93, Tryz.ntmps93
  go_wp2
  go_ret
  exact ⟨rfl, rfl⟩
set_option maxHeartbeats 800000 in
theorem cmpI_any (x y : Int) (w : World) : Calls Tryz.prog 74 #[.int .i64 x, .int .i64 y] w fun e w' => e = .returned (.int .i64 (cmpI x y)) ∧ w = w' := by
  have h3 : (decide (x < y) = true ∧ cmpI x y = -1) ∨ (decide (x < y) = false ∧ decide (y < x) = true ∧ cmpI x y = 1) ∨ (decide (x < y) = false ∧ decide (y < x) = false ∧ cmpI x y = 0) := by
    unfold cmpI
    by_cases h1 : x < y
    · simp [h1]
    · by_cases h2 : y < x
      · simp [h1, h2]
      · simp [h1, h2]
  generalize cmpI x y = z at *
  rcases h3 with ⟨d1, rfl⟩ | ⟨d1, d2, rfl⟩ | ⟨d1, d2, rfl⟩
  all_goals
    go_enter Tryz.func74, Tryz.ntmps74
    go_wp2_with (go_at_call 93; refine (nanI _ _).mono ?_; rintro e w' ⟨rfl, rfl⟩)
    go_ret
    exact ⟨rfl, rfl⟩
theorem or_drop (l : List Int) (k : Nat) (h : k < l.length) : orL (l.drop k) = if l.getD k 0 = 0 then orL (l.drop (k + 1)) else l.getD k 0 := by
  rw [List.drop_eq_getElem_cons h]
  simp [orL, h]
set_option maxHeartbeats 800000 in
theorem or_any (l : List Int) (n : Nat) (hn : l.length = n) (hm : n < 100) (g : Nat) (w : World) (hc : ∀ j, j < n → w.cell? ⟨g, j, none⟩ = some (.int .i64 (l.getD j 0))) : Calls Tryz.prog 91 #[.slice (some ⟨g, 0, none⟩) n n] w fun e w' => e = .returned (.int .i64 (orL l)) ∧ w = w' := by
  have H := Lib.hid (And.intro hn hc)
  clear hn hc
  go_enter Tryz.func91, Tryz.ntmps91
  go_wp2_with fail
  go_loopw [5, 8] (fun u i wr => ∃ k : Nat, k ≤ n ∧ i = .int .i64 k ∧ orL (l.drop k) = orL l ∧ wr = w) (fun u i _ => n - (intOf i).toNat)
  case atStart => exact ⟨0, Nat.zero_le _, rfl, by rw [List.drop_zero], by trivial⟩
  case round =>
    obtain ⟨k, hk, rfl, ho, rfl⟩ := hrel
    by_cases hlt : k < n
    · have hc := H.out.2 k hlt
      have hd := or_drop l k (by have := H.out.1; omega)
      have HO := Lib.hid (And.intro ho hd)
      generalize l.getD k 0 = x at *
      clear ho hd
      by_cases hx : x = 0
      · have HX := Lib.hid hx
        have d1 : (x != 0) = false := by simp [hx]
        clear hx
        go_wp2
        go_roundw
        case rel => exact ⟨k + 1, by omega, by go_num, by rw [← HO.out.1, HO.out.2, if_pos HX.out], by trivial⟩
        case measure => simp [intOf]; omega
      · have d1 : (x != 0) = true := by simp [hx]
        have HX := Lib.hid hx
        clear hx
        go_wp2
        go_ret
        exact ⟨by rw [← HO.out.1, HO.out.2, if_neg HX.out]; rfl, rfl⟩
    · obtain rfl : k = n := by omega
      have HO := Lib.hid (show orL l = 0 by rw [← ho, List.drop_eq_nil_of_le (by have := H.out.1; omega)]; rfl)
      clear ho
      go_wp2
      go_ret
      exact ⟨by rw [HO.out]; rfl, rfl⟩

attribute [local go_sem ↓] load_b16_rule store_b16_rule load_ad_rule store_ad_rule load_px_rule store_px_rule eq_b16_rule eq_ad_rule eq_px_rule build_ad_rule build_px_rule build_b16_rule

theorem px_lies {W : World} {g : Nat} {p : Px} (h : Blk W g 46 p.cs) : ∀ w', Below W.heap.size W w' → Lies w' (some ⟨g, 1, none⟩) p.a.b.l := fun w' hb => by
  have h' := h.later hb
  refine .inr ⟨g, 1, rfl, h'.lt, fun i hi => ?_⟩
  have hi16 : i < 16 := by rw [← p.a.b.len]; exact hi
  rw [h'.cell, p.cb i hi16, p.a.b.get i hi16]
  simp [B16.at, hi]

set_option maxRecDepth 100000 in
set_option maxHeartbeats 1600000 in
theorem compare_any (p q : Px) (w : World) : Calls Tryz.prog 73 #[.agg p.cs, .agg q.cs] w fun e w' => e = .returned (.int .i64 (cmpP p q)) ∧ Below w.heap.size w w' := by
  obtain ⟨W1, hW1⟩ : ∃ W1, (w.alloc (.cells p.cs 46)).alloc (.cells q.cs 46) = W1 := ⟨_, rfl⟩
  have hb1 : Below w.heap.size w W1 := by rw [← hW1]; exact (((Below.refl w.heap.size w).alloc (Nat.le_refl _) _).alloc (by simp) _)
  have b1 : Blk W1 (w.heap.size) 46 p.cs := by
    have h9 := Blk.new w 46 p.cs
    rw [← hW1]; exact (h9.alloc _)
  have b2 : Blk W1 (w.heap.size + 1) 46 q.cs := by
    have h9 := Blk.new (w.alloc (.cells p.cs 46)) 46 q.cs
    rw [World.size_alloc] at h9
    rw [← hW1]; exact h9
  have LPp := px_p b1
  have LAp := px_a b1
  have LBp := px_b b1
  have LVp := px_v b1
  have LNp := px_n b1
  have LPq := px_p b2
  have LAq := px_a b2
  have LBq := px_b b2
  have LVq := px_v b2
  have LNq := px_n b2
  have LIp := px_lies b1
  have LIq := px_lies b2
  have h0 : Below W1.heap.size W1 W1 := Below.refl _ _
  have HB := Lib.hid hb1
  clear hb1 b1 b2
  have LD := bel_drew_all W1
  have LE := bel_alloc_all W1
  have HCV := cmpI_any p.a.v q.a.v
  have HCN := cmpI_any p.n q.n
  have HCB := fun w' h => bcompare_any _ _ 16 16 16 16 _ _ w' p.a.b.len q.a.b.len p.a.b.bys q.a.b.bys (LIp w' h) (LIq w' h)
  have HOR := or_any [cmpI p.a.v q.a.v, cmpB p.a.b.l q.a.b.l, cmpI p.n q.n] 3 rfl (by omega)
  have HE := Lib.hid (show orL [cmpI p.a.v q.a.v, cmpB p.a.b.l q.a.b.l, cmpI p.n q.n] = cmpP p q from rfl)
  generalize cmpI p.a.v q.a.v = x1 at *
  generalize cmpI p.n q.n = x3 at *
  generalize cmpB p.a.b.l q.a.b.l = x2 at *
  clear LIp LIq
  go_enter Tryz.func73, Tryz.ntmps73
  go_wp2_with fail
  refine wp_region_linX (fun w' => Below W1.heap.size W1 w') [19, 20] [0, 1, 2, 3, 4, 5, 6, 7, 8, 9, 10, 11, 12, 13, 14, 15, 16, 17, 18, 19, 20, 21] (by kernel_rfl) (by kernel_rfl) (bel_drew (by assumption)) ?_
  (repeat (first | (refine linX_off rfl rfl (by rfl) ?_; (try simp only [Act.put, List.getElem_toArray, List.getElem_cons_zero, List.getElem_cons_succ, List.setIfInBounds_toArray, List.set_cons_zero, List.set_cons_succ])) | (refine linX_op (v := ?_) rfl rfl (by rfl) (fun w9 hS9 => ?_) ?_; rotate_left; (focus (((try dsimp only at hS9); go_simp; (try go_bits)) <;> with_reducible rfl)); (try simp only [Act.put, List.getElem_toArray, List.getElem_cons_zero, List.getElem_cons_succ, List.setIfInBounds_toArray, List.set_cons_zero, List.set_cons_succ])) | (refine linX_fn (f := 74) rfl rfl (by rfl) rfl rfl (enters_of Tryz.func74 (by kernel_rfl) rfl) (fun w9 hS9 => (HCV w9).mono (fun e w' h => ⟨h.1, h.2⟩)) ?_ ?_; (focus (simp [Act.eval]; done)); (try simp only [Act.put, List.getElem_toArray, List.getElem_cons_zero, List.getElem_cons_succ, List.setIfInBounds_toArray, List.set_cons_zero, List.set_cons_succ])) | (refine linX_fn (f := 74) rfl rfl (by rfl) rfl rfl (enters_of Tryz.func74 (by kernel_rfl) rfl) (fun w9 hS9 => (HCN w9).mono (fun e w' h => ⟨h.1, h.2⟩)) ?_ ?_; (focus (simp [Act.eval]; done)); (try simp only [Act.put, List.getElem_toArray, List.getElem_cons_zero, List.getElem_cons_succ, List.setIfInBounds_toArray, List.set_cons_zero, List.set_cons_succ])) | (refine linX_fn (f := 92) rfl rfl (by rfl) rfl rfl (enters_of Tryz.func92 (by kernel_rfl) rfl) (fun w9 hS9 => (HCB w9 hS9).mono (fun e w' h => ⟨h.1, h.2⟩)) ?_ ?_; (focus (simp [Act.eval]; done)); (try simp only [Act.put, List.getElem_toArray, List.getElem_cons_zero, List.getElem_cons_succ, List.setIfInBounds_toArray, List.set_cons_zero, List.set_cons_succ]))))
  refine linX_do (v := .slice (some ⟨W1.heap.size, 0, none⟩) 3 3) (w' := (W1.alloc (.cells #[.int .i64 x1, .int .i64 x2, .int .i64 x3] 3)).drew) rfl rfl (by rfl) ?_ ?_ ?_; (focus (go_simp; done))
  · exact LD _ (LE _ _ h0)
  (try simp only [Act.put, List.getElem_toArray, List.getElem_cons_zero, List.getElem_cons_succ, List.setIfInBounds_toArray, List.set_cons_zero, List.set_cons_succ])
  have hk3 : Below W1.heap.size W1 (W1.alloc (.cells #[.int .i64 x1, .int .i64 x2, .int .i64 x3] 3)).drew := LD _ (LE _ _ h0)
  have HC3 : ∀ j, j < 3 → (W1.alloc (.cells #[.int .i64 x1, .int .i64 x2, .int .i64 x3] 3)).drew.cell? ⟨W1.heap.size, j, none⟩ = some (.int .i64 ([x1, x2, x3].getD j 0)) := fun j hj => by
    rw [(Blk.drew (Blk.new W1 3 _)).cell]
    match j, hj with
    | 0, _ => rfl
    | 1, _ => rfl
    | 2, _ => rfl
  generalize (W1.alloc (.cells #[.int .i64 x1, .int .i64 x2, .int .i64 x3] 3)).drew = w3 at *
  refine linX_call (f := 91) (args := #[.slice (some ⟨W1.heap.size, 0, none⟩) 3 3]) rfl rfl (by rfl) rfl rfl (enters_of Tryz.func91 (by kernel_rfl) rfl) ?_ ?_; (focus (simp [Act.eval]; done)); refine (HOR W1.heap.size w3 HC3).mono ?_; rintro e w4 ⟨rfl, rfl⟩; refine ⟨_, rfl, hk3, ?_⟩
  (try simp only [Act.put, List.getElem_toArray, List.getElem_cons_zero, List.getElem_cons_succ, List.setIfInBounds_toArray, List.set_cons_zero, List.set_cons_succ])
  (repeat (first | (refine linX_off rfl rfl (by rfl) ?_; (try simp only [Act.put, List.getElem_toArray, List.getElem_cons_zero, List.getElem_cons_succ, List.setIfInBounds_toArray, List.set_cons_zero, List.set_cons_succ])) | (refine linX_op (v := ?_) rfl rfl (by rfl) (fun w9 hS9 => ?_) ?_; rotate_left; (focus (((try dsimp only at hS9); go_simp; (try go_bits)) <;> with_reducible rfl)); (try simp only [Act.put, List.getElem_toArray, List.getElem_cons_zero, List.getElem_cons_succ, List.setIfInBounds_toArray, List.set_cons_zero, List.set_cons_succ])) ))
  refine linX_nil ?_
  go_wp2
  go_ret
  exact ⟨by rw [HE.out]; rfl, bel_trans HB.out hk3⟩
end Go.Proofs.YtikdgbmdepplgaaGreatDoor
namespace Go.Proofs.YtikdgbmdepplgaaGreatDoor
open Go.RowKit Go.Shelf
set_option linter.unusedVariables false
attribute [local go_sem ↓] load_b16_rule store_b16_rule load_ad_rule store_ad_rule load_px_rule store_px_rule eq_b16_rule eq_ad_rule eq_px_rule build_ad_rule build_px_rule build_b16_rule

def inc (x : Int) : Value := .int .i64 x
theorem or_append : ∀ (l m : List Int), orL (l ++ m) = if orL l = 0 then orL m else orL l
  | [], m => by simp [orL]
  | x :: l, m => by
    have ih := or_append l m
    by_cases h : x = 0
    · have e : ∀ r, orL (x :: r) = orL r := fun r => if_pos h
      rw [List.cons_append, e, e, ih]
    · have e : ∀ r, orL (x :: r) = x := fun r => if_neg h
      rw [List.cons_append, e, e, if_neg h]
def zipC : List Int → List Int → List Int
  | x :: l, y :: m => cmpI x y :: zipC l m
  | _, _ => []
theorem zipC_len : ∀ (l m : List Int), l.length = m.length → (zipC l m).length = l.length
  | [], [], _ => rfl
  | [], _ :: _, h => by simp at h
  | _ :: _, [], h => by simp at h
  | _ :: l, _ :: m, h => by simp [zipC, zipC_len l m (by simpa using h)]
theorem zipC_at : ∀ (l m : List Int) (k : Nat), k < l.length → l.length = m.length → (zipC l m).getD k 0 = cmpI (l.getD k 0) (m.getD k 0)
  | [], [], k, h, _ => by simp at h
  | [], _ :: _, _, _, h => by simp at h
  | _ :: _, [], _, _, h => by simp at h
  | _ :: l, _ :: m, 0, _, _ => rfl
  | _ :: l, _ :: m, k + 1, h, h2 => by
    simp only [zipC, List.getD_cons_succ]
    exact zipC_at l m k (by simpa using h) (by simpa using h2)
theorem zipC_append : ∀ (l m l2 m2 : List Int), l.length = m.length → zipC (l ++ l2) (m ++ m2) = zipC l m ++ zipC l2 m2
  | [], [], _, _, _ => rfl
  | [], _ :: _, _, _, h => by simp at h
  | _ :: _, [], _, _, h => by simp at h
  | _ :: l, _ :: m, l2, m2, h => by simp [zipC, zipC_append l m l2 m2 (by simpa using h)]
theorem or_bytes : ∀ (l m : List Nat), l.length = m.length → orL (zipC (l.map Int.ofNat) (m.map Int.ofNat)) = cmpB l m
  | [], [], _ => rfl
  | [], _ :: _, h => by simp at h
  | _ :: _, [], h => by simp at h
  | a :: l, b :: m, h => by
    have ih := or_bytes l m (by simpa using h)
    simp only [List.map_cons, zipC, orL, cmpB, cmpI]
    by_cases h1 : a < b
    · have : Int.ofNat a < Int.ofNat b := by simpa using h1
      simp [h1]
    · by_cases h2 : b < a
      · simp [h1, h2]
      · simp [h1, h2, ih]
def rowP (p : Px) : List Int := p.a.v :: p.a.b.l.map Int.ofNat ++ [p.n]
theorem rowP_len (p : Px) : (rowP p).length = 18 := by simp [rowP, p.a.b.len]
theorem or_rows (p q : Px) : orL (zipC (rowP p) (rowP q)) = cmpP p q := by
  have hl : p.a.b.l.length = q.a.b.l.length := by rw [p.a.b.len, q.a.b.len]
  have h := or_bytes _ _ hl
  unfold rowP cmpP
  rw [zipC_append _ _ _ _ (by simp [hl])]
  simp only [zipC, List.cons_append, orL, or_append, h]
def rowK (p : Px) (k : Nat) : List Value := (p.a.v :: (p.a.b.l.take k).map Int.ofNat).map inc
theorem rowK_next (p : Px) (k : Nat) (hk : k < 16) : rowK p (k + 1) = rowK p k ++ [.int .i64 (p.a.b.at k : Int)] := by
  unfold rowK
  rw [take_more0 p.a.b.l k (by rw [p.a.b.len]; exact hk)]
  simp [B16.at, inc]
theorem rowK_all (p : Px) : rowK p 16 ++ [.int .i64 p.n] = (rowP p).map inc := by
  unfold rowK rowP
  rw [List.take_of_length_le (by rw [p.a.b.len]; exact Nat.le_refl _)]
  simp [inc]
theorem info_int : ∃ i, Tryz.prog.info? 3 = some i ∧ i.zero = some (.int .i64 0) ∧ i.size = 1 ∧ i.bytes = 8 := by
  have h : (Tryz.prog.info? 3).map (fun i => (i.zero, i.size, i.bytes)) = some (some (.int .i64 0), 1, 8) := by kernel_rfl
  obtain ⟨i, hi, he⟩ := Option.map_eq_some_iff.1 h
  simp only [Prod.mk.injEq] at he
  exact ⟨i, hi, he.1, he.2.1, he.2.2⟩
theorem own_new {w : World} {v1 x y : Value} {B m : Nat} (hne : x.ownBlock ≠ y.ownBlock) (hv : v1.ownBlock = x.ownBlock ∨ v1.ownBlock = some m) (hy : ∀ k, y.ownBlock = some k → B ≤ k ∧ k < w.heap.size) (hm : w.heap.size ≤ m) : v1.ownBlock ≠ y.ownBlock := fun h => by
  rcases hv with h9 | h9
  · exact hne (h9.symm.trans h)
  · have := (hy m (h.symm.trans h9)).2
    omega
theorem row_form {w : World} {B : Nat} {v : Value} {l : List Value} (h : w.ownsRow B 3 1 v 18 l) : ∃ g cap, v = .slice (some ⟨g, 0, none⟩) 18 cap := by
  rcases h.2 with ⟨_, h0⟩ | ⟨g, cap, _, h1, _⟩
  · omega
  · exact ⟨g, cap, h1⟩
theorem add_zero_addr (g j : Nat) : (⟨g, 0, none⟩ : Addr).add j = ⟨g, j, none⟩ := by
  unfold Addr.add
  split
  · rename_i h; rw [show j = 0 from by simpa using h]
  · simp
theorem row_at {w : World} {B g cap : Nat} {l : List Int} (h : w.ownsRow B 3 1 (.slice (some ⟨g, 0, none⟩) 18 cap) 18 (l.map inc)) (hl : l.length = 18) : ∀ j, j < 18 → w.cell? ⟨g, j, none⟩ = some (.int .i64 (l.getD j 0)) := fun j hj => by
  have := h.cells rfl j (inc (l.getD j 0)) (by simp [hl, hj])
  rw [add_zero_addr] at this
  exact this
theorem wrap_byte {x : Nat} (h : x < 256) : wrap64 (x : Int) = (x : Int) := by unfold wrap64; omega
theorem und_ints : Tryz.prog.underlying 127 = some (.slice 3) := by kernel_rfl
theorem own_int1 (w : World) (x : Int) {B : Nat} (hB : B ≤ w.heap.size) : (w.alloc (.cells #[.int .i64 x] 3)).ownsRow B 3 1 (.slice (some ⟨w.heap.size, 0, none⟩) 1 1) 1 [.int .i64 x] :=
  ⟨rfl, .inr ⟨w.heap.size, 1, _, rfl, hB, heap_alloc_new _ _, Nat.le_refl _, by unfold maxLen; omega, rfl, rfl⟩⟩

end Go.Proofs.YtikdgbmdepplgaaGreatDoor
namespace Go.Proofs.YtikdgbmdepplgaaGreatDoor
open Go.RowKit Go.Shelf
set_option linter.unusedVariables false
attribute [local go_sem ↓] load_b16_rule store_b16_rule load_ad_rule store_ad_rule load_px_rule store_px_rule eq_b16_rule eq_ad_rule eq_px_rule build_ad_rule build_px_rule build_b16_rule

theorem of_okA {a : Ad} {n : Int} (h : okA a) (h0 : 0 ≤ n) (h1 : n ≤ (wid a.v : Int)) : ofE a n = 0 ∧ ofP a n = ⟨⟨a.v, keptB a.b n.toNat⟩, n⟩ := by
  unfold ofE ofP
  exact ⟨by rw [if_pos h, if_pos ⟨h0, h1⟩], if_pos ⟨h, h0, h1⟩⟩
theorem kept_okA {a : Ad} (h : okA a) (n : Nat) : okA ⟨a.v, keptB a.b n⟩ := ⟨h.1, fun i h1 h2 => by
  rw [bt_kept _ _ _ h2, h.2 i h1 h2, Bool.and_false]⟩
theorem of_okP {a : Ad} {n : Int} (h : okA a) (h0 : 0 ≤ n) (h1 : n ≤ (wid a.v : Int)) : okP ⟨⟨a.v, keptB a.b n.toNat⟩, n⟩ :=
  ⟨kept_okA h _, h0, h1, kept_clear _ _⟩
theorem of_has {a : Ad} {n : Int} (h : okA a) (h0 : 0 ≤ n) (h1 : n ≤ (wid a.v : Int)) : hasM ⟨⟨a.v, keptB a.b n.toNat⟩, n⟩ a := ⟨of_okP h h0 h1, h, rfl, rfl⟩
theorem of_bit {a : Ad} (h : okA a) (n : Nat) (i : Nat) (hi : i < wid a.v) : bitV ⟨a.v, keptB a.b n⟩ (i : Int) = if i < n then bitV a (i : Int) else 0 := by
  have hw := wid_le a.v
  have e1 : bitV ⟨a.v, keptB a.b n⟩ (i : Int) = btI (keptB a.b n) i := by
    unfold bitV
    rw [if_pos ⟨kept_okA h n, by omega, by exact_mod_cast hi⟩, Int.toNat_natCast]
  have e2 : bitV a (i : Int) = btI a.b i := by
    unfold bitV
    rw [if_pos ⟨h, by omega, by exact_mod_cast hi⟩, Int.toNat_natCast]
  rw [e1, e2]
  unfold btI
  rw [bt_kept _ _ _ (by omega)]
  by_cases hn : i < n
  · rw [if_pos hn, decide_eq_true hn, Bool.true_and]
  · rw [if_neg hn, decide_eq_false hn, Bool.false_and]; rfl
theorem kept_kept (b : B16) {n m : Nat} (h : n ≤ m) : keptB (keptB b m) n = keptB b n := bt_ext fun i hi => by
  rw [bt_kept _ _ _ hi, bt_kept _ _ _ hi, bt_kept _ _ _ hi]
  by_cases h1 : i < n
  · rw [decide_eq_true (show i < m by omega), Bool.true_and]
  · rw [decide_eq_false h1, Bool.false_and, Bool.false_and]
theorem of_holds {a : Ad} {n m : Int} (h : okA a) (h0 : 0 ≤ n) (h1 : n ≤ (wid a.v : Int)) (h2 : 0 ≤ m) (h3 : m ≤ (wid a.v : Int)) :
    decide (holdsM ⟨⟨a.v, keptB a.b n.toNat⟩, n⟩ ⟨⟨a.v, keptB a.b m.toNat⟩, m⟩) = decide (n ≤ m) := by
  rw [decide_eq_decide]
  constructor
  · exact fun k => k.2.1
  · intro k
    exact ⟨of_okP h h2 h3, k, of_okP h h0 h1, kept_okA h _, rfl, (kept_kept _ (by omega)).symm⟩

end Go.Proofs.YtikdgbmdepplgaaGreatDoor
namespace Go.Proofs.YtikdgbmdepplgaaGreatDoor
open Go.RowKit Go.Shelf
set_option linter.unusedVariables false

theorem cmpI_cases (x y : Int) : (x < y ∧ cmpI x y = -1) ∨ (x = y ∧ cmpI x y = 0) ∨ (y < x ∧ cmpI x y = 1) := by
  unfold cmpI
  by_cases h1 : x < y
  · simp [h1]
  · by_cases h2 : y < x
    · simp [h1, h2]
    · have : x = y := by omega
      simp [this]
theorem or_cons0 {x : Int} (l : List Int) (h : x = 0) : orL (x :: l) = orL l := if_pos h
theorem or_cons1 {x : Int} (l : List Int) (h : x ≠ 0) : orL (x :: l) = x := if_neg h
theorem lex_zero : ∀ (l m : List Int), l.length = m.length → (orL (zipC l m) = 0 ↔ l = m)
  | [], [], _ => by simp [zipC, orL]
  | [], _ :: _, h => by simp at h
  | _ :: _, [], h => by simp at h
  | x :: l, y :: m, h => by
    have ih := lex_zero l m (by simpa using h)
    simp only [zipC]
    rcases cmpI_cases x y with ⟨h1, e⟩ | ⟨h1, e⟩ | ⟨h1, e⟩
    · rw [or_cons1 _ (by omega), e]
      simp only [List.cons.injEq]
      constructor
      · intro h2; omega
      · intro h2; omega
    · rw [or_cons0 _ e, ih, h1]
      simp
    · rw [or_cons1 _ (by omega), e]
      simp only [List.cons.injEq]
      constructor
      · intro h2; omega
      · intro h2; omega
theorem lex_neg : ∀ (l m : List Int), orL (zipC l m) = - orL (zipC m l)
  | [], [] => by simp [zipC, orL]
  | [], _ :: _ => by simp [zipC, orL]
  | _ :: _, [] => by simp [zipC, orL]
  | x :: l, y :: m => by
    have ih := lex_neg l m
    simp only [zipC]
    rcases cmpI_cases x y with ⟨h1, e⟩ | ⟨h1, e⟩ | ⟨h1, e⟩ <;> rcases cmpI_cases y x with ⟨h2, e2⟩ | ⟨h2, e2⟩ | ⟨h2, e2⟩
    all_goals first
      | (exfalso; omega)
      | (rw [or_cons1 _ (by omega), or_cons1 _ (by omega), e, e2] <;> rfl)
      | (rw [or_cons0 _ e, or_cons0 _ e2, ih])
theorem lex_three : ∀ (l m : List Int), orL (zipC l m) = -1 ∨ orL (zipC l m) = 0 ∨ orL (zipC l m) = 1
  | [], [] => by simp [zipC, orL]
  | [], _ :: _ => by simp [zipC, orL]
  | _ :: _, [] => by simp [zipC, orL]
  | x :: l, y :: m => by
    have ih := lex_three l m
    simp only [zipC]
    rcases cmpI_cases x y with ⟨h1, e⟩ | ⟨h1, e⟩ | ⟨h1, e⟩
    · rw [or_cons1 _ (by omega), e]; simp
    · rw [or_cons0 _ e]; exact ih
    · rw [or_cons1 _ (by omega), e]; simp
theorem lex_lt : ∀ (l m n : List Int), l.length = m.length → m.length = n.length → orL (zipC l m) < 0 → orL (zipC m n) < 0 → orL (zipC l n) < 0
  | [], [], _, _, _, h1, _ => by simp [zipC, orL] at h1
  | [], _ :: _, _, h, _, _, _ => by simp at h
  | _ :: _, [], _, h, _, _, _ => by simp at h
  | _ :: _, _ :: _, [], _, h, _, _ => by simp at h
  | x :: l, y :: m, z :: n, h1, h2, h3, h4 => by
    have ih := lex_lt l m n (by simpa using h1) (by simpa using h2)
    simp only [zipC] at h3 h4 ⊢
    rcases cmpI_cases x y with ⟨a1, e1⟩ | ⟨a1, e1⟩ | ⟨a1, e1⟩
    · rw [or_cons1 _ (by omega)] at h3
      rcases cmpI_cases y z with ⟨a2, e2⟩ | ⟨a2, e2⟩ | ⟨a2, e2⟩
      · rcases cmpI_cases x z with ⟨a3, e3⟩ | ⟨a3, e3⟩ | ⟨a3, e3⟩
        · rw [or_cons1 _ (by omega)]; omega
        · omega
        · omega
      · rcases cmpI_cases x z with ⟨a3, e3⟩ | ⟨a3, e3⟩ | ⟨a3, e3⟩
        · rw [or_cons1 _ (by omega)]; omega
        · omega
        · omega
      · rw [or_cons1 _ (by omega)] at h4; omega
    · rw [or_cons0 _ e1] at h3
      rcases cmpI_cases y z with ⟨a2, e2⟩ | ⟨a2, e2⟩ | ⟨a2, e2⟩
      · rcases cmpI_cases x z with ⟨a3, e3⟩ | ⟨a3, e3⟩ | ⟨a3, e3⟩
        · rw [or_cons1 _ (by omega)]; omega
        · omega
        · omega
      · rw [or_cons0 _ e2] at h4
        rcases cmpI_cases x z with ⟨a3, e3⟩ | ⟨a3, e3⟩ | ⟨a3, e3⟩
        · rw [or_cons1 _ (by omega)]; omega
        · rw [or_cons0 _ e3]; exact ih h3 h4
        · omega
      · rw [or_cons1 _ (by omega)] at h4; omega
    · rw [or_cons1 _ (by omega)] at h3; omega
theorem rowP_inj {p q : Px} (h : rowP p = rowP q) : p = q := by
  unfold rowP at h
  simp only [List.cons_append, List.cons.injEq] at h
  have hl : (p.a.b.l.map Int.ofNat).length = (q.a.b.l.map Int.ofNat).length := by simp [p.a.b.len, q.a.b.len]
  have h2 := List.append_inj h.2 hl
  have h3 : p.a.b.l = q.a.b.l := (List.map_inj_right (fun a b h => Int.ofNat.inj h)).1 h2.1
  exact Px.same.2 ⟨Ad.same.2 ⟨h.1, B16.same h3⟩, by simpa using h2.2⟩
theorem cmpP_zero (p q : Px) : cmpP p q = 0 ↔ p = q := by
  rw [← or_rows, lex_zero _ _ (by rw [rowP_len, rowP_len])]
  exact ⟨rowP_inj, fun h => by rw [h]⟩
theorem cmpP_neg (p q : Px) : cmpP p q = - cmpP q p := by rw [← or_rows, ← or_rows]; exact lex_neg _ _
theorem cmpP_three (p q : Px) : cmpP p q = -1 ∨ cmpP p q = 0 ∨ cmpP p q = 1 := by rw [← or_rows]; exact lex_three _ _
theorem cmpP_lt (p q r : Px) : cmpP p q < 0 → cmpP q r < 0 → cmpP p r < 0 := by
  rw [← or_rows, ← or_rows, ← or_rows]
  exact lex_lt _ _ _ (by rw [rowP_len, rowP_len]) (by rw [rowP_len, rowP_len])
theorem cmpB_le : ∀ (l m : List Nat), l.length = m.length → (∀ i, i < l.length → l.getD i 0 ≤ m.getD i 0) → cmpB l m ≤ 0
  | [], [], _, _ => by simp [cmpB]
  | [], _ :: _, h, _ => by simp at h
  | _ :: _, [], h, _ => by simp at h
  | a :: l, b :: m, h, hi => by
    have h0 := hi 0 (by simp)
    simp only [List.getD_cons_zero] at h0
    have ih := cmpB_le l m (by simpa using h) (fun i hl => by
      have := hi (i + 1) (by simpa using hl)
      simpa only [List.getD_cons_succ] using this)
    simp only [cmpB]
    split
    · omega
    · split
      · omega
      · exact ih
theorem holds_refl {p : Px} (h : okP p) : holdsM p p := ⟨h, Int.le_refl _, h, h.1, rfl, ((kept_iff _ _).2 h.2.2.2).symm⟩
theorem holds_okP {p q : Px} (h : holdsM p q) : okP p ∧ okP q := ⟨h.2.2.1, h.1⟩
theorem holds_same {p q : Px} (h : holdsM p q) (k : holdsM q p) : p = q := by
  have hn : p.n = q.n := Int.le_antisymm h.2.1 k.2.1
  have h1 := h.2.2.2.2.2
  rw [hn, (kept_iff _ _).2 h.1.2.2.2] at h1
  exact Px.same.2 ⟨Ad.same.2 ⟨h.2.2.2.2.1, h1⟩, hn⟩
theorem holds_trans {p q r : Px} (h : holdsM p q) (k : holdsM q r) : holdsM p r := by
  have hp := okP_le h.2.2.1
  refine ⟨k.1, Int.le_trans h.2.1 k.2.1, h.2.2.1, k.1.1, h.2.2.2.2.1.trans k.2.2.2.2.1, ?_⟩
  have h1 := h.2.2.2.2.2
  rw [k.2.2.2.2.2, kept_kept _ (by have := h.2.1; omega)] at h1
  exact h1
theorem has_both {p q : Px} {a : Ad} (h : hasM p a) (k : hasM q a) : holdsM p q ∨ holdsM q p := by
  have key : ∀ {p q : Px}, hasM p a → hasM q a → p.n ≤ q.n → holdsM p q := fun {p q} h k hn => by
    refine ⟨k.1, hn, h.1, k.1.1, h.2.2.1.trans k.2.2.1.symm, ?_⟩
    rw [k.2.2.2, kept_kept _ (by omega)]
    exact h.2.2.2
  by_cases hn : p.n ≤ q.n
  · exact .inl (key h k hn)
  · exact .inr (key k h (by omega))
theorem holds_cmp {p q : Px} (h : holdsM p q) : cmpP p q ≤ 0 := by
  have h1 : cmpB p.a.b.l q.a.b.l ≤ 0 := by
    refine cmpB_le _ _ (by rw [p.a.b.len, q.a.b.len]) fun i hi => ?_
    have h2 : p.a.b.at i = keepN (q.a.b.at i) (stayN p.n.toNat i) := by
      have h3 := h.2.2.2.2.2
      have h4 := keptB_at q.a.b p.n.toNat i (by rw [← p.a.b.len]; exact hi)
      rw [← h3] at h4
      exact h4
    have h5 := keepN_le (q.a.b.at i) (stayN p.n.toNat i)
    rw [← h2] at h5
    exact h5
  have h2 : cmpI p.a.v q.a.v = 0 := by rw [h.2.2.2.2.1]; simp [cmpI]
  have h3 : cmpI p.n q.n ≤ 0 := by
    have := h.2.1
    rcases cmpI_cases p.n q.n with ⟨a, e⟩ | ⟨a, e⟩ | ⟨a, e⟩ <;> omega
  unfold cmpP
  rw [or_cons0 _ h2]
  by_cases h4 : cmpB p.a.b.l q.a.b.l = 0
  · rw [or_cons0 _ h4]
    by_cases h5 : cmpI p.n q.n = 0
    · rw [or_cons0 _ h5]; simp [orL]
    · rw [or_cons1 _ h5]; exact h3
  · rw [or_cons1 _ h4]; exact h1
end Go.Proofs.YtikdgbmdepplgaaGreatDoor
