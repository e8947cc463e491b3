/-
  The contract of the reference's Differ. Nothing here is a statement of the document.
-/
import Derived.Test.YtdbdmnahgkkjiaaDoorTbR
import Derived.Test.YtdbdmnahgkkjiaaDoorTbT
namespace Go.Proofs.YtdbdmnahgkkjiaaDoor
open Go.RowKit Go.Shelf
set_option linter.unusedVariables false
set_option maxRecDepth 100000
attribute [local go_sem ↓] pbuild_rule papp_rule

theorem putK_len1 (L : List Rt) (p : Px) {h : Int} (h0 : h ≠ 0) : ∀ k, (putK L p h k).1.length ≤ k + (if (putK L p h k).2 = true then 1 else 0)
  | 0 => by simp [putK]
  | k + 1 => by
    have := putK_len1 L p h0 k
    unfold putK
    by_cases h1 : (rt L k).p = p
    · rw [if_pos h1]; omega
    · rw [if_neg h1]
      by_cases h2 : (putK L p h k).2 = false ∧ cmpP p (rt L k).p < 0
      · rw [if_pos h2]
        rw [h2.1] at this
        simp at this ⊢; omega
      · rw [if_neg h2]
        simp only [List.length_append, List.length_singleton]
        split at this <;> simp_all <;> omega
theorem putL_len1 (L : List Rt) (p : Px) {h : Int} (h0 : h ≠ 0) : (putL L p h).length ≤ L.length + 1 := by
  have := putK_len1 L p h0 L.length
  unfold putL
  by_cases h1 : (putK L p h L.length).2 = false
  · rw [if_pos h1]; rw [h1] at this; simp at this ⊢; omega
  · rw [if_neg h1]; split at this <;> omega
/-- The prefixes that of the first k rows of A the table B has not alike, put to what is there. -/
noncomputable def dfK (B A acc : List Rt) : Nat → List Rt
  | 0 => acc
  | k + 1 => if rgetV B (rt A k).p = (rt A k).h then dfK B A acc k else putL (dfK B A acc k) (rt A k).p 1
theorem dfK_len (B A acc : List Rt) : ∀ k, (dfK B A acc k).length ≤ acc.length + k
  | 0 => by simp [dfK]
  | k + 1 => by
    have := dfK_len B A acc k
    unfold dfK
    split
    · omega
    · have := putL_len1 (dfK B A acc k) (rt A k).p (h := 1) (by omega); omega
theorem dfK_rise (B A : List Rt) {acc : List Rt} (ha : acc.Pairwise ltR) : ∀ k, (dfK B A acc k).Pairwise ltR
  | 0 => ha
  | k + 1 => by
    unfold dfK
    split
    · exact dfK_rise B A ha k
    · exact (putL_spec (dfK_rise B A ha k) _ _).1
theorem dfK_yes {B A acc : List Rt} {k : Nat} (h : rgetV B (rt A k).p = (rt A k).h) : dfK B A acc (k + 1) = dfK B A acc k := by rw [dfK, if_pos h]
theorem dfK_no {B A acc : List Rt} {k : Nat} (h : ¬ rgetV B (rt A k).p = (rt A k).h) : dfK B A acc (k + 1) = putL (dfK B A acc k) (rt A k).p 1 := by rw [dfK, if_neg h]
theorem pbuild1_run (p : Px) (w : World) : (pbuildSem 1 #[(0, .agg p.cs)]).run Tryd.prog w = .ok (.slice (some ⟨w.heap.size, 0, none⟩) 1 1) (w.alloc (.cells p.cs 38)) := by
  unfold Px.cs Ad.cs
  obtain ⟨a0, a1, a2, a3, a4, a5, a6, a7, a8, a9, a10, a11, a12, a13, a14, a15, hh⟩ := p.a.b.out
  rw [hh]
  kernel_rfl
theorem OwnP.later {w w' : World} {B : Nat} {v : Value} {L : List Px} (h : OwnP w B v L) (k : Below w.heap.size w w') : OwnP w' B v L := by
  refine ⟨h.1, ?_⟩
  rcases h.2 with h | ⟨g, cap, cur, h1, h2, h3, h4⟩
  · exact .inl h
  · exact .inr ⟨g, cap, cur, h1, h2, (k.block _ (Array.getElem?_eq_some_iff.1 h3).1).trans h3, h4⟩
theorem OwnP.less {w : World} {B C : Nat} {v : Value} {L : List Px} (h : OwnP w B v L) (hC : C ≤ B) : OwnP w C v L := by
  refine ⟨h.1, ?_⟩
  rcases h.2 with h | ⟨g, cap, cur, h1, h2, h3⟩
  · exact .inl h
  · exact .inr ⟨g, cap, cur, h1, Nat.le_trans hC h2, h3⟩
/-- One prefix is appended. -/
theorem papp_one {w : World} {B m c : Nat} {a : Option Addr} {O : List Px} (ho : OwnP w B (.slice a m c) O) (hs : O.length ≤ 1000) (hB : B ≤ w.heap.size) (p : Px) :
    ∃ a' c' w2, (∀ ty : TypeId, (pappSem ty #[.slice a m c, .slice (some ⟨w.heap.size, 0, none⟩) 1 1]).run Tryd.prog (w.alloc (.cells p.cs 38)) = .ok (.slice a' (m + 1) c') w2) ∧ OwnP w2 B (.slice a' (m + 1) c') (O ++ [p]) ∧ Below B w w2 := by
  obtain ⟨_, _, e1, _⟩ := ho.lies
  have hml : m = O.length := by injection e1
  have k1 : Below w.heap.size w (w.alloc (.cells p.cs 38)) := (Below.refl _ _).alloc (Nat.le_refl _) _
  have hq : PxsAt (w.alloc (.cells p.cs 38)) (some ⟨w.heap.size, 0, none⟩) [p] := by
    have hb9 := Blk.new w 38 p.cs
    exact .inr ⟨w.heap.size, 0, rfl, pxw_cells _ _ [p] 0 hb9.lt (fun k u hk => by rw [Nat.zero_add, hb9.cell]; simpa [pxcs] using hk)⟩
  obtain ⟨v', w2, q1, q2, q3, _⟩ := papp_run (c := 1) 28 (ho.later k1) (m := 1) rfl hq (by omega) (by simp; omega)
  obtain ⟨a', c', e2, _⟩ := q2.lies
  have hl : (O ++ [p]).length = m + 1 := by simp [hml]
  rw [hl] at e2
  subst e2
  exact ⟨a', c', w2, fun ty => q1, q2, (k1.mono hB).grown q3 (by simp; omega) (fun k hk => ((ho.later k1).lt k hk).1)⟩
/-- A store into a box of one cell leaves rows as they were. -/
theorem Tbl.box {w : World} {g : Nat} {v0 : Value} (hb : Blk w g 24 #[v0]) {a : Option Addr} {c : Nat} {L : List Rt} (t : Tbl w a c L) (v : Value) : Tbl (w.setRow g #[v]) a c L := by
  by_cases hL : L = []
  · exact ⟨.inl hL, t.le, t.cap, t.nil⟩
  · refine t.kept ((Kept.refl [g] w).setRow (.inl (by simp)) _) fun x hx => ?_
    rcases t.at' with h1 | ⟨g', o, h1, h2⟩
    · exact absurd h1 hL
    · intro hm
      have e : g' = g := by rw [hx] at h1; cases h1; simpa using hm
      have hl : 0 < L.length := List.length_pos_iff.2 hL
      have q := h2.row 0 hl 1 (by omega)
      rw [e, hb.cell] at q
      simp at q
      have q2 := (rt L 0).size
      omega
attribute [local go_sem ↓] load_b16_rule store_b16_rule load_ad_rule store_ad_rule load_px_rule store_px_rule eq_b16_rule eq_ad_rule eq_px_rule load_rt_rule store_rt_rule build_ad_rule build_px_rule build_b16_rule build_rt_rule load_tab_rule build_tab_rule store_tab_rule tbuild_rule tapp_rule tcopy_rule eq_rt_rule

set_option maxHeartbeats 8000000 in
theorem rdiffer_any (a a2 : Option Addr) (n c n2 c2 : Nat) (A B : List Rt) (w : World) (hW : Wid w) (hn : A.length = n) (hT : Tbl w a c A) (hn2 : B.length = n2) (hT2 : Tbl w a2 c2 B) (hA : okT A) (hB : okT B) :
    Calls Tryd.prog 12 #[.agg #[.slice a n c], .agg #[.slice a2 n2 c2]] w fun e w' => ∃ v, e = .returned v ∧ OwnP w' w.heap.size v ((dfK A B (dfK B A [] n) n2).map (·.p)) ∧ Below w.heap.size w w' := by
  obtain ⟨W1, hW1⟩ : ∃ W1, (w.alloc (.cells #[.slice a n c] 24)).alloc (.cells #[.slice a2 n2 c2] 24) = W1 := ⟨_, rfl⟩
  have hb1 : Below w.heap.size w W1 := by rw [← hW1]; exact (((Below.refl w.heap.size w).alloc (Nat.le_refl _) _).alloc (by simp) _)
  have b1 : Blk W1 w.heap.size 24 #[.slice a n c] := by
    have h9 := (Blk.new w 24 #[.slice a n c]).alloc (.cells #[.slice a2 n2 c2] 24)
    rwa [hW1] at h9
  have b2 : Blk W1 (w.heap.size + 1) 24 #[.slice a2 n2 c2] := by
    have h9 := Blk.new (w.alloc (.cells #[.slice a n c] 24)) 24 #[.slice a2 n2 c2]
    rwa [World.size_alloc, hW1] at h9
  have hm : n ≤ 40 := by have := hA.1; omega
  have hm2 : n2 ≤ 40 := by have := hB.1; omega
  have hx1 : n ≤ 9223372036854775807 := by omega
  have hx2 : n2 ≤ 9223372036854775807 := by omega
  obtain ⟨W2, hW2⟩ : ∃ W2, W1.alloc (.cells #[.slice none 0 0] 24) = W2 := ⟨_, rfl⟩
  have k12 : Below W1.heap.size W1 W2 := by rw [← hW2]; exact (Below.refl _ _).alloc (Nat.le_refl _) _
  have bo : Blk W2 W1.heap.size 24 #[.slice none 0 0] := by rw [← hW2]; exact Blk.new _ _ _
  have HGB := fun w' (h : Below W1.heap.size W1 w') q => rget_any a2 n2 c2 B q w' hn2 (by omega) ((hT2.later hb1).later h) ((hW.later hb1).later h) hB.2.2
  have HGA := fun w' (h : Below W1.heap.size W1 w') q => rget_any a n c A q w' hn (by omega) ((hT.later hb1).later h) ((hW.later hb1).later h) hA.2.2
  have HF := Lib.hid (And.intro (fun w' (h : Below W1.heap.size W1 w') => (hT.at'.later hb1).later h) (And.intro (fun w' (h : Below W1.heap.size W1 w') => (hT2.at'.later hb1).later h) (And.intro (tab_c b1) (And.intro (tab_c b2) (And.intro (tab_t b1) (tab_t b2))))))
  have HG := Lib.hid (And.intro HGB HGA)
  have HWd := Lib.hid (fun w' (h : Below W1.heap.size W1 w') => (hW.later hb1).later h)
  have HB := Lib.hid (And.intro hb1 (And.intro hn (And.intro hn2 (And.intro hm (And.intro hm2 (And.intro k12 bo))))))
  clear hT hT2 hW b1 b2 hb1 k12 bo HGB HGA hA hB hm hm2 hn hn2
  go_enter Tryd.func12, Tryd.ntmps12
  go_wp2_with (with_reducible refine wpList_alloc_z rfl 24 rfl #[.slice none 0 0] 1 z_tab ?_)
  go_loopw [6] (fun i wr => ∃ (k : Nat) (v : Option Addr) (m cc : Nat), k ≤ n ∧ i = .int .i64 (k : Nat) ∧ m = (dfK B A [] k).length ∧ Blk wr W1.heap.size 24 #[.slice v m cc] ∧ Tbl wr v cc (dfK B A [] k) ∧ Below W1.heap.size W1 wr) (fun i _ => n - (intOf i).toNat)
  case atStart => exact ⟨0, none, 0, 0, Nat.zero_le _, rfl, rfl, HB.out.2.2.2.2.2.2, Tbl.none _, HB.out.2.2.2.2.2.1⟩
  case round =>
    obtain ⟨k, v, m, cc, hk, rfl, hmk, hbo, htb, hkb⟩ := hrel
    have CTr := HF.out.2.2.1 wr hkb
    by_cases hlt : k < n
    · have hkl : k < A.length := by have := HB.out.2.1; omega
      obtain ⟨g, o, rfl, hrow⟩ := (HF.out.1 wr hkb).spot hkl
      have h02 : Below wr.heap.size wr wr := Below.refl _ _
      have CT2 : ∀ w', Below wr.heap.size wr w' → w'.cell? ⟨w.heap.size, 0, none⟩ = some (.slice (some ⟨g, o, none⟩) n c) := fun w' h => HF.out.2.2.1 w' (bel_trans hkb h)
      have LU2 : ∀ w', Below wr.heap.size wr w' → (loadSem 24 (.pointer (some ⟨w.heap.size + 1, 0, none⟩))).run Tryd.prog w' = .ok (.agg #[.slice a2 n2 c2]) w' := fun w' h => HF.out.2.2.2.2.2 w' (bel_trans hkb h)
      have LP2 : ∀ w', Below wr.heap.size wr w' → (loadSem 38 (.pointer (some ⟨g, o + k * 19, none⟩))).run Tryd.prog w' = .ok (.agg (rt A k).p.cs) w' := fun w' h => (hrow.later h).loadp hkl
      have LH2 : ∀ w', Below wr.heap.size wr w' → w'.cell? ⟨g, o + k * 19 + 18, none⟩ = some (.int .i64 (rt A k).h) := fun w' h => (hrow.later h).hop hkl
      have HGT := fun w' (h : Below wr.heap.size wr w') => HG.out.1 w' (bel_trans hkb h) (rt A k).p
      have HK := Lib.hid (And.intro hmk (And.intro hbo (And.intro htb hkb)))
      clear hmk hbo htb hkb hrow CTr
      by_cases he : rgetV B (rt A k).p = (rt A k).h
      · have HE := Lib.hid (dfK_yes (acc := []) he)
        rw [he] at HGT
        have dq : ((rt A k).h != (rt A k).h) = false := by simp
        clear he
        go_wp2_with (first | (go_at_call 30; refine (HGT _ (by assumption)).mono ?_; rintro e w2 ⟨rfl, hb2⟩; have hk2 : Below wr.heap.size wr w2 := (by first | exact bel_trans (by assumption) hb2 | (subst hb2; assumption)); clear hb2) | (refine wp_region_lin (fun w' => Below wr.heap.size wr w') (by kernel_rfl) (by kernel_rfl) (bel_drew (by assumption)) ?_; (repeat (first | (refine lin_off (by rfl) ?_; (try simp only [Act.put, List.setIfInBounds_toArray, List.set_cons_zero, List.set_cons_succ])) | (refine lin_op (v := ?_) (by rfl) (fun w9 hS9 => ?_) ?_; rotate_left; (focus (((try dsimp only at hS9); go_simp; (try go_bits)) <;> with_reducible rfl)); (try simp only [Act.put, List.setIfInBounds_toArray, List.set_cons_zero, List.set_cons_succ])) | (refine lin_fn (f := 30) (by rfl) rfl rfl (enters_of Tryd.func30 (by kernel_rfl) rfl) (fun w9 hS9 => (HGT w9 hS9).mono (fun e w' h => ⟨h.1, (by first | exact bel_trans hS9 h.2 | (rw [← h.2]; exact hS9))⟩)) ?_ ?_; (focus (simp [Act.eval]; done)); (try simp only [Act.put, List.setIfInBounds_toArray, List.set_cons_zero, List.set_cons_succ])))); refine lin_nil (fun w8 hS8 => ?_)))
        go_roundw
        case rel => exact ⟨k + 1, v, m, cc, by omega, by go_num, by rw [HE.out]; exact HK.out.1, HK.out.2.1.later (by assumption), by rw [HE.out]; exact HK.out.2.2.1.later (by assumption), bel_trans HK.out.2.2.2 (by assumption)⟩
        case measure => simp [intOf]; omega
      · have HE := Lib.hid (dfK_no (acc := []) he)
        have dq : (rgetV B (rt A k).p != (rt A k).h) = true := by simpa using he
        clear he
        go_upto_region 6 with (first | (go_at_call 30; refine (HGT _ (by assumption)).mono ?_; rintro e w2 ⟨rfl, hb2⟩; have hk2 : Below wr.heap.size wr w2 := (by first | exact bel_trans (by assumption) hb2 | (subst hb2; assumption)); clear hb2) | (refine wp_region_lin (fun w' => Below wr.heap.size wr w') (by kernel_rfl) (by kernel_rfl) (bel_drew (by assumption)) ?_; (repeat (first | (refine lin_off (by rfl) ?_; (try simp only [Act.put, List.setIfInBounds_toArray, List.set_cons_zero, List.set_cons_succ])) | (refine lin_op (v := ?_) (by rfl) (fun w9 hS9 => ?_) ?_; rotate_left; (focus (((try dsimp only at hS9); go_simp; (try go_bits)) <;> with_reducible rfl)); (try simp only [Act.put, List.setIfInBounds_toArray, List.set_cons_zero, List.set_cons_succ])) | (refine lin_fn (f := 30) (by rfl) rfl rfl (enters_of Tryd.func30 (by kernel_rfl) rfl) (fun w9 hS9 => (HGT w9 hS9).mono (fun e w' h => ⟨h.1, (by first | exact bel_trans hS9 h.2 | (rw [← h.2]; exact hS9))⟩)) ?_ ?_; (focus (simp [Act.eval]; done)); (try simp only [Act.put, List.setIfInBounds_toArray, List.set_cons_zero, List.set_cons_succ])))); refine lin_nil (fun w8 hS8 => ?_)))
        have hmk := HK.out.1
        have hl40 : m ≤ 100 := by have := dfK_len B A [] k; have := HB.out.2.2.2.1; simp at *; omega
        have HPU := fun w' (h : Below wr.heap.size wr w') => rput_any v m cc (dfK B A [] k) (rt A k).p 1 w' hmk.symm hl40 (HWd.out w' (bel_trans HK.out.2.2.2 h)) (HK.out.2.2.1.later h)
        rw [← HE.out] at HPU
        have LO := fun w' (h : Below wr.heap.size wr w') => tab_t HK.out.2.1 w' h
        have ST := fun w' (h : Below wr.heap.size wr w') a9 n9 c9 => st_tab (a2 := a9) (n2 := n9) (c2 := c9) (HK.out.2.1.later h)
        have LD := bel_drew_all wr
        have LE := bel_alloc_all wr
        clear hmk hl40 HGT LH2 LU2 dq
        go_region_with (first | (go_at_call 31; refine (HPU _ (by first | assumption | exact LD _ (by assumption) | exact LE _ _ (by assumption) | exact LE _ _ (LD _ (by assumption)))).mono ?_; rintro e w3 ⟨a3, c3, rfl, t3, _, hb3⟩; have hk3 : Below wr.heap.size wr w3 := bel_trans (by first | assumption | exact LD _ (by assumption) | exact LE _ _ (by assumption) | exact LE _ _ (LD _ (by assumption))) hb3))
        all_goals go_wp2_with fail
        all_goals go_roundw
        all_goals first
          | exact ⟨k + 1, a3, _, c3, by omega, by go_num, rfl, (HK.out.2.1.later (by assumption)).row _, Tbl.box (HK.out.2.1.later (by assumption)) t3 _, below_setRow (bel_trans HK.out.2.2.2 (by assumption)) (Nat.le_refl _) _⟩
          | (simp [intOf]; omega)
    · obtain rfl : n = k := by omega
      obtain ⟨D, hD⟩ : ∃ D, dfK B A [] n = D := ⟨_, rfl⟩
      rw [hD] at hmk htb
      have hl1 : D.length ≤ 40 := by have q := dfK_len B A [] n; have := HB.out.2.2.2.1; rw [hD] at q; simp at q; omega
      have HD := Lib.hid (And.intro hmk (And.intro hbo (And.intro htb (And.intro hkb hl1))))
      have HDD := Lib.hid hD
      clear hmk hbo htb hl1 hD
      go_wp2_with fail
      go_loopw [7] (fun i wr => ∃ (k : Nat) (v : Option Addr) (m cc : Nat), k ≤ n2 ∧ i = .int .i64 (k : Nat) ∧ m = (dfK A B D k).length ∧ Blk wr W1.heap.size 24 #[.slice v m cc] ∧ Tbl wr v cc (dfK A B D k) ∧ Below W1.heap.size W1 wr) (fun i _ => n2 - (intOf i).toNat)
      case atStart => exact ⟨0, v, m, cc, Nat.zero_le _, rfl, HD.out.1, HD.out.2.1, HD.out.2.2.1, HD.out.2.2.2.1⟩
      case round =>
        obtain ⟨k, v, m, cc, hk, rfl, hmk, hbo, htb, hkb⟩ := hrel
        have CTr := HF.out.2.2.2.1 wr hkb
        by_cases hlt : k < n2
        · have hkl : k < B.length := by have := HB.out.2.2.1; omega
          obtain ⟨g, o, rfl, hrow⟩ := (HF.out.2.1 wr hkb).spot hkl
          have h02 : Below wr.heap.size wr wr := Below.refl _ _
          have CT2 : ∀ w', Below wr.heap.size wr w' → w'.cell? ⟨w.heap.size + 1, 0, none⟩ = some (.slice (some ⟨g, o, none⟩) n2 c2) := fun w' h => HF.out.2.2.2.1 w' (bel_trans hkb h)
          have LU2 : ∀ w', Below wr.heap.size wr w' → (loadSem 24 (.pointer (some ⟨w.heap.size, 0, none⟩))).run Tryd.prog w' = .ok (.agg #[.slice a n c]) w' := fun w' h => HF.out.2.2.2.2.1 w' (bel_trans hkb h)
          have LP2 : ∀ w', Below wr.heap.size wr w' → (loadSem 38 (.pointer (some ⟨g, o + k * 19, none⟩))).run Tryd.prog w' = .ok (.agg (rt B k).p.cs) w' := fun w' h => (hrow.later h).loadp hkl
          have LH2 : ∀ w', Below wr.heap.size wr w' → w'.cell? ⟨g, o + k * 19 + 18, none⟩ = some (.int .i64 (rt B k).h) := fun w' h => (hrow.later h).hop hkl
          have HGT := fun w' (h : Below wr.heap.size wr w') => HG.out.2 w' (bel_trans hkb h) (rt B k).p
          have HK := Lib.hid (And.intro hmk (And.intro hbo (And.intro htb hkb)))
          clear hmk hbo htb hkb hrow CTr
          by_cases he : rgetV A (rt B k).p = (rt B k).h
          · have HE := Lib.hid (dfK_yes (acc := D) he)
            rw [he] at HGT
            have dq : ((rt B k).h != (rt B k).h) = false := by simp
            clear he
            go_wp2_with (first | (go_at_call 30; refine (HGT _ (by assumption)).mono ?_; rintro e w2 ⟨rfl, hb2⟩; have hk2 : Below wr.heap.size wr w2 := (by first | exact bel_trans (by assumption) hb2 | (subst hb2; assumption)); clear hb2) | (refine wp_region_lin (fun w' => Below wr.heap.size wr w') (by kernel_rfl) (by kernel_rfl) (bel_drew (by assumption)) ?_; (repeat (first | (refine lin_off (by rfl) ?_; (try simp only [Act.put, List.setIfInBounds_toArray, List.set_cons_zero, List.set_cons_succ])) | (refine lin_op (v := ?_) (by rfl) (fun w9 hS9 => ?_) ?_; rotate_left; (focus (((try dsimp only at hS9); go_simp; (try go_bits)) <;> with_reducible rfl)); (try simp only [Act.put, List.setIfInBounds_toArray, List.set_cons_zero, List.set_cons_succ])) | (refine lin_fn (f := 30) (by rfl) rfl rfl (enters_of Tryd.func30 (by kernel_rfl) rfl) (fun w9 hS9 => (HGT w9 hS9).mono (fun e w' h => ⟨h.1, (by first | exact bel_trans hS9 h.2 | (rw [← h.2]; exact hS9))⟩)) ?_ ?_; (focus (simp [Act.eval]; done)); (try simp only [Act.put, List.setIfInBounds_toArray, List.set_cons_zero, List.set_cons_succ])))); refine lin_nil (fun w8 hS8 => ?_)))
            go_roundw
            case rel => exact ⟨k + 1, v, m, cc, by omega, by go_num, by rw [HE.out]; exact HK.out.1, HK.out.2.1.later (by assumption), by rw [HE.out]; exact HK.out.2.2.1.later (by assumption), bel_trans HK.out.2.2.2 (by assumption)⟩
            case measure => simp [intOf]; omega
          · have HE := Lib.hid (dfK_no (acc := D) he)
            have dq : (rgetV A (rt B k).p != (rt B k).h) = true := by simpa using he
            clear he
            go_upto_region 11 with (first | (go_at_call 30; refine (HGT _ (by assumption)).mono ?_; rintro e w2 ⟨rfl, hb2⟩; have hk2 : Below wr.heap.size wr w2 := (by first | exact bel_trans (by assumption) hb2 | (subst hb2; assumption)); clear hb2) | (refine wp_region_lin (fun w' => Below wr.heap.size wr w') (by kernel_rfl) (by kernel_rfl) (bel_drew (by assumption)) ?_; (repeat (first | (refine lin_off (by rfl) ?_; (try simp only [Act.put, List.setIfInBounds_toArray, List.set_cons_zero, List.set_cons_succ])) | (refine lin_op (v := ?_) (by rfl) (fun w9 hS9 => ?_) ?_; rotate_left; (focus (((try dsimp only at hS9); go_simp; (try go_bits)) <;> with_reducible rfl)); (try simp only [Act.put, List.setIfInBounds_toArray, List.set_cons_zero, List.set_cons_succ])) | (refine lin_fn (f := 30) (by rfl) rfl rfl (enters_of Tryd.func30 (by kernel_rfl) rfl) (fun w9 hS9 => (HGT w9 hS9).mono (fun e w' h => ⟨h.1, (by first | exact bel_trans hS9 h.2 | (rw [← h.2]; exact hS9))⟩)) ?_ ?_; (focus (simp [Act.eval]; done)); (try simp only [Act.put, List.setIfInBounds_toArray, List.set_cons_zero, List.set_cons_succ])))); refine lin_nil (fun w8 hS8 => ?_)))
            have hmk := HK.out.1
            have hl40 : m ≤ 100 := by have := dfK_len A B D k; have := HB.out.2.2.2.2.1; have := HD.out.2.2.2.2; omega
            have HPU := fun w' (h : Below wr.heap.size wr w') => rput_any v m cc (dfK A B D k) (rt B k).p 1 w' hmk.symm hl40 (HWd.out w' (bel_trans HK.out.2.2.2 h)) (HK.out.2.2.1.later h)
            rw [← HE.out] at HPU
            have LO := fun w' (h : Below wr.heap.size wr w') => tab_t HK.out.2.1 w' h
            have ST := fun w' (h : Below wr.heap.size wr w') a9 n9 c9 => st_tab (a2 := a9) (n2 := n9) (c2 := c9) (HK.out.2.1.later h)
            have LD := bel_drew_all wr
            have LE := bel_alloc_all wr
            clear hmk hl40 HGT LH2 LU2 dq
            go_region_with (first | (go_at_call 31; refine (HPU _ (by first | assumption | exact LD _ (by assumption) | exact LE _ _ (by assumption) | exact LE _ _ (LD _ (by assumption)))).mono ?_; rintro e w3 ⟨a3, c3, rfl, t3, _, hb3⟩; have hk3 : Below wr.heap.size wr w3 := bel_trans (by first | assumption | exact LD _ (by assumption) | exact LE _ _ (by assumption) | exact LE _ _ (LD _ (by assumption))) hb3))
            all_goals go_wp2_with fail
            all_goals go_roundw
            all_goals first
              | exact ⟨k + 1, a3, _, c3, by omega, by go_num, rfl, (HK.out.2.1.later (by assumption)).row _, Tbl.box (HK.out.2.1.later (by assumption)) t3 _, below_setRow (bel_trans HK.out.2.2.2 (by assumption)) (Nat.le_refl _) _⟩
              | (simp [intOf]; omega)
        · obtain rfl : n2 = k := by omega
          obtain ⟨D2, hD2⟩ : ∃ D2, dfK A B D n2 = D2 := ⟨_, rfl⟩
          rw [hD2] at hmk htb
          have hl2 : D2.length ≤ 80 := by have q := dfK_len A B D n2; have := HB.out.2.2.2.2.1; have := HD.out.2.2.2.2; rw [hD2] at q; omega
          have CO := tab_c hbo
          have HE2 := Lib.hid (And.intro hmk (And.intro htb (And.intro hkb (And.intro hl2 hD2))))
          obtain ⟨W5, hW5⟩ : ∃ x, x = wr := ⟨_, rfl⟩
          have hx3 : m ≤ 9223372036854775807 := by omega
          clear hmk hbo htb hkb hl2 hD2
          subst hW5
          go_wp2_with fail
          go_loopw [8, 9] (fun ov i wx => ∃ (k : Nat), k ≤ m ∧ i = .int .i64 (k : Nat) ∧ OwnP wx W5.heap.size ov ((D2.map (·.p)).take k) ∧ Below W5.heap.size W5 wx) (fun ov i _ => m - (intOf i).toNat)
          case atStart => exact ⟨0, Nat.zero_le _, rfl, ⟨rfl, .inl ⟨rfl, rfl⟩⟩, Below.refl _ _⟩
          case round =>
            obtain ⟨k, hk, rfl, hown, hkx⟩ := hrel
            have CTr := CO wr hkx
            by_cases hlt : k < m
            · have hkl : k < D2.length := by have := HE2.out.1; omega
              obtain ⟨g, o, rfl, hrow⟩ := (HE2.out.2.1.at'.later hkx).spot hkl
              obtain ⟨a7, c7, rfl, _⟩ := hown.lies
              have hln : ((D2.map (·.p)).take k).length = k := by rw [List.length_take, List.length_map]; omega
              rw [hln] at hown
              obtain ⟨a8, c8, w4, r4, o4, k4⟩ := papp_one hown (by rw [hln]; have := HE2.out.2.2.2.1; omega) hkx.size (rt D2 k).p
              have htk : (D2.map (·.p)).take (k + 1) = (D2.map (·.p)).take k ++ [(rt D2 k).p] := by
                rw [List.take_add_one]; simp [rt, hkl]
              have BP := pbuild1_run (rt D2 k).p wr
              have LP9 := hrow.loadp hkl
              have HQ := Lib.hid (And.intro o4 (And.intro (hkx.trans k4) htk))
              rw [hln]
              clear hown hkx hln o4 k4 htk hrow
              go_wp2
              go_roundw
              case rel => exact ⟨k + 1, by omega, by go_num, by rw [HQ.out.2.2]; exact HQ.out.1, HQ.out.2.1⟩
              case measure => simp [intOf]; omega
            · obtain rfl : m = k := by omega
              have e7 : (D2.map (·.p)).take m = D2.map (·.p) := by rw [HE2.out.1, ← List.length_map (f := (·.p)), List.take_length]
              rw [e7] at hown
              have HQ := Lib.hid (And.intro hown (And.intro hkx e7))
              clear hown hkx e7
              go_wp2
              go_ret
              have hD9 : dfK A B (dfK B A [] n) n2 = D2 := by rw [HDD.out]; exact HE2.out.2.2.2.2
              exact ⟨_, rfl, by rw [hD9]; exact HQ.out.1.less (by have := HB.out.1.size; have := HE2.out.2.2.1.size; omega), (HB.out.1.trans (HE2.out.2.2.1.mono HB.out.1.size)).trans (HQ.out.2.1.mono (by have := HB.out.1.size; have := HE2.out.2.2.1.size; omega))⟩
end Go.Proofs.YtdbdmnahgkkjiaaDoor
