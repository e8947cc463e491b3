/-
  The contracts of the law's copied, of the reference's Right and Longest. Nothing here is a statement of the document.
-/
import Derived.Test.YtdbdmnahgkkjiaaDoorLinZ
import Derived.Test.YtdbdmnahgkkjiaaDoorLinG
namespace Go.Proofs.YtdbdmnahgkkjiaaDoor
open Go.RowKit Go.Shelf
set_option linter.unusedVariables false
set_option maxRecDepth 100000
theorem elem_u89 : Tryd.prog.elem 39 = 5 := by simp [Program.elem, Tryd.underlying39]
/-- s[k:] of bytes. -/
def cutB (x lo : Value) : Sem Value := Instr.sliceAt 39 x (some lo) none none
theorem cutB_rule (x lo : Value) : Instr.sliceAt 39 x (some lo) none none = cutB x lo := rfl
theorem cutB_run {w : World} {a : Option Addr} {len cap : Nat} {l : List Nat} (hl : l.length = len) (hc : len ≤ cap) (hL : Lies w a l) (k : Nat) (hk : k ≤ len) :
    ∃ a', (∀ w2, (cutB (.slice a len cap) (.int .i64 (k : Int))).run Tryd.prog w2 = .ok (.slice a' (len - k) (cap - k)) w2) ∧ Lies w a' (l.drop k) := by
  refine ⟨if cap = k then a else a.map (·.add k), fun w2 => ?_, ?_⟩
  · unfold cutB
    have hu : Tryd.prog.underlying 39 = some (.slice (Tryd.prog.elem 39)) := by rw [elem_u89]; exact Tryd.underlying39
    rw [run_sliceAt_slice w2 39 _ _ _ _ hu, run_slice_l w2 39 a len cap hu .i64 (k : Int) (by omega) (by omega)]
    rw [elem_u89]
    go_simp
  · rcases Nat.eq_or_lt_of_le hk with e | h
    · left; rw [List.drop_eq_nil_iff]; omega
    · rw [if_neg (by omega)]
      rcases hL with rfl | ⟨b, off, rfl, hb, hc2⟩
      · simp at hl; omega
      · refine .inr ⟨b, off + k, by simp [Addr.add], hb, fun i hi => ?_⟩
        rw [Nat.add_assoc, hc2 (k + i) (by simp at hi; omega)]
        simp [List.getD_eq_getElem?_getD]
theorem Bys.drop9 {l : List Nat} (h : Bys l) (k : Nat) : Bys (l.drop k) := fun x hx => h x (List.mem_of_mem_drop hx)
theorem Lies.byte {w : World} {a : Option Addr} {l : List Nat} (h : Lies w a l) {i : Nat} (hi : i < l.length) : ∃ g o, a = some ⟨g, o, none⟩ ∧ ∀ j, j < l.length → w.cell? ⟨g, o + j, none⟩ = some (.int .u8 (l.getD j 0 : Nat)) := by
  rcases h with rfl | ⟨b, off, rfl, hb, hc⟩
  · simp at hi
  · exact ⟨b, off, rfl, fun j hj => hc j hj⟩

/-! ### What bytes say -/
/-- The row with whose bytes these begin, how many they are, or why there is none. -/
noncomputable def fE (l : List Nat) : Int := if decPE l = 151 then 190 else if decPE l ≠ 0 ∨ decPN l = l.length then 7 else 0
noncomputable def fR (l : List Nat) : Rt := if fE l = 0 then ⟨decPX l, (l.getD (decPN l) 0 : Nat)⟩ else Rt.zero
noncomputable def fN (l : List Nat) : Nat := if fE l = 0 then decPN l + 1 else 0
theorem f_bad {l : List Nat} (h : decPE l = 151) : fE l = 190 ∧ fR l = Rt.zero ∧ fN l = 0 := by
  have e : fE l = 190 := if_pos h
  exact ⟨e, if_neg (by rw [e]; omega), if_neg (by rw [e]; omega)⟩
theorem f_short {l : List Nat} (h : decPE l ≠ 151) (h2 : decPE l ≠ 0 ∨ decPN l = l.length) : fE l = 7 ∧ fR l = Rt.zero ∧ fN l = 0 := by
  have e : fE l = 7 := by unfold fE; rw [if_neg h, if_pos h2]
  exact ⟨e, if_neg (by rw [e]; omega), if_neg (by rw [e]; omega)⟩
theorem f_ok {l : List Nat} (hB : Bys l) (h : decPE l = 0) (h2 : decPN l ≠ l.length) : fE l = 0 ∧ fR l = ⟨decPX l, (l.getD (decPN l) 0 : Nat)⟩ ∧ fN l = decPN l + 1 ∧ decPN l < l.length := by
  have e : fE l = 0 := by unfold fE; rw [if_neg (by omega), if_neg (by rintro (h3 | h3); exact h3 h; exact h2 h3)]
  have := (enc_dec hB h).2.2
  exact ⟨e, if_pos e, if_pos e, by omega⟩
theorem f_three (l : List Nat) : fE l = 0 ∨ fE l = 7 ∨ fE l = 190 := by
  unfold fE
  split
  · simp
  · split <;> simp
theorem f_zero {l : List Nat} (hB : Bys l) (h : fE l = 0) : decPE l = 0 ∧ fN l = decPN l + 1 ∧ decPN l < l.length := by
  by_cases h1 : decPE l = 151
  · rw [(f_bad h1).1] at h; omega
  · by_cases h2 : decPE l ≠ 0 ∨ decPN l = l.length
    · rw [(f_short h1 h2).1] at h; omega
    · have h3 : decPE l = 0 := Classical.byContradiction fun h4 => h2 (.inl h4)
      have h4 : decPN l ≠ l.length := fun h5 => h2 (.inr h5)
      exact ⟨h3, (f_ok hB h3 h4).2.2⟩
/-- So many rows: them, what is left, or why not. -/
noncomputable def decR : Nat → List Nat → List Rt × List Nat × Int
  | 0, l => ([], l, 0)
  | k + 1, l => if fE l ≠ 0 then ([], l, fE l) else (fR l :: (decR k (l.drop (fN l))).1, (decR k (l.drop (fN l))).2)
theorem decR_stop {k : Nat} {l : List Nat} (h : fE l ≠ 0) : decR (k + 1) l = ([], l, fE l) := if_pos h
theorem decR_next {k : Nat} {l : List Nat} (h : fE l = 0) : decR (k + 1) l = (fR l :: (decR k (l.drop (fN l))).1, (decR k (l.drop (fN l))).2) := if_neg (fun h2 => h2 h)
theorem decR_three : ∀ (k : Nat) (l : List Nat), (decR k l).2.2 = 0 ∨ (decR k l).2.2 = 7 ∨ (decR k l).2.2 = 190
  | 0, l => .inl rfl
  | k + 1, l => by
    rcases f_three l with h | h | h
    · rw [decR_next h]; exact decR_three k _
    · rw [decR_stop (by rw [h]; omega), h]; simp
    · rw [decR_stop (by rw [h]; omega), h]; simp
noncomputable def dtE (L : List Nat) : Int := if L = [] then 7 else if (decR (L.getD 0 0) (L.drop 1)).2.2 ≠ 0 then (decR (L.getD 0 0) (L.drop 1)).2.2 else if (decR (L.getD 0 0) (L.drop 1)).2.1 ≠ [] ∨ ¬ okT (decR (L.getD 0 0) (L.drop 1)).1 then 190 else 0
noncomputable def dtR (L : List Nat) : List Rt := if dtE L = 0 then (decR (L.getD 0 0) (L.drop 1)).1 else []

attribute [local go_sem ↓] load_b16_rule store_b16_rule load_ad_rule store_ad_rule load_px_rule store_px_rule eq_b16_rule eq_ad_rule eq_px_rule load_rt_rule store_rt_rule build_ad_rule build_px_rule build_b16_rule build_rt_rule load_tab_rule build_tab_rule store_tab_rule tbuild_rule tapp_rule tcopy_rule eq_rt_rule cutB_rule
set_option maxHeartbeats 4000000 in
theorem first_any (a : Option Addr) (cap : Nat) (l : List Nat) (n : Nat) (w : World) (hW : Wid w) (hB : Bys l) (hn : l.length = n) (hlm : n ≤ 4000) (hc : n ≤ cap) (hcm : cap ≤ 9223372036854775807) (hL : Lies w a l) :
    Calls Tryd.prog 32 #[.slice a n cap] w fun e w' => e = .returned (.tuple #[.agg (fR l).cs, .int .i64 (fN l : Int), .int .i64 (fE l)]) ∧ Below w.heap.size w w' := by
  obtain ⟨W1, hW1⟩ : ∃ W1, w.alloc (.cells Rt.zero.cs 48) = W1 := ⟨_, rfl⟩
  have hb1 : Below w.heap.size w W1 := by rw [← hW1]; exact (Below.refl _ _).alloc (Nat.le_refl _) _
  have b1 : Blk W1 w.heap.size 48 Rt.zero.cs := by rw [← hW1]; exact Blk.new _ _ _
  have HD := decode_any a cap l W1 (hW.later hb1) hB (by omega) (by omega) hcm (hL.kept hb1)
  rw [hn] at HD
  obtain ⟨E, hE⟩ : ∃ E, decPE l = E := ⟨_, rfl⟩
  obtain ⟨N, hN⟩ : ∃ N, decPN l = N := ⟨_, rfl⟩
  obtain ⟨X, hX⟩ : ∃ X, decPX l = X := ⟨_, rfl⟩
  rw [hE, hN, hX] at HD
  have HB := Lib.hid (And.intro hb1 (And.intro b1 (And.intro hL (And.intro hn hB))))
  clear hL hW hb1 b1 hB
  go_enter Tryd.func32, Tryd.ntmps32
  go_wp2_with (with_reducible refine wpList_alloc_z rfl 48 rfl Rt.zero.cs 19 z_rt ?_)
  refine HD.mono ?_
  rintro e w2 ⟨rfl, hb2⟩
  obtain ⟨W3, hW3⟩ : ∃ W3, w2.alloc (.cells X.cs 38) = W3 := ⟨_, rfl⟩
  have S2 := st_px (q := X) (Blk.new w2 38 Px.zero.cs)
  rw [World.setRow_alloc_new, hW3] at S2
  have b3 : Blk W3 w2.heap.size 38 X.cs := by rw [← hW3]; exact Blk.new _ _ _
  have k23 : Below w2.heap.size w2 W3 := by rw [← hW3]; exact (Below.refl _ _).alloc (Nat.le_refl _) _
  have k13 : Below W1.heap.size W1 W3 := bel_trans hb2 k23
  have b13 := HB.out.2.1.later k13
  have STZ := st_rt (q := Rt.zero) b13
  have B0 := build_rt0
  have H3 := Lib.hid (And.intro b3 (And.intro k13 b13))
  clear hb2 k23 b3 k13 HD b13
  by_cases h1 : E = 151
  · have HF := Lib.hid (f_bad (hE.trans h1))
    subst h1
    clear hE hN hX
    go_wp2_with (with_reducible refine wpList_alloc_z rfl 38 rfl Px.zero.cs 18 z_px ?_)
    refine bodyPost_ret (results_blk2 rfl _ _ w.heap.size _ _ rfl ((HB.out.2.1.later H3.out.2.1).row _) Tryd.underlying48 rfl (s_rt _)) rfl ?_
    exact ⟨by rw [HF.out.1, HF.out.2.1, HF.out.2.2]; rfl, below_setRow (bel_trans HB.out.1 H3.out.2.1) (Nat.le_refl _) _⟩
  · have d1 : (E == 151) = false := by simp [h1]
    by_cases h2 : E = 0
    · by_cases h3 : N = n
      · have HF := Lib.hid (f_short (l := l) (by rw [hE]; exact h1) (.inr (by rw [hN, HB.out.2.2.2.1]; exact h3)))
        subst h2
        have d3 : ((N : Int) == (n : Int)) = true := by simp [h3]
        clear hE hN hX h1 h3
        go_wp2_with (with_reducible refine wpList_alloc_z rfl 38 rfl Px.zero.cs 18 z_px ?_)
        refine bodyPost_ret (results_blk2 rfl _ _ w.heap.size _ _ rfl ((HB.out.2.1.later H3.out.2.1).row _) Tryd.underlying48 rfl (s_rt _)) rfl ?_
        exact ⟨by rw [HF.out.1, HF.out.2.1, HF.out.2.2]; rfl, below_setRow (bel_trans HB.out.1 H3.out.2.1) (Nat.le_refl _) _⟩
      · have hf := f_ok HB.out.2.2.2.2 (hE.trans h2) (by rw [hN, HB.out.2.2.2.1]; exact h3)
        rw [hN, hX, HB.out.2.2.2.1] at hf
        have HF := Lib.hid hf
        subst h2
        have d3 : ((N : Int) == (n : Int)) = false := by simp; omega
        have hNn : N < n := hf.2.2.2
        have wN : wrap64 ((N : Int) + 1) = (N : Int) + 1 := wrap_next (by omega)
        obtain ⟨g, o, rfl, hcell⟩ := HB.out.2.2.1.byte (i := N) (by have := HB.out.2.2.2.1; omega)
        have hcN : w.cell? ⟨g, o + N, none⟩ = some (.int .u8 ((l.getD N 0 : Nat) : Int)) := hcell N (by have := HB.out.2.2.2.1; omega)
        have hgl : g < w.heap.size := by
          rcases HB.out.2.2.1 with h | ⟨b, off, e, hb, _⟩
          · have := HB.out.2.2.2.1; rw [h] at this; simp at this; omega
          · cases e; exact hb
        obtain ⟨hp, hhp⟩ : ∃ hp, l.getD N 0 = hp := ⟨_, rfl⟩
        rw [hhp] at hcN
        have hp256 : hp < 256 := by
          rw [← hhp]
          have hlen : N < l.length := by have := HB.out.2.2.2.1; omega
          simp only [List.getD_eq_getElem?_getD, List.getElem?_eq_getElem hlen, Option.getD_some]
          exact HB.out.2.2.2.2 _ (List.getElem_mem hlen)
        have hcv : IntKind.i64.wrap (hp : Int) = (hp : Int) := by
          unfold IntKind.wrap
          simp [IntKind.bits, IntKind.signed]
          omega
        have kw3 : Below w.heap.size w W3 := bel_trans HB.out.1 H3.out.2.1
        have LX := px_p H3.out.1
        have LB : ∀ w', Below W3.heap.size W3 w' → w'.cell? ⟨g, o + N, none⟩ = some (.int .u8 (hp : Int)) := fun w' h => ((bel_trans kw3 h).cell (p := ⟨g, o + N, none⟩) hgl).trans hcN
        have BR := build_rt X (hp : Int)
        have STR := st_rt (q := Rt.mk X (hp : Int)) (H3.out.2.2.later (Below.refl W3.heap.size W3).drew)
        have hSd : Below W3.heap.size W3 W3.drew := (Below.refl _ _).drew
        have HP := Lib.hid (And.intro hhp kw3)
        clear hE hN hX h1 h3 hf hcell hcN hgl hp256 kw3 hhp STZ
        go_wp2_with (with_reducible refine wpList_alloc_z rfl 38 rfl Px.zero.cs 18 z_px ?_)
        refine wp_region_linG (fun w' => Below W3.heap.size W3 w') 9 [9] [7, 8, 10, 11] [0, 1, 2, 3, 4, 5, 6, 7, 8, 9, 10, 11] (by kernel_rfl) (by kernel_rfl) hSd ?_
        iterate 9 (first | (refine linG_op (v := ?_) rfl rfl rfl (by rfl) (fun w9 hS9 => ?_) ?_; rotate_left; (focus (((try dsimp only at hS9); go_simp; (try go_bits)) <;> with_reducible rfl)); (try simp only [Act.put, List.getElem_toArray, List.getElem_cons_zero, List.getElem_cons_succ, List.setIfInBounds_toArray, List.set_cons_zero, List.set_cons_succ])) | (refine linG_free (v := ?_) rfl rfl (by rfl) (fun w9 => ?_) ?_; rotate_left; (focus ((go_simp; (try go_bits)) <;> with_reducible rfl)); (try simp only [Act.put, List.getElem_toArray, List.getElem_cons_zero, List.getElem_cons_succ, List.setIfInBounds_toArray, List.set_cons_zero, List.set_cons_succ])))
        refine linG_fin (w' := W3.drew.setRow w.heap.size (Rt.mk X (hp : Int)).cs) rfl rfl (by rfl) (by go_simp) ?_
        (try simp only [Act.put, List.getElem_toArray, List.getElem_cons_zero, List.getElem_cons_succ, List.setIfInBounds_toArray, List.set_cons_zero, List.set_cons_succ])
        iterate 2 (first | (refine linG_op (v := ?_) rfl rfl rfl (by rfl) (fun w9 hS9 => ?_) ?_; rotate_left; (focus (((try dsimp only at hS9); go_simp; (try go_bits)) <;> with_reducible rfl)); (try simp only [Act.put, List.getElem_toArray, List.getElem_cons_zero, List.getElem_cons_succ, List.setIfInBounds_toArray, List.set_cons_zero, List.set_cons_succ])) | (refine linG_free (v := ?_) rfl rfl (by rfl) (fun w9 => ?_) ?_; rotate_left; (focus ((go_simp; (try go_bits)) <;> with_reducible rfl)); (try simp only [Act.put, List.getElem_toArray, List.getElem_cons_zero, List.getElem_cons_succ, List.setIfInBounds_toArray, List.set_cons_zero, List.set_cons_succ])))
        refine linG_nil ?_
        go_wp2_with fail
        refine bodyPost_ret (results_blk2 rfl _ _ w.heap.size _ _ rfl ((HB.out.2.1.later (bel_trans H3.out.2.1 hSd)).row _) Tryd.underlying48 rfl (s_rt _)) rfl ?_
        exact ⟨by rw [HF.out.1, HF.out.2.1, HF.out.2.2.1, HP.out.1]; rfl, below_setRow (bel_trans HP.out.2 hSd) (Nat.le_refl _) _⟩
    · have HF := Lib.hid (f_short (l := l) (by rw [hE]; exact h1) (.inl (by rw [hE]; exact h2)))
      have d2 : (E != 0) = true := by simp [h2]
      clear hE hN hX h1 h2
      go_wp2_with (with_reducible refine wpList_alloc_z rfl 38 rfl Px.zero.cs 18 z_px ?_)
      refine bodyPost_ret (results_blk2 rfl _ _ w.heap.size _ _ rfl ((HB.out.2.1.later H3.out.2.1).row _) Tryd.underlying48 rfl (s_rt _)) rfl ?_
      exact ⟨by rw [HF.out.1, HF.out.2.1, HF.out.2.2]; rfl, below_setRow (bel_trans HB.out.1 H3.out.2.1) (Nat.le_refl _) _⟩
end Go.Proofs.YtdbdmnahgkkjiaaDoor
namespace Go.Proofs.YtdbdmnahgkkjiaaDoor
open Go.RowKit Go.Shelf
set_option linter.unusedVariables false
set_option maxRecDepth 100000
attribute [local go_sem ↓] load_b16_rule store_b16_rule load_ad_rule store_ad_rule load_px_rule store_px_rule eq_b16_rule eq_ad_rule eq_px_rule load_rt_rule store_rt_rule build_ad_rule build_px_rule build_b16_rule build_rt_rule load_tab_rule build_tab_rule store_tab_rule tbuild_rule tapp_rule tcopy_rule eq_rt_rule

theorem tapp_none {w : World} (ty : TypeId) {B : Nat} {v : Value} {L : List Rt} (h : OwnT w B v L) : (tappSem ty #[v, .slice none 0 0]).run Tryd.prog w = .ok v w := by
  obtain ⟨i0, hi, hz0, hz1, hz2⟩ := info_parts info_rt
  exact run_append_owned_none (P := Tryd.prog) w B 22 ty 48 i0 19 Tryd.underlying22 hi v L.length (rtcs L) h
set_option maxHeartbeats 1600000 in
theorem copied_any (a : Option Addr) (n c : Nat) (L : List Rt) (w : World) (hn : L.length = n) (hs : n ≤ 100000) (hT : Tbl w a c L) :
    Calls Tryd.prog 9 #[.agg #[.slice a n c]] w fun e w' => ∃ a' c', e = .returned (.agg #[.slice a' n c']) ∧ Tbl w' a' c' L ∧ (∀ x, a' = some x → w.heap.size ≤ x.block) ∧ Below w.heap.size w w' := by
  obtain ⟨W0, hW0⟩ : ∃ W0, w.alloc (.cells #[.slice a n c] 24) = W0 := ⟨_, rfl⟩
  obtain ⟨W1, hW1⟩ : ∃ W1, W0.alloc (.cells #[.slice none 0 0] 24) = W1 := ⟨_, rfl⟩
  have hb0 : Below w.heap.size w W0 := by rw [← hW0]; exact (Below.refl _ _).alloc (Nat.le_refl _) _
  have hb01 : Below W0.heap.size W0 W1 := by rw [← hW1]; exact (Below.refl _ _).alloc (Nat.le_refl _) _
  have b1 : Blk W1 w.heap.size 24 #[.slice a n c] := by
    have h : Blk W0 w.heap.size 24 #[.slice a n c] := by rw [← hW0]; exact Blk.new _ _ _
    exact h.later hb01
  have b2 : Blk W1 W0.heap.size 24 #[.slice none 0 0] := by rw [← hW1]; exact Blk.new _ _ _
  have hb1 := bel_trans hb0 hb01
  have sz0 : W0.heap.size = w.heap.size + 1 := by rw [← hW0]; simp
  have BS : (tbuildSem 0 #[]).run Tryd.prog W1 = .ok (.slice (some ⟨W1.heap.size, 0, none⟩) 0 0) (W1.alloc (.cells #[] 48)) := tbuild0_run W1
  obtain ⟨W2, hW2⟩ : ∃ W2, W1.alloc (.cells #[] 48) = W2 := ⟨_, rfl⟩
  have hb12 : Below W1.heap.size W1 W2 := by rw [← hW2]; exact (Below.refl _ _).alloc (Nat.le_refl _) _
  have hb02 := bel_trans hb1 hb12
  have own2 : OwnT W2 W1.heap.size (.slice (some ⟨W1.heap.size, 0, none⟩) 0 0) [] := by rw [← hW2]; exact own0 W1 W1.heap.size (Nat.le_refl _)
  rw [hW2] at BS
  have C2 : W2.cell? ⟨w.heap.size, 0, none⟩ = some (.slice a n c) := tab_c b1 W2 hb12
  obtain ⟨v3, W3, hrun, hown, hbel⟩ : ∃ v3 W3, (∀ ty, (tappSem ty #[.slice (some ⟨W1.heap.size, 0, none⟩) 0 0, .slice a n c]).run Tryd.prog W2 = .ok v3 W3) ∧ OwnT W3 W1.heap.size v3 L ∧ Below W1.heap.size W1 W3 := by
    cases a with
    | none =>
      obtain rfl : L = [] := by
        rcases hT.at' with h | ⟨g, o, h, _⟩
        · exact h
        · cases h
      obtain rfl := hT.nil rfl
      obtain rfl : n = 0 := hn.symm
      exact ⟨_, W2, fun ty => tapp_none ty own2, own2, hb12⟩
    | some x =>
      obtain ⟨v', w', h1, h2, h3, h4⟩ := tapp_run (c := c) 22 own2 hn (hT.at'.later hb02) (by simp; omega) hb12.size
      exact ⟨v', w', fun ty => h1, by simpa using h2, hb12.grown h3 hb12.size (fun k hk => by cases hk; exact Nat.le_refl _)⟩
  obtain ⟨a3, c3, rfl, t3⟩ := hown.tbl
  obtain ⟨_, _, hbk⟩ := hown.tbl2
  rw [hn] at hrun
  have BT := build_tab1 a3 n c3
  have ST := st_tab (a2 := a3) (n2 := n) (c2 := c3) (b2.later hbel)
  have HZ := Lib.hid (And.intro t3 (And.intro hbk (And.intro (b2.later hbel) (And.intro (bel_trans hb1 hbel) (And.intro sz0 (And.intro hb01.size b2.lt))))))
  clear hown t3 hbk b1 b2 hb0 hb01 hb1 sz0 hb12 hb02 own2 hbel hW2 hT hs
  go_enter Tryd.func9, Tryd.ntmps9
  go_wp2_with (with_reducible refine wpList_alloc_z rfl 24 rfl #[.slice none 0 0] 1 z_tab ?_)
  refine bodyPost_ret (results_cell_row rfl _ _ W0.heap.size 24 _ (0, 0) _ rfl (HZ.out.2.2.1.row _) Tryd.underlying24 rfl s_tab1) rfl ?_
  exact ⟨a3, c3, rfl, HZ.out.1.kept ((Kept.refl [W0.heap.size] W3).setRow (.inl (by simp)) _) (fun x hx => by have := HZ.out.2.1 x hx; have := HZ.out.2.2.2.2.2.2; simp; omega), (fun x hx => by have := HZ.out.2.1 x hx; have := HZ.out.2.2.2.2.2.2; have := HZ.out.2.2.2.2.1; omega), below_setRow HZ.out.2.2.2.1 (by have := HZ.out.2.2.2.2.1; omega) _⟩

set_option maxHeartbeats 4000000 in
theorem rright_any (a : Option Addr) (n c : Nat) (L : List Rt) (w : World) (hn : L.length = n) (hm : n ≤ 9223372036854775807) (hR : RowsAt w a L) :
    Calls Tryd.prog 11 #[.agg #[.slice a n c]] w fun e w' => e = .returned (.bool (decide (okT L))) ∧ Below w.heap.size w w' := by
  obtain ⟨W1, hW1⟩ : ∃ W1, w.alloc (.cells #[.slice a n c] 24) = W1 := ⟨_, rfl⟩
  have hb1 : Below w.heap.size w W1 := by rw [← hW1]; exact (Below.refl _ _).alloc (Nat.le_refl _) _
  have b1 : Blk W1 w.heap.size 24 #[.slice a n c] := by rw [← hW1]; exact Blk.new w _ _
  have CT : ∀ w', Below W1.heap.size W1 w' → w'.cell? ⟨w.heap.size, 0, none⟩ = some (.slice a n c) := fun w' k => (b1.later k).cell 0
  have CT0 := CT W1 (Below.refl _ _)
  have HR : ∀ w', Below W1.heap.size W1 w' → RowsAt w' a L := fun w' h => (hR.later hb1).later h
  have h0 : Below W1.heap.size W1 W1 := Below.refl _ _
  have HB := Lib.hid (And.intro hb1 hn)
  clear hb1 b1
  by_cases h40 : 40 < n
  · have d1 : decide (40 < (n : Int)) = true := decide_eq_true (by omega)
    have HE := Lib.hid (decide_eq_false (fun h : okT L => by have := h.1; omega))
    clear HR hR CT h40
    go_enter Tryd.func11, Tryd.ntmps11
    go_wp2
    go_ret
    exact ⟨by rw [HE.out]; rfl, HB.out.1⟩
  · have d1 : decide (40 < (n : Int)) = false := decide_eq_false (by omega)
    clear hR
    go_enter Tryd.func11, Tryd.ntmps11
    go_wp2_with fail
    go_loopw [3] (fun i wr => ∃ k : Nat, k ≤ n ∧ i = .int .i64 k ∧ (∀ j, j < k → okR (rt L j) ∧ (0 < j → ltR (rt L (j - 1)) (rt L j))) ∧ Below W1.heap.size W1 wr) (fun i _ => n - (intOf i).toNat)
    case atStart => exact ⟨0, Nat.zero_le _, rfl, fun j hj => by omega, h0⟩
    case round =>
      obtain ⟨k, hk, rfl, hok, hkb⟩ := hrel
      by_cases hlt : k < n
      · rcases HR wr hkb with hnil | ⟨g, o, rfl, hrow⟩
        · have := HB.out.2; rw [hnil] at this; simp at this; omega
        · have hkl : k < L.length := by have := HB.out.2; omega
          have LR := hrow.load hkl
          have CTr := CT wr hkb
          obtain ⟨W2, hW2⟩ : ∃ W2, wr.alloc (.cells (rt L k).cs 48) = W2 := ⟨_, rfl⟩
          have S2 := st_rt (q := rt L k) (Blk.new wr 48 Rt.zero.cs)
          rw [World.setRow_alloc_new, hW2] at S2
          have b2 : Blk W2 wr.heap.size 48 (rt L k).cs := by rw [← hW2]; exact Blk.new _ _ _
          have hb2 : Below wr.heap.size wr W2 := by rw [← hW2]; exact (Below.refl _ _).alloc (Nat.le_refl _) _
          have hb12 : Below W1.heap.size W1 W2 := bel_trans hkb hb2
          have LP := rt_p b2
          have LH := rt_h b2
          have CT2 : ∀ w', Below W2.heap.size W2 w' → w'.cell? ⟨w.heap.size, 0, none⟩ = some (.slice (some ⟨g, o, none⟩) n c) := fun w' h => CT w' (bel_trans hb12 h)
          have LQ : ∀ w', Below W2.heap.size W2 w' → 0 < k → (loadSem 38 (.pointer (some ⟨g, o + (k - 1) * 19, none⟩))).run Tryd.prog w' = .ok (.agg (rt L (k - 1)).p.cs) w' := fun w' h hk0 => ((hrow.later hb2).later h).loadp (by omega)
          have HRP := refright_any (rt L k).p
          have HCM := refcompare_any (rt L (k - 1)).p (rt L k).p
          have h02 : Below W2.heap.size W2 W2 := Below.refl _ _
          have HK := Lib.hid (And.intro hok hb12)
          clear hok hb12 hb2 b2 hrow CT HR
          by_cases hp : okP (rt L k).p
          · rw [decide_eq_true hp] at HRP
            by_cases hh : 1 ≤ (rt L k).h ∧ (rt L k).h ≤ 255
            · have dh1 : decide ((rt L k).h < 1) = false := decide_eq_false (by omega)
              have dh2 : decide (255 < (rt L k).h) = false := decide_eq_false (by omega)
              by_cases hk0 : 0 < k
              · have dk : decide (0 < (k : Int)) = true := decide_eq_true (by omega)
                have dk2 : decide (0 < k) = true := decide_eq_true hk0
                have e1 : ((k : Int) - 1) = ((k - 1 : Nat) : Int) := by omega
                have e2 : k - 1 < n := by omega
                have LQ2 := fun w' h => LQ w' h hk0
                clear LQ
                by_cases hc : cmpP (rt L (k - 1)).p (rt L k).p < 0
                · have dc : decide (0 ≤ cmpP (rt L (k - 1)).p (rt L k).p) = false := decide_eq_false (by omega)
                  have HN := Lib.hid (show ∀ j, j < k + 1 → okR (rt L j) ∧ (0 < j → ltR (rt L (j - 1)) (rt L j)) from fun j hj => by
                    by_cases e : j = k
                    · rw [e]; exact ⟨⟨hp, hh⟩, fun _ => hc⟩
                    · exact HK.out.1 j (by omega))
                  clear hp hh hc
                  generalize (rt L k).h = hv at *
                  generalize cmpP (rt L (k - 1)).p (rt L k).p = cv at *
                  generalize (rt L (k - 1)).p = pq at *
                  generalize hkk : k - 1 = k1 at *
                  have HKK := Lib.hid hkk
                  clear hkk hk0
                  go_wp2_with (first | (with_reducible refine wpList_alloc_z rfl 48 rfl Rt.zero.cs 19 z_rt ?_) | (go_at_call 28; refine (HRP _).mono ?_; rintro e w2 ⟨rfl, hb2⟩; have hk2 : Below W2.heap.size W2 w2 := (by first | exact bel_trans (by assumption) hb2 | (subst hb2; assumption)); clear hb2) | (go_at_call 29; refine (HCM _).mono ?_; rintro e w2 ⟨rfl, hb2⟩; have hk2 : Below W2.heap.size W2 w2 := (by first | exact bel_trans (by assumption) hb2 | (subst hb2; assumption)); clear hb2) | (refine wp_region_lin (fun w' => Below W2.heap.size W2 w') (by kernel_rfl) (by kernel_rfl) (bel_drew (by assumption)) ?_; (repeat (first | (refine lin_off (by rfl) ?_; (try simp only [Act.put, List.setIfInBounds_toArray, List.set_cons_zero, List.set_cons_succ])) | (refine lin_op (v := ?_) (by rfl) (fun w9 hS9 => ?_) ?_; rotate_left; (focus (((try dsimp only at hS9); go_simp; (try go_bits)) <;> with_reducible rfl)); (try simp only [Act.put, List.setIfInBounds_toArray, List.set_cons_zero, List.set_cons_succ])) | (refine lin_fn (f := 28) (by rfl) rfl rfl (enters_of Tryd.func28 (by kernel_rfl) rfl) (fun w9 hS9 => (HRP w9).mono (fun e w' h => ⟨h.1, (by first | exact bel_trans hS9 h.2 | (rw [← h.2]; exact hS9))⟩)) ?_ ?_; (focus (simp [Act.eval]; done)); (try simp only [Act.put, List.setIfInBounds_toArray, List.set_cons_zero, List.set_cons_succ])) | (refine lin_fn (f := 29) (by rfl) rfl rfl (enters_of Tryd.func29 (by kernel_rfl) rfl) (fun w9 hS9 => (HCM w9).mono (fun e w' h => ⟨h.1, (by first | exact bel_trans hS9 h.2 | (rw [← h.2]; exact hS9))⟩)) ?_ ?_; (focus (simp [Act.eval]; done)); (try simp only [Act.put, List.setIfInBounds_toArray, List.set_cons_zero, List.set_cons_succ])))); refine lin_nil (fun w8 hS8 => ?_)))
                  go_roundw
                  case rel => exact ⟨k + 1, by omega, by go_num, HN.out, bel_trans HK.out.2 (by assumption)⟩
                  case measure => simp [intOf]; omega
                · have dc : decide (0 ≤ cmpP (rt L (k - 1)).p (rt L k).p) = true := decide_eq_true (by omega)
                  have HE := Lib.hid (decide_eq_false (fun h : okT L => hc (((okT_iff L).1 h).2 k hkl |>.2 hk0)))
                  clear hp hh hc
                  generalize (rt L k).h = hv at *
                  generalize cmpP (rt L (k - 1)).p (rt L k).p = cv at *
                  generalize (rt L (k - 1)).p = pq at *
                  generalize hkk : k - 1 = k1 at *
                  have HKK := Lib.hid hkk
                  clear hkk hk0
                  go_wp2_with (first | (with_reducible refine wpList_alloc_z rfl 48 rfl Rt.zero.cs 19 z_rt ?_) | (go_at_call 28; refine (HRP _).mono ?_; rintro e w2 ⟨rfl, hb2⟩; have hk2 : Below W2.heap.size W2 w2 := (by first | exact bel_trans (by assumption) hb2 | (subst hb2; assumption)); clear hb2) | (go_at_call 29; refine (HCM _).mono ?_; rintro e w2 ⟨rfl, hb2⟩; have hk2 : Below W2.heap.size W2 w2 := (by first | exact bel_trans (by assumption) hb2 | (subst hb2; assumption)); clear hb2) | (refine wp_region_lin (fun w' => Below W2.heap.size W2 w') (by kernel_rfl) (by kernel_rfl) (bel_drew (by assumption)) ?_; (repeat (first | (refine lin_off (by rfl) ?_; (try simp only [Act.put, List.setIfInBounds_toArray, List.set_cons_zero, List.set_cons_succ])) | (refine lin_op (v := ?_) (by rfl) (fun w9 hS9 => ?_) ?_; rotate_left; (focus (((try dsimp only at hS9); go_simp; (try go_bits)) <;> with_reducible rfl)); (try simp only [Act.put, List.setIfInBounds_toArray, List.set_cons_zero, List.set_cons_succ])) | (refine lin_fn (f := 28) (by rfl) rfl rfl (enters_of Tryd.func28 (by kernel_rfl) rfl) (fun w9 hS9 => (HRP w9).mono (fun e w' h => ⟨h.1, (by first | exact bel_trans hS9 h.2 | (rw [← h.2]; exact hS9))⟩)) ?_ ?_; (focus (simp [Act.eval]; done)); (try simp only [Act.put, List.setIfInBounds_toArray, List.set_cons_zero, List.set_cons_succ])) | (refine lin_fn (f := 29) (by rfl) rfl rfl (enters_of Tryd.func29 (by kernel_rfl) rfl) (fun w9 hS9 => (HCM w9).mono (fun e w' h => ⟨h.1, (by first | exact bel_trans hS9 h.2 | (rw [← h.2]; exact hS9))⟩)) ?_ ?_; (focus (simp [Act.eval]; done)); (try simp only [Act.put, List.setIfInBounds_toArray, List.set_cons_zero, List.set_cons_succ])))); refine lin_nil (fun w8 hS8 => ?_)))
                  all_goals go_ret
                  all_goals exact ⟨by rw [HE.out]; rfl, bel_trans HB.out.1 (bel_trans HK.out.2 (by assumption))⟩
              · obtain rfl : k = 0 := by omega
                have HN := Lib.hid (show ∀ j, j < 0 + 1 → okR (rt L j) ∧ (0 < j → ltR (rt L (j - 1)) (rt L j)) from fun j hj => by
                  by_cases e : j = 0
                  · rw [e]; exact ⟨⟨hp, hh⟩, fun h => by omega⟩
                  · exact HK.out.1 j (by omega))
                rw [Nat.zero_mul, Nat.add_zero] at LR
                clear hp hh LQ HCM
                generalize (rt L 0).h = hv at *
                go_wp2_with (first | (with_reducible refine wpList_alloc_z rfl 48 rfl Rt.zero.cs 19 z_rt ?_) | (go_at_call 28; refine (HRP _).mono ?_; rintro e w2 ⟨rfl, hb2⟩; have hk2 : Below W2.heap.size W2 w2 := (by first | exact bel_trans (by assumption) hb2 | (subst hb2; assumption)); clear hb2) | (refine wp_region_lin (fun w' => Below W2.heap.size W2 w') (by kernel_rfl) (by kernel_rfl) (bel_drew (by assumption)) ?_; (repeat (first | (refine lin_off (by rfl) ?_; (try simp only [Act.put, List.setIfInBounds_toArray, List.set_cons_zero, List.set_cons_succ])) | (refine lin_op (v := ?_) (by rfl) (fun w9 hS9 => ?_) ?_; rotate_left; (focus (((try dsimp only at hS9); go_simp; (try go_bits)) <;> with_reducible rfl)); (try simp only [Act.put, List.setIfInBounds_toArray, List.set_cons_zero, List.set_cons_succ])) | (refine lin_fn (f := 28) (by rfl) rfl rfl (enters_of Tryd.func28 (by kernel_rfl) rfl) (fun w9 hS9 => (HRP w9).mono (fun e w' h => ⟨h.1, (by first | exact bel_trans hS9 h.2 | (rw [← h.2]; exact hS9))⟩)) ?_ ?_; (focus (simp [Act.eval]; done)); (try simp only [Act.put, List.setIfInBounds_toArray, List.set_cons_zero, List.set_cons_succ])))); refine lin_nil (fun w8 hS8 => ?_)))
                go_roundw
                case rel => exact ⟨0 + 1, by omega, by go_num, HN.out, bel_trans HK.out.2 (by assumption)⟩
                case measure => simp [intOf]; omega
            · by_cases hh1 : (rt L k).h < 1
              · have dh1 : decide ((rt L k).h < 1) = true := decide_eq_true hh1
                have HE := Lib.hid (decide_eq_false (fun h : okT L => hh (((okT_iff L).1 h).2 k hkl).1.2))
                clear hp hh hh1 LQ HCM
                generalize (rt L k).h = hv at *
                go_wp2_with (first | (with_reducible refine wpList_alloc_z rfl 48 rfl Rt.zero.cs 19 z_rt ?_) | (go_at_call 28; refine (HRP _).mono ?_; rintro e w2 ⟨rfl, hb2⟩; have hk2 : Below W2.heap.size W2 w2 := (by first | exact bel_trans (by assumption) hb2 | (subst hb2; assumption)); clear hb2) | (refine wp_region_lin (fun w' => Below W2.heap.size W2 w') (by kernel_rfl) (by kernel_rfl) (bel_drew (by assumption)) ?_; (repeat (first | (refine lin_off (by rfl) ?_; (try simp only [Act.put, List.setIfInBounds_toArray, List.set_cons_zero, List.set_cons_succ])) | (refine lin_op (v := ?_) (by rfl) (fun w9 hS9 => ?_) ?_; rotate_left; (focus (((try dsimp only at hS9); go_simp; (try go_bits)) <;> with_reducible rfl)); (try simp only [Act.put, List.setIfInBounds_toArray, List.set_cons_zero, List.set_cons_succ])) | (refine lin_fn (f := 28) (by rfl) rfl rfl (enters_of Tryd.func28 (by kernel_rfl) rfl) (fun w9 hS9 => (HRP w9).mono (fun e w' h => ⟨h.1, (by first | exact bel_trans hS9 h.2 | (rw [← h.2]; exact hS9))⟩)) ?_ ?_; (focus (simp [Act.eval]; done)); (try simp only [Act.put, List.setIfInBounds_toArray, List.set_cons_zero, List.set_cons_succ])))); refine lin_nil (fun w8 hS8 => ?_)))
                all_goals go_ret
                all_goals exact ⟨by rw [HE.out]; rfl, bel_trans HB.out.1 (bel_trans HK.out.2 (by assumption))⟩
              · have dh1 : decide ((rt L k).h < 1) = false := decide_eq_false hh1
                have dh2 : decide (255 < (rt L k).h) = true := decide_eq_true (by omega)
                have HE := Lib.hid (decide_eq_false (fun h : okT L => hh (((okT_iff L).1 h).2 k hkl).1.2))
                clear hp hh hh1 LQ HCM
                generalize (rt L k).h = hv at *
                go_wp2_with (first | (with_reducible refine wpList_alloc_z rfl 48 rfl Rt.zero.cs 19 z_rt ?_) | (go_at_call 28; refine (HRP _).mono ?_; rintro e w2 ⟨rfl, hb2⟩; have hk2 : Below W2.heap.size W2 w2 := (by first | exact bel_trans (by assumption) hb2 | (subst hb2; assumption)); clear hb2) | (refine wp_region_lin (fun w' => Below W2.heap.size W2 w') (by kernel_rfl) (by kernel_rfl) (bel_drew (by assumption)) ?_; (repeat (first | (refine lin_off (by rfl) ?_; (try simp only [Act.put, List.setIfInBounds_toArray, List.set_cons_zero, List.set_cons_succ])) | (refine lin_op (v := ?_) (by rfl) (fun w9 hS9 => ?_) ?_; rotate_left; (focus (((try dsimp only at hS9); go_simp; (try go_bits)) <;> with_reducible rfl)); (try simp only [Act.put, List.setIfInBounds_toArray, List.set_cons_zero, List.set_cons_succ])) | (refine lin_fn (f := 28) (by rfl) rfl rfl (enters_of Tryd.func28 (by kernel_rfl) rfl) (fun w9 hS9 => (HRP w9).mono (fun e w' h => ⟨h.1, (by first | exact bel_trans hS9 h.2 | (rw [← h.2]; exact hS9))⟩)) ?_ ?_; (focus (simp [Act.eval]; done)); (try simp only [Act.put, List.setIfInBounds_toArray, List.set_cons_zero, List.set_cons_succ])))); refine lin_nil (fun w8 hS8 => ?_)))
                all_goals go_ret
                all_goals exact ⟨by rw [HE.out]; rfl, bel_trans HB.out.1 (bel_trans HK.out.2 (by assumption))⟩
          · rw [decide_eq_false hp] at HRP
            have HE := Lib.hid (decide_eq_false (fun h : okT L => hp (((okT_iff L).1 h).2 k hkl).1.1))
            clear hp LQ HCM
            generalize (rt L k).h = hv at *
            go_wp2_with (first | (with_reducible refine wpList_alloc_z rfl 48 rfl Rt.zero.cs 19 z_rt ?_) | (go_at_call 28; refine (HRP _).mono ?_; rintro e w2 ⟨rfl, hb2⟩; have hk2 : Below W2.heap.size W2 w2 := (by first | exact bel_trans (by assumption) hb2 | (subst hb2; assumption)); clear hb2) | (refine wp_region_lin (fun w' => Below W2.heap.size W2 w') (by kernel_rfl) (by kernel_rfl) (bel_drew (by assumption)) ?_; (repeat (first | (refine lin_off (by rfl) ?_; (try simp only [Act.put, List.setIfInBounds_toArray, List.set_cons_zero, List.set_cons_succ])) | (refine lin_op (v := ?_) (by rfl) (fun w9 hS9 => ?_) ?_; rotate_left; (focus (((try dsimp only at hS9); go_simp; (try go_bits)) <;> with_reducible rfl)); (try simp only [Act.put, List.setIfInBounds_toArray, List.set_cons_zero, List.set_cons_succ])) | (refine lin_fn (f := 28) (by rfl) rfl rfl (enters_of Tryd.func28 (by kernel_rfl) rfl) (fun w9 hS9 => (HRP w9).mono (fun e w' h => ⟨h.1, (by first | exact bel_trans hS9 h.2 | (rw [← h.2]; exact hS9))⟩)) ?_ ?_; (focus (simp [Act.eval]; done)); (try simp only [Act.put, List.setIfInBounds_toArray, List.set_cons_zero, List.set_cons_succ])))); refine lin_nil (fun w8 hS8 => ?_)))
            all_goals go_ret
            all_goals exact ⟨by rw [HE.out]; rfl, bel_trans HB.out.1 (bel_trans HK.out.2 (by assumption))⟩
      · obtain rfl : k = n := by omega
        have CTr := CT wr hkb
        have HE := Lib.hid (decide_eq_true ((okT_iff L).2 ⟨by have := HB.out.2; omega, fun i hi => hok i (by have := HB.out.2; omega)⟩))
        clear hok HR CT
        go_wp2
        go_ret
        exact ⟨by rw [HE.out]; rfl, bel_trans HB.out.1 (by assumption)⟩
end Go.Proofs.YtdbdmnahgkkjiaaDoor
