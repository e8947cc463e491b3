/-
  The contracts of the reference's Bytes and BatchBytes. Nothing here is a statement of the document.
-/
import Derived.Test.YtclkfmblogkakaaDoorRvO
namespace Go.Proofs.YtclkfmblogkakaaDoor
open Go.RowKit Go.Shelf
set_option linter.unusedVariables false
set_option maxRecDepth 100000
attribute [local go_sem ↓] load_b16_rule store_b16_rule load_ad_rule store_ad_rule load_px_rule store_px_rule load_ro_rule store_ro_rule load_up_rule store_up_rule load_rib_rule load_bat_rule bbuild_rule
set_option maxHeartbeats 8000000 in
theorem rrbytes_any (a : Option Addr) (n c : Nat) (L : List Ro) (w : World) (hn : L.length = n) (hR : RoAt w a L) (hok : okRib L) :
    Calls Tryd.prog 27 #[.agg #[.slice a n c]] w fun e w' => ∃ v, e = .returned v ∧ OwnB w' w.heap.size v (ribB L) ∧ Below w.heap.size w w' := by
  obtain ⟨W1, hW1⟩ : ∃ W1, w.alloc (.cells #[.slice a n c] 24) = W1 := ⟨_, rfl⟩
  have hb1 : Below w.heap.size w W1 := by rw [← hW1]; exact (Below.refl _ _).alloc (Nat.le_refl _) _
  have b1 : Blk W1 w.heap.size 24 #[.slice a n c] := by rw [← hW1]; exact Blk.new w _ _
  have CT : ∀ w', Below W1.heap.size W1 w' → w'.cell? ⟨w.heap.size, 0, none⟩ = some (.slice a n c) := fun w' k => (b1.later k).cell 0
  have h0 : Below W1.heap.size W1 W1 := Below.refl _ _
  have HB := Lib.hid (And.intro hb1 (And.intro hn (fun w' (h : Below W1.heap.size W1 w') => (hR.later hb1).later h)))
  have hn40 : n ≤ 160 := by have := okRib_len hok; omega
  have hcv : IntKind.u8.wrap (n : Int) = (n : Int) := wrap_b9 (by omega)
  have HO := Lib.hid (And.intro hok hn40)
  clear hR hb1 b1 hn hok hn40
  have r2 := bbuild1_run9 n W1
  obtain ⟨W3, hW3⟩ : ∃ W3, W1.alloc (.cells #[.int .u8 (n : Int)] 5) = W3 := ⟨_, rfl⟩
  rw [hW3] at r2
  have k23 : Below W1.heap.size W1 W3 := by rw [← hW3]; exact (Below.refl _ _).alloc (Nat.le_refl _) _
  have o3 : OwnB W3 W1.heap.size (.slice (some ⟨W1.heap.size, 0, none⟩) 1 1) [n] := by
    have h9 := bown1 n W1
    rwa [hW3] at h9
  have C1 := CT W1 h0
  have H3 := Lib.hid (And.intro k23 o3)
  clear k23 o3 hW3 h0
  go_enter Tryd.func27, Tryd.ntmps27
  go_wp2_with fail
  go_loopw [3, 4] (fun ov i wr => ∃ (k m : Nat) (va : Option Addr) (vc : Nat) (O : List Nat), k ≤ n ∧ i = .int .i64 (k : Int) ∧ ov = .slice va m vc ∧ O.length = m ∧ O = n :: rosB (L.take k) ∧ OwnB wr W1.heap.size (.slice va m vc) O ∧ Below W1.heap.size W1 wr) (fun _ i _ => n - (intOf i).toNat)
  case atStart => exact ⟨0, 1, _, 1, [n], Nat.zero_le _, rfl, rfl, rfl, by simp [rosB], H3.out.2, H3.out.1⟩
  case round =>
    obtain ⟨k, m, va, vc, O, hk, rfl, rfl, hOm, hOe, hown, hkb⟩ := hrel
    have Cr := CT wr hkb
    by_cases hlt : k < n
    · have hkl : k < L.length := by have := HB.out.2.1; omega
      obtain ⟨g, o, rfl, hrow0⟩ := (HB.out.2.2 wr hkb).spot hkl
      have LK := hrow0.load hkl
      obtain ⟨W4, hst, hblk, hb4⟩ := ro_new (rog L k) wr
      have hokr := HO.out.1.1 k hkl
      obtain ⟨hp, hs, hf, hh⟩ := okRo_b hokr
      obtain ⟨x, hx⟩ : ∃ x, rog L k = x := ⟨_, rfl⟩
      rw [hx] at LK hst hblk hokr hp hs hf hh
      obtain ⟨s', hs'⟩ := Int.eq_ofNat_of_zero_le hs.1
      obtain ⟨f', hf'⟩ := Int.eq_ofNat_of_zero_le hf.1
      obtain ⟨h', hh'⟩ := Int.eq_ofNat_of_zero_le hh.1
      have ws : IntKind.u8.wrap (s' : Int) = (s' : Int) := wrap_b9 (by omega)
      have wf : IntKind.u8.wrap (f' : Int) = (f' : Int) := wrap_b9 (by omega)
      have wh : IntKind.u8.wrap (h' : Int) = (h' : Int) := wrap_b9 (by omega)
      have dk : decide ((k : Int) < (n : Int)) = true := decide_eq_true (by omega)
      have dk2 : decide (k < n) = true := decide_eq_true hlt
      have HWk := Lib.hid (wrap_oneD (j := k) (by have := HO.out.2; omega))
      obtain ⟨P, hP⟩ : ∃ P, encP x.p = P := ⟨_, rfl⟩
      have hPb := encP_b hp
      rw [hP] at hPb
      have hOlen : O.length ≤ 4000 := by
        have h1 := rosB_len (L.take k) (fun r hr => okRib_p HO.out.1 r (List.mem_of_mem_take hr))
        have := HO.out.2
        have h2 : (L.take k).length ≤ 160 := by rw [List.length_take]; have := HB.out.2.1; omega
        rw [hOe]
        simp at h1 ⊢
        omega
      have hvb : ∀ x, (Value.slice va m vc).ownBlock = some x → W1.heap.size ≤ x ∧ x < wr.heap.size := fun x hx => hown.lt x hx
      obtain ⟨X0, hX0⟩ : ∃ X0, W4.drew = X0 := ⟨_, rfl⟩
      have k40 : Below wr.heap.size wr X0 := by rw [← hX0]; exact hb4.drew
      have own0 := hown.later k40
      have kw0 : Below W1.heap.size W1 X0 := bel_trans hkb k40
      have blk0 : Blk X0 wr.heap.size 67 x.cs := by rw [← hX0]; exact hblk
      obtain ⟨S0, hS0⟩ : ∃ S0 : World → Prop, S0 = fun w' => OwnB w' W1.heap.size (.slice va m vc) O ∧ Below W1.heap.size W1 w' ∧ X0.heap.size ≤ w'.heap.size ∧ Blk w' wr.heap.size 67 x.cs := ⟨_, rfl⟩
      have HTB := Lib.hid (show roT x = [s', f', h'] by unfold roT; rw [hs', hf', hh']; try simp)
      obtain ⟨l, hl⟩ : ∃ l, [s', f', h'] = l := ⟨_, rfl⟩
      rw [hl] at HTB
      have hll : l.length = 3 := by rw [← hl]; rfl
      have BU := bbuild3_run s' f' h'
      have oB := bown3 s' f' h'
      simp only [hl] at oB
      obtain ⟨Ph, hPh⟩ : ∃ Ph : Nat → Value → World → Prop, Ph = fun d v w' => (d = 3 → OwnB w' X0.heap.size v P) ∧ (d = 4 → OwnB w' X0.heap.size v (O ++ P)) ∧ (d = 14 → ∃ g, v = .slice (some ⟨g, 0, none⟩) 3 3 ∧ Lies w' (some ⟨g, 0, none⟩) l ∧ X0.heap.size ≤ g) := ⟨_, rfl⟩
      have hS00 : S0 X0 := by rw [hS0]; exact ⟨own0, kw0, Nat.le_refl _, blk0⟩
      have keep : ∀ w' w2 (i : Nat), S0 w' → Below w'.heap.size w' w2 → S0 w2 ∧ (∀ d, d ≠ i → True → True) ∧ (∀ d u, d ≠ i → Ph d u w' → Ph d u w2) := by
        intro w' w2 i h1 k6
        rw [hS0] at h1 ⊢
        refine ⟨⟨h1.1.later k6, bel_trans h1.2.1 k6, by have := k6.size; omega, h1.2.2.2.later k6⟩, fun _ _ h => h, fun d u _ h3 => ?_⟩
        rw [hPh] at h3 ⊢
        refine ⟨fun e => (h3.1 e).later k6, fun e => (h3.2.1 e).later k6, fun e => ?_⟩
        obtain ⟨g, e1, e2, e3⟩ := h3.2.2 e
        exact ⟨g, e1, e2.kept k6, e3⟩
      have cP : ∀ w', S0 w' → (loadSem 65 (.pointer (some ⟨wr.heap.size, 0, none⟩))).run Tryd.prog w' = .ok (.agg x.p.cs) w' := fun w' h => by rw [hS0] at h; exact ro_p h.2.2.2 w' (Below.refl _ _)
      have cS : ∀ w', S0 w' → w'.cell? ⟨wr.heap.size, 18, none⟩ = some (.int .i64 x.s) := fun w' h => by rw [hS0] at h; exact ro_s h.2.2.2 w' (Below.refl _ _)
      have cF : ∀ w', S0 w' → w'.cell? ⟨wr.heap.size, 19, none⟩ = some (.int .i64 x.f) := fun w' h => by rw [hS0] at h; exact ro_f h.2.2.2 w' (Below.refl _ _)
      have cH : ∀ w', S0 w' → w'.cell? ⟨wr.heap.size, 20, none⟩ = some (.int .i64 x.h) := fun w' h => by rw [hS0] at h; exact ro_h h.2.2.2 w' (Below.refl _ _)
      rw [hs'] at cS
      rw [hf'] at cF
      rw [hh'] at cH
      have do7 : ∀ w', S0 w' → Calls Tryd.prog 58 #[.agg x.p.cs] w' fun e w2 => ∃ v, e = .returned v ∧ S0 w2 ∧ (∀ d, d ≠ 3 → True → True) ∧ (∀ d u, d ≠ 3 → Ph d u w' → Ph d u w2) ∧ Ph 3 v w2 := by
        intro w' h1
        have h1' := h1
        rw [hS0] at h1'
        refine (refbytes_any x.p w' hp).mono ?_
        rintro e w2 ⟨v, rfl, hg, hb⟩
        obtain ⟨q1, q2, q3⟩ := keep w' w2 3 h1 hb
        refine ⟨v, rfl, q1, q2, q3, ?_⟩
        rw [hPh]
        refine ⟨fun _ => ?_, fun e => by omega, fun e => by omega⟩
        have h9 : OwnB w2 w'.heap.size v (encP x.p) := hg
        rw [hP] at h9
        exact h9.less h1'.2.2.1
      have do8 : ∀ w' v7, S0 w' → Ph 3 v7 w' → Calls Tryd.prog 57 #[.slice va m vc, v7] w' fun e w2 => ∃ v, e = .returned v ∧ S0 w2 ∧ (∀ d, d ≠ 4 → True → True) ∧ (∀ d u, d ≠ 4 → Ph d u w' → Ph d u w2) ∧ Ph 4 v w2 := by
        intro w' v7 h1 h7
        have h1' := h1
        rw [hS0] at h1'
        rw [hPh] at h7
        have o7 := h7.1 rfl
        obtain ⟨a7, c7, rfl, _, _, l7, _⟩ := o7.lies
        obtain ⟨aO, cO, eO, _, _, lO, _⟩ := h1'.1.lies
        injection eO with eO1 eO2 eO3
        subst eO1
        refine (both_any va a7 m vc P.length c7 O P w' eO2.symm rfl (by omega) (by omega) lO l7).mono ?_
        rintro e w2 ⟨rfl, ho, hb⟩
        obtain ⟨q1, q2, q3⟩ := keep w' w2 4 h1 hb
        refine ⟨_, rfl, q1, q2, q3, ?_⟩
        rw [hPh]
        refine ⟨fun e => by omega, fun _ => ?_, fun e => by omega⟩
        have h9 := own_of9 ho (by rw [List.length_append]; unfold maxLen; omega)
        rw [List.length_append, ← eO2] at h9
        exact OwnB.less h9 h1'.2.2.1
      have do16 : ∀ w', S0 w' → ∃ v w2, (bbuildSem 3 #[(0, .int .u8 (s' : Int)), (1, .int .u8 (f' : Int)), (2, .int .u8 (h' : Int))]).run Tryd.prog w' = .ok v w2 ∧ S0 w2 ∧ (∀ d, d ≠ 14 → True → True) ∧ (∀ d u, d ≠ 14 → Ph d u w' → Ph d u w2) ∧ Ph 14 v w2 := by
        intro w' h1
        have h1' := h1
        rw [hS0] at h1'
        have k6 : Below w'.heap.size w' (w'.alloc (.cells #[.int .u8 (s' : Int), .int .u8 (f' : Int), .int .u8 (h' : Int)] 5)) := (Below.refl _ _).alloc (Nat.le_refl _) _
        obtain ⟨q1, q2, q3⟩ := keep w' _ 14 h1 k6
        refine ⟨_, _, BU w', q1, q2, q3, ?_⟩
        rw [hPh]
        refine ⟨fun e => by omega, fun e => by omega, fun _ => ⟨_, rfl, ?_, h1'.2.2.1⟩⟩
        obtain ⟨a9, c9, e9, _, _, l9, _⟩ := (oB w').lies
        injection e9 with e9a
        rw [← e9a] at l9
        exact l9
      have hne : ∀ i, [3, 4, 14].contains i = true → ∃ v w, Ph i v w := fun i hi => by
        have hi2 : i = 3 ∨ i = 4 ∨ i = 14 := by simpa using hi
        obtain ⟨v7, w7, hS7, h7⟩ : ∃ v w, S0 w ∧ Ph 3 v w := by
          obtain ⟨e, w', fr, ⟨v, _, h4, _, _, h5⟩, _⟩ := do7 X0 hS00 []
          exact ⟨v, w', h4, h5⟩
        rcases hi2 with rfl | rfl | rfl
        · exact ⟨v7, w7, h7⟩
        · obtain ⟨e, w', fr, ⟨v, _, h4, _, _, h5⟩, _⟩ := do8 w7 v7 hS7 h7 []
          exact ⟨v, w', h5⟩
        · obtain ⟨v, w9, _, _, _, _, h9⟩ := do16 X0 hS00; exact ⟨v, w9, h9⟩
      have HD := Lib.hid (And.intro hS0 (And.intro hPh (And.intro hll (And.intro hP (And.intro hOlen (And.intro hPb (And.intro hOm (And.intro hOe (And.intro hkl (And.intro hvb (And.intro hx (And.intro hX0 (And.intro hkb hb4)))))))))))))
      clear k40 own0 kw0 blk0 hvb hS0 hPh hP hx hOlen hPb hOm hOe hkl hokr hs hf hh hs' hf' hh' hp keep hown hrow0 r2 hl hll oB BU hblk hkb hb4
      go_upto_region 6 with (with_reducible refine wpList_alloc_z rfl 67 rfl Ro.zero.cs 21 z_ro ?_)
      refine wp_region_linV S0 (fun _ _ => True) Ph [3, 4, 14] [15] [0, 1, 2, 3, 4, 5, 6, 7, 8, 9, 10, 11, 12, 13, 14] [15, 16] (by kernel_rfl) (by kernel_rfl) hne (by rw [HD.out.2.2.2.2.2.2.2.2.2.2.2.1]; exact hS00) (fun _ => trivial) ?_
      (refine linV_op (v := ?_) rfl rfl (by rfl) (fun w9 hS9 => ?_) ?_; rotate_left; (focus (((try dsimp only at hS9);  go_simp; (try go_bits)) <;> with_reducible rfl)); (try simp only [Act.put, List.getElem_toArray, List.getElem_cons_zero, List.getElem_cons_succ, List.setIfInBounds_toArray, List.set_cons_zero, List.set_cons_succ]))
      (refine linV_op (v := ?_) rfl rfl (by rfl) (fun w9 hS9 => ?_) ?_; rotate_left; (focus (((try dsimp only at hS9);  go_simp; (try go_bits)) <;> with_reducible rfl)); (try simp only [Act.put, List.getElem_toArray, List.getElem_cons_zero, List.getElem_cons_succ, List.setIfInBounds_toArray, List.set_cons_zero, List.set_cons_succ]))
      (refine linV_op (v := ?_) rfl rfl (by rfl) (fun w9 hS9 => ?_) ?_; rotate_left; (focus (((try dsimp only at hS9); have k9 := cP w9 hS9; go_simp; (try go_bits)) <;> with_reducible rfl)); (try simp only [Act.put, List.getElem_toArray, List.getElem_cons_zero, List.getElem_cons_succ, List.setIfInBounds_toArray, List.set_cons_zero, List.set_cons_succ]))
      refine linV_call (f := 58) (args := #[.agg x.p.cs]) rfl rfl (by rfl) rfl rfl (enters_of Tryd.func58 (by kernel_rfl) rfl) (by simp [Act.eval]) (fun w9 hS9 _ hF9 => do7 w9 hS9) (fun v7 hv7 => ?_)
      obtain ⟨a7, c7, rfl⟩ : ∃ a7 c7, v7 = .slice a7 P.length c7 := by
        obtain ⟨w9, h9⟩ := hv7
        rw [HD.out.2.1] at h9
        obtain ⟨a2, c2, e, _⟩ := (h9.1 rfl).lies
        exact ⟨a2, c2, e⟩
      obtain ⟨n7, hn7⟩ : ∃ n7, P.length = n7 := ⟨_, rfl⟩
      rw [hn7]
      (try simp only [Act.put, List.getElem_toArray, List.getElem_cons_zero, List.getElem_cons_succ, List.setIfInBounds_toArray, List.set_cons_zero, List.set_cons_succ])
      refine linV_call (f := 57) (args := #[.slice va m vc, .slice a7 n7 c7]) rfl rfl (by rfl) rfl rfl (enters_of Tryd.func57 (by kernel_rfl) rfl) (by simp [Act.eval]) (fun w9 hS9 _ hF9 => do8 w9 _ hS9 (hF9 (3, .slice a7 n7 c7) (by simp) (by kernel_rfl))) (fun v8 hv8 => ?_)
      obtain ⟨a8, c8, rfl⟩ : ∃ a8 c8, v8 = .slice a8 (O ++ P).length c8 := by
        obtain ⟨w9, h9⟩ := hv8
        rw [HD.out.2.1] at h9
        obtain ⟨a2, c2, e, _⟩ := (h9.2.1 rfl).lies
        exact ⟨a2, c2, e⟩
      obtain ⟨n8, hn8⟩ : ∃ n8, (O ++ P).length = n8 := ⟨_, rfl⟩
      rw [hn8]
      (try simp only [Act.put, List.getElem_toArray, List.getElem_cons_zero, List.getElem_cons_succ, List.setIfInBounds_toArray, List.set_cons_zero, List.set_cons_succ])
      (refine linV_op (v := ?_) rfl rfl (by rfl) (fun w9 hS9 => ?_) ?_; rotate_left; (focus (((try dsimp only at hS9);  go_simp; (try go_bits)) <;> with_reducible rfl)); (try simp only [Act.put, List.getElem_toArray, List.getElem_cons_zero, List.getElem_cons_succ, List.setIfInBounds_toArray, List.set_cons_zero, List.set_cons_succ]))
      (refine linV_op (v := ?_) rfl rfl (by rfl) (fun w9 hS9 => ?_) ?_; rotate_left; (focus (((try dsimp only at hS9); have k9 := cS w9 hS9; go_simp; (try go_bits)) <;> with_reducible rfl)); (try simp only [Act.put, List.getElem_toArray, List.getElem_cons_zero, List.getElem_cons_succ, List.setIfInBounds_toArray, List.set_cons_zero, List.set_cons_succ]))
      (refine linV_op (v := ?_) rfl rfl (by rfl) (fun w9 hS9 => ?_) ?_; rotate_left; (focus (((try dsimp only at hS9);  go_simp; (try go_bits)) <;> with_reducible rfl)); (try simp only [Act.put, List.getElem_toArray, List.getElem_cons_zero, List.getElem_cons_succ, List.setIfInBounds_toArray, List.set_cons_zero, List.set_cons_succ]))
      (refine linV_op (v := ?_) rfl rfl (by rfl) (fun w9 hS9 => ?_) ?_; rotate_left; (focus (((try dsimp only at hS9);  go_simp; (try go_bits)) <;> with_reducible rfl)); (try simp only [Act.put, List.getElem_toArray, List.getElem_cons_zero, List.getElem_cons_succ, List.setIfInBounds_toArray, List.set_cons_zero, List.set_cons_succ]))
      (refine linV_op (v := ?_) rfl rfl (by rfl) (fun w9 hS9 => ?_) ?_; rotate_left; (focus (((try dsimp only at hS9); have k9 := cF w9 hS9; go_simp; (try go_bits)) <;> with_reducible rfl)); (try simp only [Act.put, List.getElem_toArray, List.getElem_cons_zero, List.getElem_cons_succ, List.setIfInBounds_toArray, List.set_cons_zero, List.set_cons_succ]))
      (refine linV_op (v := ?_) rfl rfl (by rfl) (fun w9 hS9 => ?_) ?_; rotate_left; (focus (((try dsimp only at hS9);  go_simp; (try go_bits)) <;> with_reducible rfl)); (try simp only [Act.put, List.getElem_toArray, List.getElem_cons_zero, List.getElem_cons_succ, List.setIfInBounds_toArray, List.set_cons_zero, List.set_cons_succ]))
      (refine linV_op (v := ?_) rfl rfl (by rfl) (fun w9 hS9 => ?_) ?_; rotate_left; (focus (((try dsimp only at hS9);  go_simp; (try go_bits)) <;> with_reducible rfl)); (try simp only [Act.put, List.getElem_toArray, List.getElem_cons_zero, List.getElem_cons_succ, List.setIfInBounds_toArray, List.set_cons_zero, List.set_cons_succ]))
      (refine linV_op (v := ?_) rfl rfl (by rfl) (fun w9 hS9 => ?_) ?_; rotate_left; (focus (((try dsimp only at hS9); have k9 := cH w9 hS9; go_simp; (try go_bits)) <;> with_reducible rfl)); (try simp only [Act.put, List.getElem_toArray, List.getElem_cons_zero, List.getElem_cons_succ, List.setIfInBounds_toArray, List.set_cons_zero, List.set_cons_succ]))
      (refine linV_op (v := ?_) rfl rfl (by rfl) (fun w9 hS9 => ?_) ?_; rotate_left; (focus (((try dsimp only at hS9);  go_simp; (try go_bits)) <;> with_reducible rfl)); (try simp only [Act.put, List.getElem_toArray, List.getElem_cons_zero, List.getElem_cons_succ, List.setIfInBounds_toArray, List.set_cons_zero, List.set_cons_succ]))
      refine linV_do rfl rfl (by rfl) (fun w9 hS9 hQ9 hF9 => ?_) (fun v6 hv6 => ?_)
      · obtain ⟨v, w8, r8, rest⟩ := do16 w9 hS9
        exact ⟨v, w8, by go_simp, rest⟩
      obtain ⟨g6, rfl⟩ : ∃ g6, v6 = .slice (some ⟨g6, 0, none⟩) 3 3 := by
        obtain ⟨w9, h9⟩ := hv6
        rw [HD.out.2.1] at h9
        obtain ⟨g6, e, _⟩ := h9.2.2 rfl
        exact ⟨g6, e⟩
      (try simp only [Act.put, List.getElem_toArray, List.getElem_cons_zero, List.getElem_cons_succ, List.setIfInBounds_toArray, List.set_cons_zero, List.set_cons_succ])
      refine linV_nil (fun w9 hS9 hF9 => ?_)
      have f8 := hF9 (4, .slice a8 n8 c8) (by simp)
      have f6 := hF9 (14, .slice (some ⟨g6, 0, none⟩) 3 3) (by simp)
      rw [HD.out.1] at hS9
      rw [HD.out.2.1] at f8 f6
      have o8 := f8.2.1 rfl
      obtain ⟨g7, e7, l7, _⟩ := f6.2.2 rfl
      injection e7 with e7a
      injection e7a with e7b
      injection e7b with e7c
      subst e7c
      have hlen2 : (O ++ P).length ≤ 5000 := by have := HD.out.2.2.2.2.1; have := HD.out.2.2.2.2.2.1; rw [List.length_append]; omega
      have o8' : OwnB w9 W1.heap.size (.slice a8 n8 c8) (O ++ P) := OwnB.less o8 (by have := X0_size9 HD.out.2.2.2.2.2.2.2.2.2.2.2.1; have := HD.out.2.2.2.2.2.2.2.2.2.2.2.2.1.size; have := HD.out.2.2.2.2.2.2.2.2.2.2.2.2.2.size; omega)
      obtain ⟨v7, w7, r7, o7, g7r⟩ := bapp_run (c := 3) o8' (m := 3) HD.out.2.2.1 l7 (by omega) hS9.2.1.size
      obtain ⟨a9, c9, rfl, _⟩ := o7.lies
      have ho8lt := o8'.lt
      have k7 : Below W1.heap.size W1 w7 := hS9.2.1.grown g7r hS9.2.1.size (fun x hx => (ho8lt x (by cases a8 <;> exact hx)).1)
      have hOP : (O ++ P) ++ l = n :: rosB (L.take (k + 1)) := by
        rw [rosB_next HD.out.2.2.2.2.2.2.2.2.1, HD.out.2.2.2.2.2.2.2.1, HD.out.2.2.2.2.2.2.2.2.2.2.1, roB, HTB.out, HD.out.2.2.2.1]
        simp
      have HE := Lib.hid (And.intro o7 (And.intro k7 hOP))
      obtain ⟨m7, hm7⟩ : ∃ m7, ((O ++ P) ++ l).length = m7 := ⟨_, rfl⟩
      rw [hm7] at r7
      clear f8 f6 o8 o8' l7 g7r ho8lt k7 hOP hS9 hF9 hlen2 hv6 hv7 hv8 do7 do8 do16 cH cF cS cP hne hS00
      refine linX_do (v := .slice a9 m7 c9) (w' := w7) rfl rfl (by rfl) (by have r := r7 49; simp [execOp, resolve, invoke, builtin, Act.eval, r, Result.andThen]) trivial ?_
      (try simp only [Act.put, List.getElem_toArray, List.getElem_cons_zero, List.getElem_cons_succ, List.setIfInBounds_toArray, List.set_cons_zero, List.set_cons_succ])
      (refine linX_op (v := ?_) rfl rfl (by rfl) (fun w9 _ => ?_) ?_; rotate_left; (focus (go_simp <;> with_reducible rfl)); (try simp only [Act.put, List.getElem_toArray, List.getElem_cons_zero, List.getElem_cons_succ, List.setIfInBounds_toArray, List.set_cons_zero, List.set_cons_succ]))
      refine linX_nil ?_
      go_wp2_with fail
      go_roundw
      case rel =>
        refine ⟨k + 1, m7, a9, c9, (O ++ P) ++ l, by omega, by rw [HWk.out], rfl, hm7, HE.out.2.2, ?_, HE.out.2.1⟩
        rw [← hm7]; exact HE.out.1
      case measure => exact measD hlt HWk.out
    · obtain rfl : k = n := by omega
      have e1 : L.take k = L := List.take_of_length_le (by rw [HB.out.2.1]; omega)
      rw [e1] at hOe
      have e2 : O = ribB L := by rw [hOe, ribB, HB.out.2.1]
      subst e2
      have HQ := Lib.hid (And.intro hown (And.intro hkb hOm))
      clear hown hkb hOe hOm e1
      go_wp2_with fail
      go_ret
      refine ⟨_, rfl, ?_, bel_trans HB.out.1 HQ.out.2.1⟩
      have h9 := HQ.out.1
      exact OwnB.less h9 HB.out.1.size
set_option maxHeartbeats 8000000 in
theorem rrbbytes_any (a : Option Addr) (n c : Nat) (L : List Up) (w : World) (hn : L.length = n) (hR : UpAt w a L) (hok : okBat L) :
    Calls Tryd.prog 28 #[.agg #[.slice a n c]] w fun e w' => ∃ v, e = .returned v ∧ OwnB w' w.heap.size v (batB L) ∧ Below w.heap.size w w' := by
  obtain ⟨W1, hW1⟩ : ∃ W1, w.alloc (.cells #[.slice a n c] 27) = W1 := ⟨_, rfl⟩
  have hb1 : Below w.heap.size w W1 := by rw [← hW1]; exact (Below.refl _ _).alloc (Nat.le_refl _) _
  have b1 : Blk W1 w.heap.size 27 #[.slice a n c] := by rw [← hW1]; exact Blk.new w _ _
  have CT : ∀ w', Below W1.heap.size W1 w' → w'.cell? ⟨w.heap.size, 0, none⟩ = some (.slice a n c) := fun w' k => (b1.later k).cell 0
  have h0 : Below W1.heap.size W1 W1 := Below.refl _ _
  have HB := Lib.hid (And.intro hb1 (And.intro hn (fun w' (h : Below W1.heap.size W1 w') => (hR.later hb1).later h)))
  have hn40 : n ≤ 8 := by have := hok.1.2; omega
  have hcv : IntKind.u8.wrap (n : Int) = (n : Int) := wrap_b9 (by omega)
  have HO := Lib.hid (And.intro hok hn40)
  clear hR hb1 b1 hn hok hn40
  have r2 := bbuild1_run9 n W1
  obtain ⟨W3, hW3⟩ : ∃ W3, W1.alloc (.cells #[.int .u8 (n : Int)] 5) = W3 := ⟨_, rfl⟩
  rw [hW3] at r2
  have k23 : Below W1.heap.size W1 W3 := by rw [← hW3]; exact (Below.refl _ _).alloc (Nat.le_refl _) _
  have o3 : OwnB W3 W1.heap.size (.slice (some ⟨W1.heap.size, 0, none⟩) 1 1) [n] := by
    have h9 := bown1 n W1
    rwa [hW3] at h9
  have C1 := CT W1 h0
  have H3 := Lib.hid (And.intro k23 o3)
  clear k23 o3 hW3 h0
  go_enter Tryd.func28, Tryd.ntmps28
  go_wp2_with fail
  go_loopw [3, 4] (fun ov i wr => ∃ (k m : Nat) (va : Option Addr) (vc : Nat) (O : List Nat), k ≤ n ∧ i = .int .i64 (k : Int) ∧ ov = .slice va m vc ∧ O.length = m ∧ O = n :: upsB (L.take k) ∧ OwnB wr W1.heap.size (.slice va m vc) O ∧ Below W1.heap.size W1 wr) (fun _ i _ => n - (intOf i).toNat)
  case atStart => exact ⟨0, 1, _, 1, [n], Nat.zero_le _, rfl, rfl, rfl, by simp [upsB], H3.out.2, H3.out.1⟩
  case round =>
    obtain ⟨k, m, va, vc, O, hk, rfl, rfl, hOm, hOe, hown, hkb⟩ := hrel
    have Cr := CT wr hkb
    by_cases hlt : k < n
    · have hkl : k < L.length := by have := HB.out.2.1; omega
      obtain ⟨g, o, rfl, hrow0⟩ := (HB.out.2.2 wr hkb).spot hkl
      have LK := hrow0.load hkl
      obtain ⟨W4, hst, hblk, hb4⟩ := up_new (upg L k) wr
      have hokr := HO.out.1.2.1 k hkl
      obtain ⟨hp, hs, hf, hh⟩ := okUp_b hokr
      obtain ⟨x, hx⟩ : ∃ x, upg L k = x := ⟨_, rfl⟩
      rw [hx] at LK hst hblk hokr hp hs hf hh
      obtain ⟨s', hs'⟩ := Int.eq_ofNat_of_zero_le hs.1
      obtain ⟨f', hf'⟩ := Int.eq_ofNat_of_zero_le hf.1
      obtain ⟨h', hh'⟩ := Int.eq_ofNat_of_zero_le hh.1
      have ws : IntKind.u8.wrap (s' : Int) = (s' : Int) := wrap_b9 (by omega)
      have wf : IntKind.u8.wrap (f' : Int) = (f' : Int) := wrap_b9 (by omega)
      have wh : IntKind.u8.wrap (h' : Int) = (h' : Int) := wrap_b9 (by omega)
      have dk : decide ((k : Int) < (n : Int)) = true := decide_eq_true (by omega)
      have dk2 : decide (k < n) = true := decide_eq_true hlt
      have HWk := Lib.hid (wrap_oneD (j := k) (by have := HO.out.2; omega))
      obtain ⟨P, hP⟩ : ∃ P, encP x.p = P := ⟨_, rfl⟩
      have hPb := encP_b hp
      rw [hP] at hPb
      have hOlen : O.length ≤ 4000 := by
        have h1 := upsB_len (L.take k) (fun r hr => okBat_p HO.out.1 r (List.mem_of_mem_take hr))
        have := HO.out.2
        have h2 : (L.take k).length ≤ 8 := by rw [List.length_take]; have := HB.out.2.1; omega
        rw [hOe]
        simp at h1 ⊢
        omega
      have hvb : ∀ x, (Value.slice va m vc).ownBlock = some x → W1.heap.size ≤ x ∧ x < wr.heap.size := fun x hx => hown.lt x hx
      obtain ⟨X0, hX0⟩ : ∃ X0, W4.drew = X0 := ⟨_, rfl⟩
      have k40 : Below wr.heap.size wr X0 := by rw [← hX0]; exact hb4.drew
      have own0 := hown.later k40
      have kw0 : Below W1.heap.size W1 X0 := bel_trans hkb k40
      have blk0 : Blk X0 wr.heap.size 72 x.cs := by rw [← hX0]; exact hblk
      have hg0 := up_g hblk W4 (Below.refl _ _)
      cases hgg : x.g
      · rw [hgg] at hg0
        obtain ⟨S0, hS0⟩ : ∃ S0 : World → Prop, S0 = fun w' => OwnB w' W1.heap.size (.slice va m vc) O ∧ Below W1.heap.size W1 w' ∧ X0.heap.size ≤ w'.heap.size ∧ Blk w' wr.heap.size 72 x.cs := ⟨_, rfl⟩
        have HTB := Lib.hid (show upT x = [s', 0, f', h'] by unfold upT; rw [hs', hf', hh', hgg, g01]; try simp)
        obtain ⟨l, hl⟩ : ∃ l, [s', 0, f', h'] = l := ⟨_, rfl⟩
        rw [hl] at HTB
        have hll : l.length = 4 := by rw [← hl]; rfl
        have BU := (show ∀ w, (bbuildSem 4 #[(0, .int .u8 (s' : Int)), (1, .int .u8 (0 : Int)), (2, .int .u8 (f' : Int)), (3, .int .u8 (h' : Int))]).run Tryd.prog w = .ok (.slice (some ⟨w.heap.size, 0, none⟩) 4 4) (w.alloc (.cells #[.int .u8 (s' : Int), .int .u8 (0 : Int), .int .u8 (f' : Int), .int .u8 (h' : Int)] 5)) from bbuild4_run s' 0 f' h')
        have oB := (show ∀ w, OwnB (World.alloc w (.cells #[.int .u8 (s' : Int), .int .u8 (0 : Int), .int .u8 (f' : Int), .int .u8 (h' : Int)] 5)) w.heap.size (.slice (some ⟨w.heap.size, 0, none⟩) 4 4) [s', 0, f', h'] from bown4 s' 0 f' h')
        simp only [hl] at oB
        obtain ⟨Ph, hPh⟩ : ∃ Ph : Nat → Value → World → Prop, Ph = fun d v w' => (d = 3 → OwnB w' X0.heap.size v P) ∧ (d = 4 → OwnB w' X0.heap.size v (O ++ P)) ∧ (d = 15 → ∃ g, v = .slice (some ⟨g, 0, none⟩) 4 4 ∧ Lies w' (some ⟨g, 0, none⟩) l ∧ X0.heap.size ≤ g) := ⟨_, rfl⟩
        have hS00 : S0 X0 := by rw [hS0]; exact ⟨own0, kw0, Nat.le_refl _, blk0⟩
        have keep : ∀ w' w2 (i : Nat), S0 w' → Below w'.heap.size w' w2 → S0 w2 ∧ (∀ d, d ≠ i → True → True) ∧ (∀ d u, d ≠ i → Ph d u w' → Ph d u w2) := by
          intro w' w2 i h1 k6
          rw [hS0] at h1 ⊢
          refine ⟨⟨h1.1.later k6, bel_trans h1.2.1 k6, by have := k6.size; omega, h1.2.2.2.later k6⟩, fun _ _ h => h, fun d u _ h3 => ?_⟩
          rw [hPh] at h3 ⊢
          refine ⟨fun e => (h3.1 e).later k6, fun e => (h3.2.1 e).later k6, fun e => ?_⟩
          obtain ⟨g, e1, e2, e3⟩ := h3.2.2 e
          exact ⟨g, e1, e2.kept k6, e3⟩
        have cP : ∀ w', S0 w' → (loadSem 65 (.pointer (some ⟨wr.heap.size, 0, none⟩))).run Tryd.prog w' = .ok (.agg x.p.cs) w' := fun w' h => by rw [hS0] at h; exact up_p h.2.2.2 w' (Below.refl _ _)
        have cS : ∀ w', S0 w' → w'.cell? ⟨wr.heap.size, 18, none⟩ = some (.int .i64 x.s) := fun w' h => by rw [hS0] at h; exact up_s h.2.2.2 w' (Below.refl _ _)
        have cF : ∀ w', S0 w' → w'.cell? ⟨wr.heap.size, 20, none⟩ = some (.int .i64 x.f) := fun w' h => by rw [hS0] at h; exact up_f h.2.2.2 w' (Below.refl _ _)
        have cH : ∀ w', S0 w' → w'.cell? ⟨wr.heap.size, 21, none⟩ = some (.int .i64 x.h) := fun w' h => by rw [hS0] at h; exact up_h h.2.2.2 w' (Below.refl _ _)
        rw [hs'] at cS
        rw [hf'] at cF
        rw [hh'] at cH
        have do7 : ∀ w', S0 w' → Calls Tryd.prog 58 #[.agg x.p.cs] w' fun e w2 => ∃ v, e = .returned v ∧ S0 w2 ∧ (∀ d, d ≠ 3 → True → True) ∧ (∀ d u, d ≠ 3 → Ph d u w' → Ph d u w2) ∧ Ph 3 v w2 := by
          intro w' h1
          have h1' := h1
          rw [hS0] at h1'
          refine (refbytes_any x.p w' hp).mono ?_
          rintro e w2 ⟨v, rfl, hg, hb⟩
          obtain ⟨q1, q2, q3⟩ := keep w' w2 3 h1 hb
          refine ⟨v, rfl, q1, q2, q3, ?_⟩
          rw [hPh]
          refine ⟨fun _ => ?_, fun e => by omega, fun e => by omega⟩
          have h9 : OwnB w2 w'.heap.size v (encP x.p) := hg
          rw [hP] at h9
          exact h9.less h1'.2.2.1
        have do8 : ∀ w' v7, S0 w' → Ph 3 v7 w' → Calls Tryd.prog 57 #[.slice va m vc, v7] w' fun e w2 => ∃ v, e = .returned v ∧ S0 w2 ∧ (∀ d, d ≠ 4 → True → True) ∧ (∀ d u, d ≠ 4 → Ph d u w' → Ph d u w2) ∧ Ph 4 v w2 := by
          intro w' v7 h1 h7
          have h1' := h1
          rw [hS0] at h1'
          rw [hPh] at h7
          have o7 := h7.1 rfl
          obtain ⟨a7, c7, rfl, _, _, l7, _⟩ := o7.lies
          obtain ⟨aO, cO, eO, _, _, lO, _⟩ := h1'.1.lies
          injection eO with eO1 eO2 eO3
          subst eO1
          refine (both_any va a7 m vc P.length c7 O P w' eO2.symm rfl (by omega) (by omega) lO l7).mono ?_
          rintro e w2 ⟨rfl, ho, hb⟩
          obtain ⟨q1, q2, q3⟩ := keep w' w2 4 h1 hb
          refine ⟨_, rfl, q1, q2, q3, ?_⟩
          rw [hPh]
          refine ⟨fun e => by omega, fun _ => ?_, fun e => by omega⟩
          have h9 := own_of9 ho (by rw [List.length_append]; unfold maxLen; omega)
          rw [List.length_append, ← eO2] at h9
          exact OwnB.less h9 h1'.2.2.1
        have do16 : ∀ w', S0 w' → ∃ v w2, (bbuildSem 4 #[(0, .int .u8 (s' : Int)), (1, .int .u8 (0 : Int)), (2, .int .u8 (f' : Int)), (3, .int .u8 (h' : Int))]).run Tryd.prog w' = .ok v w2 ∧ S0 w2 ∧ (∀ d, d ≠ 15 → True → True) ∧ (∀ d u, d ≠ 15 → Ph d u w' → Ph d u w2) ∧ Ph 15 v w2 := by
          intro w' h1
          have h1' := h1
          rw [hS0] at h1'
          have k6 : Below w'.heap.size w' (w'.alloc (.cells #[.int .u8 (s' : Int), .int .u8 (0 : Int), .int .u8 (f' : Int), .int .u8 (h' : Int)] 5)) := (Below.refl _ _).alloc (Nat.le_refl _) _
          obtain ⟨q1, q2, q3⟩ := keep w' _ 15 h1 k6
          refine ⟨_, _, BU w', q1, q2, q3, ?_⟩
          rw [hPh]
          refine ⟨fun e => by omega, fun e => by omega, fun _ => ⟨_, rfl, ?_, h1'.2.2.1⟩⟩
          obtain ⟨a9, c9, e9, _, _, l9, _⟩ := (oB w').lies
          injection e9 with e9a
          rw [← e9a] at l9
          exact l9
        have hne : ∀ i, [3, 4, 15].contains i = true → ∃ v w, Ph i v w := fun i hi => by
          have hi2 : i = 3 ∨ i = 4 ∨ i = 15 := by simpa using hi
          obtain ⟨v7, w7, hS7, h7⟩ : ∃ v w, S0 w ∧ Ph 3 v w := by
            obtain ⟨e, w', fr, ⟨v, _, h4, _, _, h5⟩, _⟩ := do7 X0 hS00 []
            exact ⟨v, w', h4, h5⟩
          rcases hi2 with rfl | rfl | rfl
          · exact ⟨v7, w7, h7⟩
          · obtain ⟨e, w', fr, ⟨v, _, h4, _, _, h5⟩, _⟩ := do8 w7 v7 hS7 h7 []
            exact ⟨v, w', h5⟩
          · obtain ⟨v, w9, _, _, _, _, h9⟩ := do16 X0 hS00; exact ⟨v, w9, h9⟩
        have HD := Lib.hid (And.intro hS0 (And.intro hPh (And.intro hll (And.intro hP (And.intro hOlen (And.intro hPb (And.intro hOm (And.intro hOe (And.intro hkl (And.intro hvb (And.intro hx (And.intro hX0 (And.intro hkb hb4)))))))))))))
        clear k40 own0 kw0 blk0 hvb hS0 hPh hP hx hOlen hPb hOm hOe hkl hokr hs hf hh hs' hf' hh' hp keep hown hrow0 r2 hl hll oB BU hblk hkb hb4
        go_upto_region 9 with (with_reducible refine wpList_alloc_z rfl 72 rfl Up.zero.cs 22 z_up ?_)
        refine wp_region_linV S0 (fun _ _ => True) Ph [3, 4, 15] [16] [0, 1, 2, 3, 4, 5, 6, 7, 8, 9, 10, 11, 12, 13, 14, 15] [16, 17] (by kernel_rfl) (by kernel_rfl) hne (by rw [HD.out.2.2.2.2.2.2.2.2.2.2.2.1]; exact hS00) (fun _ => trivial) ?_
        (refine linV_op (v := ?_) rfl rfl (by rfl) (fun w9 hS9 => ?_) ?_; rotate_left; (focus (((try dsimp only at hS9);  go_simp; (try go_bits)) <;> with_reducible rfl)); (try simp only [Act.put, List.getElem_toArray, List.getElem_cons_zero, List.getElem_cons_succ, List.setIfInBounds_toArray, List.set_cons_zero, List.set_cons_succ]))
        (refine linV_op (v := ?_) rfl rfl (by rfl) (fun w9 hS9 => ?_) ?_; rotate_left; (focus (((try dsimp only at hS9);  go_simp; (try go_bits)) <;> with_reducible rfl)); (try simp only [Act.put, List.getElem_toArray, List.getElem_cons_zero, List.getElem_cons_succ, List.setIfInBounds_toArray, List.set_cons_zero, List.set_cons_succ]))
        (refine linV_op (v := ?_) rfl rfl (by rfl) (fun w9 hS9 => ?_) ?_; rotate_left; (focus (((try dsimp only at hS9); have k9 := cP w9 hS9; go_simp; (try go_bits)) <;> with_reducible rfl)); (try simp only [Act.put, List.getElem_toArray, List.getElem_cons_zero, List.getElem_cons_succ, List.setIfInBounds_toArray, List.set_cons_zero, List.set_cons_succ]))
        refine linV_call (f := 58) (args := #[.agg x.p.cs]) rfl rfl (by rfl) rfl rfl (enters_of Tryd.func58 (by kernel_rfl) rfl) (by simp [Act.eval]) (fun w9 hS9 _ hF9 => do7 w9 hS9) (fun v7 hv7 => ?_)
        obtain ⟨a7, c7, rfl⟩ : ∃ a7 c7, v7 = .slice a7 P.length c7 := by
          obtain ⟨w9, h9⟩ := hv7
          rw [HD.out.2.1] at h9
          obtain ⟨a2, c2, e, _⟩ := (h9.1 rfl).lies
          exact ⟨a2, c2, e⟩
        obtain ⟨n7, hn7⟩ : ∃ n7, P.length = n7 := ⟨_, rfl⟩
        rw [hn7]
        (try simp only [Act.put, List.getElem_toArray, List.getElem_cons_zero, List.getElem_cons_succ, List.setIfInBounds_toArray, List.set_cons_zero, List.set_cons_succ])
        refine linV_call (f := 57) (args := #[.slice va m vc, .slice a7 n7 c7]) rfl rfl (by rfl) rfl rfl (enters_of Tryd.func57 (by kernel_rfl) rfl) (by simp [Act.eval]) (fun w9 hS9 _ hF9 => do8 w9 _ hS9 (hF9 (3, .slice a7 n7 c7) (by simp) (by kernel_rfl))) (fun v8 hv8 => ?_)
        obtain ⟨a8, c8, rfl⟩ : ∃ a8 c8, v8 = .slice a8 (O ++ P).length c8 := by
          obtain ⟨w9, h9⟩ := hv8
          rw [HD.out.2.1] at h9
          obtain ⟨a2, c2, e, _⟩ := (h9.2.1 rfl).lies
          exact ⟨a2, c2, e⟩
        obtain ⟨n8, hn8⟩ : ∃ n8, (O ++ P).length = n8 := ⟨_, rfl⟩
        rw [hn8]
        (try simp only [Act.put, List.getElem_toArray, List.getElem_cons_zero, List.getElem_cons_succ, List.setIfInBounds_toArray, List.set_cons_zero, List.set_cons_succ])
        (refine linV_op (v := ?_) rfl rfl (by rfl) (fun w9 hS9 => ?_) ?_; rotate_left; (focus (((try dsimp only at hS9);  go_simp; (try go_bits)) <;> with_reducible rfl)); (try simp only [Act.put, List.getElem_toArray, List.getElem_cons_zero, List.getElem_cons_succ, List.setIfInBounds_toArray, List.set_cons_zero, List.set_cons_succ]))
        (refine linV_op (v := ?_) rfl rfl (by rfl) (fun w9 hS9 => ?_) ?_; rotate_left; (focus (((try dsimp only at hS9); have k9 := cS w9 hS9; go_simp; (try go_bits)) <;> with_reducible rfl)); (try simp only [Act.put, List.getElem_toArray, List.getElem_cons_zero, List.getElem_cons_succ, List.setIfInBounds_toArray, List.set_cons_zero, List.set_cons_succ]))
        (refine linV_op (v := ?_) rfl rfl (by rfl) (fun w9 hS9 => ?_) ?_; rotate_left; (focus (((try dsimp only at hS9);  go_simp; (try go_bits)) <;> with_reducible rfl)); (try simp only [Act.put, List.getElem_toArray, List.getElem_cons_zero, List.getElem_cons_succ, List.setIfInBounds_toArray, List.set_cons_zero, List.set_cons_succ]))
        (refine linV_op (v := ?_) rfl rfl (by rfl) (fun w9 hS9 => ?_) ?_; rotate_left; (focus (((try dsimp only at hS9);  go_simp; (try go_bits)) <;> with_reducible rfl)); (try simp only [Act.put, List.getElem_toArray, List.getElem_cons_zero, List.getElem_cons_succ, List.setIfInBounds_toArray, List.set_cons_zero, List.set_cons_succ]))
        (refine linV_op (v := ?_) rfl rfl (by rfl) (fun w9 hS9 => ?_) ?_; rotate_left; (focus (((try dsimp only at hS9);  go_simp; (try go_bits)) <;> with_reducible rfl)); (try simp only [Act.put, List.getElem_toArray, List.getElem_cons_zero, List.getElem_cons_succ, List.setIfInBounds_toArray, List.set_cons_zero, List.set_cons_succ]))
        (refine linV_op (v := ?_) rfl rfl (by rfl) (fun w9 hS9 => ?_) ?_; rotate_left; (focus (((try dsimp only at hS9); have k9 := cF w9 hS9; go_simp; (try go_bits)) <;> with_reducible rfl)); (try simp only [Act.put, List.getElem_toArray, List.getElem_cons_zero, List.getElem_cons_succ, List.setIfInBounds_toArray, List.set_cons_zero, List.set_cons_succ]))
        (refine linV_op (v := ?_) rfl rfl (by rfl) (fun w9 hS9 => ?_) ?_; rotate_left; (focus (((try dsimp only at hS9);  go_simp; (try go_bits)) <;> with_reducible rfl)); (try simp only [Act.put, List.getElem_toArray, List.getElem_cons_zero, List.getElem_cons_succ, List.setIfInBounds_toArray, List.set_cons_zero, List.set_cons_succ]))
        (refine linV_op (v := ?_) rfl rfl (by rfl) (fun w9 hS9 => ?_) ?_; rotate_left; (focus (((try dsimp only at hS9);  go_simp; (try go_bits)) <;> with_reducible rfl)); (try simp only [Act.put, List.getElem_toArray, List.getElem_cons_zero, List.getElem_cons_succ, List.setIfInBounds_toArray, List.set_cons_zero, List.set_cons_succ]))
        (refine linV_op (v := ?_) rfl rfl (by rfl) (fun w9 hS9 => ?_) ?_; rotate_left; (focus (((try dsimp only at hS9); have k9 := cH w9 hS9; go_simp; (try go_bits)) <;> with_reducible rfl)); (try simp only [Act.put, List.getElem_toArray, List.getElem_cons_zero, List.getElem_cons_succ, List.setIfInBounds_toArray, List.set_cons_zero, List.set_cons_succ]))
        (refine linV_op (v := ?_) rfl rfl (by rfl) (fun w9 hS9 => ?_) ?_; rotate_left; (focus (((try dsimp only at hS9);  go_simp; (try go_bits)) <;> with_reducible rfl)); (try simp only [Act.put, List.getElem_toArray, List.getElem_cons_zero, List.getElem_cons_succ, List.setIfInBounds_toArray, List.set_cons_zero, List.set_cons_succ]))
        refine linV_do rfl rfl (by rfl) (fun w9 hS9 hQ9 hF9 => ?_) (fun v6 hv6 => ?_)
        · obtain ⟨v, w8, r8, rest⟩ := do16 w9 hS9
          exact ⟨v, w8, by go_simp, rest⟩
        obtain ⟨g6, rfl⟩ : ∃ g6, v6 = .slice (some ⟨g6, 0, none⟩) 4 4 := by
          obtain ⟨w9, h9⟩ := hv6
          rw [HD.out.2.1] at h9
          obtain ⟨g6, e, _⟩ := h9.2.2 rfl
          exact ⟨g6, e⟩
        (try simp only [Act.put, List.getElem_toArray, List.getElem_cons_zero, List.getElem_cons_succ, List.setIfInBounds_toArray, List.set_cons_zero, List.set_cons_succ])
        refine linV_nil (fun w9 hS9 hF9 => ?_)
        have f8 := hF9 (4, .slice a8 n8 c8) (by simp)
        have f6 := hF9 (15, .slice (some ⟨g6, 0, none⟩) 4 4) (by simp)
        rw [HD.out.1] at hS9
        rw [HD.out.2.1] at f8 f6
        have o8 := f8.2.1 rfl
        obtain ⟨g7, e7, l7, _⟩ := f6.2.2 rfl
        injection e7 with e7a
        injection e7a with e7b
        injection e7b with e7c
        subst e7c
        have hlen2 : (O ++ P).length ≤ 5000 := by have := HD.out.2.2.2.2.1; have := HD.out.2.2.2.2.2.1; rw [List.length_append]; omega
        have o8' : OwnB w9 W1.heap.size (.slice a8 n8 c8) (O ++ P) := OwnB.less o8 (by have := X0_size9 HD.out.2.2.2.2.2.2.2.2.2.2.2.1; have := HD.out.2.2.2.2.2.2.2.2.2.2.2.2.1.size; have := HD.out.2.2.2.2.2.2.2.2.2.2.2.2.2.size; omega)
        obtain ⟨v7, w7, r7, o7, g7r⟩ := bapp_run (c := 4) o8' (m := 4) HD.out.2.2.1 l7 (by omega) hS9.2.1.size
        obtain ⟨a9, c9, rfl, _⟩ := o7.lies
        have ho8lt := o8'.lt
        have k7 : Below W1.heap.size W1 w7 := hS9.2.1.grown g7r hS9.2.1.size (fun x hx => (ho8lt x (by cases a8 <;> exact hx)).1)
        have hOP : (O ++ P) ++ l = n :: upsB (L.take (k + 1)) := by
          rw [upsB_next HD.out.2.2.2.2.2.2.2.2.1, HD.out.2.2.2.2.2.2.2.1, HD.out.2.2.2.2.2.2.2.2.2.2.1, upB, HTB.out, HD.out.2.2.2.1]
          simp
        have HE := Lib.hid (And.intro o7 (And.intro k7 hOP))
        obtain ⟨m7, hm7⟩ : ∃ m7, ((O ++ P) ++ l).length = m7 := ⟨_, rfl⟩
        rw [hm7] at r7
        clear f8 f6 o8 o8' l7 g7r ho8lt k7 hOP hS9 hF9 hlen2 hv6 hv7 hv8 do7 do8 do16 cH cF cS cP hne hS00
        refine linX_do (v := .slice a9 m7 c9) (w' := w7) rfl rfl (by rfl) (by have r := r7 49; simp [execOp, resolve, invoke, builtin, Act.eval, r, Result.andThen]) trivial ?_
        (try simp only [Act.put, List.getElem_toArray, List.getElem_cons_zero, List.getElem_cons_succ, List.setIfInBounds_toArray, List.set_cons_zero, List.set_cons_succ])
        (refine linX_op (v := ?_) rfl rfl (by rfl) (fun w9 _ => ?_) ?_; rotate_left; (focus (go_simp <;> with_reducible rfl)); (try simp only [Act.put, List.getElem_toArray, List.getElem_cons_zero, List.getElem_cons_succ, List.setIfInBounds_toArray, List.set_cons_zero, List.set_cons_succ]))
        refine linX_nil ?_
        go_wp2_with fail
        go_roundw
        case rel =>
          refine ⟨k + 1, m7, a9, c9, (O ++ P) ++ l, by omega, by rw [HWk.out], rfl, hm7, HE.out.2.2, ?_, HE.out.2.1⟩
          rw [← hm7]; exact HE.out.1
        case measure => exact measD hlt HWk.out
      · rw [hgg] at hg0
        obtain ⟨S0, hS0⟩ : ∃ S0 : World → Prop, S0 = fun w' => OwnB w' W1.heap.size (.slice va m vc) O ∧ Below W1.heap.size W1 w' ∧ X0.heap.size ≤ w'.heap.size ∧ Blk w' wr.heap.size 72 x.cs := ⟨_, rfl⟩
        have HTB := Lib.hid (show upT x = [s', 1, f', h'] by unfold upT; rw [hs', hf', hh', hgg, g01]; try simp)
        obtain ⟨l, hl⟩ : ∃ l, [s', 1, f', h'] = l := ⟨_, rfl⟩
        rw [hl] at HTB
        have hll : l.length = 4 := by rw [← hl]; rfl
        have BU := (show ∀ w, (bbuildSem 4 #[(0, .int .u8 (s' : Int)), (1, .int .u8 (1 : Int)), (2, .int .u8 (f' : Int)), (3, .int .u8 (h' : Int))]).run Tryd.prog w = .ok (.slice (some ⟨w.heap.size, 0, none⟩) 4 4) (w.alloc (.cells #[.int .u8 (s' : Int), .int .u8 (1 : Int), .int .u8 (f' : Int), .int .u8 (h' : Int)] 5)) from bbuild4_run s' 1 f' h')
        have oB := (show ∀ w, OwnB (World.alloc w (.cells #[.int .u8 (s' : Int), .int .u8 (1 : Int), .int .u8 (f' : Int), .int .u8 (h' : Int)] 5)) w.heap.size (.slice (some ⟨w.heap.size, 0, none⟩) 4 4) [s', 1, f', h'] from bown4 s' 1 f' h')
        simp only [hl] at oB
        obtain ⟨Ph, hPh⟩ : ∃ Ph : Nat → Value → World → Prop, Ph = fun d v w' => (d = 3 → OwnB w' X0.heap.size v P) ∧ (d = 4 → OwnB w' X0.heap.size v (O ++ P)) ∧ (d = 15 → ∃ g, v = .slice (some ⟨g, 0, none⟩) 4 4 ∧ Lies w' (some ⟨g, 0, none⟩) l ∧ X0.heap.size ≤ g) := ⟨_, rfl⟩
        have hS00 : S0 X0 := by rw [hS0]; exact ⟨own0, kw0, Nat.le_refl _, blk0⟩
        have keep : ∀ w' w2 (i : Nat), S0 w' → Below w'.heap.size w' w2 → S0 w2 ∧ (∀ d, d ≠ i → True → True) ∧ (∀ d u, d ≠ i → Ph d u w' → Ph d u w2) := by
          intro w' w2 i h1 k6
          rw [hS0] at h1 ⊢
          refine ⟨⟨h1.1.later k6, bel_trans h1.2.1 k6, by have := k6.size; omega, h1.2.2.2.later k6⟩, fun _ _ h => h, fun d u _ h3 => ?_⟩
          rw [hPh] at h3 ⊢
          refine ⟨fun e => (h3.1 e).later k6, fun e => (h3.2.1 e).later k6, fun e => ?_⟩
          obtain ⟨g, e1, e2, e3⟩ := h3.2.2 e
          exact ⟨g, e1, e2.kept k6, e3⟩
        have cP : ∀ w', S0 w' → (loadSem 65 (.pointer (some ⟨wr.heap.size, 0, none⟩))).run Tryd.prog w' = .ok (.agg x.p.cs) w' := fun w' h => by rw [hS0] at h; exact up_p h.2.2.2 w' (Below.refl _ _)
        have cS : ∀ w', S0 w' → w'.cell? ⟨wr.heap.size, 18, none⟩ = some (.int .i64 x.s) := fun w' h => by rw [hS0] at h; exact up_s h.2.2.2 w' (Below.refl _ _)
        have cF : ∀ w', S0 w' → w'.cell? ⟨wr.heap.size, 20, none⟩ = some (.int .i64 x.f) := fun w' h => by rw [hS0] at h; exact up_f h.2.2.2 w' (Below.refl _ _)
        have cH : ∀ w', S0 w' → w'.cell? ⟨wr.heap.size, 21, none⟩ = some (.int .i64 x.h) := fun w' h => by rw [hS0] at h; exact up_h h.2.2.2 w' (Below.refl _ _)
        rw [hs'] at cS
        rw [hf'] at cF
        rw [hh'] at cH
        have do7 : ∀ w', S0 w' → Calls Tryd.prog 58 #[.agg x.p.cs] w' fun e w2 => ∃ v, e = .returned v ∧ S0 w2 ∧ (∀ d, d ≠ 3 → True → True) ∧ (∀ d u, d ≠ 3 → Ph d u w' → Ph d u w2) ∧ Ph 3 v w2 := by
          intro w' h1
          have h1' := h1
          rw [hS0] at h1'
          refine (refbytes_any x.p w' hp).mono ?_
          rintro e w2 ⟨v, rfl, hg, hb⟩
          obtain ⟨q1, q2, q3⟩ := keep w' w2 3 h1 hb
          refine ⟨v, rfl, q1, q2, q3, ?_⟩
          rw [hPh]
          refine ⟨fun _ => ?_, fun e => by omega, fun e => by omega⟩
          have h9 : OwnB w2 w'.heap.size v (encP x.p) := hg
          rw [hP] at h9
          exact h9.less h1'.2.2.1
        have do8 : ∀ w' v7, S0 w' → Ph 3 v7 w' → Calls Tryd.prog 57 #[.slice va m vc, v7] w' fun e w2 => ∃ v, e = .returned v ∧ S0 w2 ∧ (∀ d, d ≠ 4 → True → True) ∧ (∀ d u, d ≠ 4 → Ph d u w' → Ph d u w2) ∧ Ph 4 v w2 := by
          intro w' v7 h1 h7
          have h1' := h1
          rw [hS0] at h1'
          rw [hPh] at h7
          have o7 := h7.1 rfl
          obtain ⟨a7, c7, rfl, _, _, l7, _⟩ := o7.lies
          obtain ⟨aO, cO, eO, _, _, lO, _⟩ := h1'.1.lies
          injection eO with eO1 eO2 eO3
          subst eO1
          refine (both_any va a7 m vc P.length c7 O P w' eO2.symm rfl (by omega) (by omega) lO l7).mono ?_
          rintro e w2 ⟨rfl, ho, hb⟩
          obtain ⟨q1, q2, q3⟩ := keep w' w2 4 h1 hb
          refine ⟨_, rfl, q1, q2, q3, ?_⟩
          rw [hPh]
          refine ⟨fun e => by omega, fun _ => ?_, fun e => by omega⟩
          have h9 := own_of9 ho (by rw [List.length_append]; unfold maxLen; omega)
          rw [List.length_append, ← eO2] at h9
          exact OwnB.less h9 h1'.2.2.1
        have do16 : ∀ w', S0 w' → ∃ v w2, (bbuildSem 4 #[(0, .int .u8 (s' : Int)), (1, .int .u8 (1 : Int)), (2, .int .u8 (f' : Int)), (3, .int .u8 (h' : Int))]).run Tryd.prog w' = .ok v w2 ∧ S0 w2 ∧ (∀ d, d ≠ 15 → True → True) ∧ (∀ d u, d ≠ 15 → Ph d u w' → Ph d u w2) ∧ Ph 15 v w2 := by
          intro w' h1
          have h1' := h1
          rw [hS0] at h1'
          have k6 : Below w'.heap.size w' (w'.alloc (.cells #[.int .u8 (s' : Int), .int .u8 (1 : Int), .int .u8 (f' : Int), .int .u8 (h' : Int)] 5)) := (Below.refl _ _).alloc (Nat.le_refl _) _
          obtain ⟨q1, q2, q3⟩ := keep w' _ 15 h1 k6
          refine ⟨_, _, BU w', q1, q2, q3, ?_⟩
          rw [hPh]
          refine ⟨fun e => by omega, fun e => by omega, fun _ => ⟨_, rfl, ?_, h1'.2.2.1⟩⟩
          obtain ⟨a9, c9, e9, _, _, l9, _⟩ := (oB w').lies
          injection e9 with e9a
          rw [← e9a] at l9
          exact l9
        have hne : ∀ i, [3, 4, 15].contains i = true → ∃ v w, Ph i v w := fun i hi => by
          have hi2 : i = 3 ∨ i = 4 ∨ i = 15 := by simpa using hi
          obtain ⟨v7, w7, hS7, h7⟩ : ∃ v w, S0 w ∧ Ph 3 v w := by
            obtain ⟨e, w', fr, ⟨v, _, h4, _, _, h5⟩, _⟩ := do7 X0 hS00 []
            exact ⟨v, w', h4, h5⟩
          rcases hi2 with rfl | rfl | rfl
          · exact ⟨v7, w7, h7⟩
          · obtain ⟨e, w', fr, ⟨v, _, h4, _, _, h5⟩, _⟩ := do8 w7 v7 hS7 h7 []
            exact ⟨v, w', h5⟩
          · obtain ⟨v, w9, _, _, _, _, h9⟩ := do16 X0 hS00; exact ⟨v, w9, h9⟩
        have HD := Lib.hid (And.intro hS0 (And.intro hPh (And.intro hll (And.intro hP (And.intro hOlen (And.intro hPb (And.intro hOm (And.intro hOe (And.intro hkl (And.intro hvb (And.intro hx (And.intro hX0 (And.intro hkb hb4)))))))))))))
        clear k40 own0 kw0 blk0 hvb hS0 hPh hP hx hOlen hPb hOm hOe hkl hokr hs hf hh hs' hf' hh' hp keep hown hrow0 r2 hl hll oB BU hblk hkb hb4
        go_upto_region 9 with (with_reducible refine wpList_alloc_z rfl 72 rfl Up.zero.cs 22 z_up ?_)
        refine wp_region_linV S0 (fun _ _ => True) Ph [3, 4, 15] [16] [0, 1, 2, 3, 4, 5, 6, 7, 8, 9, 10, 11, 12, 13, 14, 15] [16, 17] (by kernel_rfl) (by kernel_rfl) hne (by rw [HD.out.2.2.2.2.2.2.2.2.2.2.2.1]; exact hS00) (fun _ => trivial) ?_
        (refine linV_op (v := ?_) rfl rfl (by rfl) (fun w9 hS9 => ?_) ?_; rotate_left; (focus (((try dsimp only at hS9);  go_simp; (try go_bits)) <;> with_reducible rfl)); (try simp only [Act.put, List.getElem_toArray, List.getElem_cons_zero, List.getElem_cons_succ, List.setIfInBounds_toArray, List.set_cons_zero, List.set_cons_succ]))
        (refine linV_op (v := ?_) rfl rfl (by rfl) (fun w9 hS9 => ?_) ?_; rotate_left; (focus (((try dsimp only at hS9);  go_simp; (try go_bits)) <;> with_reducible rfl)); (try simp only [Act.put, List.getElem_toArray, List.getElem_cons_zero, List.getElem_cons_succ, List.setIfInBounds_toArray, List.set_cons_zero, List.set_cons_succ]))
        (refine linV_op (v := ?_) rfl rfl (by rfl) (fun w9 hS9 => ?_) ?_; rotate_left; (focus (((try dsimp only at hS9); have k9 := cP w9 hS9; go_simp; (try go_bits)) <;> with_reducible rfl)); (try simp only [Act.put, List.getElem_toArray, List.getElem_cons_zero, List.getElem_cons_succ, List.setIfInBounds_toArray, List.set_cons_zero, List.set_cons_succ]))
        refine linV_call (f := 58) (args := #[.agg x.p.cs]) rfl rfl (by rfl) rfl rfl (enters_of Tryd.func58 (by kernel_rfl) rfl) (by simp [Act.eval]) (fun w9 hS9 _ hF9 => do7 w9 hS9) (fun v7 hv7 => ?_)
        obtain ⟨a7, c7, rfl⟩ : ∃ a7 c7, v7 = .slice a7 P.length c7 := by
          obtain ⟨w9, h9⟩ := hv7
          rw [HD.out.2.1] at h9
          obtain ⟨a2, c2, e, _⟩ := (h9.1 rfl).lies
          exact ⟨a2, c2, e⟩
        obtain ⟨n7, hn7⟩ : ∃ n7, P.length = n7 := ⟨_, rfl⟩
        rw [hn7]
        (try simp only [Act.put, List.getElem_toArray, List.getElem_cons_zero, List.getElem_cons_succ, List.setIfInBounds_toArray, List.set_cons_zero, List.set_cons_succ])
        refine linV_call (f := 57) (args := #[.slice va m vc, .slice a7 n7 c7]) rfl rfl (by rfl) rfl rfl (enters_of Tryd.func57 (by kernel_rfl) rfl) (by simp [Act.eval]) (fun w9 hS9 _ hF9 => do8 w9 _ hS9 (hF9 (3, .slice a7 n7 c7) (by simp) (by kernel_rfl))) (fun v8 hv8 => ?_)
        obtain ⟨a8, c8, rfl⟩ : ∃ a8 c8, v8 = .slice a8 (O ++ P).length c8 := by
          obtain ⟨w9, h9⟩ := hv8
          rw [HD.out.2.1] at h9
          obtain ⟨a2, c2, e, _⟩ := (h9.2.1 rfl).lies
          exact ⟨a2, c2, e⟩
        obtain ⟨n8, hn8⟩ : ∃ n8, (O ++ P).length = n8 := ⟨_, rfl⟩
        rw [hn8]
        (try simp only [Act.put, List.getElem_toArray, List.getElem_cons_zero, List.getElem_cons_succ, List.setIfInBounds_toArray, List.set_cons_zero, List.set_cons_succ])
        (refine linV_op (v := ?_) rfl rfl (by rfl) (fun w9 hS9 => ?_) ?_; rotate_left; (focus (((try dsimp only at hS9);  go_simp; (try go_bits)) <;> with_reducible rfl)); (try simp only [Act.put, List.getElem_toArray, List.getElem_cons_zero, List.getElem_cons_succ, List.setIfInBounds_toArray, List.set_cons_zero, List.set_cons_succ]))
        (refine linV_op (v := ?_) rfl rfl (by rfl) (fun w9 hS9 => ?_) ?_; rotate_left; (focus (((try dsimp only at hS9); have k9 := cS w9 hS9; go_simp; (try go_bits)) <;> with_reducible rfl)); (try simp only [Act.put, List.getElem_toArray, List.getElem_cons_zero, List.getElem_cons_succ, List.setIfInBounds_toArray, List.set_cons_zero, List.set_cons_succ]))
        (refine linV_op (v := ?_) rfl rfl (by rfl) (fun w9 hS9 => ?_) ?_; rotate_left; (focus (((try dsimp only at hS9);  go_simp; (try go_bits)) <;> with_reducible rfl)); (try simp only [Act.put, List.getElem_toArray, List.getElem_cons_zero, List.getElem_cons_succ, List.setIfInBounds_toArray, List.set_cons_zero, List.set_cons_succ]))
        (refine linV_op (v := ?_) rfl rfl (by rfl) (fun w9 hS9 => ?_) ?_; rotate_left; (focus (((try dsimp only at hS9);  go_simp; (try go_bits)) <;> with_reducible rfl)); (try simp only [Act.put, List.getElem_toArray, List.getElem_cons_zero, List.getElem_cons_succ, List.setIfInBounds_toArray, List.set_cons_zero, List.set_cons_succ]))
        (refine linV_op (v := ?_) rfl rfl (by rfl) (fun w9 hS9 => ?_) ?_; rotate_left; (focus (((try dsimp only at hS9);  go_simp; (try go_bits)) <;> with_reducible rfl)); (try simp only [Act.put, List.getElem_toArray, List.getElem_cons_zero, List.getElem_cons_succ, List.setIfInBounds_toArray, List.set_cons_zero, List.set_cons_succ]))
        (refine linV_op (v := ?_) rfl rfl (by rfl) (fun w9 hS9 => ?_) ?_; rotate_left; (focus (((try dsimp only at hS9); have k9 := cF w9 hS9; go_simp; (try go_bits)) <;> with_reducible rfl)); (try simp only [Act.put, List.getElem_toArray, List.getElem_cons_zero, List.getElem_cons_succ, List.setIfInBounds_toArray, List.set_cons_zero, List.set_cons_succ]))
        (refine linV_op (v := ?_) rfl rfl (by rfl) (fun w9 hS9 => ?_) ?_; rotate_left; (focus (((try dsimp only at hS9);  go_simp; (try go_bits)) <;> with_reducible rfl)); (try simp only [Act.put, List.getElem_toArray, List.getElem_cons_zero, List.getElem_cons_succ, List.setIfInBounds_toArray, List.set_cons_zero, List.set_cons_succ]))
        (refine linV_op (v := ?_) rfl rfl (by rfl) (fun w9 hS9 => ?_) ?_; rotate_left; (focus (((try dsimp only at hS9);  go_simp; (try go_bits)) <;> with_reducible rfl)); (try simp only [Act.put, List.getElem_toArray, List.getElem_cons_zero, List.getElem_cons_succ, List.setIfInBounds_toArray, List.set_cons_zero, List.set_cons_succ]))
        (refine linV_op (v := ?_) rfl rfl (by rfl) (fun w9 hS9 => ?_) ?_; rotate_left; (focus (((try dsimp only at hS9); have k9 := cH w9 hS9; go_simp; (try go_bits)) <;> with_reducible rfl)); (try simp only [Act.put, List.getElem_toArray, List.getElem_cons_zero, List.getElem_cons_succ, List.setIfInBounds_toArray, List.set_cons_zero, List.set_cons_succ]))
        (refine linV_op (v := ?_) rfl rfl (by rfl) (fun w9 hS9 => ?_) ?_; rotate_left; (focus (((try dsimp only at hS9);  go_simp; (try go_bits)) <;> with_reducible rfl)); (try simp only [Act.put, List.getElem_toArray, List.getElem_cons_zero, List.getElem_cons_succ, List.setIfInBounds_toArray, List.set_cons_zero, List.set_cons_succ]))
        refine linV_do rfl rfl (by rfl) (fun w9 hS9 hQ9 hF9 => ?_) (fun v6 hv6 => ?_)
        · obtain ⟨v, w8, r8, rest⟩ := do16 w9 hS9
          exact ⟨v, w8, by go_simp, rest⟩
        obtain ⟨g6, rfl⟩ : ∃ g6, v6 = .slice (some ⟨g6, 0, none⟩) 4 4 := by
          obtain ⟨w9, h9⟩ := hv6
          rw [HD.out.2.1] at h9
          obtain ⟨g6, e, _⟩ := h9.2.2 rfl
          exact ⟨g6, e⟩
        (try simp only [Act.put, List.getElem_toArray, List.getElem_cons_zero, List.getElem_cons_succ, List.setIfInBounds_toArray, List.set_cons_zero, List.set_cons_succ])
        refine linV_nil (fun w9 hS9 hF9 => ?_)
        have f8 := hF9 (4, .slice a8 n8 c8) (by simp)
        have f6 := hF9 (15, .slice (some ⟨g6, 0, none⟩) 4 4) (by simp)
        rw [HD.out.1] at hS9
        rw [HD.out.2.1] at f8 f6
        have o8 := f8.2.1 rfl
        obtain ⟨g7, e7, l7, _⟩ := f6.2.2 rfl
        injection e7 with e7a
        injection e7a with e7b
        injection e7b with e7c
        subst e7c
        have hlen2 : (O ++ P).length ≤ 5000 := by have := HD.out.2.2.2.2.1; have := HD.out.2.2.2.2.2.1; rw [List.length_append]; omega
        have o8' : OwnB w9 W1.heap.size (.slice a8 n8 c8) (O ++ P) := OwnB.less o8 (by have := X0_size9 HD.out.2.2.2.2.2.2.2.2.2.2.2.1; have := HD.out.2.2.2.2.2.2.2.2.2.2.2.2.1.size; have := HD.out.2.2.2.2.2.2.2.2.2.2.2.2.2.size; omega)
        obtain ⟨v7, w7, r7, o7, g7r⟩ := bapp_run (c := 4) o8' (m := 4) HD.out.2.2.1 l7 (by omega) hS9.2.1.size
        obtain ⟨a9, c9, rfl, _⟩ := o7.lies
        have ho8lt := o8'.lt
        have k7 : Below W1.heap.size W1 w7 := hS9.2.1.grown g7r hS9.2.1.size (fun x hx => (ho8lt x (by cases a8 <;> exact hx)).1)
        have hOP : (O ++ P) ++ l = n :: upsB (L.take (k + 1)) := by
          rw [upsB_next HD.out.2.2.2.2.2.2.2.2.1, HD.out.2.2.2.2.2.2.2.1, HD.out.2.2.2.2.2.2.2.2.2.2.1, upB, HTB.out, HD.out.2.2.2.1]
          simp
        have HE := Lib.hid (And.intro o7 (And.intro k7 hOP))
        obtain ⟨m7, hm7⟩ : ∃ m7, ((O ++ P) ++ l).length = m7 := ⟨_, rfl⟩
        rw [hm7] at r7
        clear f8 f6 o8 o8' l7 g7r ho8lt k7 hOP hS9 hF9 hlen2 hv6 hv7 hv8 do7 do8 do16 cH cF cS cP hne hS00
        refine linX_do (v := .slice a9 m7 c9) (w' := w7) rfl rfl (by rfl) (by have r := r7 49; simp [execOp, resolve, invoke, builtin, Act.eval, r, Result.andThen]) trivial ?_
        (try simp only [Act.put, List.getElem_toArray, List.getElem_cons_zero, List.getElem_cons_succ, List.setIfInBounds_toArray, List.set_cons_zero, List.set_cons_succ])
        (refine linX_op (v := ?_) rfl rfl (by rfl) (fun w9 _ => ?_) ?_; rotate_left; (focus (go_simp <;> with_reducible rfl)); (try simp only [Act.put, List.getElem_toArray, List.getElem_cons_zero, List.getElem_cons_succ, List.setIfInBounds_toArray, List.set_cons_zero, List.set_cons_succ]))
        refine linX_nil ?_
        go_wp2_with fail
        go_roundw
        case rel =>
          refine ⟨k + 1, m7, a9, c9, (O ++ P) ++ l, by omega, by rw [HWk.out], rfl, hm7, HE.out.2.2, ?_, HE.out.2.1⟩
          rw [← hm7]; exact HE.out.1
        case measure => exact measD hlt HWk.out
    · obtain rfl : k = n := by omega
      have e1 : L.take k = L := List.take_of_length_le (by rw [HB.out.2.1]; omega)
      rw [e1] at hOe
      have e2 : O = batB L := by rw [hOe, batB, HB.out.2.1]
      subst e2
      have HQ := Lib.hid (And.intro hown (And.intro hkb hOm))
      clear hown hkb hOe hOm e1
      go_wp2_with fail
      go_ret
      refine ⟨_, rfl, ?_, bel_trans HB.out.1 HQ.out.2.1⟩
      have h9 := HQ.out.1
      exact OwnB.less h9 HB.out.1.size
end Go.Proofs.YtclkfmblogkakaaDoor
