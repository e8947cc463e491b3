/-
  The walk of TableBytes. Nothing here is a statement of the document.
-/
import Derived.Test.YtdbdmnahgkkjiaaDoorTdD
import Derived.Test.YtdbdmnahgkkjiaaDoorDskA
import Derived.Test.YtdbdmnahgkkjiaaDoorTdC
import Derived.Test.YtdbdmnahgkkjiaaDoorTbI
namespace Go.Proofs.YtdbdmnahgkkjiaaDoor
open Go.RowKit Go.Shelf
set_option linter.unusedVariables false
set_option maxRecDepth 100000
theorem X0_size9 {w X : World} (h : w.drew = X) : w.heap.size = X.heap.size := by rw [← h]; rfl
theorem own_of9 {w : World} {g : Nat} {l : List Nat} (h : Own w g l) (hm : l.length ≤ maxLen) : OwnB w g (.slice (some ⟨g, 0, none⟩) l.length l.length) l :=
  ⟨by simp, .inr ⟨g, l.length, (l.map byc).toArray, rfl, Nat.le_refl _, h, Nat.le_refl _, hm, by simp, by simp [List.take_of_length_le]⟩⟩
attribute [local go_sem ↓] load_b16_rule store_b16_rule load_ad_rule store_ad_rule load_px_rule store_px_rule eq_b16_rule eq_ad_rule eq_px_rule load_rt_rule store_rt_rule build_ad_rule build_px_rule build_b16_rule build_rt_rule load_tab_rule build_tab_rule store_tab_rule tbuild_rule tapp_rule tcopy_rule eq_rt_rule bbuild_rule
set_option maxHeartbeats 8000000 in
theorem rtbytes_any (a : Option Addr) (n c : Nat) (L : List Rt) (w : World) (hn : L.length = n) (hT : Tbl w a c L) (hok : okT L) :
    Calls Tryd.prog 17 #[.agg #[.slice a n c]] w fun e w' => ∃ v, e = .returned v ∧ OwnB w' w.heap.size v (tabB L) ∧ Below w.heap.size w w' := by
  obtain ⟨W1, hW1⟩ : ∃ W1, w.alloc (.cells #[.slice a n c] 24) = W1 := ⟨_, rfl⟩
  have hb1 : Below w.heap.size w W1 := by rw [← hW1]; exact (Below.refl _ _).alloc (Nat.le_refl _) _
  have b1 : Blk W1 w.heap.size 24 #[.slice a n c] := by rw [← hW1]; exact Blk.new w _ _
  have CT := tab_c b1
  have h0 : Below W1.heap.size W1 W1 := Below.refl _ _
  have HB := Lib.hid (And.intro hb1 (And.intro hn (fun w' (h : Below W1.heap.size W1 w') => (hT.at'.later hb1).later h)))
  have hn40 : n ≤ 40 := by have := hok.1; omega
  have hcv : IntKind.u8.wrap (n : Int) = (n : Int) := wrap_b9 (by omega)
  have HO := Lib.hid (And.intro hok hn40)
  clear hT hb1 b1 hn hok hn40
  have r2 := bbuild1_run9 n W1
  obtain ⟨W3, hW3⟩ : ∃ W3, W1.alloc (.cells #[.int .u8 (n : Int)] 5) = W3 := ⟨_, rfl⟩
  rw [hW3] at r2
  have k23 : Below W1.heap.size W1 W3 := by rw [← hW3]; exact (Below.refl _ _).alloc (Nat.le_refl _) _
  have o3 : OwnB W3 W1.heap.size (.slice (some ⟨W1.heap.size, 0, none⟩) 1 1) [n] := by
    have h9 := bown1 n W1
    rwa [hW3] at h9
  have C1 := CT W1 h0
  have H3 := Lib.hid (And.intro k23 o3)
  clear k23 o3 hW3 h0
  go_enter Tryd.func17, Tryd.ntmps17
  go_wp2_with fail
  go_loopw [3, 4] (fun ov i wr => ∃ (k m : Nat) (va : Option Addr) (vc : Nat) (O : List Nat), k ≤ n ∧ i = .int .i64 (k : Int) ∧ ov = .slice va m vc ∧ O.length = m ∧ O = n :: rowsB (L.take k) ∧ OwnB wr W1.heap.size (.slice va m vc) O ∧ Below W1.heap.size W1 wr) (fun _ i _ => n - (intOf i).toNat)
  case atStart => exact ⟨0, 1, _, 1, [n], Nat.zero_le _, rfl, rfl, rfl, by simp [rowsB], H3.out.2, H3.out.1⟩
  case round =>
    obtain ⟨k, m, va, vc, O, hk, rfl, rfl, hOm, hOe, hown, hkb⟩ := hrel
    have Cr := CT wr hkb
    by_cases hlt : k < n
    · have hkl : k < L.length := by have := HB.out.2.1; omega
      obtain ⟨g, o, rfl, hrow0⟩ := (HB.out.2.2 wr hkb).spot hkl
      have hokr : okR (rt L k) := HO.out.1.2.1 _ (rt_mem hkl)
      have dk : decide ((k : Int) < (n : Int)) = true := decide_eq_true (by omega)
      have dk2 : decide (k < n) = true := decide_eq_true hlt
      have HWk := Lib.hid (wrap_oneD (j := k) (by have := HO.out.2; omega))
      obtain ⟨P, hP⟩ : ∃ P, encP (rt L k).p = P := ⟨_, rfl⟩
      have hPb := encP_b hokr.1
      rw [hP] at hPb
      obtain ⟨hp, hhp⟩ : ∃ hp, (rt L k).h.toNat = hp := ⟨_, rfl⟩
      have hhi : (rt L k).h = (hp : Int) := by have := hokr.2.1; omega
      have hp255 : hp ≤ 255 := by have := hokr.2.2; omega
      have hcv2 : IntKind.u8.wrap (hp : Int) = (hp : Int) := wrap_b9 hp255
      have hOlen : O.length ≤ 1000 := by
        have h1 := rowsB_len (L.take k) (fun r hr => (HO.out.1.2.1 r (List.mem_of_mem_take hr)).1)
        have := HO.out.2
        have h2 : (L.take k).length ≤ 40 := by rw [List.length_take]; have := HB.out.2.1; omega
        rw [hOe]
        simp at h1 ⊢
        omega
      have hvb : ∀ x, (Value.slice va m vc).ownBlock = some x → W1.heap.size ≤ x ∧ x < wr.heap.size := fun x hx => hown.lt x hx
      obtain ⟨X0, hX0⟩ : ∃ X0, wr.drew = X0 := ⟨_, rfl⟩
      have k40 : Below wr.heap.size wr X0 := by rw [← hX0]; exact (Below.refl _ _).drew
      have own0 := hown.later k40
      have kw0 : Below W1.heap.size W1 X0 := bel_trans hkb k40
      obtain ⟨p, hpp⟩ : ∃ p, (rt L k).p = p := ⟨_, rfl⟩
      obtain ⟨S0, hS0⟩ : ∃ S0 : World → Prop, S0 = fun w' => OwnB w' W1.heap.size (.slice va m vc) O ∧ Below W1.heap.size W1 w' ∧ X0.heap.size ≤ w'.heap.size := ⟨_, rfl⟩
      obtain ⟨Ph, hPh⟩ : ∃ Ph : Nat → Value → World → Prop, Ph = fun d v w' => (d = 7 → OwnB w' X0.heap.size v P) ∧ (d = 8 → OwnB w' X0.heap.size v (O ++ P)) ∧ (d = 16 → ∃ g, v = .slice (some ⟨g, 0, none⟩) 1 1 ∧ Lies w' (some ⟨g, 0, none⟩) [hp] ∧ X0.heap.size ≤ g) := ⟨_, rfl⟩
      have hS00 : S0 X0 := by rw [hS0]; exact ⟨own0, kw0, Nat.le_refl _⟩
      have keep : ∀ w' w2 (i : Nat), S0 w' → Below w'.heap.size w' w2 → S0 w2 ∧ (∀ d, d ≠ i → True → True) ∧ (∀ d u, d ≠ i → Ph d u w' → Ph d u w2) := by
        intro w' w2 i h1 k6
        rw [hS0] at h1 ⊢
        refine ⟨⟨h1.1.later k6, bel_trans h1.2.1 k6, by have := k6.size; omega⟩, fun _ _ h => h, fun d u _ h3 => ?_⟩
        rw [hPh] at h3 ⊢
        refine ⟨fun e => (h3.1 e).later k6, fun e => (h3.2.1 e).later k6, fun e => ?_⟩
        obtain ⟨g, e1, e2, e3⟩ := h3.2.2 e
        exact ⟨g, e1, e2.kept k6, e3⟩
      have cT : ∀ w', S0 w' → w'.cell? ⟨w.heap.size, 0, none⟩ = some (.slice (some ⟨g, o, none⟩) n c) := fun w' h => by rw [hS0] at h; exact CT w' h.2.1
      have cP : ∀ w', S0 w' → (loadSem 38 (.pointer (some ⟨g, o + k * 19, none⟩))).run Tryd.prog w' = .ok (.agg p.cs) w' := fun w' h => by
        rw [hS0] at h
        obtain ⟨g9, o9, e9, h9⟩ := (HB.out.2.2 w' h.2.1).spot hkl
        cases e9
        rw [← hpp]
        exact h9.loadp hkl
      have cH : ∀ w', S0 w' → w'.cell? ⟨g, o + k * 19 + 18, none⟩ = some (.int .i64 (hp : Int)) := fun w' h => by
        rw [hS0] at h
        obtain ⟨g9, o9, e9, h9⟩ := (HB.out.2.2 w' h.2.1).spot hkl
        cases e9
        rw [← hhi]
        exact h9.hop hkl
      have do7 : ∀ w', S0 w' → Calls Tryd.prog 36 #[.agg p.cs] w' fun e w2 => ∃ v, e = .returned v ∧ S0 w2 ∧ (∀ d, d ≠ 7 → True → True) ∧ (∀ d u, d ≠ 7 → Ph d u w' → Ph d u w2) ∧ Ph 7 v w2 := by
        intro w' h1
        have h1' := h1
        rw [hS0] at h1'
        refine (refbytes_any p w' (by rw [← hpp]; exact hokr.1)).mono ?_
        rintro e w2 ⟨v, rfl, hg, hb⟩
        obtain ⟨q1, q2, q3⟩ := keep w' w2 7 h1 hb
        refine ⟨v, rfl, q1, q2, q3, ?_⟩
        rw [hPh]
        refine ⟨fun _ => ?_, fun e => by omega, fun e => by omega⟩
        have h9 : OwnB w2 w'.heap.size v (encP p) := hg
        rw [← hpp, hP] at h9
        exact h9.less h1'.2.2
      have do8 : ∀ w' v7, S0 w' → Ph 7 v7 w' → Calls Tryd.prog 35 #[.slice va m vc, v7] w' fun e w2 => ∃ v, e = .returned v ∧ S0 w2 ∧ (∀ d, d ≠ 8 → True → True) ∧ (∀ d u, d ≠ 8 → Ph d u w' → Ph d u w2) ∧ Ph 8 v w2 := by
        intro w' v7 h1 h7
        have h1' := h1
        rw [hS0] at h1'
        rw [hPh] at h7
        have o7 := h7.1 rfl
        obtain ⟨a7, c7, rfl, _, _, l7, _⟩ := o7.lies
        obtain ⟨aO, cO, eO, _, _, lO, _⟩ := h1'.1.lies
        injection eO with eO1 eO2 eO3
        subst eO1
        refine (both_any va a7 m vc P.length c7 O P w' eO2.symm rfl (by omega) (by omega) lO l7).mono ?_
        rintro e w2 ⟨rfl, ho, hb⟩
        obtain ⟨q1, q2, q3⟩ := keep w' w2 8 h1 hb
        refine ⟨_, rfl, q1, q2, q3, ?_⟩
        rw [hPh]
        refine ⟨fun e => by omega, fun _ => ?_, fun e => by omega⟩
        have h9 := own_of9 ho (by rw [List.length_append]; unfold maxLen; omega)
        rw [List.length_append, ← eO2] at h9
        exact OwnB.less h9 h1'.2.2
      have do16 : ∀ w', S0 w' → ∃ v w2, (bbuildSem 1 #[(0, .int .u8 (hp : Int))]).run Tryd.prog w' = .ok v w2 ∧ S0 w2 ∧ (∀ d, d ≠ 16 → True → True) ∧ (∀ d u, d ≠ 16 → Ph d u w' → Ph d u w2) ∧ Ph 16 v w2 := by
        intro w' h1
        have h1' := h1
        rw [hS0] at h1'
        have k6 : Below w'.heap.size w' (w'.alloc (.cells #[.int .u8 (hp : Int)] 5)) := (Below.refl _ _).alloc (Nat.le_refl _) _
        obtain ⟨q1, q2, q3⟩ := keep w' _ 16 h1 k6
        refine ⟨_, _, bbuild1_run9 hp w', q1, q2, q3, ?_⟩
        rw [hPh]
        exact ⟨fun e => by omega, fun e => by omega, fun _ => ⟨_, rfl, one_byte w' hp, h1'.2.2⟩⟩
      have hne : ∀ i, [7, 8, 16].contains i = true → ∃ v w, Ph i v w := fun i hi => by
        have hi2 : i = 7 ∨ i = 8 ∨ i = 16 := by simpa using hi
        obtain ⟨v7, w7, hS7, h7⟩ : ∃ v w, S0 w ∧ Ph 7 v w := by
          obtain ⟨e, w', fr, ⟨v, _, h4, _, _, h5⟩, _⟩ := do7 X0 hS00 []
          exact ⟨v, w', h4, h5⟩
        rcases hi2 with rfl | rfl | rfl
        · exact ⟨v7, w7, h7⟩
        · obtain ⟨e, w', fr, ⟨v, _, h4, _, _, h5⟩, _⟩ := do8 w7 v7 hS7 h7 []
          exact ⟨v, w', h5⟩
        · obtain ⟨v, w9, _, _, _, _, h9⟩ := do16 X0 hS00; exact ⟨v, w9, h9⟩
      have HD := Lib.hid (And.intro hS0 (And.intro hPh (And.intro hhp (And.intro hP (And.intro hOlen (And.intro hPb (And.intro hOm (And.intro hOe (And.intro hkl hvb)))))))))
      clear k40 own0 kw0 hvb hS0 hPh hP hpp hOlen hPb hOm hOe hkl hokr hhp hhi hp255 keep hown hrow0 r2
      go_wp2_with fail
      refine wp_region_linV S0 (fun _ _ => True) Ph [7, 8, 16] [17] [0, 1, 2, 3, 4, 5, 6, 7, 8, 9, 10, 11, 12, 13, 14, 15, 16] [17, 18] (by kernel_rfl) (by kernel_rfl) hne (by rw [hX0]; exact hS00) (fun _ => trivial) ?_
      (refine linV_op (v := ?_) rfl rfl (by rfl) (fun w9 hS9 => ?_) ?_; rotate_left; (focus (((try dsimp only at hS9);  go_simp; (try go_bits)) <;> with_reducible rfl)); (try simp only [Act.put, List.getElem_toArray, List.getElem_cons_zero, List.getElem_cons_succ, List.setIfInBounds_toArray, List.set_cons_zero, List.set_cons_succ]))
      (refine linV_op (v := ?_) rfl rfl (by rfl) (fun w9 hS9 => ?_) ?_; rotate_left; (focus (((try dsimp only at hS9);  go_simp; (try go_bits)) <;> with_reducible rfl)); (try simp only [Act.put, List.getElem_toArray, List.getElem_cons_zero, List.getElem_cons_succ, List.setIfInBounds_toArray, List.set_cons_zero, List.set_cons_succ]))
      (refine linV_op (v := ?_) rfl rfl (by rfl) (fun w9 hS9 => ?_) ?_; rotate_left; (focus (((try dsimp only at hS9); have k9 := cT w9 hS9;  go_simp; (try go_bits)) <;> with_reducible rfl)); (try simp only [Act.put, List.getElem_toArray, List.getElem_cons_zero, List.getElem_cons_succ, List.setIfInBounds_toArray, List.set_cons_zero, List.set_cons_succ]))
      (refine linV_op (v := ?_) rfl rfl (by rfl) (fun w9 hS9 => ?_) ?_; rotate_left; (focus (((try dsimp only at hS9);  go_simp; (try go_bits)) <;> with_reducible rfl)); (try simp only [Act.put, List.getElem_toArray, List.getElem_cons_zero, List.getElem_cons_succ, List.setIfInBounds_toArray, List.set_cons_zero, List.set_cons_succ]))
      (refine linV_op (v := ?_) rfl rfl (by rfl) (fun w9 hS9 => ?_) ?_; rotate_left; (focus (((try dsimp only at hS9);  go_simp; (try go_bits)) <;> with_reducible rfl)); (try simp only [Act.put, List.getElem_toArray, List.getElem_cons_zero, List.getElem_cons_succ, List.setIfInBounds_toArray, List.set_cons_zero, List.set_cons_succ]))
      (refine linV_op (v := ?_) rfl rfl (by rfl) (fun w9 hS9 => ?_) ?_; rotate_left; (focus (((try dsimp only at hS9);  go_simp; (try go_bits)) <;> with_reducible rfl)); (try simp only [Act.put, List.getElem_toArray, List.getElem_cons_zero, List.getElem_cons_succ, List.setIfInBounds_toArray, List.set_cons_zero, List.set_cons_succ]))
      (refine linV_op (v := ?_) rfl rfl (by rfl) (fun w9 hS9 => ?_) ?_; rotate_left; (focus (((try dsimp only at hS9); have k9 := cP w9 hS9;  go_simp; (try go_bits)) <;> with_reducible rfl)); (try simp only [Act.put, List.getElem_toArray, List.getElem_cons_zero, List.getElem_cons_succ, List.setIfInBounds_toArray, List.set_cons_zero, List.set_cons_succ]))
      refine linV_call (f := 36) (args := #[.agg p.cs]) rfl rfl (by rfl) rfl rfl (enters_of Tryd.func36 (by kernel_rfl) rfl) (by simp [Act.eval]) (fun w9 hS9 _ hF9 => do7 w9 hS9) (fun v7 hv7 => ?_)
      obtain ⟨a7, c7, rfl⟩ : ∃ a7 c7, v7 = .slice a7 P.length c7 := by
        obtain ⟨w9, h9⟩ := hv7
        rw [HD.out.2.1] at h9
        obtain ⟨a2, c2, e, _⟩ := (h9.1 rfl).lies
        exact ⟨a2, c2, e⟩
      obtain ⟨n7, hn7⟩ : ∃ n7, P.length = n7 := ⟨_, rfl⟩
      rw [hn7]
      (try simp only [Act.put, List.getElem_toArray, List.getElem_cons_zero, List.getElem_cons_succ, List.setIfInBounds_toArray, List.set_cons_zero, List.set_cons_succ])
      refine linV_call (f := 35) (args := #[.slice va m vc, .slice a7 n7 c7]) rfl rfl (by rfl) rfl rfl (enters_of Tryd.func35 (by kernel_rfl) rfl) (by simp [Act.eval]) (fun w9 hS9 _ hF9 => do8 w9 _ hS9 (hF9 (7, .slice a7 n7 c7) (by simp) (by kernel_rfl))) (fun v8 hv8 => ?_)
      obtain ⟨a8, c8, rfl⟩ : ∃ a8 c8, v8 = .slice a8 (O ++ P).length c8 := by
        obtain ⟨w9, h9⟩ := hv8
        rw [HD.out.2.1] at h9
        obtain ⟨a2, c2, e, _⟩ := (h9.2.1 rfl).lies
        exact ⟨a2, c2, e⟩
      obtain ⟨n8, hn8⟩ : ∃ n8, (O ++ P).length = n8 := ⟨_, rfl⟩
      rw [hn8]
      (try simp only [Act.put, List.getElem_toArray, List.getElem_cons_zero, List.getElem_cons_succ, List.setIfInBounds_toArray, List.set_cons_zero, List.set_cons_succ])
      (refine linV_op (v := ?_) rfl rfl (by rfl) (fun w9 hS9 => ?_) ?_; rotate_left; (focus (((try dsimp only at hS9);  go_simp; (try go_bits)) <;> with_reducible rfl)); (try simp only [Act.put, List.getElem_toArray, List.getElem_cons_zero, List.getElem_cons_succ, List.setIfInBounds_toArray, List.set_cons_zero, List.set_cons_succ]))
      (refine linV_op (v := ?_) rfl rfl (by rfl) (fun w9 hS9 => ?_) ?_; rotate_left; (focus (((try dsimp only at hS9); have k9 := cT w9 hS9;  go_simp; (try go_bits)) <;> with_reducible rfl)); (try simp only [Act.put, List.getElem_toArray, List.getElem_cons_zero, List.getElem_cons_succ, List.setIfInBounds_toArray, List.set_cons_zero, List.set_cons_succ]))
      (refine linV_op (v := ?_) rfl rfl (by rfl) (fun w9 hS9 => ?_) ?_; rotate_left; (focus (((try dsimp only at hS9);  go_simp; (try go_bits)) <;> with_reducible rfl)); (try simp only [Act.put, List.getElem_toArray, List.getElem_cons_zero, List.getElem_cons_succ, List.setIfInBounds_toArray, List.set_cons_zero, List.set_cons_succ]))
      (refine linV_op (v := ?_) rfl rfl (by rfl) (fun w9 hS9 => ?_) ?_; rotate_left; (focus (((try dsimp only at hS9);  go_simp; (try go_bits)) <;> with_reducible rfl)); (try simp only [Act.put, List.getElem_toArray, List.getElem_cons_zero, List.getElem_cons_succ, List.setIfInBounds_toArray, List.set_cons_zero, List.set_cons_succ]))
      (refine linV_op (v := ?_) rfl rfl (by rfl) (fun w9 hS9 => ?_) ?_; rotate_left; (focus (((try dsimp only at hS9);  go_simp; (try go_bits)) <;> with_reducible rfl)); (try simp only [Act.put, List.getElem_toArray, List.getElem_cons_zero, List.getElem_cons_succ, List.setIfInBounds_toArray, List.set_cons_zero, List.set_cons_succ]))
      (refine linV_op (v := ?_) rfl rfl (by rfl) (fun w9 hS9 => ?_) ?_; rotate_left; (focus (((try dsimp only at hS9); have k9 := cH w9 hS9;  go_simp; (try go_bits)) <;> with_reducible rfl)); (try simp only [Act.put, List.getElem_toArray, List.getElem_cons_zero, List.getElem_cons_succ, List.setIfInBounds_toArray, List.set_cons_zero, List.set_cons_succ]))
      (refine linV_op (v := ?_) rfl rfl (by rfl) (fun w9 hS9 => ?_) ?_; rotate_left; (focus (((try dsimp only at hS9);  go_simp; (try go_bits)) <;> with_reducible rfl)); (try simp only [Act.put, List.getElem_toArray, List.getElem_cons_zero, List.getElem_cons_succ, List.setIfInBounds_toArray, List.set_cons_zero, List.set_cons_succ]))
      refine linV_do rfl rfl (by rfl) (fun w9 hS9 hQ9 hF9 => ?_) (fun v6 hv6 => ?_)
      · obtain ⟨v, w8, r8, rest⟩ := do16 w9 hS9
        exact ⟨v, w8, by go_simp, rest⟩
      obtain ⟨g6, rfl⟩ : ∃ g6, v6 = .slice (some ⟨g6, 0, none⟩) 1 1 := by
        obtain ⟨w9, h9⟩ := hv6
        rw [HD.out.2.1] at h9
        obtain ⟨g6, e, _⟩ := h9.2.2 rfl
        exact ⟨g6, e⟩
      (try simp only [Act.put, List.getElem_toArray, List.getElem_cons_zero, List.getElem_cons_succ, List.setIfInBounds_toArray, List.set_cons_zero, List.set_cons_succ])
      refine linV_nil (fun w9 hS9 hF9 => ?_)
      have f8 := hF9 (8, .slice a8 n8 c8) (by simp)
      have f6 := hF9 (16, .slice (some ⟨g6, 0, none⟩) 1 1) (by simp)
      rw [HD.out.1] at hS9
      rw [HD.out.2.1] at f8 f6
      have o8 := f8.2.1 rfl
      obtain ⟨g7, e7, l7, _⟩ := f6.2.2 rfl
      injection e7 with e7a
      injection e7a with e7b
      injection e7b with e7c
      subst e7c
      have hlen2 : (O ++ P).length ≤ 1100 := by have := HD.out.2.2.2.2.1; have := HD.out.2.2.2.2.2.1; rw [List.length_append]; omega
      have o8' : OwnB w9 W1.heap.size (.slice a8 n8 c8) (O ++ P) := OwnB.less o8 (by have := hS9.2.1.size; have := X0_size9 hX0; have := HD.out.2.2.2.2.2.2.2.2.2; have := hkb.size; omega)
      obtain ⟨v7, w7, r7, o7, g7r⟩ := bapp_run (c := 1) o8' (m := 1) rfl l7 (by omega) hS9.2.1.size
      obtain ⟨a9, c9, rfl, _⟩ := o7.lies
      have ho8lt := o8'.lt
      have k7 : Below W1.heap.size W1 w7 := hS9.2.1.grown g7r hS9.2.1.size (fun x hx => (ho8lt x (by cases a8 <;> exact hx)).1)
      have hOP : (O ++ P) ++ [hp] = n :: rowsB (L.take (k + 1)) := by
        rw [rowsB_next HD.out.2.2.2.2.2.2.2.2.1, HD.out.2.2.2.1, HD.out.2.2.1, HD.out.2.2.2.2.2.2.2.1]
        simp
      have HE := Lib.hid (And.intro o7 (And.intro k7 hOP))
      obtain ⟨m7, hm7⟩ : ∃ m7, ((O ++ P) ++ [hp]).length = m7 := ⟨_, rfl⟩
      rw [hm7] at r7
      clear f8 f6 o8 o8' l7 g7r ho8lt k7 hOP hS9 hF9 hlen2 hv6 hv7 hv8 do7 do8 do16 cH cT cP hne hS00 hX0
      refine linX_do (v := .slice a9 m7 c9) (w' := w7) rfl rfl (by rfl) (by have r := r7 39; simp [execOp, resolve, invoke, builtin, Act.eval, r, Result.andThen]) trivial ?_
      (try simp only [Act.put, List.getElem_toArray, List.getElem_cons_zero, List.getElem_cons_succ, List.setIfInBounds_toArray, List.set_cons_zero, List.set_cons_succ])
      (refine linX_op (v := ?_) rfl rfl (by rfl) (fun w9 _ => ?_) ?_; rotate_left; (focus (go_simp <;> with_reducible rfl)); (try simp only [Act.put, List.getElem_toArray, List.getElem_cons_zero, List.getElem_cons_succ, List.setIfInBounds_toArray, List.set_cons_zero, List.set_cons_succ]))
      refine linX_nil ?_
      go_wp2_with fail
      go_roundw
      case rel =>
        refine ⟨k + 1, m7, a9, c9, (O ++ P) ++ [hp], by omega, by rw [HWk.out], rfl, hm7, HE.out.2.2, ?_, HE.out.2.1⟩
        rw [← hm7]; exact HE.out.1
      case measure => exact measD hlt HWk.out
    · obtain rfl : k = n := by omega
      have e1 : L.take k = L := List.take_of_length_le (by rw [HB.out.2.1]; omega)
      rw [e1] at hOe
      have e2 : O = tabB L := by rw [hOe, tabB, HB.out.2.1]
      subst e2
      have HQ := Lib.hid (And.intro hown (And.intro hkb hOm))
      clear hown hkb hOe hOm e1
      go_wp2_with fail
      go_ret
      refine ⟨_, rfl, ?_, bel_trans HB.out.1 HQ.out.2.1⟩
      have h9 := HQ.out.1
      exact OwnB.less h9 HB.out.1.size
end Go.Proofs.YtdbdmnahgkkjiaaDoor
namespace Go.Proofs.YtdbdmnahgkkjiaaDoor
open Go.RowKit Go.Shelf
set_option linter.unusedVariables false
set_option maxRecDepth 100000
theorem bown0 (w : World) : (w.alloc (.cells #[] 5)).ownsRow w.heap.size 5 1 (.slice (some ⟨w.heap.size, 0, none⟩) 0 0) 0 [] :=
  ⟨rfl, .inr ⟨_, 0, #[], rfl, Nat.le_refl _, heap_alloc_new w _, Nat.le_refl _, by simp, rfl, rfl⟩⟩
theorem row_cap9 {w : World} {a : Option Addr} {len cap : Nat} {zs : List Int} (h : IsRow .u8 w a len cap zs) : len ≤ cap ∧ cap ≤ 9223372036854775807 ∧ (a = none → cap = 0) := by
  rcases h with ⟨rfl, rfl, rfl, _⟩ | ⟨x, rfl, h1, h2, _⟩
  · exact ⟨Nat.le_refl _, by omega, fun _ => rfl⟩
  · exact ⟨h1, by unfold maxLen at h2; omega, fun h => by cases h⟩
theorem tabB_len {L : List Rt} (h : okT L) : (tabB L).length ≤ 1000 := by
  have h1 := rowsB_len L (fun r hr => (h.2.1 r hr).1)
  have := h.1
  simp [tabB]
  omega
theorem drawn_below9 {w w' : World} (h : Drawn w w') : Below w.heap.size w w' := by
  exact h.below _
attribute [local go_sem ↓] load_b16_rule store_b16_rule load_ad_rule store_ad_rule load_px_rule store_px_rule eq_b16_rule eq_ad_rule eq_px_rule load_rt_rule store_rt_rule build_ad_rule build_px_rule build_b16_rule build_rt_rule load_tab_rule build_tab_rule store_tab_rule tbuild_rule tapp_rule tcopy_rule eq_rt_rule

set_option maxHeartbeats 8000000 in
theorem tbytes_walk (a : Option Addr) (n c : Nat) (A : List Rt) (ra : Option Addr) (len cap : Nat) (zs : List Int) {w : World} (hz : IsRow .u8 w ra len cap zs) (hW : Wid w) (hn : A.length = n) (hT : Tbl w a c A) :
    Calls Tryd.prog 4 #[.agg #[.slice a n c], .slice ra len cap] w fun e w' => e = .returned (.bool true) ∧ Below w.heap.size w w' := by
  have hm : n ≤ 9223372036854775807 := by have := hT.le; have := hT.cap; unfold maxLen at this; omega
  obtain ⟨L, hl, _, hL, hB⟩ := hz.bytes
  obtain ⟨hcap, hcm, hcn⟩ := row_cap9 hz
  clear hz
  subst hl
  obtain ⟨W1, hW1⟩ : ∃ W1, w.alloc (.cells #[.slice a n c] 24) = W1 := ⟨_, rfl⟩
  have hb1 : Below w.heap.size w W1 := by rw [← hW1]; exact (Below.refl _ _).alloc (Nat.le_refl _) _
  have b1 : Blk W1 w.heap.size 24 #[.slice a n c] := by rw [← hW1]; exact Blk.new w _ _
  have LT := tab_t b1
  have CT := tab_c b1
  have HW : ∀ w', Below W1.heap.size W1 w' → Wid w' := fun w' h => (hW.later hb1).later h
  have hTW : ∀ w', Below W1.heap.size W1 w' → Tbl w' a c A := fun w' h => (hT.later hb1).later h
  have HWK := fun w' h => wakes9_any w' (HW w' h)
  have h0 : Below W1.heap.size W1 W1 := Below.refl _ _
  have C0 := CT W1 h0
  have HB := Lib.hid (And.intro hb1 (And.intro hn (And.intro hm (And.intro hTW HW))))
  have LD := bel_drew_all W1
  have LE := bel_alloc_all W1
  have HLL := Lib.hid (And.intro hB (fun w' (h : Below W1.heap.size W1 w') => hL.kept (bel_trans hb1 h)))
  clear hb1 b1 hn hm hTW HW hL hB hW hT
  by_cases h300 : 300 < n
  · have d1 : decide ((300 : Int) < (n : Int)) = true := decide_eq_true (by omega)
    clear h300
    go_enter Tryd.func4, Tryd.ntmps4
    go_wp2_with (first | (go_at_call 6; refine (HWK _ (by assumption)).mono ?_; rintro e w2 ⟨rfl, hb2⟩; have hk2 : Below W1.heap.size W1 w2 := bel_trans (by assumption) hb2; clear hb2))
    all_goals go_ret
    all_goals exact ⟨rfl, bel_trans HB.out.1 (by assumption)⟩
  · have d1 : decide ((300 : Int) < (n : Int)) = false := decide_eq_false (by omega)
    by_cases h3000 : 3000 < L.length
    · have d2 : decide ((3000 : Int) < (L.length : Int)) = true := decide_eq_true (by omega)
      have d2' : decide (3000 < L.length) = true := decide_eq_true h3000
      clear h300
      go_enter Tryd.func4, Tryd.ntmps4
      go_wp2_with (first | (go_at_call 6; refine (HWK _ (by assumption)).mono ?_; rintro e w2 ⟨rfl, hb2⟩; have hk2 : Below W1.heap.size W1 w2 := bel_trans (by assumption) hb2; clear hb2))
      all_goals go_ret
      all_goals exact ⟨rfl, bel_trans HB.out.1 (by assumption)⟩
    · have d2 : decide ((3000 : Int) < (L.length : Int)) = false := decide_eq_false (by omega)
      have d2' : decide (3000 < L.length) = false := decide_eq_false h3000
      go_enter Tryd.func4, Tryd.ntmps4
      go_wp2_with (first | (go_at_call 6; refine (HWK _ (by assumption)).mono ?_; rintro e w2 ⟨rfl, hb2⟩; have hk2 : Below W1.heap.size W1 w2 := bel_trans (by assumption) hb2; clear hb2) | (at_builtin; refine wpList_append_got rfl _ _ rfl _ _ 0 [] rfl (bown0 _) _ cap L rfl (HLL.out.2 _ (LE _ _ (by assumption))) hcn (by omega) (by simp) ?_))
      intro v3 wa3 hown3 hgrow3
      have hba3 : Below W1.heap.size W1 wa3 := ((hk2).alloc (hk2).size _).grown hgrow3 (by have := (hk2).size; simp; omega) (fun j hj => Nat.le_trans (hk2).size ((bown0 w2).lt j hj).1)
      obtain ⟨ra3, cap3, rfl, hL3, hc3, hcm3, _⟩ := own_lies (l := L) (by simpa using hown3)
      clear hown3 hgrow3
      go_wp2_with fail
      refine (tdecode_any ra3 L.length cap3 L wa3 (HB.out.2.2.2.2 _ hba3) HLL.out.1 rfl (by omega) hc3 hcm3 hL3).mono ?_
      rintro e w5 ⟨a5, c5, rfl, t5, hb5⟩
      have h5 : Below W1.heap.size W1 w5 := bel_trans hba3 hb5
      obtain ⟨R, hR⟩ : ∃ R, dtR L = R := ⟨_, rfl⟩
      obtain ⟨E, hE⟩ : ∃ E, dtE L = E := ⟨_, rfl⟩
      rw [hR] at t5 ⊢
      rw [hE]
      obtain ⟨rn, hrn⟩ : ∃ rn, R.length = rn := ⟨_, rfl⟩
      rw [hrn]
      obtain ⟨w6, hww6⟩ : ∃ x, w5.alloc (.cells #[.slice a5 rn c5] 24) = x := ⟨_, rfl⟩
      have Sw6 := st_tab (a2 := a5) (n2 := rn) (c2 := c5) (Blk.new w5 24 #[.slice none 0 0])
      rw [World.setRow_alloc_new, hww6] at Sw6
      have bw6 : Blk w6 w5.heap.size 24 #[.slice a5 rn c5] := by rw [← hww6]; exact Blk.new _ _ _
      have hbw6 : Below w5.heap.size w5 w6 := by rw [← hww6]; exact (Below.refl _ _).alloc (Nat.le_refl _) _
      have h6 : Below W1.heap.size W1 w6 := bel_trans h5 hbw6
      have t6 := t5.later hbw6
      have H6 := Lib.hid (And.intro bw6 (And.intro t6 h6))
      clear hba3 hc3 hcm3 hL3 hb5 t5 hww6 hbw6 bw6 t6 h5
      go_wp2_with (with_reducible refine wpList_alloc_z rfl 24 rfl #[.slice none 0 0] 1 z_tab ?_)
      refine (rdecode_any ra L.length cap L w6 (HB.out.2.2.2.2 _ h6) HLL.out.1 rfl (by omega) hcap (HLL.out.2 _ h6)).mono ?_
      rintro e w7 ⟨a7, c7, rfl, t7, hb7⟩
      rw [hR] at t7 ⊢
      rw [hE, hrn]
      obtain ⟨w8, hww8⟩ : ∃ x, w7.alloc (.cells #[.slice a7 rn c7] 24) = x := ⟨_, rfl⟩
      have Sw8 := st_tab (a2 := a7) (n2 := rn) (c2 := c7) (Blk.new w7 24 #[.slice none 0 0])
      rw [World.setRow_alloc_new, hww8] at Sw8
      have bw8 : Blk w8 w7.heap.size 24 #[.slice a7 rn c7] := by rw [← hww8]; exact Blk.new _ _ _
      have hbw8 : Below w7.heap.size w7 w8 := by rw [← hww8]; exact (Below.refl _ _).alloc (Nat.le_refl _) _
      have h68 : Below w6.heap.size w6 w8 := bel_trans hb7 hbw8
      have h8 : Below W1.heap.size W1 w8 := bel_trans h6 h68
      have L6 := tab_t H6.out.1 w8 h68
      have L8 := tab_t bw8 w8 (Below.refl _ _)
      have hrm : rn ≤ 9223372036854775807 := by have := H6.out.2.1.le; have h9 := H6.out.2.1.cap; unfold maxLen at h9; omega
      have HSA := rsame_any a5 a7 rn c5 rn c7 R R w8 hrn hrm (H6.out.2.1.later h68).at' hrn hrm (t7.later hbw8).at'
      rw [decide_eq_true rfl] at HSA
      have dE : (E != E) = false := by simp
      have H8 := Lib.hid h8
      clear hb7 t7 hww8 bw8 hbw8 h68 h6 hR hE hrn hrm
      go_wp2_with (with_reducible refine wpList_alloc_z rfl 24 rfl #[.slice none 0 0] 1 z_tab ?_)
      refine HSA.mono ?_
      rintro e w9 ⟨rfl, hb9⟩
      have h9 : Below W1.heap.size W1 w9 := bel_trans H8.out hb9
      have HCO := copied_any a n c A w9 HB.out.2.1 (by omega) (HB.out.2.2.2.1 w9 h9)
      clear hb9 HSA
      go_wp2_with fail
      refine HCO.mono ?_
      rintro e w10 ⟨a10, c10, rfl, t10, _, hb10⟩
      have h10 : Below W1.heap.size W1 w10 := bel_trans h9 hb10
      have HEN := tencode_any a10 n c10 A w10 (HB.out.2.2.2.2 _ h10) HB.out.2.1 t10
      clear hb10 HCO h9 t10
      go_wp2_with fail
      refine HEN.mono ?_
      rintro e w11 ⟨v11, rfl, ho11, hn11, hb11⟩
      have h11 : Below W1.heap.size W1 w11 := bel_trans h10 hb11
      have HRI := rright_any a n c A w11 HB.out.2.1 HB.out.2.2.1 (HB.out.2.2.2.1 w11 h11).at'
      clear hb11 HEN h10
      by_cases hok : okT A
      · rw [decide_eq_true hok] at HRI
        rw [eT_ok hok]
        have o11 := ho11 hok
        obtain ⟨av, cv, rfl, _, _, lv, _⟩ := o11.lies
        obtain ⟨bn, hbn⟩ : ∃ bn, (tabB A).length = bn := ⟨_, rfl⟩
        rw [hbn]
        have HG := Lib.hid (And.intro lv (And.intro hbn hok))
        clear ho11 hn11 o11 lv hbn hok
        go_wp2_with fail
        refine HRI.mono ?_
        rintro e w12 ⟨rfl, hb12⟩
        have h12 : Below W1.heap.size W1 w12 := bel_trans h11 hb12
        have HBY := rtbytes_any a n c A w12 HB.out.2.1 (HB.out.2.2.2.1 w12 h12) HG.out.2.2
        go_wp2_with fail
        refine HBY.mono ?_
        rintro e w13 ⟨v13, rfl, o13, hb13⟩
        have h13 : Below W1.heap.size W1 w13 := bel_trans h12 hb13
        obtain ⟨av2, cv2, rfl, _, _, lv2, _⟩ := o13.lies
        rw [HG.out.2.1]
        have HSB := same_any av av2 bn cv bn cv2 (tabB A) (tabB A) w13 HG.out.2.1 HG.out.2.1 (by have := tabB_len HG.out.2.2; have := HG.out.2.1; omega) (by have := tabB_len HG.out.2.2; have := HG.out.2.1; omega) (HG.out.1.kept (bel_trans hb12 hb13)) lv2
        clear hb12 hb13 o13 lv2 HBY HRI
        go_wp2_with fail
        refine HSB.mono ?_
        rintro e w14 ⟨rfl, hd14⟩
        go_wp2_with fail
        go_ret
        exact ⟨by simp, bel_trans HB.out.1 (bel_trans h13 (drawn_below9 hd14))⟩
      · rw [decide_eq_false hok] at HRI
        rw [eT_no hok]
        obtain rfl := hn11 hok
        clear ho11 hn11 hok
        go_wp2_with fail
        refine HRI.mono ?_
        rintro e w12 ⟨rfl, hb12⟩
        have h12 : Below W1.heap.size W1 w12 := bel_trans h11 hb12
        clear hb12 HRI
        go_wp2_with fail
        go_ret
        exact ⟨rfl, bel_trans HB.out.1 h12⟩
end Go.Proofs.YtdbdmnahgkkjiaaDoor
