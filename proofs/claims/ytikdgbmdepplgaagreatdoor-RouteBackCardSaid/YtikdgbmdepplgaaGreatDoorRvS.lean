/-
  What is taken off bytes: candidates, updates, rows of them. Nothing here is a statement of the document.
-/
import Derived.Test.YtikdgbmdepplgaaGreatDoorPfxV
import Derived.Test.YtikdgbmdepplgaaGreatDoorTdE
import Derived.Test.YtikdgbmdepplgaaGreatDoorLinW
import Derived.Test.YtikdgbmdepplgaaGreatDoorRtP
import Derived.Test.YtikdgbmdepplgaaGreatDoorRtV
namespace Go.Proofs.YtikdgbmdepplgaaGreatDoor
open Go.RowKit Go.Shelf
set_option linter.unusedVariables false
set_option maxRecDepth 100000
def g01 (b : Bool) : Nat := if b then 1 else 0
def roT (x : Ro) : List Nat := [x.s.toNat, x.f.toNat, x.h.toNat]
def upT (u : Up) : List Nat := [u.s.toNat, g01 u.g, u.f.toNat, u.h.toNat]
noncomputable def roB (x : Ro) : List Nat := encP x.p ++ roT x
noncomputable def upB (u : Up) : List Nat := encP u.p ++ upT u
noncomputable def rosB (L : List Ro) : List Nat := L.flatMap roB
noncomputable def upsB (L : List Up) : List Nat := L.flatMap upB
noncomputable def ribB (L : List Ro) : List Nat := L.length :: rosB L
noncomputable def batB (L : List Up) : List Nat := L.length :: upsB L
theorem okRo_b {x : Ro} (h : okRo x) : okP x.p ∧ (0 ≤ x.s ∧ x.s ≤ 255) ∧ (0 ≤ x.f ∧ x.f ≤ 255) ∧ (0 ≤ x.h ∧ x.h ≤ 255) := by
  have h1 := h.2.1; have h2 := h.2.2.1; have h3 := h.2.2.2
  exact ⟨h.1, ⟨by omega, by omega⟩, h2, ⟨by omega, by omega⟩⟩
theorem okUp_b {u : Up} (h : okUp u) : okP u.p ∧ (0 ≤ u.s ∧ u.s ≤ 255) ∧ (0 ≤ u.f ∧ u.f ≤ 255) ∧ (0 ≤ u.h ∧ u.h ≤ 255) := by
  unfold okUp at h
  split at h
  · obtain ⟨h1, h2, h3, h4⟩ := h
    exact ⟨h1, ⟨by omega, by omega⟩, ⟨by omega, by omega⟩, ⟨by omega, by omega⟩⟩
  · exact okRo_b h
theorem rosB_next {L : List Ro} {k : Nat} (h : k < L.length) : rosB (L.take (k + 1)) = rosB (L.take k) ++ roB (rog L k) := by
  rw [List.take_add_one, rog_some h]
  simp [rosB]
theorem upsB_next {L : List Up} {k : Nat} (h : k < L.length) : upsB (L.take (k + 1)) = upsB (L.take k) ++ upB (upg L k) := by
  rw [List.take_add_one, upg_some h]
  simp [upsB]
theorem rosB_len : ∀ L : List Ro, (∀ r ∈ L, okP r.p) → (rosB L).length ≤ 21 * L.length
  | [], _ => by simp [rosB]
  | r :: L, h => by
    have h1 := rosB_len L (fun x hx => h x (by simp [hx]))
    have h2 := (encP_b (h r (by simp))).2
    have : rosB (r :: L) = (encP r.p ++ roT r) ++ rosB L := by simp [rosB, roB]
    rw [this]
    simp [roT]
    omega
theorem upsB_len : ∀ L : List Up, (∀ r ∈ L, okP r.p) → (upsB L).length ≤ 22 * L.length
  | [], _ => by simp [upsB]
  | r :: L, h => by
    have h1 := upsB_len L (fun x hx => h x (by simp [hx]))
    have h2 := (encP_b (h r (by simp))).2
    have : upsB (r :: L) = (encP r.p ++ upT r) ++ upsB L := by simp [upsB, upB]
    rw [this]
    simp [upT]
    omega
theorem okRib_p {L : List Ro} (h : okRib L) : ∀ r ∈ L, okP r.p := fun r hr => by
  obtain ⟨j, hj, e⟩ := mem_rog hr
  rw [← e]; exact (h.1 j hj).1
theorem okBat_p {U : List Up} (h : okBat U) : ∀ r ∈ U, okP r.p := fun r hr => by
  obtain ⟨j, hj, e⟩ := List.getElem_of_mem hr
  rw [← upg_get hj] at e
  rw [← e]; exact (okUp_b (h.2.1 j hj)).1
theorem px_box (w : World) (q : Px) : ∃ W, (storeSem 46 (.pointer (some ⟨w.heap.size, 0, none⟩)) (.agg q.cs)).run Tryz.prog (w.alloc (.cells Px.zero.cs 46)) = .ok () W ∧ Blk W w.heap.size 46 q.cs ∧ Below w.heap.size w W := by
  have hb := Blk.new w 46 Px.zero.cs
  have := storeRes_of (P := Tryz.prog) (ty := 46) (o := 0) (vs := q.cs) hb (by rw [Px.size, Px.size]; omega) (s_px q) q.one
  rw [over_all (by rw [Px.size, Px.size])] at this
  exact ⟨_, this, Blk.row hb _, below_setRow ((Below.refl _ _).alloc (Nat.le_refl _) _) (Nat.le_refl _) _⟩
theorem st_px9 {w : World} {g : Nat} {q r : Px} (hb : Blk w g 46 r.cs) : (storeSem 46 (.pointer (some ⟨g, 0, none⟩)) (.agg q.cs)).run Tryz.prog w = .ok () (w.setRow g q.cs) := by
  have := storeRes_of (P := Tryz.prog) (ty := 46) (o := 0) (vs := q.cs) hb (by rw [Px.size, Px.size]; omega) (s_px q) q.one
  rwa [over_all (by rw [Px.size, Px.size])] at this
theorem bbuild3_run (a b c : Nat) (w : World) : (bbuildSem 3 #[(0, .int .u8 (a : Int)), (1, .int .u8 (b : Int)), (2, .int .u8 (c : Int))]).run Tryz.prog w = .ok (.slice (some ⟨w.heap.size, 0, none⟩) 3 3) (w.alloc (.cells #[.int .u8 (a : Int), .int .u8 (b : Int), .int .u8 (c : Int)] 5)) := by kernel_rfl
theorem bbuild4_run (a b c d : Nat) (w : World) : (bbuildSem 4 #[(0, .int .u8 (a : Int)), (1, .int .u8 (b : Int)), (2, .int .u8 (c : Int)), (3, .int .u8 (d : Int))]).run Tryz.prog w = .ok (.slice (some ⟨w.heap.size, 0, none⟩) 4 4) (w.alloc (.cells #[.int .u8 (a : Int), .int .u8 (b : Int), .int .u8 (c : Int), .int .u8 (d : Int)] 5)) := by kernel_rfl
theorem bownL (l : List Nat) (hl : l.length ≤ maxLen) (w : World) : OwnB (w.alloc (.cells (l.map byc).toArray 5)) w.heap.size (.slice (some ⟨w.heap.size, 0, none⟩) l.length l.length) l :=
  ⟨by simp, .inr ⟨_, l.length, (l.map byc).toArray, rfl, Nat.le_refl _, heap_alloc_new w _, Nat.le_refl _, hl, by simp, by simp [List.take_of_length_le]⟩⟩
theorem bown3 (a b c : Nat) (w : World) : OwnB (w.alloc (.cells #[.int .u8 (a : Int), .int .u8 (b : Int), .int .u8 (c : Int)] 5)) w.heap.size (.slice (some ⟨w.heap.size, 0, none⟩) 3 3) [a, b, c] := bownL [a, b, c] (by simp [maxLen]) w
theorem bown4 (a b c d : Nat) (w : World) : OwnB (w.alloc (.cells #[.int .u8 (a : Int), .int .u8 (b : Int), .int .u8 (c : Int), .int .u8 (d : Int)] 5)) w.heap.size (.slice (some ⟨w.heap.size, 0, none⟩) 4 4) [a, b, c, d] := bownL [a, b, c, d] (by simp [maxLen]) w
theorem flag_any (b : Bool) (w : World) : Calls Tryz.prog 25 #[.bool b] w fun e w' => e = .returned (.int .u8 ((g01 b : Nat) : Int)) ∧ w = w' := by
  cases b
  · go_enter Tryz.func25, Tryz.ntmps25
    go_wp2
    go_ret
    exact ⟨rfl, rfl⟩
  · go_enter Tryz.func25, Tryz.ntmps25
    go_wp2
    go_ret
    exact ⟨rfl, rfl⟩
/-- A store that waits for no maker. -/
theorem linW_store {P : Program} {ops : Array Oper} {Q : Exit → Act → World → Prop} {S : World → Prop} {Pre : Nat → World → Prop} {Φ : Nat → Value → World → Prop} {mk eff tail : List Nat} {i : Nat} {o : Oper} {r : List Nat} {F : List (Nat × Value)} {a : Act} (ho : ops[i]? = some o) (he : mk.contains i = true) (hw : Region.wanted o (yielded ops a.tmps) = true)
    (hy : ∀ w, S w → Pre i w → (∀ p ∈ F, reach ops 14 i p.1 = true → Φ p.1 p.2 w) → ∃ w', (execOp a.eval o).run P w = .ok .skip w' ∧ S w' ∧ (∀ d, d ≠ i → Pre d w → Pre d w') ∧ (∀ d u, d ≠ i → Φ d u w → Φ d u w') ∧ Φ i undef w') (h : ∀ v, (∃ w, Φ i v w) → LinW P ops Q S Pre Φ mk eff tail r ((i, v) :: F) (a.put o.dst v)) : LinW P ops Q S Pre Φ mk eff tail (i :: r) F a :=
  ⟨o, ho, fun h9 => (by rw [he] at h9; cases h9), fun _ => ⟨fun w hS hQ hF => by
    obtain ⟨w', h1, h2⟩ := hy w hS hQ hF
    exact ⟨hw, .inl ⟨undef, w', .inr ⟨h1, rfl⟩, trivial, h2⟩⟩, h⟩⟩
/-- What the slice's and the store's operation give. -/
def encF (B rb ms : Nat) (q : Px) (l : List Nat) (sn : Nat) (fl : Int) (i : Nat) (v : Value) (w : World) : Prop :=
  (i = ms → ∃ g, v = .slice (some ⟨g, 0, none⟩) l.length l.length ∧ B ≤ g ∧ OwnB w B v l) ∧ (i = sn → v = undef ∧ Blk w rb 46 q.cs) ∧ (i = 7 → v = .int .u8 fl)
attribute [local go_sem ↓] load_b16_rule store_b16_rule load_ad_rule store_ad_rule load_px_rule store_px_rule load_ro_rule store_ro_rule load_up_rule store_up_rule bbuild_rule
set_option maxHeartbeats 4000000 in
theorem enc1_any (x : Ro) (w : World) (ho : okRo x) :
    Calls Tryz.prog 18 #[.agg x.cs] w fun e w' => ∃ v, e = .returned (.tuple #[.agg x.p.cs, v]) ∧ OwnB w' w.heap.size v (roT x) ∧ Below w.heap.size w w' := by
  obtain ⟨W0, hW0⟩ : ∃ W0, w.alloc (.cells x.cs 50) = W0 := ⟨_, rfl⟩
  obtain ⟨W1, hW1⟩ : ∃ W1, W0.alloc (.cells Px.zero.cs 46) = W1 := ⟨_, rfl⟩
  have sz0 : W0.heap.size = w.heap.size + 1 := by rw [← hW0]; simp
  have sz1 : W1.heap.size = w.heap.size + 2 := by rw [← hW1, World.size_alloc, sz0]
  have hb0 : Below w.heap.size w W0 := by rw [← hW0]; exact (Below.refl _ _).alloc (Nat.le_refl _) _
  have hb01 : Below W0.heap.size W0 W1 := by rw [← hW1]; exact (Below.refl _ _).alloc (Nat.le_refl _) _
  have b1 : Blk W1 w.heap.size 50 x.cs := by
    have h9 := Blk.new w 50 x.cs
    rw [hW0] at h9
    exact h9.later hb01
  have b2 : Blk W1 W0.heap.size 46 Px.zero.cs := by rw [← hW1]; exact Blk.new _ _ _
  obtain ⟨S, hS⟩ : ∃ S : World → Prop, S = fun w' => Blk w' w.heap.size 50 x.cs ∧ (∃ q : Px, Blk w' W0.heap.size 46 q.cs) ∧ Below w.heap.size w w' ∧ W1.heap.size ≤ w'.heap.size := ⟨_, rfl⟩
  have A1 : ∀ w', S w' → (loadSem 46 (.pointer (some ⟨w.heap.size, 0, none⟩))).run Tryz.prog w' = .ok (.agg x.p.cs) w' := fun w' h => by rw [hS] at h; exact ro_p h.1 w' (Below.refl _ _)
  have A2 : ∀ w', S w' → w'.cell? ⟨w.heap.size, 18, none⟩ = some (.int .i64 x.s) := fun w' h => by rw [hS] at h; exact ro_s h.1 w' (Below.refl _ _)
  have A3 : ∀ w', S w' → w'.cell? ⟨w.heap.size, 19, none⟩ = some (.int .i64 x.f) := fun w' h => by rw [hS] at h; exact ro_f h.1 w' (Below.refl _ _)
  have A4 : ∀ w', S w' → w'.cell? ⟨w.heap.size, 20, none⟩ = some (.int .i64 x.h) := fun w' h => by rw [hS] at h; exact ro_h h.1 w' (Below.refl _ _)
  have S1 : S W1 := by rw [hS]; exact ⟨b1, ⟨_, b2⟩, bel_trans hb0 hb01, Nat.le_refl _⟩
  have SD : S W1.drew := by rw [hS]; exact ⟨b1, ⟨_, b2⟩, bel_drew (bel_trans hb0 hb01), Nat.le_refl _⟩
  obtain ⟨hp, hs, hf, hh⟩ := okRo_b ho
  obtain ⟨s', hs'⟩ := Int.eq_ofNat_of_zero_le hs.1
  obtain ⟨f', hf'⟩ := Int.eq_ofNat_of_zero_le hf.1
  obtain ⟨h', hh'⟩ := Int.eq_ofNat_of_zero_le hh.1
  have ws : IntKind.u8.wrap (s' : Int) = (s' : Int) := wrap_b9 (by omega)
  have wf : IntKind.u8.wrap (f' : Int) = (f' : Int) := wrap_b9 (by omega)
  have wh : IntKind.u8.wrap (h' : Int) = (h' : Int) := wrap_b9 (by omega)
  rw [hs'] at A2
  rw [hf'] at A3
  rw [hh'] at A4
  have HE := Lib.hid (show roT x = [s', f', h'] by unfold roT; rw [hs', hf', hh']; simp)
  have BU := bbuild3_run s' f' h'
  have oB := bown3 s' f' h'
  obtain ⟨l, hl⟩ : ∃ l, [s', f', h'] = l := ⟨_, rfl⟩
  have hll : l.length = 3 := by rw [← hl]; rfl
  rw [hl] at HE
  simp only [hl] at oB
  have do11 : ∀ w', S w' → ∃ v w2, (bbuildSem 3 #[(0, .int .u8 (s' : Int)), (1, .int .u8 (f' : Int)), (2, .int .u8 (h' : Int))]).run Tryz.prog w' = .ok v w2 ∧ S w2 ∧ (∀ d, d ≠ 11 → True → True) ∧ (∀ d u, d ≠ 11 → encF W1.heap.size W0.heap.size 11 x.p l 12 0 d u w' → encF W1.heap.size W0.heap.size 11 x.p l 12 0 d u w2) ∧ encF W1.heap.size W0.heap.size 11 x.p l 12 0 11 v w2 := by
    intro w' h
    have z := h
    rw [hS] at z
    have k6 : Below w'.heap.size w' (w'.alloc (.cells #[.int .u8 (s' : Int), .int .u8 (f' : Int), .int .u8 (h' : Int)] 5)) := (Below.refl _ _).alloc (Nat.le_refl _) _
    refine ⟨_, _, BU w', ?_, fun _ _ h => h, fun d u hd hu => ?_, ?_⟩
    · rw [hS]
      exact ⟨z.1.later k6, z.2.1.imp fun q hq => hq.later k6, z.2.2.1.trans (k6.mono z.2.2.1.size), Nat.le_trans z.2.2.2 k6.size⟩
    · exact ⟨fun e => absurd e hd, fun e => ⟨(hu.2.1 e).1, (hu.2.1 e).2.later k6⟩, hu.2.2⟩
    · exact ⟨fun _ => ⟨w'.heap.size, by rw [hll], z.2.2.2, OwnB.less (oB w') z.2.2.2⟩, fun e => by omega, fun e => by omega⟩
  have do12 : ∀ w', S w' → ∃ w2, (storeSem 46 (.pointer (some ⟨W0.heap.size, 0, none⟩)) (.agg x.p.cs)).run Tryz.prog w' = .ok () w2 ∧ S w2 ∧ (∀ d, d ≠ 12 → True → True) ∧ (∀ d u, d ≠ 12 → encF W1.heap.size W0.heap.size 11 x.p l 12 0 d u w' → encF W1.heap.size W0.heap.size 11 x.p l 12 0 d u w2) ∧ encF W1.heap.size W0.heap.size 11 x.p l 12 0 12 undef w2 := by
    intro w' h
    have z := h
    rw [hS] at z
    obtain ⟨q, hq⟩ := z.2.1
    have k6 : Kept [W0.heap.size] w' (w'.setRow W0.heap.size x.p.cs) := (Kept.refl _ _).setRow (.inl (by simp)) _
    refine ⟨_, st_px9 hq, ?_, fun _ _ h => h, fun d u hd hu => ?_, ?_⟩
    · rw [hS]
      exact ⟨z.1.kept k6 (by simp; omega), ⟨_, hq.row _⟩, below_setRow z.2.2.1 (by omega) _, Nat.le_trans z.2.2.2 k6.size⟩
    · refine ⟨fun e => ?_, fun e => absurd e hd, hu.2.2⟩
      obtain ⟨g, e1, e2, e3⟩ := hu.1 e
      refine ⟨g, e1, e2, OwnB.same9 e3 fun g' hg' => ?_⟩
      rw [e1] at hg'
      injection hg' with e9
      have e8 : g' = g := e9.symm
      rw [e8]
      refine k6.block _ ?_ (by simp; omega)
      rcases e3.2 with ⟨h8, _⟩ | ⟨g2, _, _, h8, _, h7, _⟩
      · rw [e1] at h8; injection h8 with h8; cases h8
      · rw [e1] at h8; injection h8 with h8; injection h8 with h8; injection h8 with h8; rw [h8]; exact (Array.getElem?_eq_some_iff.1 h7).1
    · exact ⟨fun e => by omega, fun _ => ⟨rfl, hq.row _⟩, fun e => by omega⟩
  have hne : ∀ i, [11, 12].contains i = true → ∃ v w, encF W1.heap.size W0.heap.size 11 x.p l 12 0 i v w := fun i hi => by
    have hi2 : i = 11 ∨ i = 12 := by simpa using hi
    rcases hi2 with rfl | rfl
    · obtain ⟨v, w9, _, _, _, _, h9⟩ := do11 W1 S1; exact ⟨v, w9, h9⟩
    · obtain ⟨w9, _, _, _, _, h9⟩ := do12 W1 S1; exact ⟨_, w9, h9⟩
  have HSZ := Lib.hid (And.intro hS (And.intro hll sz1))
  clear b1 b2 hb0 hb01 hs hf hh hs' hf' hh' hp ho sz0 sz1 hl hll oB BU
  go_enter Tryz.func18, Tryz.ntmps18
  go_upto_region 1 with (with_reducible refine wpList_alloc_z rfl 46 rfl Px.zero.cs 18 z_px ?_)
  refine wp_region_linW S (fun _ _ => True) (encF W1.heap.size W0.heap.size 11 x.p l 12 0) [11, 12] [] [0, 1, 2, 3, 4, 5, 6, 7, 8, 9, 10, 11, 12] [13] (by kernel_rfl) (by kernel_rfl) hne SD (fun _ => trivial) ?_
  (refine linW_op (v := ?_) rfl rfl (by rfl) (fun w9 hS9 => ?_) ?_; rotate_left; (focus (((try dsimp only at hS9); have k1 := A1 w9 hS9; have k2 := A2 w9 hS9; have k3 := A3 w9 hS9; have k4 := A4 w9 hS9; go_simp; (try go_bits)) <;> with_reducible rfl)); (try simp only [Act.put, List.getElem_toArray, List.getElem_cons_zero, List.getElem_cons_succ, List.setIfInBounds_toArray, List.set_cons_zero, List.set_cons_succ]))
  (refine linW_op (v := ?_) rfl rfl (by rfl) (fun w9 hS9 => ?_) ?_; rotate_left; (focus (((try dsimp only at hS9); have k1 := A1 w9 hS9; have k2 := A2 w9 hS9; have k3 := A3 w9 hS9; have k4 := A4 w9 hS9; go_simp; (try go_bits)) <;> with_reducible rfl)); (try simp only [Act.put, List.getElem_toArray, List.getElem_cons_zero, List.getElem_cons_succ, List.setIfInBounds_toArray, List.set_cons_zero, List.set_cons_succ]))
  (refine linW_op (v := ?_) rfl rfl (by rfl) (fun w9 hS9 => ?_) ?_; rotate_left; (focus (((try dsimp only at hS9); have k1 := A1 w9 hS9; have k2 := A2 w9 hS9; have k3 := A3 w9 hS9; have k4 := A4 w9 hS9; go_simp; (try go_bits)) <;> with_reducible rfl)); (try simp only [Act.put, List.getElem_toArray, List.getElem_cons_zero, List.getElem_cons_succ, List.setIfInBounds_toArray, List.set_cons_zero, List.set_cons_succ]))
  (refine linW_op (v := ?_) rfl rfl (by rfl) (fun w9 hS9 => ?_) ?_; rotate_left; (focus (((try dsimp only at hS9); have k1 := A1 w9 hS9; have k2 := A2 w9 hS9; have k3 := A3 w9 hS9; have k4 := A4 w9 hS9; go_simp; (try go_bits)) <;> with_reducible rfl)); (try simp only [Act.put, List.getElem_toArray, List.getElem_cons_zero, List.getElem_cons_succ, List.setIfInBounds_toArray, List.set_cons_zero, List.set_cons_succ]))
  (refine linW_op (v := ?_) rfl rfl (by rfl) (fun w9 hS9 => ?_) ?_; rotate_left; (focus (((try dsimp only at hS9); have k1 := A1 w9 hS9; have k2 := A2 w9 hS9; have k3 := A3 w9 hS9; have k4 := A4 w9 hS9; go_simp; (try go_bits)) <;> with_reducible rfl)); (try simp only [Act.put, List.getElem_toArray, List.getElem_cons_zero, List.getElem_cons_succ, List.setIfInBounds_toArray, List.set_cons_zero, List.set_cons_succ]))
  (refine linW_op (v := ?_) rfl rfl (by rfl) (fun w9 hS9 => ?_) ?_; rotate_left; (focus (((try dsimp only at hS9); have k1 := A1 w9 hS9; have k2 := A2 w9 hS9; have k3 := A3 w9 hS9; have k4 := A4 w9 hS9; go_simp; (try go_bits)) <;> with_reducible rfl)); (try simp only [Act.put, List.getElem_toArray, List.getElem_cons_zero, List.getElem_cons_succ, List.setIfInBounds_toArray, List.set_cons_zero, List.set_cons_succ]))
  (refine linW_op (v := ?_) rfl rfl (by rfl) (fun w9 hS9 => ?_) ?_; rotate_left; (focus (((try dsimp only at hS9); have k1 := A1 w9 hS9; have k2 := A2 w9 hS9; have k3 := A3 w9 hS9; have k4 := A4 w9 hS9; go_simp; (try go_bits)) <;> with_reducible rfl)); (try simp only [Act.put, List.getElem_toArray, List.getElem_cons_zero, List.getElem_cons_succ, List.setIfInBounds_toArray, List.set_cons_zero, List.set_cons_succ]))
  (refine linW_op (v := ?_) rfl rfl (by rfl) (fun w9 hS9 => ?_) ?_; rotate_left; (focus (((try dsimp only at hS9); have k1 := A1 w9 hS9; have k2 := A2 w9 hS9; have k3 := A3 w9 hS9; have k4 := A4 w9 hS9; go_simp; (try go_bits)) <;> with_reducible rfl)); (try simp only [Act.put, List.getElem_toArray, List.getElem_cons_zero, List.getElem_cons_succ, List.setIfInBounds_toArray, List.set_cons_zero, List.set_cons_succ]))
  (refine linW_op (v := ?_) rfl rfl (by rfl) (fun w9 hS9 => ?_) ?_; rotate_left; (focus (((try dsimp only at hS9); have k1 := A1 w9 hS9; have k2 := A2 w9 hS9; have k3 := A3 w9 hS9; have k4 := A4 w9 hS9; go_simp; (try go_bits)) <;> with_reducible rfl)); (try simp only [Act.put, List.getElem_toArray, List.getElem_cons_zero, List.getElem_cons_succ, List.setIfInBounds_toArray, List.set_cons_zero, List.set_cons_succ]))
  (refine linW_op (v := ?_) rfl rfl (by rfl) (fun w9 hS9 => ?_) ?_; rotate_left; (focus (((try dsimp only at hS9); have k1 := A1 w9 hS9; have k2 := A2 w9 hS9; have k3 := A3 w9 hS9; have k4 := A4 w9 hS9; go_simp; (try go_bits)) <;> with_reducible rfl)); (try simp only [Act.put, List.getElem_toArray, List.getElem_cons_zero, List.getElem_cons_succ, List.setIfInBounds_toArray, List.set_cons_zero, List.set_cons_succ]))
  (refine linW_op (v := ?_) rfl rfl (by rfl) (fun w9 hS9 => ?_) ?_; rotate_left; (focus (((try dsimp only at hS9); have k1 := A1 w9 hS9; have k2 := A2 w9 hS9; have k3 := A3 w9 hS9; have k4 := A4 w9 hS9; go_simp; (try go_bits)) <;> with_reducible rfl)); (try simp only [Act.put, List.getElem_toArray, List.getElem_cons_zero, List.getElem_cons_succ, List.setIfInBounds_toArray, List.set_cons_zero, List.set_cons_succ]))
  refine linW_do rfl rfl (by rfl) (fun w9 hS9 _ _ => ?_) (fun v1 hv1 => ?_)
  · obtain ⟨v, w8, r8, rest⟩ := do11 w9 hS9
    exact ⟨v, w8, by go_simp, rest⟩
  obtain ⟨g1, rfl⟩ : ∃ g1, v1 = .slice (some ⟨g1, 0, none⟩) 3 3 := by
    obtain ⟨_, h⟩ := hv1
    obtain ⟨g, h1, _⟩ := h.1 rfl
    rw [HSZ.out.2.1] at h1
    exact ⟨g, h1⟩
  (try simp only [Act.put, List.getElem_toArray, List.getElem_cons_zero, List.getElem_cons_succ, List.setIfInBounds_toArray, List.set_cons_zero, List.set_cons_succ])
  refine linW_store rfl rfl (by rfl) (fun w9 hS9 _ _ => ?_) (fun v2 hv2 => ?_)
  · obtain ⟨w8, r8, rest⟩ := do12 w9 hS9
    exact ⟨w8, by go_simp, rest⟩
  obtain rfl : v2 = undef := by obtain ⟨_, h⟩ := hv2; exact (h.2.1 rfl).1
  (try simp only [Act.put, List.getElem_toArray, List.getElem_cons_zero, List.getElem_cons_succ, List.setIfInBounds_toArray, List.set_cons_zero, List.set_cons_succ])
  refine linW_nil (fun w9 hS9 hF9 => ?_)
  have f1 := (hF9 (11, .slice (some ⟨g1, 0, none⟩) 3 3) (by simp)).1 rfl
  have f2 := (hF9 (12, undef) (by simp)).2.1 rfl
  obtain ⟨g, hgx, _, hO⟩ := f1
  clear hgx
  have S9 := hS9
  rw [HSZ.out.1] at S9
  have HF := Lib.hid (And.intro hO (And.intro f2.2 S9.2.2.1))
  clear f2 hO S9 hF9 hv1 hv2 do11 do12 hne
  (refine linX_op (v := ?_) rfl rfl (by rfl) (fun w9 _ => ?_) ?_; rotate_left; (focus (go_simp <;> with_reducible rfl)); (try simp only [Act.put, List.getElem_toArray, List.getElem_cons_zero, List.getElem_cons_succ, List.setIfInBounds_toArray, List.set_cons_zero, List.set_cons_succ]))
  refine linX_nil ?_
  go_wp2_with fail
  refine bodyPost_ret (results_blk rfl _ _ W0.heap.size _ _ rfl HF.out.2.1 Tryz.underlying46 rfl (s_px _)) rfl ?_
  exact ⟨_, rfl, by rw [HE.out]; exact OwnB.less (B := W1.heap.size) HF.out.1 (by have := HSZ.out.2.2; omega), HF.out.2.2⟩
set_option maxHeartbeats 4000000 in
theorem encb1_any (x : Up) (w : World) (ho : okUp x) :
    Calls Tryz.prog 24 #[.agg x.cs] w fun e w' => ∃ v, e = .returned (.tuple #[.agg x.p.cs, v]) ∧ OwnB w' w.heap.size v (upT x) ∧ Below w.heap.size w w' := by
  obtain ⟨W0, hW0⟩ : ∃ W0, w.alloc (.cells x.cs 48) = W0 := ⟨_, rfl⟩
  obtain ⟨W1, hW1⟩ : ∃ W1, W0.alloc (.cells Px.zero.cs 46) = W1 := ⟨_, rfl⟩
  have sz0 : W0.heap.size = w.heap.size + 1 := by rw [← hW0]; simp
  have sz1 : W1.heap.size = w.heap.size + 2 := by rw [← hW1, World.size_alloc, sz0]
  have hb0 : Below w.heap.size w W0 := by rw [← hW0]; exact (Below.refl _ _).alloc (Nat.le_refl _) _
  have hb01 : Below W0.heap.size W0 W1 := by rw [← hW1]; exact (Below.refl _ _).alloc (Nat.le_refl _) _
  have b1 : Blk W1 w.heap.size 48 x.cs := by
    have h9 := Blk.new w 48 x.cs
    rw [hW0] at h9
    exact h9.later hb01
  have b2 : Blk W1 W0.heap.size 46 Px.zero.cs := by rw [← hW1]; exact Blk.new _ _ _
  obtain ⟨S, hS⟩ : ∃ S : World → Prop, S = fun w' => Blk w' w.heap.size 48 x.cs ∧ (∃ q : Px, Blk w' W0.heap.size 46 q.cs) ∧ Below w.heap.size w w' ∧ W1.heap.size ≤ w'.heap.size := ⟨_, rfl⟩
  have A1 : ∀ w', S w' → (loadSem 46 (.pointer (some ⟨w.heap.size, 0, none⟩))).run Tryz.prog w' = .ok (.agg x.p.cs) w' := fun w' h => by rw [hS] at h; exact up_p h.1 w' (Below.refl _ _)
  have A2 : ∀ w', S w' → w'.cell? ⟨w.heap.size, 18, none⟩ = some (.int .i64 x.s) := fun w' h => by rw [hS] at h; exact up_s h.1 w' (Below.refl _ _)
  have A3 : ∀ w', S w' → w'.cell? ⟨w.heap.size, 20, none⟩ = some (.int .i64 x.f) := fun w' h => by rw [hS] at h; exact up_f h.1 w' (Below.refl _ _)
  have A4 : ∀ w', S w' → w'.cell? ⟨w.heap.size, 21, none⟩ = some (.int .i64 x.h) := fun w' h => by rw [hS] at h; exact up_h h.1 w' (Below.refl _ _)
  have S1 : S W1 := by rw [hS]; exact ⟨b1, ⟨_, b2⟩, bel_trans hb0 hb01, Nat.le_refl _⟩
  have SD : S W1.drew := by rw [hS]; exact ⟨b1, ⟨_, b2⟩, bel_drew (bel_trans hb0 hb01), Nat.le_refl _⟩
  obtain ⟨hp, hs, hf, hh⟩ := okUp_b ho
  obtain ⟨s', hs'⟩ := Int.eq_ofNat_of_zero_le hs.1
  obtain ⟨f', hf'⟩ := Int.eq_ofNat_of_zero_le hf.1
  obtain ⟨h', hh'⟩ := Int.eq_ofNat_of_zero_le hh.1
  have ws : IntKind.u8.wrap (s' : Int) = (s' : Int) := wrap_b9 (by omega)
  have wf : IntKind.u8.wrap (f' : Int) = (f' : Int) := wrap_b9 (by omega)
  have wh : IntKind.u8.wrap (h' : Int) = (h' : Int) := wrap_b9 (by omega)
  rw [hs'] at A2
  rw [hf'] at A3
  rw [hh'] at A4
  have A5 : ∀ w', S w' → w'.cell? ⟨w.heap.size, 19, none⟩ = some (.bool x.g) := fun w' h => by rw [hS] at h; exact up_g h.1 w' (Below.refl _ _)
  have HFL := fun w' => flag_any x.g w'
  generalize hg : x.g = gg at A5 HFL
  obtain ⟨g', hg'⟩ : ∃ g', g01 gg = g' := ⟨_, rfl⟩
  rw [hg'] at HFL
  have HE := Lib.hid (show upT x = [s', g', f', h'] by unfold upT; rw [hs', hf', hh', hg, hg']; simp)
  clear hg hg'
  have BU := bbuild4_run s' g' f' h'
  have oB := bown4 s' g' f' h'
  obtain ⟨l, hl⟩ : ∃ l, [s', g', f', h'] = l := ⟨_, rfl⟩
  have hll : l.length = 4 := by rw [← hl]; rfl
  rw [hl] at HE
  simp only [hl] at oB
  have do11 : ∀ w', S w' → ∃ v w2, (bbuildSem 4 #[(0, .int .u8 (s' : Int)), (1, .int .u8 (g' : Int)), (2, .int .u8 (f' : Int)), (3, .int .u8 (h' : Int))]).run Tryz.prog w' = .ok v w2 ∧ S w2 ∧ (∀ d, d ≠ 14 → True → True) ∧ (∀ d u, d ≠ 14 → encF W1.heap.size W0.heap.size 14 x.p l 15 (g' : Int) d u w' → encF W1.heap.size W0.heap.size 14 x.p l 15 (g' : Int) d u w2) ∧ encF W1.heap.size W0.heap.size 14 x.p l 15 (g' : Int) 14 v w2 := by
    intro w' h
    have z := h
    rw [hS] at z
    have k6 : Below w'.heap.size w' (w'.alloc (.cells #[.int .u8 (s' : Int), .int .u8 (g' : Int), .int .u8 (f' : Int), .int .u8 (h' : Int)] 5)) := (Below.refl _ _).alloc (Nat.le_refl _) _
    refine ⟨_, _, BU w', ?_, fun _ _ h => h, fun d u hd hu => ?_, ?_⟩
    · rw [hS]
      exact ⟨z.1.later k6, z.2.1.imp fun q hq => hq.later k6, z.2.2.1.trans (k6.mono z.2.2.1.size), Nat.le_trans z.2.2.2 k6.size⟩
    · exact ⟨fun e => absurd e hd, fun e => ⟨(hu.2.1 e).1, (hu.2.1 e).2.later k6⟩, hu.2.2⟩
    · exact ⟨fun _ => ⟨w'.heap.size, by rw [hll], z.2.2.2, OwnB.less (oB w') z.2.2.2⟩, fun e => by omega, fun e => by omega⟩
  have do12 : ∀ w', S w' → ∃ w2, (storeSem 46 (.pointer (some ⟨W0.heap.size, 0, none⟩)) (.agg x.p.cs)).run Tryz.prog w' = .ok () w2 ∧ S w2 ∧ (∀ d, d ≠ 15 → True → True) ∧ (∀ d u, d ≠ 15 → encF W1.heap.size W0.heap.size 14 x.p l 15 (g' : Int) d u w' → encF W1.heap.size W0.heap.size 14 x.p l 15 (g' : Int) d u w2) ∧ encF W1.heap.size W0.heap.size 14 x.p l 15 (g' : Int) 15 undef w2 := by
    intro w' h
    have z := h
    rw [hS] at z
    obtain ⟨q, hq⟩ := z.2.1
    have k6 : Kept [W0.heap.size] w' (w'.setRow W0.heap.size x.p.cs) := (Kept.refl _ _).setRow (.inl (by simp)) _
    refine ⟨_, st_px9 hq, ?_, fun _ _ h => h, fun d u hd hu => ?_, ?_⟩
    · rw [hS]
      exact ⟨z.1.kept k6 (by simp; omega), ⟨_, hq.row _⟩, below_setRow z.2.2.1 (by omega) _, Nat.le_trans z.2.2.2 k6.size⟩
    · refine ⟨fun e => ?_, fun e => absurd e hd, hu.2.2⟩
      obtain ⟨g, e1, e2, e3⟩ := hu.1 e
      refine ⟨g, e1, e2, OwnB.same9 e3 fun g' hg' => ?_⟩
      rw [e1] at hg'
      injection hg' with e9
      have e8 : g' = g := e9.symm
      rw [e8]
      refine k6.block _ ?_ (by simp; omega)
      rcases e3.2 with ⟨h8, _⟩ | ⟨g2, _, _, h8, _, h7, _⟩
      · rw [e1] at h8; injection h8 with h8; cases h8
      · rw [e1] at h8; injection h8 with h8; injection h8 with h8; injection h8 with h8; rw [h8]; exact (Array.getElem?_eq_some_iff.1 h7).1
    · exact ⟨fun e => by omega, fun _ => ⟨rfl, hq.row _⟩, fun e => by omega⟩
  have hne : ∀ i, [7, 14, 15].contains i = true → ∃ v w, encF W1.heap.size W0.heap.size 14 x.p l 15 (g' : Int) i v w := fun i hi => by
    have hi2 : i = 7 ∨ i = 14 ∨ i = 15 := by simpa using hi
    rcases hi2 with rfl | rfl | rfl
    · exact ⟨_, W1, fun e => (by omega), fun e => (by omega), fun _ => rfl⟩
    · obtain ⟨v, w9, _, _, _, _, h9⟩ := do11 W1 S1; exact ⟨v, w9, h9⟩
    · obtain ⟨w9, _, _, _, _, h9⟩ := do12 W1 S1; exact ⟨_, w9, h9⟩
  have HSZ := Lib.hid (And.intro hS (And.intro hll sz1))
  clear b1 b2 hb0 hb01 hs hf hh hs' hf' hh' hp ho sz0 sz1 hl hll oB BU
  go_enter Tryz.func24, Tryz.ntmps24
  go_upto_region 1 with (with_reducible refine wpList_alloc_z rfl 46 rfl Px.zero.cs 18 z_px ?_)
  refine wp_region_linW S (fun _ _ => True) (encF W1.heap.size W0.heap.size 14 x.p l 15 (g' : Int)) [7, 14, 15] [] [0, 1, 2, 3, 4, 5, 6, 7, 8, 9, 10, 11, 12, 13, 14, 15] [16] (by kernel_rfl) (by kernel_rfl) hne SD (fun _ => trivial) ?_
  (refine linW_op (v := ?_) rfl rfl (by rfl) (fun w9 hS9 => ?_) ?_; rotate_left; (focus (((try dsimp only at hS9); have k1 := A1 w9 hS9; have k2 := A2 w9 hS9; have k3 := A3 w9 hS9; have k4 := A4 w9 hS9; have k5 := A5 w9 hS9; go_simp; (try go_bits)) <;> with_reducible rfl)); (try simp only [Act.put, List.getElem_toArray, List.getElem_cons_zero, List.getElem_cons_succ, List.setIfInBounds_toArray, List.set_cons_zero, List.set_cons_succ]))
  (refine linW_op (v := ?_) rfl rfl (by rfl) (fun w9 hS9 => ?_) ?_; rotate_left; (focus (((try dsimp only at hS9); have k1 := A1 w9 hS9; have k2 := A2 w9 hS9; have k3 := A3 w9 hS9; have k4 := A4 w9 hS9; have k5 := A5 w9 hS9; go_simp; (try go_bits)) <;> with_reducible rfl)); (try simp only [Act.put, List.getElem_toArray, List.getElem_cons_zero, List.getElem_cons_succ, List.setIfInBounds_toArray, List.set_cons_zero, List.set_cons_succ]))
  (refine linW_op (v := ?_) rfl rfl (by rfl) (fun w9 hS9 => ?_) ?_; rotate_left; (focus (((try dsimp only at hS9); have k1 := A1 w9 hS9; have k2 := A2 w9 hS9; have k3 := A3 w9 hS9; have k4 := A4 w9 hS9; have k5 := A5 w9 hS9; go_simp; (try go_bits)) <;> with_reducible rfl)); (try simp only [Act.put, List.getElem_toArray, List.getElem_cons_zero, List.getElem_cons_succ, List.setIfInBounds_toArray, List.set_cons_zero, List.set_cons_succ]))
  (refine linW_op (v := ?_) rfl rfl (by rfl) (fun w9 hS9 => ?_) ?_; rotate_left; (focus (((try dsimp only at hS9); have k1 := A1 w9 hS9; have k2 := A2 w9 hS9; have k3 := A3 w9 hS9; have k4 := A4 w9 hS9; have k5 := A5 w9 hS9; go_simp; (try go_bits)) <;> with_reducible rfl)); (try simp only [Act.put, List.getElem_toArray, List.getElem_cons_zero, List.getElem_cons_succ, List.setIfInBounds_toArray, List.set_cons_zero, List.set_cons_succ]))
  (refine linW_op (v := ?_) rfl rfl (by rfl) (fun w9 hS9 => ?_) ?_; rotate_left; (focus (((try dsimp only at hS9); have k1 := A1 w9 hS9; have k2 := A2 w9 hS9; have k3 := A3 w9 hS9; have k4 := A4 w9 hS9; have k5 := A5 w9 hS9; go_simp; (try go_bits)) <;> with_reducible rfl)); (try simp only [Act.put, List.getElem_toArray, List.getElem_cons_zero, List.getElem_cons_succ, List.setIfInBounds_toArray, List.set_cons_zero, List.set_cons_succ]))
  (refine linW_op (v := ?_) rfl rfl (by rfl) (fun w9 hS9 => ?_) ?_; rotate_left; (focus (((try dsimp only at hS9); have k1 := A1 w9 hS9; have k2 := A2 w9 hS9; have k3 := A3 w9 hS9; have k4 := A4 w9 hS9; have k5 := A5 w9 hS9; go_simp; (try go_bits)) <;> with_reducible rfl)); (try simp only [Act.put, List.getElem_toArray, List.getElem_cons_zero, List.getElem_cons_succ, List.setIfInBounds_toArray, List.set_cons_zero, List.set_cons_succ]))
  (refine linW_op (v := ?_) rfl rfl (by rfl) (fun w9 hS9 => ?_) ?_; rotate_left; (focus (((try dsimp only at hS9); have k1 := A1 w9 hS9; have k2 := A2 w9 hS9; have k3 := A3 w9 hS9; have k4 := A4 w9 hS9; have k5 := A5 w9 hS9; go_simp; (try go_bits)) <;> with_reducible rfl)); (try simp only [Act.put, List.getElem_toArray, List.getElem_cons_zero, List.getElem_cons_succ, List.setIfInBounds_toArray, List.set_cons_zero, List.set_cons_succ]))
  refine linW_call (f := 25) (args := #[.bool gg]) rfl rfl (by rfl) rfl rfl (enters_of Tryz.func25 (by kernel_rfl) rfl) (by simp [Act.eval]) (fun w9 hS9 _ _ => ?_) (fun v7 hv7 => ?_)
  · refine (HFL w9).mono ?_
    rintro e w8 ⟨rfl, rfl⟩
    exact ⟨_, rfl, hS9, fun _ _ h => h, fun _ _ _ h => h, fun e => (by omega), fun e => (by omega), fun _ => rfl⟩
  obtain rfl : v7 = .int .u8 (g' : Int) := by obtain ⟨_, h⟩ := hv7; exact h.2.2 rfl
  (try simp only [Act.put, List.getElem_toArray, List.getElem_cons_zero, List.getElem_cons_succ, List.setIfInBounds_toArray, List.set_cons_zero, List.set_cons_succ])
  (refine linW_op (v := ?_) rfl rfl (by rfl) (fun w9 hS9 => ?_) ?_; rotate_left; (focus (((try dsimp only at hS9); have k1 := A1 w9 hS9; have k2 := A2 w9 hS9; have k3 := A3 w9 hS9; have k4 := A4 w9 hS9; have k5 := A5 w9 hS9; go_simp; (try go_bits)) <;> with_reducible rfl)); (try simp only [Act.put, List.getElem_toArray, List.getElem_cons_zero, List.getElem_cons_succ, List.setIfInBounds_toArray, List.set_cons_zero, List.set_cons_succ]))
  (refine linW_op (v := ?_) rfl rfl (by rfl) (fun w9 hS9 => ?_) ?_; rotate_left; (focus (((try dsimp only at hS9); have k1 := A1 w9 hS9; have k2 := A2 w9 hS9; have k3 := A3 w9 hS9; have k4 := A4 w9 hS9; have k5 := A5 w9 hS9; go_simp; (try go_bits)) <;> with_reducible rfl)); (try simp only [Act.put, List.getElem_toArray, List.getElem_cons_zero, List.getElem_cons_succ, List.setIfInBounds_toArray, List.set_cons_zero, List.set_cons_succ]))
  (refine linW_op (v := ?_) rfl rfl (by rfl) (fun w9 hS9 => ?_) ?_; rotate_left; (focus (((try dsimp only at hS9); have k1 := A1 w9 hS9; have k2 := A2 w9 hS9; have k3 := A3 w9 hS9; have k4 := A4 w9 hS9; have k5 := A5 w9 hS9; go_simp; (try go_bits)) <;> with_reducible rfl)); (try simp only [Act.put, List.getElem_toArray, List.getElem_cons_zero, List.getElem_cons_succ, List.setIfInBounds_toArray, List.set_cons_zero, List.set_cons_succ]))
  (refine linW_op (v := ?_) rfl rfl (by rfl) (fun w9 hS9 => ?_) ?_; rotate_left; (focus (((try dsimp only at hS9); have k1 := A1 w9 hS9; have k2 := A2 w9 hS9; have k3 := A3 w9 hS9; have k4 := A4 w9 hS9; have k5 := A5 w9 hS9; go_simp; (try go_bits)) <;> with_reducible rfl)); (try simp only [Act.put, List.getElem_toArray, List.getElem_cons_zero, List.getElem_cons_succ, List.setIfInBounds_toArray, List.set_cons_zero, List.set_cons_succ]))
  (refine linW_op (v := ?_) rfl rfl (by rfl) (fun w9 hS9 => ?_) ?_; rotate_left; (focus (((try dsimp only at hS9); have k1 := A1 w9 hS9; have k2 := A2 w9 hS9; have k3 := A3 w9 hS9; have k4 := A4 w9 hS9; have k5 := A5 w9 hS9; go_simp; (try go_bits)) <;> with_reducible rfl)); (try simp only [Act.put, List.getElem_toArray, List.getElem_cons_zero, List.getElem_cons_succ, List.setIfInBounds_toArray, List.set_cons_zero, List.set_cons_succ]))
  (refine linW_op (v := ?_) rfl rfl (by rfl) (fun w9 hS9 => ?_) ?_; rotate_left; (focus (((try dsimp only at hS9); have k1 := A1 w9 hS9; have k2 := A2 w9 hS9; have k3 := A3 w9 hS9; have k4 := A4 w9 hS9; have k5 := A5 w9 hS9; go_simp; (try go_bits)) <;> with_reducible rfl)); (try simp only [Act.put, List.getElem_toArray, List.getElem_cons_zero, List.getElem_cons_succ, List.setIfInBounds_toArray, List.set_cons_zero, List.set_cons_succ]))
  refine linW_do rfl rfl (by rfl) (fun w9 hS9 _ _ => ?_) (fun v1 hv1 => ?_)
  · obtain ⟨v, w8, r8, rest⟩ := do11 w9 hS9
    exact ⟨v, w8, by go_simp, rest⟩
  obtain ⟨g1, rfl⟩ : ∃ g1, v1 = .slice (some ⟨g1, 0, none⟩) 4 4 := by
    obtain ⟨_, h⟩ := hv1
    obtain ⟨g, h1, _⟩ := h.1 rfl
    rw [HSZ.out.2.1] at h1
    exact ⟨g, h1⟩
  (try simp only [Act.put, List.getElem_toArray, List.getElem_cons_zero, List.getElem_cons_succ, List.setIfInBounds_toArray, List.set_cons_zero, List.set_cons_succ])
  refine linW_store rfl rfl (by rfl) (fun w9 hS9 _ _ => ?_) (fun v2 hv2 => ?_)
  · obtain ⟨w8, r8, rest⟩ := do12 w9 hS9
    exact ⟨w8, by go_simp, rest⟩
  obtain rfl : v2 = undef := by obtain ⟨_, h⟩ := hv2; exact (h.2.1 rfl).1
  (try simp only [Act.put, List.getElem_toArray, List.getElem_cons_zero, List.getElem_cons_succ, List.setIfInBounds_toArray, List.set_cons_zero, List.set_cons_succ])
  refine linW_nil (fun w9 hS9 hF9 => ?_)
  have f1 := (hF9 (14, .slice (some ⟨g1, 0, none⟩) 4 4) (by simp)).1 rfl
  have f2 := (hF9 (15, undef) (by simp)).2.1 rfl
  obtain ⟨g, hgx, _, hO⟩ := f1
  clear hgx
  have S9 := hS9
  rw [HSZ.out.1] at S9
  have HF := Lib.hid (And.intro hO (And.intro f2.2 S9.2.2.1))
  clear f2 hO S9 hF9 hv1 hv2 do11 do12 hne
  (refine linX_op (v := ?_) rfl rfl (by rfl) (fun w9 _ => ?_) ?_; rotate_left; (focus (go_simp <;> with_reducible rfl)); (try simp only [Act.put, List.getElem_toArray, List.getElem_cons_zero, List.getElem_cons_succ, List.setIfInBounds_toArray, List.set_cons_zero, List.set_cons_succ]))
  refine linX_nil ?_
  go_wp2_with fail
  refine bodyPost_ret (results_blk rfl _ _ W0.heap.size _ _ rfl HF.out.2.1 Tryz.underlying46 rfl (s_px _)) rfl ?_
  exact ⟨_, rfl, by rw [HE.out]; exact OwnB.less (B := W1.heap.size) HF.out.1 (by have := HSZ.out.2.2; omega), HF.out.2.2⟩
end Go.Proofs.YtikdgbmdepplgaaGreatDoor
namespace Go.Proofs.YtikdgbmdepplgaaGreatDoor
open Go.RowKit Go.Shelf
set_option linter.unusedVariables false
set_option maxRecDepth 100000
/-- One after the other, of what one by one is taken: the error (0: none), and what was taken. -/
def takeN {T : Type} (one : List Nat → Int × T × List Nat) (wr : Int) : Nat → List Nat → List T → Int × List T
  | 0, L, A => if L = [] then (0, A) else (wr, [])
  | k + 1, L, A => if (one L).1 = 0 then takeN one wr k (one L).2.2 (A ++ [(one L).2.1]) else ((one L).1, [])
def takeA {T : Type} (one : List Nat → Int × T × List Nat) (wr : Int) : List Nat → Int × List T
  | [] => (7, [])
  | k :: R => takeN one wr k R []
/-- The three numbers of a candidate. -/
def ro3 (p : Px) : List Nat → Int × Ro × List Nat
  | s :: f :: h :: R => (0, ⟨p, s, f, h⟩, R)
  | _ => (7, Ro.zero, [])
noncomputable def roR (L : List Nat) : Int × Ro × List Nat := if decPE L = 0 then ro3 (decPX L) (L.drop (decPN L)) else if decPE L = 7 then (7, Ro.zero, []) else (211, Ro.zero, [])
/-- The four numbers of an update. -/
def up4 (p : Px) : List Nat → Int × Up × List Nat
  | s :: g :: f :: h :: R => if 1 < g then (210, Up.zero, []) else (0, ⟨p, s, decide (g = 1), f, h⟩, R)
  | _ :: g :: _ => if 1 < g then (210, Up.zero, []) else (7, Up.zero, [])
  | _ => (7, Up.zero, [])
noncomputable def upR (L : List Nat) : Int × Up × List Nat := if decPE L = 0 then up4 (decPX L) (L.drop (decPN L)) else if decPE L = 7 then (7, Up.zero, []) else (210, Up.zero, [])
noncomputable def decRo (L : List Nat) : Int × List Ro := if (takeA roR 211 L).1 = 0 then (if okRib (takeA roR 211 L).2 then (0, (takeA roR 211 L).2) else (211, [])) else ((takeA roR 211 L).1, [])
noncomputable def decUp (L : List Nat) : Int × List Up := if (takeA upR 210 L).1 = 0 then (if okBat (takeA upR 210 L).2 then (0, (takeA upR 210 L).2) else (210, [])) else ((takeA upR 210 L).1, [])
theorem takeN_bad {T : Type} {one : List Nat → Int × T × List Nat} {wr : Int} (hwr : wr ≠ 0) : ∀ (k : Nat) (L : List Nat) (A : List T), (takeN one wr k L A).1 ≠ 0 → (takeN one wr k L A).2 = []
  | 0, L, A, h => by
    rw [takeN] at h ⊢
    split at h
    · exact absurd rfl h
    · rename_i h2; rw [if_neg h2]
  | k + 1, L, A, h => by
    rw [takeN] at h ⊢
    split at h
    · rename_i h2; rw [if_pos h2]; exact takeN_bad hwr k _ _ h
    · rename_i h2; rw [if_neg h2]
theorem ro3_len {p : Px} {L : List Nat} (h : (ro3 p L).1 = 0) : ∃ s f h, L = s :: f :: h :: (ro3 p L).2.2 ∧ (ro3 p L).2.1 = ⟨p, s, f, h⟩ := by
  match L with
  | s :: f :: h :: R => exact ⟨s, f, h, rfl, rfl⟩
  | [] => cases h
  | [_] => cases h
  | [_, _] => cases h
theorem up4_len {p : Px} {L : List Nat} (h : (up4 p L).1 = 0) : ∃ s g f h, L = s :: g :: f :: h :: (up4 p L).2.2 ∧ g ≤ 1 ∧ (up4 p L).2.1 = ⟨p, s, decide (g = 1), f, h⟩ := by
  rcases L with _ | ⟨s, _ | ⟨g, _ | ⟨f, _ | ⟨k, R⟩⟩⟩⟩
  · cases h
  · cases h
  · simp only [up4] at h; split at h <;> cases h
  · simp only [up4] at h; split at h <;> cases h
  · simp only [up4] at h ⊢
    by_cases hg : 1 < g
    · rw [if_pos hg] at h; cases h
    · rw [if_neg hg]; exact ⟨s, g, f, k, rfl, by omega, rfl⟩
theorem roR_len {L : List Nat} (hB : Bys L) (h : (roR L).1 = 0) : (roR L).2.2.length ≤ L.length ∧ Bys (roR L).2.2 := by
  unfold roR at h ⊢
  by_cases h1 : decPE L = 0
  · rw [if_pos h1] at h ⊢
    obtain ⟨s, f, h', e, _⟩ := ro3_len h
    have h2 : (L.drop (decPN L)).length ≤ L.length := by simp
    refine ⟨?_, fun x hx => hB x (List.mem_of_mem_drop (i := decPN L) ?_)⟩
    · rw [e] at h2; simp at h2; omega
    · rw [e]; simp [hx]
  · rw [if_neg h1] at h
    split at h
    · cases h
    · cases h
theorem upR_len {L : List Nat} (hB : Bys L) (h : (upR L).1 = 0) : (upR L).2.2.length ≤ L.length ∧ Bys (upR L).2.2 := by
  unfold upR at h ⊢
  by_cases h1 : decPE L = 0
  · rw [if_pos h1] at h ⊢
    obtain ⟨s, g, f, h', e, _⟩ := up4_len h
    have h2 : (L.drop (decPN L)).length ≤ L.length := by simp
    refine ⟨?_, fun x hx => hB x (List.mem_of_mem_drop (i := decPN L) ?_)⟩
    · rw [e] at h2; simp at h2; omega
    · rw [e]; simp [hx]
  · rw [if_neg h1] at h
    split at h
    · cases h
    · cases h
end Go.Proofs.YtikdgbmdepplgaaGreatDoor
