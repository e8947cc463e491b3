/-
  Candidates that a call owns: one set, some cleared; the first one of each run of one prefix. Nothing here is a statement of the document.
-/
import Derived.Test.YtikdgbmdepplgaaGreatDoorRtE
import Derived.Test.YtikdgbmdepplgaaGreatDoorPfxOr
import Derived.Test.YtikdgbmdepplgaaGreatDoorDskB
import Derived.Test.YtikdgbmdepplgaaGreatDoorTbS
namespace Go.Proofs.YtikdgbmdepplgaaGreatDoor
open Go.RowKit Go.Shelf Go.Sort
set_option linter.unusedVariables false
set_option maxRecDepth 100000

/-! ### Comparisons that are orders -/
structure Cm {α : Type} (c : α → α → Int) : Prop where
  flip : ∀ x y, c x y = - c y x
  lt : ∀ x y z, c x y < 0 → c y z < 0 → c x z < 0
  eqv : ∀ x y z, c x y = 0 → c y z = c x z
theorem Cm.two {α : Type} {a b : α → α → Int} (ha : Cm a) (hb : Cm b) : Cm (fun x y => if a x y = 0 then b x y else a x y) where
  flip x y := by
    show (if a x y = 0 then b x y else a x y) = - (if a y x = 0 then b y x else a y x)
    have h1 := ha.flip x y
    have h2 := hb.flip x y
    by_cases h : a y x = 0
    · rw [if_pos h, if_pos (by omega)]; exact h2
    · rw [if_neg h, if_neg (by omega)]; exact h1
  lt x y z := by
    show (if a x y = 0 then b x y else a x y) < 0 → (if a y z = 0 then b y z else a y z) < 0 → (if a x z = 0 then b x z else a x z) < 0
    intro h1 h2
    by_cases h : a x y = 0
    · rw [if_pos h] at h1
      rw [ha.eqv x y z h] at h2
      by_cases k : a x z = 0
      · rw [if_pos k] at h2 ⊢; exact hb.lt x y z h1 h2
      · rw [if_neg k] at h2 ⊢; exact h2
    · rw [if_neg h] at h1
      have hxz : a x z < 0 := by
        by_cases k : a y z = 0
        · have h3 := ha.flip y z
          have h4 := ha.eqv z y x (by omega)
          have h5 := ha.flip x y
          have h6 := ha.flip x z
          omega
        · rw [if_neg k] at h2; exact ha.lt x y z h1 h2
      rw [if_neg (by omega)]; exact hxz
  eqv x y z := by
    show (if a x y = 0 then b x y else a x y) = 0 → (if a y z = 0 then b y z else a y z) = (if a x z = 0 then b x z else a x z)
    intro h
    by_cases k : a x y = 0
    · rw [if_pos k] at h
      rw [ha.eqv x y z k, hb.eqv x y z h]
    · rw [if_neg k] at h; exact absurd h k
theorem Cm.rev {α : Type} {c : α → α → Int} (h : Cm c) : Cm (fun x y => c y x) where
  flip x y := h.flip y x
  lt x y z h1 h2 := h.lt z y x h2 h1
  eqv x y z k := by
    show c z y = c z x
    have k' : c y x = 0 := k
    have h1 := h.flip x y
    have h2 := h.eqv x y z (by omega)
    have h3 := h.flip z y
    have h4 := h.flip z x
    omega
theorem Cm.of {α β : Type} {c : α → α → Int} (h : Cm c) (f : β → α) : Cm (fun x y => c (f x) (f y)) :=
  ⟨fun x y => h.flip _ _, fun x y z => h.lt _ _ _, fun x y z => h.eqv _ _ _⟩
theorem cm_int : Cm cmpI where
  flip x y := by rcases cmpI_cases x y with h | h | h <;> rcases cmpI_cases y x with k | k | k <;> omega
  lt x y z h1 h2 := by rcases cmpI_cases x y with h | h | h <;> rcases cmpI_cases y z with k | k | k <;> rcases cmpI_cases x z with l | l | l <;> omega
  eqv x y z h1 := by
    rcases cmpI_cases x y with h | h | h
    · omega
    · rw [h.1]
    · omega
theorem cm_px : Cm cmpP where
  flip := cmpP_neg
  lt := cmpP_lt
  eqv x y z h := by rw [(cmpP_zero x y).1 h]
theorem cmpR_eq (x y : Ro) : cmpR x y = if cmpP x.p y.p = 0 then cmpI x.s y.s else cmpP x.p y.p := by
  show (if cmpP x.p y.p = 0 then (if cmpI x.s y.s = 0 then 0 else cmpI x.s y.s) else cmpP x.p y.p) = _
  by_cases h : cmpP x.p y.p = 0
  · rw [if_pos h, if_pos h]
    by_cases k : cmpI x.s y.s = 0
    · rw [if_pos k, k]
    · rw [if_neg k]
  · rw [if_neg h, if_neg h]
theorem cmpB1_eq (x y : Ro) : cmpB1 x y = if cmpP x.p y.p = 0 then (if cmpI y.f x.f = 0 then cmpI x.s y.s else cmpI y.f x.f) else cmpP x.p y.p := by
  show (if cmpP x.p y.p = 0 then (if cmpI y.f x.f = 0 then (if cmpI x.s y.s = 0 then 0 else cmpI x.s y.s) else cmpI y.f x.f) else cmpP x.p y.p) = _
  by_cases h : cmpP x.p y.p = 0
  · rw [if_pos h, if_pos h]
    by_cases k : cmpI y.f x.f = 0
    · rw [if_pos k, if_pos k]
      by_cases l : cmpI x.s y.s = 0
      · rw [if_pos l, l]
      · rw [if_neg l]
    · rw [if_neg k, if_neg k]
  · rw [if_neg h, if_neg h]
theorem cm_r : Cm cmpR := by
  have h := (cm_px.of Ro.p).two (cm_int.of Ro.s)
  rwa [show (fun x y : Ro => if cmpP x.p y.p = 0 then cmpI x.s y.s else cmpP x.p y.p) = cmpR from funext fun x => funext fun y => (cmpR_eq x y).symm] at h
theorem cm_b : Cm cmpB1 := by
  have h := (cm_px.of Ro.p).two ((cm_int.rev.of Ro.f).two (cm_int.of Ro.s))
  rwa [show (fun x y : Ro => if cmpP x.p y.p = 0 then (if cmpI y.f x.f = 0 then cmpI x.s y.s else cmpI y.f x.f) else cmpP x.p y.p) = cmpB1 from funext fun x => funext fun y => (cmpB1_eq x y).symm] at h
theorem Cm.swo {α : Type} {c : α → α → Int} (h : Cm c) : SWO (ltOf c) where
  irrefl x := by
    show decide (c x x < 0) = false
    have := h.flip x x
    exact decide_eq_false (by omega)
  trans x y z h1 h2 := by
    have h1 := of_decide_eq_true h1
    have h2 := of_decide_eq_true h2
    exact decide_eq_true (h.lt x y z h1 h2)
  ntrans x y z h1 h2 := by
    have h1 := of_decide_eq_false h1
    have h2 := of_decide_eq_false h2
    refine decide_eq_false fun h3 => ?_
    by_cases k : c x y = 0
    · rw [← h.eqv x y z k] at h3; exact h2 h3
    · have h4 := h.flip y x
      exact h2 (h.lt y x z (by omega) h3)

/-! ### The sort, over rows that a call owns -/
instance roInhabited : Inhabited Ro := ⟨Ro.zero⟩
def roen (r : Ro) : List Value := r.cs.toList
theorem roen_len (r : Ro) : (roen r).length = 21 := by simp [roen, Ro.size]
theorem roen_one (r : Ro) : ∀ v ∈ roen r, v.oneCell' = true := fun v hv => by
  have h := r.one
  rw [Array.all_eq_true_iff_forall_mem] at h
  exact h v (by simpa [roen] using hv)
theorem isAgg_ro : ∀ w, (isAgg 50).run Tryz.prog w = .ok true w := fun w => by kernel_rfl
theorem size_ro : ∀ w, (Go.sizeOf 50).run Tryz.prog w = .ok 21 w := fun w => by kernel_rfl
theorem rog_arr (d : Array Ro) (i : Nat) (h : i < d.size) : d[i]! = rog d.toList i := by
  rw [rog_get (by simpa using h), getElem!_pos d i h]; simp
theorem rholds {w : World} {g : Nat} {C : Array Value} {d : Array Ro} (h1 : Blk w g 50 C) (ht : C.toList.take (d.size * 21) = rocs d.toList) : HoldsK roen 21 w g 0 d := by
  intro j hj
  rw [size_flatK] at hj
  rw [get_flatK _ _ _ _ hj, Nat.zero_add]
  refine ⟨?_, h1.free _⟩
  show w.cell? ⟨g, j, none⟩ = some ((roen d[j / 21]!)[j % 21]!)
  have hi : j / 21 < d.size := by omega
  have h2 := rocs_get d.toList (i := j / 21) (j := j % 21) (by simpa using hi) (by omega)
  rw [← ht, List.getElem?_take, if_pos (by omega), show j / 21 * 21 + j % 21 = j by omega] at h2
  have hz := (rog d.toList (j / 21)).size
  rw [h1.cell, ← Array.getElem?_toList, h2, rog_arr d _ hi]
  unfold roen
  rw [Array.getElem?_eq_getElem (by omega), getElem!_pos _ _ (by simp [Ro.size]; omega)]
  simp
theorem rsw_kept {w : World} {g : Nat} (hr : g < w.heap.size) (m : Nat) (dk : Array Ro) (os : Array Obj) : Kept [g] w (sortWorldK roen 21 w g 0 m dk os) := by
  refine ⟨rfl, rfl, rfl, ?_, fun k hk hS => ?_⟩
  · exact size_sortWorldK_c roen 21 w g 0 m dk os
  · have hkr : ¬ g = k := fun e => hS (by simp [e])
    unfold sortWorldK grow putRowK putRow mapBlock Go.Sort.ahead
    simp [Array.getElem?_append, hk]
    rw [Array.getElem_modify, if_neg hkr]
theorem rsw_blk {w : World} {g : Nat} {C : Array Value} {t : TypeId} (h : Blk w g t C) (m : Nat) (dk : Array Ro) (os : Array Obj) : ∃ C', Blk (sortWorldK roen 21 w g 0 m dk os) g t C' ∧ C'.size = C.size := by
  refine ⟨putCells id 0 (flatK roen 21 dk) C, ?_, by simp [putCells]⟩
  have hb := h.lt
  unfold Blk at h ⊢
  unfold sortWorldK grow putRowK putRow mapBlock Go.Sort.ahead
  simp [Array.getElem?_append, hb]
  rw [Array.getElem_modify, if_pos rfl, (Array.getElem?_eq_some_iff.1 h).2]
  rfl
theorem rsort_some {w : World} {B g c : Nat} {L : List Ro} {cf : Ro → Ro → Int} {ob : Nat} (hcm : Cm cf) (h : OwnRo w B (.slice (some ⟨g, 0, none⟩) L.length c) L) (hs : L.length ≤ 100000) (hB : B ≤ w.heap.size)
    (HC : ∀ w', Kept [g] w w' → ∀ x y : Ro, Calls Tryz.prog 72 #[.agg x.cs, .agg y.cs, .pointer (some ⟨ob, 0, none⟩)] w' fun e w2 => e = .returned (.int .i64 (cf x y)) ∧ Gr w' w2) :
    Calls Tryz.prog 35 #[.slice (some ⟨g, 0, none⟩) L.length c, .func (.func 72) #[] #[.pointer (some ⟨ob, 0, none⟩)]] w fun e w' => e = .returned (.tuple #[]) ∧ ∃ L', L'.Perm L ∧ (∀ i j, i < j → j < L.length → cf (rog L' i) (rog L' j) ≤ 0) ∧ OwnRo w' B (.slice (some ⟨g, 0, none⟩) L.length c) L' ∧ Kept [g] w w' := by
  rcases h.2 with ⟨h9, _⟩ | ⟨g', cap, cur, h9, hb, hg, hc, hm, hcs, ht⟩
  · cases h9
  · cases h9
    obtain ⟨d, hd⟩ : ∃ d : Array Ro, d.toList = L := ⟨L.toArray, rfl⟩
    have hdn : d.size = L.length := by rw [← hd]; simp
    have hlt : g < w.heap.size := (Array.getElem?_eq_some_iff.1 hg).1
    have hH : HoldsK roen 21 w g 0 d := rholds hg (by rw [hdn, ht, hd])
    have hcmp : CmpLays Tryz.prog 72 #[.pointer (some ⟨ob, 0, none⟩)] roen 21 cf g 0 d.size w := fun m os dk hsz x y =>
      (HC _ (rsw_kept hlt m dk os) x y).mono fun e w2 hp => ⟨hp.1, hp.2⟩
    have hk := AnyQ.slices_SortFunc sortR 21 isAgg_ro size_ro roen roen_len roen_one cf hcm.swo 72 #[.pointer (some ⟨ob, 0, none⟩)] g 0 c d w (enters_of Tryz.func72 (by kernel_rfl) rfl) hcmp hH hlt (by omega)
    rw [hdn] at hk
    refine hk.mono fun e w' hp => ⟨hp.1, ?_⟩
    obtain ⟨d', m, os, hperm, hsort, hw⟩ := hp.2
    have hsz : d'.size = L.length := hperm.1.trans hdn
    obtain ⟨C', b1, b2⟩ := rsw_blk (C := cur) hg m d' os
    rw [← hw] at b1
    have hH2 : HoldsK roen 21 w' g 0 d' := by rw [hw]; exact holdsK_sortWorldK_c roen 21 w g 0 d d' m os hH hlt hperm.1
    have hlen : d'.toList.length = L.length := by simpa using hsz
    refine ⟨d'.toList, ?_, fun i j hij hj => ?_, ?_, by rw [hw]; exact rsw_kept hlt m d' os⟩
    · have hp3 := hperm.2.2
      rw [← hdn, Array.extract_size, show d.size = d'.size from hperm.1.symm, Array.extract_size] at hp3
      rw [← hd]; exact hp3
    · have := hsort i j (Nat.zero_le _) hij hj
      rw [rog_arr d' i (by omega), rog_arr d' j (by omega)] at this
      have h1 := of_decide_eq_false this
      have h2 := hcm.flip (rog d'.toList i) (rog d'.toList j)
      omega
    · rw [OwnRo, hlen]
      refine ⟨by rw [rocs_len, hlen], .inr ⟨g, c, C', rfl, hb, b1, hc, hm, by rw [b2]; exact hcs, ?_⟩⟩
      refine List.ext_getElem? fun k => ?_
      by_cases hk1 : k < L.length * 21
      · rw [List.getElem?_take, if_pos hk1]
        have c0 := (hH2.cell (i := k / 21) (c := k % 21) (by omega) (by omega)).1
        rw [b1.cell, Nat.zero_add, show k / 21 * 21 + k % 21 = k by omega, ← Array.getElem?_toList] at c0
        have h2 := rocs_get d'.toList (i := k / 21) (j := k % 21) (by rw [hlen]; omega) (by omega)
        rw [show k / 21 * 21 + k % 21 = k by omega] at h2
        rw [c0, h2]
        have hz := (rog d'.toList (k / 21)).size
        rw [rog_arr d' _ (by omega)]
        unfold roen
        rw [Array.getElem?_eq_getElem (by omega), getElem!_pos _ _ (by simp [Ro.size]; omega)]
        simp
      · rw [List.getElem?_eq_none (by rw [List.length_take]; omega), List.getElem?_eq_none (by rw [rocs_len, hlen]; omega)]
end Go.Proofs.YtikdgbmdepplgaaGreatDoor
namespace Go.Proofs.YtikdgbmdepplgaaGreatDoor
open Go.RowKit Go.Shelf
set_option linter.unusedVariables false
set_option maxRecDepth 100000
attribute [local go_sem ↓] load_b16_rule store_b16_rule load_ad_rule store_ad_rule load_px_rule store_px_rule eq_b16_rule eq_ad_rule eq_px_rule build_ad_rule build_px_rule build_b16_rule load_ro_rule store_ro_rule
theorem blk_new2 (w : World) (o : Obj) (t : TypeId) (cs : Array Value) : Blk ((w.alloc o).alloc (.cells cs t)) (w.heap.size + 1) t cs := by
  have h := Blk.new (w.alloc o) t cs
  rwa [World.size_alloc] at h
/-- The order whose functions are boxed there. -/
def byF (ob : Nat) : Value := .func (.func 72) #[] #[.pointer (some ⟨ob, 0, none⟩)]
set_option maxHeartbeats 1600000 in
theorem rising_any (w : World) : Calls Tryz.prog 36 #[] w fun e w' => ∃ ob sb, e = .returned (byF ob) ∧ RisAt w' ob sb ∧ w.heap.size ≤ ob ∧ w.heap.size ≤ sb ∧ Below w.heap.size w w' := by
  go_enter Tryz.func36, Tryz.ntmps36
  go_wp2
  go_ret
  refine ⟨_, w.heap.size, rfl, ⟨?_, ?_, ?_, ?_, ?_⟩, ?_, Nat.le_refl _, ?_⟩
  · have h := blk_new2 w (.cells #[.func (.func 52) #[] #[], .func (.func 53) #[] #[]] 87) 120 #[.slice (some ⟨w.heap.size, 0, none⟩) 2 2]
    exact (h.cell 0).trans rfl
  · exact (((Blk.new w _ _).alloc _).cell 0).trans rfl
  · exact (((Blk.new w _ _).alloc _).cell 1).trans rfl
  · simp
  · simp; omega
  · omega
  · exact ((Below.refl _ _).alloc (Nat.le_refl _) _).alloc (by simp) _
set_option maxHeartbeats 1600000 in
theorem bestfirst_any (w : World) : Calls Tryz.prog 39 #[] w fun e w' => ∃ ob sb, e = .returned (byF ob) ∧ BstAt w' ob sb ∧ w.heap.size ≤ ob ∧ w.heap.size ≤ sb ∧ Below w.heap.size w w' := by
  go_enter Tryz.func39, Tryz.ntmps39
  go_wp2
  go_ret
  refine ⟨_, w.heap.size, rfl, ⟨?_, ?_, ?_, ?_, ?_, ?_⟩, ?_, Nat.le_refl _, ?_⟩
  · have h := blk_new2 w (.cells #[.func (.func 52) #[] #[], .func (.func 56) #[] #[], .func (.func 53) #[] #[]] 87) 120 #[.slice (some ⟨w.heap.size, 0, none⟩) 3 3]
    exact (h.cell 0).trans rfl
  · exact (((Blk.new w _ _).alloc _).cell 0).trans rfl
  · exact (((Blk.new w _ _).alloc _).cell 1).trans rfl
  · exact (((Blk.new w _ _).alloc _).cell 2).trans rfl
  · simp
  · simp; omega
  · omega
  · exact ((Below.refl _ _).alloc (Nat.le_refl _) _).alloc (by simp) _
set_option maxHeartbeats 1600000 in
theorem onepre_any (x y : Ro) (w : World) : Calls Tryz.prog 55 #[.agg x.cs, .agg y.cs] w fun e w' => e = .returned (.bool (decide (x.p = y.p))) ∧ Below w.heap.size w w' := by
  obtain ⟨W1, hW1⟩ : ∃ W1, (w.alloc (.cells x.cs 50)).alloc (.cells y.cs 50) = W1 := ⟨_, rfl⟩
  have hb1 : Below w.heap.size w W1 := by rw [← hW1]; exact ((Below.refl _ _).alloc (Nat.le_refl _) _).alloc (by simp) _
  have b1 : Blk W1 w.heap.size 50 x.cs := by rw [← hW1]; exact (Blk.new _ _ _).alloc _
  have b2 : Blk W1 (w.heap.size + 1) 50 y.cs := by
    have h9 := Blk.new (w.alloc (.cells x.cs 50)) 50 y.cs
    rw [World.size_alloc] at h9
    rw [← hW1]; exact h9
  have LP := ro_p b1
  have LQ := ro_p b2
  have h0 : Below W1.heap.size W1 W1 := Below.refl _ _
  have EQ := eqP x.p y.p
  have HB := Lib.hid hb1
  clear hb1 b1 b2
  generalize decide (x.p = y.p) = d1 at *
  go_enter Tryz.func55, Tryz.ntmps55
  go_wp2
  go_ret
  exact ⟨rfl, bel_trans HB.out (by first | assumption | exact bel_drew (by assumption))⟩
end Go.Proofs.YtikdgbmdepplgaaGreatDoor
namespace Go.Proofs.YtikdgbmdepplgaaGreatDoor
open Go.RowKit Go.Shelf
set_option linter.unusedVariables false
set_option maxRecDepth 100000
attribute [local go_sem ↓] load_b16_rule store_b16_rule load_ad_rule store_ad_rule load_px_rule store_px_rule eq_b16_rule eq_ad_rule eq_px_rule build_ad_rule build_px_rule build_b16_rule load_ro_rule store_ro_rule load_up_rule store_up_rule
set_option maxHeartbeats 1600000 in
theorem spoke_any (u : Up) (x : Ro) (ub : Nat) (w : World) (h : Blk w ub 48 u.cs) : Calls Tryz.prog 31 #[.agg x.cs, .pointer (some ⟨ub, 0, none⟩)] w fun e w' => e = .returned (.bool (decide (spk u x))) ∧ Below w.heap.size w w' := by
  obtain ⟨W1, hW1⟩ : ∃ W1, w.alloc (.cells x.cs 50) = W1 := ⟨_, rfl⟩
  have hb1 : Below w.heap.size w W1 := by rw [← hW1]; exact (Below.refl _ _).alloc (Nat.le_refl _) _
  have b1 : Blk W1 w.heap.size 50 x.cs := by rw [← hW1]; exact Blk.new _ _ _
  have b2 : Blk W1 ub 48 u.cs := by rw [← hW1]; exact h.alloc _
  have LX := ro_r b1 W1 (Below.refl _ _)
  have LU := up_r b2 W1 (Below.refl _ _)
  have HC := speaks_any u x W1
  have HB := Lib.hid hb1
  clear hb1 b1 b2 h
  generalize decide (spk u x) = d1 at *
  go_enter Tryz.func31, Tryz.ntmps31
  go_wp2_with fail
  refine HC.mono ?_
  rintro e W2 ⟨rfl, hb2⟩
  go_wp2_with fail
  go_ret
  exact ⟨rfl, bel_trans HB.out hb2⟩
/-- The first place of a candidate of which the update speaks, from k on. -/
noncomputable def spotF (u : Up) (L : List Ro) : Nat := open Classical in L.findIdx (fun x => decide (spk u x))
noncomputable def spotI (u : Up) (L : List Ro) : Int := if spotF u L < L.length then (spotF u L : Int) else -1
theorem spotF_at {u : Up} {L : List Ro} (h : spotF u L < L.length) : spk u (rog L (spotF u L)) := by
  rw [rog_get h]
  have h1 := List.findIdx_getElem (w := h)
  have h2 : spk u (L[List.findIdx (fun x => decide (spk u x)) L]'h) := by simpa using h1
  exact h2
theorem spotF_ahead {u : Up} {L : List Ro} {j : Nat} (h : j < spotF u L) : ¬ spk u (rog L j) := by
  have hl : spotF u L ≤ L.length := List.findIdx_le_length
  rw [rog_get (by omega)]
  have := List.not_of_lt_findIdx h
  simpa using this
theorem spotF_of {u : Up} {L : List Ro} {k : Nat} (hk : k < L.length) (h : spk u (rog L k)) (ha : ∀ j, j < k → ¬ spk u (rog L j)) : spotF u L = k := by
  rcases Nat.lt_trichotomy (spotF u L) k with h1 | h1 | h1
  · exact absurd (spotF_at (Nat.lt_trans h1 hk)) (ha _ h1)
  · exact h1
  · exact absurd h (spotF_ahead h1)
theorem spotF_none {u : Up} {L : List Ro} (ha : ∀ j, j < L.length → ¬ spk u (rog L j)) : ¬ spotF u L < L.length := fun h => ha _ h (spotF_at h)
theorem RoAt.spot {w : World} {a : Option Addr} {L : List Ro} (h : RoAt w a L) {i : Nat} (hi : i < L.length) : ∃ g o, a = some ⟨g, o, none⟩ ∧ Ros w g o L := by
  rcases h with rfl | h
  · simp at hi
  · exact h
set_option maxHeartbeats 4000000 in
theorem rindex_any (u : Up) (ub : Nat) (a : Option Addr) (n c : Nat) (L : List Ro) (w : World) (hu : Blk w ub 48 u.cs) (hn : L.length = n) (hm : n ≤ 1000000) (hR : RoAt w a L) :
    Calls Tryz.prog 30 #[.slice a n c, .func (.func 31) #[] #[.pointer (some ⟨ub, 0, none⟩)]] w fun e w' => e = .returned (.int .i64 (spotI u L)) ∧ Below w.heap.size w w' := by
  have HR : ∀ w', Below w.heap.size w w' → RoAt w' a L := fun w' h => hR.later h
  have HU : ∀ w', Below w.heap.size w w' → Blk w' ub 48 u.cs := fun w' h => hu.later h
  have h0 : Below w.heap.size w w := Below.refl _ _
  clear hR hu
  go_enter Tryz.func30, Tryz.ntmps30
  go_wp2_with fail
  go_loopw [5, 8] (fun _ i wr => ∃ k : Nat, k ≤ n ∧ i = .int .i64 k ∧ (∀ j, j < k → ¬ spk u (rog L j)) ∧ Below w.heap.size w wr) (fun _ i _ => n - (intOf i).toNat)
  case atStart => exact ⟨0, Nat.zero_le _, rfl, fun j hj => by omega, h0⟩
  case round =>
    obtain ⟨k, hk, rfl, hok, hkb⟩ := hrel
    by_cases hlt : k < n
    · have hkl : k < L.length := by omega
      have hltz : (k : Int) < (n : Int) := by omega
      obtain ⟨g, o, rfl, hrow⟩ := (HR wr hkb).spot hkl
      have LR := hrow.load hkl
      have HC := spoke_any u (rog L k) ub wr (HU wr hkb)
      by_cases he : spk u (rog L k)
      · have HE := Lib.hid (show spotI u L = (k : Int) by rw [spotI, spotF_of hkl he hok, if_pos hkl])
        rw [decide_eq_true he] at HC
        have HK := Lib.hid hkb
        clear hok hkb he HR HU hrow
        go_wp2_with fail
        refine HC.mono ?_
        rintro e w2 ⟨rfl, hb2⟩
        go_wp2
        go_ret
        exact ⟨by rw [HE.out]; rfl, bel_trans HK.out hb2⟩
      · rw [decide_eq_false he] at HC
        have HK := Lib.hid (And.intro hok (And.intro hkb he))
        clear hok hkb he HR HU hrow
        go_wp2_with fail
        refine HC.mono ?_
        rintro e w2 ⟨rfl, hb2⟩
        go_wp2
        go_roundw
        case rel => exact ⟨k + 1, by omega, by go_num, fun j hj => by
          by_cases e : j = k
          · rw [e]; exact HK.out.2.2
          · exact HK.out.1 j (by omega), bel_trans HK.out.2.1 hb2⟩
        case measure => simp [intOf]; omega
    · obtain rfl : n = k := by omega
      have HE := Lib.hid (show spotI u L = -1 by rw [spotI, if_neg (spotF_none fun j hj => hok j (by omega))])
      clear hok HR HU
      go_wp2
      go_ret
      exact ⟨by rw [HE.out]; rfl, hkb⟩
end Go.Proofs.YtikdgbmdepplgaaGreatDoor
namespace Go.Proofs.YtikdgbmdepplgaaGreatDoor
open Go.RowKit Go.Shelf
set_option linter.unusedVariables false
set_option maxRecDepth 100000
theorem roown_of {w : World} {B g cap : Nat} {cur : List Value} {L : List Ro} (hb : B ≤ g) (hg : Blk w g 50 cur.toArray) (hn : L.length ≤ cap) (hm : cap ≤ maxLen) (hs : cur.length = cap * 21) (ht : cur.take (L.length * 21) = rocs L) : OwnRo w B (.slice (some ⟨g, 0, none⟩) L.length cap) L :=
  ⟨rocs_len L, .inr ⟨g, cap, cur.toArray, rfl, hb, hg, hn, hm, by simpa using hs, by simpa using ht⟩⟩
theorem sizeof_ro (w : World) : (Go.sizeOf 50).run Tryz.prog w = .ok 21 w := by kernel_rfl
theorem roown_cells {w : World} {g : Nat} {L : List Ro} {cur : Array Value} (hg : Blk w g 50 cur) (ht : cur.toList.take (L.length * 21) = rocs L) : ∀ j u, (rocs L)[j]? = some u → w.cell? ⟨g, j, none⟩ = some u := fun j u hj => by
  rw [hg.cell, ← Array.getElem?_toList]
  have hl : j < L.length * 21 := by rw [← rocs_len]; exact (List.getElem?_eq_some_iff.1 hj).1
  rw [← ht, List.getElem?_take, if_pos hl] at hj
  exact hj
def roclearSem (ty : TypeId) (args : Array Value) : Sem Value := Builtin.clear_ #[22] ty args
theorem roclear_rule (ty : TypeId) (args : Array Value) : Builtin.clear_ #[22] ty args = roclearSem ty args := rfl
theorem rozero_once : (Builtin.zeroCells (Value.agg Ro.zero.cs).cells 1).toList = Ro.zero.cs.toList := by kernel_rfl
theorem roclear_run {w : World} {g o k : Nat} {cur : Array Value} (ty : TypeId) (cc : Nat) (hk : k = 1) (hg : Blk w g 50 cur) (hcur : o + 21 ≤ cur.size) :
    (roclearSem ty #[.slice (some ⟨g, o, none⟩) k cc]).run Tryz.prog w = .ok (.tuple #[]) (w.setRow g (layC o Ro.zero.cs.toList cur.toList).toArray) := by
  subst hk
  have h21 : Ro.zero.cs.toList.length = 21 := by simp [Ro.size]
  have hst := run_storeCells_at Tryz.prog g o 50 Ro.zero.cs.toList 0 cur w hg (by omega) (fun u hu => Array.all_eq_true_iff_forall_mem.1 Ro.zero.one u (by simpa using hu))
  have hz := (zero_of_info z_ro).1 w
  rw [Nat.add_zero] at hst
  unfold roclearSem layC
  simp [Builtin.clear_, run_underlying Tryz.underlying22, hz, rozero_once, hst]
attribute [local go_sem ↓] robuild_rule roapp_rule rocopy_rule roclear_rule
set_option maxHeartbeats 4000000 in
theorem rodel_walk {w W1 W2 : World} {g c i n m : Nat} {A : Addr} (hin : i < n) (hin2 : i ≤ n) (h1 : (0 : Int) ≤ (i : Int) + 1) (h3 : (i : Int) + 1 ≤ (n : Int)) (h4 : n ≤ c) (hm63 : c ≤ 9223372036854775807) (hne : ¬ ((i : Int) = (i : Int) + 1)) (e1 : ((i : Int) + 1).toNat = i + 1) (hic : i ≤ c) (hi1 : i + 1 ≤ n) (hi3 : (i : Int) ≤ (i : Int) + 1)
    (hA : (if c = i + 1 then (some ⟨g, 0, none⟩ : Option Addr) else some ⟨g, (i + 1) * 21, none⟩) = some A)
    (hap : ∀ ty : TypeId, (roappSem ty #[.slice (some ⟨g, 0, none⟩) i c, .slice (some A) (n - (i + 1)) (c - (i + 1))]).run Tryz.prog w.drew = .ok (.slice (some ⟨g, 0, none⟩) m c) W1)
    (hmc : ¬ (c = m)) (hmn : m ≤ n) (hmn2 : (m : Int) ≤ (n : Int)) (hnm : m ≤ c) (hcl : ∀ ty : TypeId, (roclearSem ty #[.slice (some ⟨g, m * 21, none⟩) (n - m) (c - m)]).run Tryz.prog W1 = .ok (.tuple #[]) W2) :
    Calls Tryz.prog 33 #[.slice (some ⟨g, 0, none⟩) n c, .int .i64 (i : Int), .int .i64 ((i : Int) + 1)] w fun e w' => e = .returned (.slice (some ⟨g, 0, none⟩) m c) ∧ w' = W2 := by
  go_enter Tryz.func33, Tryz.ntmps33
  have hap2 : ∀ ty : TypeId, (Builtin.append_ #[22, 22] ty #[.slice (some ⟨g, 0, none⟩) i c, .slice (some A) (n - (i + 1)) (c - (i + 1))]).run Tryz.prog w.drew = .ok (.slice (some ⟨g, 0, none⟩) m c) W1 := hap
  go_wp2_with fail
  refine wp_region_linX (fun _ => True) [6] [0, 1, 2, 3, 4, 5, 6, 7] (by kernel_rfl) (by kernel_rfl) trivial ?_
  (repeat (first | (refine linX_off rfl rfl (by rfl) ?_; (try simp only [Act.put, List.getElem_toArray, List.getElem_cons_zero, List.getElem_cons_succ, List.setIfInBounds_toArray, List.set_cons_zero, List.set_cons_succ])) | (refine linX_op (v := ?_) rfl rfl (by rfl) (fun w9 hS9 => ?_) ?_; rotate_left; (focus (((try dsimp only at hS9); go_simp; (try go_bits)) <;> with_reducible rfl)); (try simp only [Act.put, List.getElem_toArray, List.getElem_cons_zero, List.getElem_cons_succ, List.setIfInBounds_toArray, List.set_cons_zero, List.set_cons_succ])) ))
  refine linX_do (v := .slice (some ⟨g, 0, none⟩) m c) (w' := W1) rfl rfl (by rfl) ?_ trivial ?_; (focus (simp [execOp, resolve, invoke, builtin, Act.eval, hap2, Result.andThen]; done))
  (try simp only [Act.put, List.getElem_toArray, List.getElem_cons_zero, List.getElem_cons_succ, List.setIfInBounds_toArray, List.set_cons_zero, List.set_cons_succ])
  (repeat (first | (refine linX_off rfl rfl (by rfl) ?_; (try simp only [Act.put, List.getElem_toArray, List.getElem_cons_zero, List.getElem_cons_succ, List.setIfInBounds_toArray, List.set_cons_zero, List.set_cons_succ])) | (refine linX_op (v := ?_) rfl rfl (by rfl) (fun w9 hS9 => ?_) ?_; rotate_left; (focus (((try dsimp only at hS9); go_simp; (try go_bits)) <;> with_reducible rfl)); (try simp only [Act.put, List.getElem_toArray, List.getElem_cons_zero, List.getElem_cons_succ, List.setIfInBounds_toArray, List.set_cons_zero, List.set_cons_succ])) ))
  refine linX_nil ?_
  clear hap hap2 hA
  go_wp2
  go_ret
  exact ⟨rfl, rfl⟩
theorem rodelete_any {w : World} {B g c i : Nat} {L : List Ro} (h : OwnRo w B (.slice (some ⟨g, 0, none⟩) L.length c) L) (hi : i < L.length) (hs : L.length ≤ 1000) (hB : B ≤ w.heap.size) :
    Calls Tryz.prog 33 #[.slice (some ⟨g, 0, none⟩) L.length c, .int .i64 (i : Int), .int .i64 ((i : Int) + 1)] w fun e w' => ∃ m, m = (L.eraseIdx i).length ∧ e = .returned (.slice (some ⟨g, 0, none⟩) m c) ∧ OwnRo w' B (.slice (some ⟨g, 0, none⟩) m c) (L.eraseIdx i) ∧ Kept [g] w w' := by
  rcases h.2 with ⟨h9, _⟩ | ⟨g', cap, cur, h9, hb, hg, hc, hm, hcs, ht⟩
  · cases h9
  · cases h9
    have hg1 : Blk w.drew g 50 cur := hg
    have hcells := roown_cells (w := w.drew) hg1 ht
    obtain ⟨i0, hi0, hz0, hz1, hz2⟩ := info_parts info_ro
    obtain ⟨A, hA, hsrc⟩ : ∃ A : Addr, (if c = i + 1 then (some ⟨g, 0, none⟩ : Option Addr) else some ⟨g, (i + 1) * 21, none⟩) = some A ∧ ∀ j u, (rocs (L.drop (i + 1)))[j]? = some u → w.drew.cell? (A.add j) = some u := by
      by_cases hci : c = i + 1
      · refine ⟨⟨g, 0, none⟩, if_pos hci, fun j u hj => ?_⟩
        rw [List.drop_eq_nil_of_le (by omega)] at hj
        simp [rocs] at hj
      · refine ⟨⟨g, (i + 1) * 21, none⟩, if_neg hci, fun j u hj => ?_⟩
        rw [Addr.add_lit]
        rw [← rocs_drop, List.getElem?_drop] at hj
        exact hcells _ _ hj
    have hpre : w.drew.ownsRow B 50 21 (.slice (some ⟨g, 0, none⟩) i c) i (rocs (L.take i)) := by
      refine ⟨by rw [rocs_len, List.length_take]; congr 1; omega, .inr ⟨g, c, cur, rfl, hb, hg, by omega, hm, hcs, ?_⟩⟩
      rw [← rocs_take, ← ht, List.take_take]
      congr 1
      omega
    obtain ⟨m, hmm⟩ : ∃ m, i + (L.length - (i + 1)) = m := ⟨_, rfl⟩
    have hel : L.eraseIdx i = L.take i ++ L.drop (i + 1) := List.eraseIdx_eq_take_drop_succ L i
    have hlen : (L.eraseIdx i).length = m := by rw [List.length_eraseIdx]; split <;> omega
    have hap : ∃ W1, (∀ ty : TypeId, (roappSem ty #[.slice (some ⟨g, 0, none⟩) i c, .slice (some A) (L.length - (i + 1)) (c - (i + 1))]).run Tryz.prog w.drew = .ok (.slice (some ⟨g, 0, none⟩) m c) W1) ∧ W1.ownsRow B 50 21 (.slice (some ⟨g, 0, none⟩) m c) m (rocs (L.eraseIdx i)) ∧ w.drew.grownBy W1 (some g) := by
      have hdl : (rocs (L.drop (i + 1))).length = (L.length - (i + 1)) * 21 := by rw [rocs_len, List.length_drop]
      obtain ⟨W1, q1, q2, q3⟩ := run_append_fits (P := Tryz.prog) w.drew B 22 22 50 i0 21 Tryz.underlying22 hi0 hz1 g i c (rocs (L.take i)) hpre A (L.length - (i + 1)) (c - (i + 1)) (rocs (L.drop (i + 1))) hdl hsrc (rocs_all _) (by omega)
      rw [hmm] at q1 q2
      refine ⟨W1, fun ty => ?_, ?_, q3⟩
      · exact q1
      · rw [hel, rocs_append]; exact q2
    obtain ⟨W1, hap, hown, hgr⟩ := hap
    have hown2 : OwnRo W1 B (.slice (some ⟨g, 0, none⟩) m c) (L.eraseIdx i) := by
      show W1.ownsRow B _ 21 _ (L.eraseIdx i).length _
      rw [hlen]; exact hown
    rcases hown.2 with ⟨h8, _⟩ | ⟨g2, cap2, cur2, h8, hb2, hg2, hc2, hm2, hcs2, ht2⟩
    · cases h8
    · cases h8
      obtain ⟨W2, hW2⟩ : ∃ W2, W1.setRow g (layC (m * 21) Ro.zero.cs.toList cur2.toList).toArray = W2 := ⟨_, rfl⟩
      have hz21 : Ro.zero.cs.toList.length = 21 := by simp [Ro.size]
      have hcl : ∀ ty : TypeId, (roclearSem ty #[.slice (some ⟨g, m * 21, none⟩) (L.length - m) (c - m)]).run Tryz.prog W1 = .ok (.tuple #[]) W2 := fun ty => by
        rw [← hW2]
        exact roclear_run ty _ (by omega) hg2 (by rw [hcs2]; omega)
      have hfin : OwnRo W2 B (.slice (some ⟨g, 0, none⟩) m c) (L.eraseIdx i) := by
        have hb3 : Blk W2 g 50 (layC (m * 21) Ro.zero.cs.toList cur2.toList).toArray := by rw [← hW2]; exact Blk.row (w := W1) hg2 _
        have hll : (layC (m * 21) Ro.zero.cs.toList cur2.toList).length = cur2.size := by rw [layC_len]; simp; rw [hz21]; simp [hcs2]; omega
        rw [← hlen]
        refine roown_of hb hb3 (by omega) hm (by rw [hll, hcs2]) ?_
        rw [hlen, ← ht2]
        unfold layC
        rw [List.append_assoc, List.take_append_of_le_length (by simp; omega), List.take_take, Nat.min_self]
      have hbel : Kept [g] w W2 := by
        rw [← hW2]
        exact (((Kept.refl [g] w).drew).grown hgr (fun k hk => by cases hk; exact .inl (by simp))).setRow (.inl (by simp)) _
      have hm63 : c ≤ 9223372036854775807 := by unfold maxLen at hm; omega
      refine (rodel_walk (m := m) (by omega) (by omega) (by omega) (by omega) hc hm63 (by omega) (by omega) (by omega) (by omega) (by omega) hA hap (by omega) (by omega) (by omega) (by omega) hcl).mono ?_
      rintro e w' ⟨rfl, rfl⟩
      exact ⟨m, hlen.symm, rfl, hfin, hbel⟩
end Go.Proofs.YtikdgbmdepplgaaGreatDoor
namespace Go.Proofs.YtikdgbmdepplgaaGreatDoor
open Go.RowKit Go.Shelf
set_option linter.unusedVariables false
set_option maxRecDepth 100000
theorem OwnRo.later {w w' : World} {B : Nat} {v : Value} {L : List Ro} (h : OwnRo w B v L) (k : Below w.heap.size w w') : OwnRo w' B v L := by
  refine ⟨h.1, ?_⟩
  rcases h.2 with h | ⟨g, cap, cur, h1, h2, h3, h4⟩
  · exact .inl h
  · exact .inr ⟨g, cap, cur, h1, h2, (k.block _ (Array.getElem?_eq_some_iff.1 h3).1).trans h3, h4⟩
theorem OwnRo.lt {w : World} {B g n c : Nat} {L : List Ro} (h : OwnRo w B (.slice (some ⟨g, 0, none⟩) n c) L) : B ≤ g ∧ g < w.heap.size ∧ n = L.length ∧ n ≤ c ∧ c ≤ maxLen ∧ Ros w g 0 L := by
  rcases h.2 with ⟨h9, _⟩ | ⟨g', cap, cur, h9, hb, hg, hc, hm, hcs, ht⟩
  · cases h9
  · cases h9
    have hlt := (Array.getElem?_eq_some_iff.1 hg).1
    refine ⟨hb, hlt, rfl, hc, hm, rorow_cells w g L 0 hlt fun k u hk => ?_⟩
    rw [Nat.zero_add]
    exact roown_cells hg ht k u hk
theorem rog_set {M : List Ro} {k i : Nat} {x : Ro} (hk : k < M.length) : rog (M.set k x) i = if i = k then x else rog M i := by
  unfold rog
  rw [List.getD_eq_getElem?_getD, List.getD_eq_getElem?_getD, List.getElem?_set]
  by_cases h : i = k
  · subst h; simp [hk]
  · rw [if_neg (fun e => h e.symm), if_neg h]
theorem roset_run {w : World} {B g n c k : Nat} {M : List Ro} {x : Ro} (h : OwnRo w B (.slice (some ⟨g, 0, none⟩) n c) M) (hk : k < n) :
    ∃ w', (storeSem 50 (.pointer (some ⟨g, k * 21, none⟩)) (.agg x.cs)).run Tryz.prog w = .ok () w' ∧ OwnRo w' B (.slice (some ⟨g, 0, none⟩) n c) (M.set k x) ∧ Below B w w' := by
  rcases h.2 with ⟨h9, _⟩ | ⟨g', cap, cur, h9, hb, hg, hc, hm, hcs, ht⟩
  · cases h9
  · cases h9
    have hsz : k * 21 + x.cs.size ≤ cur.size := by rw [Ro.size, hcs]; omega
    refine ⟨_, storeRes_of (P := Tryz.prog) (ty := 50) (o := k * 21) (vs := x.cs) hg hsz (s_ro x) x.one, ?_, below_setRow (Below.refl _ _) hb _⟩
    have hb3 := Blk.row (w := w) hg (over cur (k * 21) x.cs)
    have hls : (M.set k x).length = M.length := List.length_set ..
    rw [OwnRo, hls]
    refine ⟨by rw [rocs_len, hls], .inr ⟨g, c, over cur (k * 21) x.cs, rfl, hb, hb3, hc, hm, by rw [size_over hsz]; exact hcs, ?_⟩⟩
    refine List.ext_getElem? fun j => ?_
    by_cases hj : j < M.length * 21
    · rw [List.getElem?_take, if_pos hj, Array.getElem?_toList, over_get hsz, Ro.size]
      have h2 := rocs_get (M.set k x) (i := j / 21) (j := j % 21) (by rw [hls]; omega) (by omega)
      rw [show j / 21 * 21 + j % 21 = j by omega, rog_set hk] at h2
      rw [h2]
      have h3 := rocs_get M (i := j / 21) (j := j % 21) (by omega) (by omega)
      rw [show j / 21 * 21 + j % 21 = j by omega, ← ht, List.getElem?_take, if_pos hj, Array.getElem?_toList] at h3
      by_cases e : j / 21 = k
      · rw [if_neg (by omega), if_pos (by omega), if_pos e]
        congr 1
        omega
      · rw [if_neg e]
        by_cases e2 : j < k * 21
        · rw [if_pos e2]; exact h3
        · rw [if_neg e2, if_neg (by omega)]; exact h3
    · rw [List.getElem?_eq_none (by rw [List.length_take]; omega), List.getElem?_eq_none (by rw [rocs_len, hls]; omega)]
theorem roclearN_run {w : World} {g o k : Nat} {cur : Array Value} (cc : Nat) (hk0 : 0 < k) (hg : Blk w g 50 cur) (hcur : o + k * 21 ≤ cur.size) :
    ∃ cur' : Array Value, (∀ ty : TypeId, (roclearSem ty #[.slice (some ⟨g, o, none⟩) k cc]).run Tryz.prog w = .ok (.tuple #[]) (w.setRow g cur')) ∧ cur'.size = cur.size ∧ cur'.toList.take o = cur.toList.take o := by
  obtain ⟨k, rfl⟩ : ∃ q, k = q + 1 := ⟨k - 1, by omega⟩
  obtain ⟨vs, hvs⟩ : ∃ vs, (Builtin.zeroCells (Value.agg Ro.zero.cs).cells (k + 1)).toList = vs := ⟨_, rfl⟩
  have hl : vs.length = (k + 1) * 21 := by
    rw [← hvs, Array.length_toList, size_zeroCells]
    show (k + 1) * Ro.zero.cs.size = _
    rw [Ro.size]
  have hone : ∀ v ∈ vs, v.oneCell' = true := by
    intro v hv
    rw [← hvs] at hv
    have h1 := Ro.zero.one
    rw [Array.all_eq_true_iff_forall_mem] at h1
    unfold Builtin.zeroCells at hv
    simp only [Array.toList_map, List.mem_map] at hv
    obtain ⟨i, _, rfl⟩ := hv
    have hz : i % (Value.agg Ro.zero.cs).cells.size < Ro.zero.cs.size := by
      show i % Ro.zero.cs.size < Ro.zero.cs.size
      rw [Ro.size]; omega
    show (Ro.zero.cs[i % (Value.agg Ro.zero.cs).cells.size]!).oneCell' = true
    rw [getElem!_pos Ro.zero.cs _ hz]
    exact h1 _ (Array.getElem_mem hz)
  have hst := run_storeCells_at Tryz.prog g o 50 vs 0 cur w hg (by omega) hone
  have hz := (zero_of_info z_ro).1 w
  rw [Nat.add_zero] at hst
  refine ⟨(cur.toList.take o ++ vs ++ cur.toList.drop (o + vs.length)).toArray, ?_, ?_, ?_⟩
  · intro ty
    unfold roclearSem
    simp [Builtin.clear_, run_underlying Tryz.underlying22, hz, hvs, hst]
  · simp [hl]; omega
  · simp only [List.append_assoc]
    rw [List.take_append_of_le_length (by simp; omega), List.take_take, Nat.min_self]

theorem roclear_own {w : World} {B g n c m : Nat} {M : List Ro} (h : OwnRo w B (.slice (some ⟨g, 0, none⟩) n c) M) (hm : m < n) :
    ∃ w', (∀ ty : TypeId, (roclearSem ty #[.slice (some ⟨g, m * 21, none⟩) (n - m) (c - m)]).run Tryz.prog w = .ok (.tuple #[]) w') ∧ OwnRo w' B (.slice (some ⟨g, 0, none⟩) m c) (M.take m) ∧ Below B w w' := by
  rcases h.2 with ⟨h9, _⟩ | ⟨g', cap, cur, h9, hb, hg, hc, hcm, hcs, ht⟩
  · cases h9
  · cases h9
    obtain ⟨cur', h1, h2, h3⟩ := roclearN_run (w := w) (g := g) (o := m * 21) (k := M.length - m) (c - m) (by omega) hg (by rw [hcs, ← Nat.add_mul]; exact Nat.mul_le_mul_right 21 (by omega))
    refine ⟨_, h1, ?_, below_setRow (Below.refl _ _) hb _⟩
    have hl : (M.take m).length = m := by rw [List.length_take]; omega
    have h4 := roown_of (cur := cur'.toList) (L := M.take m) hb (by simpa using Blk.row (w := w) hg cur') (by omega) hcm (by simpa using h2.trans hcs) (by rw [hl, h3, ← rocs_take, ← ht, List.take_take, Nat.min_eq_left (Nat.mul_le_mul_right 21 (by omega))])
    rwa [hl] at h4

/-! ### The first one of each run -/
noncomputable def fstN (L : List Ro) : Nat → List Ro
  | 0 => []
  | m + 1 => open Classical in if m = 0 ∨ (rog L m).p ≠ (rog L (m - 1)).p then fstN L m ++ [rog L m] else fstN L m
theorem fstN_new {L : List Ro} {m : Nat} (h : m = 0 ∨ (rog L m).p ≠ (rog L (m - 1)).p) : fstN L (m + 1) = fstN L m ++ [rog L m] := by rw [fstN, if_pos h]
theorem fstN_old {L : List Ro} {m : Nat} (h : m ≠ 0) (k : (rog L m).p = (rog L (m - 1)).p) : fstN L (m + 1) = fstN L m := by rw [fstN, if_neg (by rintro (h1 | h1); exact h h1; exact h1 k)]
theorem fstN_le (L : List Ro) : ∀ m, (fstN L m).length ≤ m
  | 0 => Nat.le_refl _
  | m + 1 => by
    have := fstN_le L m
    by_cases h : m = 0 ∨ (rog L m).p ≠ (rog L (m - 1)).p
    · rw [fstN_new h, List.length_append]; simp; omega
    · rw [fstN, if_neg h]; omega
theorem fstN_all {L : List Ro} : ∀ m, m ≤ L.length → (∀ j, 0 < j → j < m → (rog L j).p ≠ (rog L (j - 1)).p) → fstN L m = L.take m
  | 0, _, _ => rfl
  | m + 1, hm, h => by
    rw [fstN_new (by by_cases e : m = 0; exact .inl e; exact .inr (h m (by omega) (by omega))), fstN_all m (by omega) (fun j h1 h2 => h j h1 (by omega)), rog_get (by omega)]
    exact (List.take_succ_eq_append_getElem (by omega)).symm
/-- The first one of each run of one prefix. -/
noncomputable def fstL (L : List Ro) : List Ro := fstN L L.length
end Go.Proofs.YtikdgbmdepplgaaGreatDoor
