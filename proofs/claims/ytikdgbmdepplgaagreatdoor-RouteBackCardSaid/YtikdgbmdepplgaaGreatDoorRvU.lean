/-
  The contracts of the reader's prefix, flag, route and update. Nothing here is a statement of the document.
-/
import Derived.Test.YtikdgbmdepplgaaGreatDoorRvS
import Derived.Test.YtikdgbmdepplgaaGreatDoorRvD
import Derived.Test.YtikdgbmdepplgaaGreatDoorRtB
import Derived.Test.YtikdgbmdepplgaaGreatDoorRtV
import Derived.Test.YtikdgbmdepplgaaGreatDoorPfxM
import Derived.Test.YtikdgbmdepplgaaGreatDoorPfxV
import Derived.WalkLawsBesides
namespace Go.Proofs.YtikdgbmdepplgaaGreatDoor
open Go.RowKit Go.Shelf
set_option linter.unusedVariables false
theorem takeN_back {T : Type} {one : List Nat → Int × T × List Nat} {enc : T → List Nat} {wr : Int} : ∀ (L A : List T), (∀ x ∈ L, ∀ R, one (enc x ++ R) = (0, x, R)) → takeN one wr L.length (L.flatMap enc) A = (0, A ++ L)
  | [], A, _ => by simp [takeN]
  | x :: L, A, h => by
    have h1 := h x (by simp) (L.flatMap enc)
    rw [List.length_cons, List.flatMap_cons, takeN, h1, if_pos rfl, takeN_back L (A ++ [x]) (fun y hy => h y (by simp [hy]))]
    simp
theorem takeN_cut {T : Type} {one : List Nat → Int × T × List Nat} {enc : T → List Nat} {wr : Int} : ∀ (L A : List T) (j : Nat), (∀ x ∈ L, ∀ R, one (enc x ++ R) = (0, x, R)) → (∀ x ∈ L, ∀ j, j < (enc x).length → (one ((enc x).take j)).1 = 7) → j < (L.flatMap enc).length → takeN one wr L.length ((L.flatMap enc).take j) A = (7, [])
  | [], A, j, _, _, hj => by simp at hj
  | x :: L, A, j, h, hc, hj => by
    rw [List.flatMap_cons] at hj ⊢
    by_cases hl : j < (enc x).length
    · have h1 := hc x (by simp) j hl
      rw [List.take_append_of_le_length (by omega), List.length_cons, takeN, h1, if_neg (by decide)]
    · obtain ⟨i, rfl⟩ : ∃ i, j = (enc x).length + i := ⟨j - (enc x).length, by omega⟩
      have e : (enc x ++ L.flatMap enc).take ((enc x).length + i) = enc x ++ (L.flatMap enc).take i := by
        rw [List.take_append, List.take_of_length_le (by omega), Nat.add_sub_cancel_left]
      rw [e, List.length_cons, takeN, h x (by simp), if_pos rfl]
      exact takeN_cut L (A ++ [x]) i (fun y hy => h y (by simp [hy])) (fun y hy => hc y (by simp [hy])) (by rw [List.length_append] at hj; omega)
theorem ro_one {x : Ro} (h : okRo x) (R : List Nat) : roR (roB x ++ R) = (0, x, R) := by
  obtain ⟨hp, hs, hf, hh⟩ := okRo_b h
  have e : roB x ++ R = encP x.p ++ (roT x ++ R) := by unfold roB; rw [List.append_assoc]
  obtain ⟨h1, h2, h3⟩ := dec_enc hp (roT x ++ R)
  unfold roR
  rw [e, h1, if_pos rfl, h2, h3, List.drop_left]
  show (0, Ro.mk x.p (x.s.toNat : Int) (x.f.toNat : Int) (x.h.toNat : Int), R) = _
  rw [Int.toNat_of_nonneg hs.1, Int.toNat_of_nonneg hf.1, Int.toNat_of_nonneg hh.1]
theorem up_one {x : Up} (h : okUp x) (R : List Nat) : upR (upB x ++ R) = (0, x, R) := by
  obtain ⟨hp, hs, hf, hh⟩ := okUp_b h
  have e : upB x ++ R = encP x.p ++ (upT x ++ R) := by unfold upB; rw [List.append_assoc]
  obtain ⟨h1, h2, h3⟩ := dec_enc hp (upT x ++ R)
  have hg : ¬ 1 < g01 x.g ∧ decide (g01 x.g = 1) = x.g := by cases x.g <;> exact ⟨by decide, rfl⟩
  unfold upR
  rw [e, h1, if_pos rfl, h2, h3, List.drop_left]
  show (if 1 < g01 x.g then _ else ((0 : Int), Up.mk x.p (x.s.toNat : Int) (decide (g01 x.g = 1)) (x.f.toNat : Int) (x.h.toNat : Int), R)) = _
  rw [if_neg hg.1, hg.2, Int.toNat_of_nonneg hs.1, Int.toNat_of_nonneg hf.1, Int.toNat_of_nonneg hh.1]
theorem ro_cut {x : Ro} (h : okRo x) (j : Nat) (hj : j < (roB x).length) : (roR ((roB x).take j)).1 = 7 := by
  have hp := (okRo_b h).1
  unfold roB at hj ⊢
  by_cases hl : j < (encP x.p).length
  · have h1 := dec_short hp j hl
    unfold roR
    rw [List.take_append_of_le_length (by omega), h1, if_neg (by decide), if_pos rfl]
  · obtain ⟨i, rfl⟩ : ∃ i, j = (encP x.p).length + i := ⟨j - (encP x.p).length, by omega⟩
    obtain ⟨h1, h2, h3⟩ := dec_enc hp ((roT x).take i)
    have hi : i < 3 := by rw [List.length_append] at hj; unfold roT at hj; simp at hj; omega
    unfold roR
    rw [List.take_append, List.take_of_length_le (by omega), Nat.add_sub_cancel_left, h1, if_pos rfl, h3, List.drop_left]
    rcases (show i = 0 ∨ i = 1 ∨ i = 2 by omega) with rfl | rfl | rfl <;> rfl
theorem up_cut {x : Up} (h : okUp x) (j : Nat) (hj : j < (upB x).length) : (upR ((upB x).take j)).1 = 7 := by
  have hp := (okUp_b h).1
  unfold upB at hj ⊢
  by_cases hl : j < (encP x.p).length
  · have h1 := dec_short hp j hl
    unfold upR
    rw [List.take_append_of_le_length (by omega), h1, if_neg (by decide), if_pos rfl]
  · obtain ⟨i, rfl⟩ : ∃ i, j = (encP x.p).length + i := ⟨j - (encP x.p).length, by omega⟩
    obtain ⟨h1, h2, h3⟩ := dec_enc hp ((upT x).take i)
    have hi : i < 4 := by rw [List.length_append] at hj; unfold upT at hj; simp at hj; omega
    have hg : ¬ 1 < g01 x.g := by cases x.g <;> decide
    unfold upR
    rw [List.take_append, List.take_of_length_le (by omega), Nat.add_sub_cancel_left, h1, if_pos rfl, h3, List.drop_left]
    rcases (show i = 0 ∨ i = 1 ∨ i = 2 ∨ i = 3 by omega) with rfl | rfl | rfl | rfl
    · rfl
    · rfl
    · show (up4 _ [x.s.toNat, g01 x.g]).1 = 7
      simp [up4, hg]
    · show (up4 _ [x.s.toNat, g01 x.g, x.f.toNat]).1 = 7
      simp [up4, hg]
/-- What was encoded is decoded as it was. -/
theorem rib_back {L : List Ro} (h : okRib L) (hr : ∀ x ∈ L, okRo x) : decRo (ribB L) = (0, L) := by
  have e : takeA roR 211 (ribB L) = (0, L) := by
    unfold ribB rosB
    rw [takeA, takeN_back L [] (fun x hx R => ro_one (hr x hx) R), List.nil_append]
  unfold decRo
  rw [e, if_pos rfl, if_pos h]
theorem bat_back {L : List Up} (h : okBat L) (hr : ∀ x ∈ L, okUp x) : decUp (batB L) = (0, L) := by
  have e : takeA upR 210 (batB L) = (0, L) := by
    unfold batB upsB
    rw [takeA, takeN_back L [] (fun x hx R => up_one (hr x hx) R), List.nil_append]
  unfold decUp
  rw [e, if_pos rfl, if_pos h]
/-- Of a beginning that is not all of it. -/
theorem rib_cut {L : List Ro} (hr : ∀ x ∈ L, okRo x) (k : Nat) (hk : k < (ribB L).length) : (decRo ((ribB L).take k)).1 = 7 := by
  have e : takeA roR 211 ((ribB L).take k) = (7, []) := by
    unfold ribB rosB at hk ⊢
    cases k with
    | zero => rfl
    | succ k =>
      rw [List.take_succ_cons, takeA]
      exact takeN_cut L [] k (fun x hx R => ro_one (hr x hx) R) (fun x hx j hj => ro_cut (hr x hx) j hj) (by simpa using hk)
  unfold decRo
  rw [e, if_neg (by decide)]
theorem bat_cut {L : List Up} (hr : ∀ x ∈ L, okUp x) (k : Nat) (hk : k < (batB L).length) : (decUp ((batB L).take k)).1 = 7 := by
  have e : takeA upR 210 ((batB L).take k) = (7, []) := by
    unfold batB upsB at hk ⊢
    cases k with
    | zero => rfl
    | succ k =>
      rw [List.take_succ_cons, takeA]
      exact takeN_cut L [] k (fun x hx R => up_one (hr x hx) R) (fun x hx j hj => up_cut (hr x hx) j hj) (by simpa using hk)
  unfold decUp
  rw [e, if_neg (by decide)]
end Go.Proofs.YtikdgbmdepplgaaGreatDoor
namespace Go.Proofs.YtikdgbmdepplgaaGreatDoor
open Go.RowKit Go.Shelf
set_option linter.unusedVariables false
/-- The update that takes back what one said. -/
def und (u : Up) : Up := ⟨u.p, u.s, true, 0, 0⟩
theorem spk_und {u : Up} {x : Ro} : spk (und u) x ↔ spk u x := Iff.rfl
theorem spk_said (u : Up) : spk u (said u) := ⟨rfl, rfl⟩
theorem run_free : ∀ (U : List Up) (L : List Ro), Up2 L → (∀ u ∈ U, u.g = false) → (∀ u ∈ U, ∀ x ∈ L, ¬ spk u x) → U.Pairwise (fun u v => ¬ spk v (said u)) → ∃ E, runI L U = some E ∧ Up2 E ∧ ∀ x, x ∈ E ↔ x ∈ L ∨ ∃ u ∈ U, x = said u
  | [], L, h, _, _, _ => ⟨L, rfl, h, fun x => by simp⟩
  | u :: U, L, h, hg, hf, hp => by
    obtain ⟨q1, q2⟩ := insR_spec h u
    have hu := hg u (by simp)
    have hm : ∀ x, x ∈ insR L u ↔ x ∈ L ∨ x = said u := fun x => by
      rw [q2]
      constructor
      · rintro (k | k)
        · exact .inl k.1
        · exact .inr k.2
      · rintro (k | k)
        · exact .inl ⟨k, hf u (by simp) x k⟩
        · exact .inr ⟨hu, k⟩
    have hp2 := List.pairwise_cons.1 hp
    obtain ⟨E, e1, e2, e3⟩ := run_free U (insR L u) q1 (fun v hv => hg v (by simp [hv])) (fun v hv x hx => by
      rcases (hm x).1 hx with k | rfl
      · exact hf v (by simp [hv]) x k
      · exact hp2.1 v hv) hp2.2
    refine ⟨E, ?_, e2, fun x => ?_⟩
    · rw [runI, if_neg (fun k => by rw [hu] at k; cases k.1)]; exact e1
    · rw [e3, hm]
      simp only [List.mem_cons, exists_eq_or_imp, or_assoc]
theorem run_und : ∀ (U : List Up) (N : List Ro), Up2 N → (∀ u ∈ U, ∃ x ∈ N, spk u x) → U.Pairwise (fun u v => ¬ spk v (said u)) → ∃ F, runI N (U.map und) = some F ∧ Up2 F ∧ ∀ x, x ∈ F ↔ x ∈ N ∧ ∀ u ∈ U, ¬ spk u x
  | [], N, h, _, _ => ⟨N, rfl, h, fun x => by simp⟩
  | u :: U, N, h, hs, hp => by
    obtain ⟨q1, q2⟩ := insR_spec h (und u)
    have hm : ∀ x, x ∈ insR N (und u) ↔ x ∈ N ∧ ¬ spk u x := fun x => by
      rw [q2]
      constructor
      · rintro (k | k)
        · exact k
        · cases k.1
      · exact fun k => .inl k
    have hp2 := List.pairwise_cons.1 hp
    have hh : hadL N (und u) = true := by
      obtain ⟨x, hx, hsx⟩ := hs u (by simp)
      obtain ⟨j, hj, rfl⟩ := List.getElem_of_mem hx
      exact (had_iff N (und u) N.length).2 ⟨j, hj, by rw [rog_get hj]; exact hsx⟩
    obtain ⟨F, e1, e2, e3⟩ := run_und U (insR N (und u)) q1 (fun v hv => by
      obtain ⟨x, hx, hsx⟩ := hs v (by simp [hv])
      refine ⟨x, (hm x).2 ⟨hx, fun k => hp2.1 v hv ?_⟩, hsx⟩
      exact ⟨hsx.1.trans k.1.symm, hsx.2.trans k.2.symm⟩) hp2.2
    refine ⟨F, ?_, e2, fun x => ?_⟩
    · rw [List.map_cons, runI, if_neg (fun k => by rw [hh] at k; cases k.2)]; exact e1
    · rw [e3, hm]
      simp only [List.mem_cons, forall_eq_or_imp, and_assoc]
theorem bat_pair {U : List Up} (h : okBat U) : U.Pairwise (fun u v => ¬ spk v (said u)) := by
  rw [List.pairwise_iff_getElem]
  intro i j hi hj hij
  have := h.2.2 j hj i hij
  rwa [upg_get hi, upg_get hj] at this
theorem okBat_und {U : List Up} (h : okBat U) (hg : ∀ u ∈ U, u.g = false) : okBat (U.map und) := by
  refine ⟨by simpa using h.1, fun j hj => ?_, fun j hj i hi => ?_⟩
  · have hj2 : j < U.length := by simpa using hj
    have h1 := h.2.1 j hj2
    rw [upg_get hj2] at h1
    unfold okUp at h1
    rw [if_neg (by rw [hg _ (List.getElem_mem hj2)]; decide)] at h1
    rw [upg_get hj, List.getElem_map]
    unfold okUp
    rw [if_pos (show (und U[j]).g = true from rfl)]
    exact ⟨h1.1, h1.2.1, rfl, rfl⟩
  · have hj2 : j < U.length := by simpa using hj
    have h1 := h.2.2 j hj2 i hi
    rw [upg_get hj2, upg_get (show i < U.length by omega)] at h1
    rw [upg_get hj, upg_get (show i < (U.map und).length by simp; omega), List.getElem_map, List.getElem_map]
    exact h1
/-- What was said, taken back: the RIB is as it was. -/
theorem rib_undo {L S M : List Ro} {U : List Up} {f : Int} (h1 : AppR L U S 0) (hg : ∀ u ∈ U, u.g = false) (hf : ∀ u ∈ U, ∀ x ∈ L, ¬ spk u x) (h2 : AppR S (U.map und) M f) : f = 0 ∧ M = L := by
  obtain ⟨hL, hU, D, hD, hS, h40⟩ : okRib L ∧ okBat U ∧ ∃ D, runU L U = some D ∧ Sorted cmpR D S ∧ (fstL S).length ≤ 40 := by
    cases h1 with
    | good a b c d e => exact ⟨a, b, _, c, d, e⟩
  obtain ⟨E, e1, e2, e3⟩ := run_free U L hL.2.1 hg hf (bat_pair hU)
  obtain ⟨E', k1, k2⟩ := (run_same U (alike_self hL.2.1)).2 _ hD
  rw [e1] at k1
  obtain rfl := Option.some.inj k1
  obtain rfl := alike_sorted k2 hS
  have hUn := okBat_und hU hg
  have hSo : okRib S := by
    refine ⟨fun j hj => ?_, e2, h40⟩
    rcases (e3 _).1 (rog_mem hj) with k | ⟨u, hu, k⟩
    · obtain ⟨i, hi, he⟩ := List.getElem_of_mem k
      have := hL.1 i hi
      rw [rog_get hi, he] at this
      exact this
    · obtain ⟨i, hi, he⟩ := List.getElem_of_mem hu
      have h3 := hU.2.1 i hi
      rw [upg_get hi, he] at h3
      unfold okUp at h3
      rw [if_neg (by rw [hg u hu]; decide)] at h3
      rw [k]
      exact h3
  obtain ⟨F, f1, f2, f3⟩ := run_und U S e2 (fun u hu => ⟨said u, (e3 _).2 (.inr ⟨u, hu, rfl⟩), spk_said u⟩) (bat_pair hU)
  have hFL : F = L := by
    refine rise_ro (Up2.pair.1 f2) (Up2.pair.1 hL.2.1) fun x => ?_
    rw [f3, e3]
    constructor
    · rintro ⟨k | ⟨u, hu, rfl⟩, h9⟩
      · exact k
      · exact absurd (spk_said u) (h9 u hu)
    · exact fun k => ⟨.inl k, fun u hu => hf u hu x k⟩
  subst hFL
  have hr := run_same (U.map und) (alike_self e2)
  cases h2 with
  | rib a => exact absurd hSo a
  | bat _ b => exact absurd hUn b
  | gone _ _ c => rw [hr.1.1 c] at f1; cases f1
  | full _ _ c d e =>
    obtain ⟨G, g1, g2⟩ := hr.2 _ c
    rw [f1] at g1
    obtain rfl := Option.some.inj g1
    obtain rfl := alike_sorted g2 d
    exact absurd hL.2.2 e
  | good _ _ c d e =>
    obtain ⟨G, g1, g2⟩ := hr.2 _ c
    rw [f1] at g1
    obtain rfl := Option.some.inj g1
    obtain rfl := alike_sorted g2 d
    exact ⟨rfl, rfl⟩
end Go.Proofs.YtikdgbmdepplgaaGreatDoor
namespace Go.Proofs.YtikdgbmdepplgaaGreatDoor
open Go.RowKit Go.Shelf
set_option linter.unusedVariables false
set_option maxRecDepth 100000
/-- What leaves a reader. -/
def flt (c : Int) : List PanicEntry := [{ v := .iface 91 (.int .i64 c), recovered := false }]
/-- Block r is a reader with these bytes to come, in block g. -/
structure RdAt (w : World) (r g : Nat) (R : List Nat) (wr : Int) : Prop where
  st : ∃ a c, Blk w r 93 #[.slice a R.length c, .int .i64 wr] ∧ Lies w a R ∧ (R = [] ∨ ∃ o, a = some ⟨g, o, none⟩) ∧ R.length ≤ c ∧ c ≤ maxLen
theorem RdAt.lt {w : World} {r g : Nat} {R : List Nat} {wr : Int} (h : RdAt w r g R wr) : r < w.heap.size := by
  obtain ⟨a, c, h1, _⟩ := h.st
  exact h1.lt
theorem RdAt.later {w w' : World} {r g : Nat} {R : List Nat} {wr : Int} (h : RdAt w r g R wr) (k : Below w.heap.size w w') : RdAt w' r g R wr := by
  obtain ⟨a, c, h1, h2, h3⟩ := h.st
  exact ⟨a, c, h1.later k, h2.kept k, h3⟩
theorem kept_trans {S : List Nat} {a b c : World} (h : Kept S a b) (k : Kept S b c) : Kept S a c :=
  ⟨k.os.trans h.os, k.tape.trans h.tape, k.output.trans h.output, Nat.le_trans h.size k.size, fun i hi hn => (k.block i (Nat.lt_of_lt_of_le hi h.size) hn).trans (h.block i hi hn)⟩
theorem kept_below {S : List Nat} {a b : World} (h : Below a.heap.size a b) : Kept S a b := kept_step (Kept.refl S a) h
/-- Bytes lie in no reader. -/
theorem Lies.off {w : World} {a x : Option Addr} {n c r : Nat} {wr : Int} {R : List Nat} (h : Lies w a R) (b : Blk w r 93 #[.slice x n c, .int .i64 wr]) : R = [] ∨ ∀ y, a = some y → y.block ≠ r := by
  rcases h with h | ⟨g, o, h1, h2, h3⟩
  · exact .inl h
  · by_cases hL : R.length = 0
    · exact .inl (List.eq_nil_of_length_eq_zero hL)
    · refine .inr fun y hy e => ?_
      rw [h1] at hy
      injection hy with hy
      subst hy
      have e2 : g = r := e
      subst e2
      have h4 := h3 0 (by omega)
      have h5 := b.cell (o + 0)
      rw [h4] at h5
      rcases o with _ | _ | o
      · simp at h5
      · simp at h5
      · simp at h5
theorem Lies.set {w : World} {a : Option Addr} {r : Nat} {R : List Nat} (h : Lies w a R) (k : R = [] ∨ ∀ y, a = some y → y.block ≠ r) (i : Nat) (v : Value) : Lies (w.setCell ⟨r, i, none⟩ v) a R := by
  rcases k with k | k
  · exact .inl k
  · rcases h with h | ⟨g, o, h1, h2, h3⟩
    · exact .inl h
    · have kk : Kept [r] w (w.setCell ⟨r, i, none⟩ v) := (Kept.refl [r] w).setCell (p := ⟨r, i, none⟩) (.inl (by simp)) _
      exact .inr ⟨g, o, h1, Nat.lt_of_lt_of_le h2 kk.size, fun j hj => (World.cell?_of_block (w := w) (kk.block g h2 (by have := k _ h1; simpa using this))).trans (h3 j hj)⟩
/-- A block besides is set: a reader says what it said. -/
theorem RdAt.row9 {w : World} {r g G : Nat} {R : List Nat} {wr : Int} (h : RdAt w r g R wr) (hr : r ≠ G) (hg : R = [] ∨ g ≠ G) (V : Array Value) : RdAt (w.setRow G V) r g R wr := by
  obtain ⟨a, c, h1, h2, h3, h4⟩ := h.st
  have k : Kept [G] w (w.setRow G V) := (Kept.refl [G] w).setRow (.inl (by simp)) _
  refine ⟨a, c, h1.kept k (by simp; exact hr), ?_, h3, h4⟩
  rcases h2 with h2 | ⟨g', o, e1, e2, e3⟩
  · exact .inl h2
  · rcases hg with hg | hg
    · exact .inl hg
    · rcases h3 with h3 | ⟨o', h3⟩
      · exact .inl h3
      · rw [h3] at e1
        cases e1
        exact .inr ⟨g, o, h3, Nat.lt_of_lt_of_le e2 k.size, fun j hj => (World.cell?_of_block (w := w) (k.block g e2 (by simp; exact hg))).trans (e3 j hj)⟩
/-- The bytes to come are fewer. -/
theorem RdAt.step {w : World} {r g : Nat} {R : List Nat} {wr : Int} {a : Option Addr} {n c : Nat} (hb : Blk w r 93 #[.slice a n c, .int .i64 wr]) {a' : Option Addr} {c' : Nat} (hL : Lies w a' R) (hg : R = [] ∨ ∃ o, a' = some ⟨g, o, none⟩) (hc : R.length ≤ c') (hm : c' ≤ maxLen) :
    RdAt (w.setCell ⟨r, 0, none⟩ (.slice a' R.length c')) r g R wr ∧ Kept [r] w (w.setCell ⟨r, 0, none⟩ (.slice a' R.length c')) := by
  refine ⟨⟨a', c', ?_, hL.set (hL.off hb) 0 _, hg, hc, hm⟩, (Kept.refl [r] w).setCell (p := ⟨r, 0, none⟩) (.inl (by simp)) _⟩
  have := hb.set 0 (.slice a' R.length c')
  simpa using this
theorem Lies.tail {w : World} {g o x : Nat} {R : List Nat} (h : Lies w (some ⟨g, o, none⟩) (x :: R)) : Lies w (some ⟨g, o + 1, none⟩) R ∧ w.cell? ⟨g, o, none⟩ = some (.int .u8 (x : Int)) := by
  rcases h with h | ⟨g', o', h1, h2, h3⟩
  · cases h
  · cases h1
    refine ⟨.inr ⟨g, o + 1, rfl, h2, fun i hi => ?_⟩, by simpa using h3 0 (by simp)⟩
    have := h3 (i + 1) (by simp; omega)
    rw [show o + (i + 1) = o + 1 + i by omega] at this
    simpa using this
theorem wrap_b256 {x : Nat} (h : x < 256) : wrap64 (x : Int) = (x : Int) := by unfold wrap64; omega
set_option maxHeartbeats 1600000 in
theorem rnum_any {w : World} {r g0 x : Nat} {R : List Nat} {wr : Int} (h : RdAt w r g0 (x :: R) wr) (hx : x < 256) (hl : R.length ≤ 10000) :
    Calls Tryz.prog 43 #[.pointer (some ⟨r, 0, none⟩)] w fun e w' => e = .returned (.int .i64 (x : Int)) ∧ RdAt w' r g0 R wr ∧ Kept [r] w w' := by
  obtain ⟨a, c, hb, hL, hg, hc, hm⟩ := h.st
  obtain ⟨o, rfl⟩ : ∃ o, a = some ⟨g0, o, none⟩ := by
    rcases hg with hg | hg
    · cases hg
    · exact hg
  obtain ⟨hT, hcx⟩ := hL.tail
  have C0 : w.cell? ⟨r, 0, none⟩ = some (.slice (some ⟨g0, o, none⟩) (R.length + 1) c) := hb.cell 0
  have F0 := hb.free 0
  have wx := wrap_b256 hx
  have hcl : R.length + 1 ≤ c := by simpa using hc
  by_cases h1 : c = 1
  · subst h1
    have hR : R = [] := List.eq_nil_of_length_eq_zero (by omega)
    subst hR
    have hst := RdAt.step (g := g0) (R := []) hb (a' := some ⟨g0, o, none⟩) (.inl rfl) (.inl rfl) (c' := 0) (by simp) (by unfold maxLen; omega)
    have HS := Lib.hid hst
    clear hst hT hb hL h hc hx hg hm hl hcl
    simp only [List.length_nil, Nat.zero_add] at C0
    go_enter Tryz.func43, Tryz.ntmps43
    go_wp2
    go_ret
    exact ⟨by first | rfl | simp [wx], HS.out⟩
  · have hst := RdAt.step (g := g0) hb hT (.inr ⟨_, rfl⟩) (c' := c - 1) (by omega) (by omega)
    have HS := Lib.hid hst
    clear hst hT hb hL h hc hx hg
    go_enter Tryz.func43, Tryz.ntmps43
    go_wp2
    go_ret
    exact ⟨by first | rfl | simp [wx], HS.out⟩
theorem rnum_short {w : World} {r g : Nat} {wr : Int} (h : RdAt w r g [] wr) :
    Calls Tryz.prog 43 #[.pointer (some ⟨r, 0, none⟩)] w fun e w' => e = .panicked (flt 7) ∧ w = w' := by
  obtain ⟨a, c, hb, hL, hg, hc, hm⟩ := h.st
  have C0 : w.cell? ⟨r, 0, none⟩ = some (.slice a 0 c) := hb.cell 0
  clear hb hL h hc hg
  go_enter Tryz.func43, Tryz.ntmps43
  go_wp2
  exact ⟨rfl, rfl, rfl⟩
end Go.Proofs.YtikdgbmdepplgaaGreatDoor
namespace Go.Proofs.YtikdgbmdepplgaaGreatDoor
open Go.RowKit Go.Shelf
set_option linter.unusedVariables false
set_option maxRecDepth 100000
theorem Lies.dropN {w : World} {g o : Nat} {R : List Nat} (h : Lies w (some ⟨g, o, none⟩) R) (n : Nat) : Lies w (some ⟨g, o + n, none⟩) (R.drop n) := by
  rcases h with h | ⟨g', o', h1, h2, h3⟩
  · left; rw [h]; simp
  · cases h1
    refine .inr ⟨g, o + n, rfl, h2, fun i hi => ?_⟩
    have hi2 : n + i < R.length := by simp at hi; omega
    have := h3 (n + i) hi2
    rw [Nat.add_assoc, this]
    simp
theorem Bys.drop8 {L : List Nat} (h : Bys L) (n : Nat) : Bys (L.drop n) := fun x hx => h x (List.mem_of_mem_drop hx)
theorem px_box9 (w : World) (q : Px) : ∃ W, (storeSem 46 (.pointer (some ⟨w.heap.size, 0, none⟩)) (.agg q.cs)).run Tryz.prog (w.alloc (.cells Px.zero.cs 46)) = .ok () W ∧ Blk W w.heap.size 46 q.cs ∧ Below w.heap.size w W := by
  have hb := Blk.new w 46 Px.zero.cs
  have := storeRes_of (P := Tryz.prog) (ty := 46) (o := 0) (vs := q.cs) hb (by rw [Px.size, Px.size]; omega) (s_px q) q.one
  rw [over_all (by rw [Px.size, Px.size])] at this
  exact ⟨_, this, Blk.row hb _, below_setRow ((Below.refl _ _).alloc (Nat.le_refl _) _) (Nat.le_refl _) _⟩
theorem st_pxz {w : World} {g : Nat} {q r : Px} (hb : Blk w g 46 r.cs) : (storeSem 46 (.pointer (some ⟨g, 0, none⟩)) (.agg q.cs)).run Tryz.prog w = .ok () (w.setRow g q.cs) := by
  have := storeRes_of (P := Tryz.prog) (ty := 46) (o := 0) (vs := q.cs) hb (by rw [Px.size, Px.size]; omega) (s_px q) q.one
  rwa [over_all (by rw [Px.size, Px.size])] at this
attribute [local go_sem ↓] load_b16_rule store_b16_rule load_ad_rule store_ad_rule load_px_rule store_px_rule load_ro_rule store_ro_rule load_up_rule store_up_rule build_ro_rule
set_option maxHeartbeats 1600000 in
theorem rpre_bad {w : World} {r g : Nat} {R : List Nat} {wr q : Int} (hq : q = if decPE R = 7 then 7 else wr) (hW : Wid w) (h : RdAt w r g R wr) (hB : Bys R) (hl : R.length ≤ 6000) (hE : decPE R ≠ 0) :
    Calls Tryz.prog 45 #[.pointer (some ⟨r, 0, none⟩)] w fun e w' => e = .panicked (flt q) ∧ Below w.heap.size w w' := by
  obtain ⟨W0, hW0⟩ : ∃ W0, w.alloc (.cells Px.zero.cs 46) = W0 := ⟨_, rfl⟩
  have hb0 : Below w.heap.size w W0 := by rw [← hW0]; exact (Below.refl _ _).alloc (Nat.le_refl _) _
  obtain ⟨a, c, hb, hL, hg, hc, hm⟩ := (h.later hb0).st
  have C0 : W0.cell? ⟨r, 0, none⟩ = some (.slice a R.length c) := hb.cell 0
  have HD := decode_any a c R W0 (hW.later hb0) hB hl hc (by unfold maxLen at hm; omega) hL
  generalize hN : decPN R = N at HD
  generalize hX : decPX R = X at HD
  obtain ⟨E, hE'⟩ : ∃ E, decPE R = E := ⟨_, rfl⟩
  rw [hE'] at HD hE
  have hD := fun w1 => px_box9 w1 X
  have d0 : (E == 0) = false := by simpa using hE
  have HR := Lib.hid (And.intro hb0 (And.intro hb (And.intro hE' hq)))
  clear hq hb0 hb hL h hW hN hX hc hE hE' hB hg
  go_enter Tryz.func45, Tryz.ntmps45
  go_wp2_with (with_reducible refine wpList_alloc_z rfl 46 rfl Px.zero.cs 18 z_px ?_)
  refine HD.mono ?_
  rintro e W1 ⟨rfl, hb1⟩
  obtain ⟨W2, STP, hbp, hb2⟩ := hD W1
  have C1 : W2.cell? ⟨r, 1, none⟩ = some (.int .i64 wr) := ((HR.out.2.1.later hb1).later hb2).cell 1
  have HX := Lib.hid (bel_trans HR.out.1 (bel_trans hb1 hb2))
  clear hD HD hb1 hb2 C0 hbp
  by_cases h7 : E = 7
  · have d1 : (E == 7) = true := by rw [h7]; rfl
    obtain rfl : q = 7 := by rw [HR.out.2.2.2, HR.out.2.2.1, if_pos h7]
    clear h7
    go_wp2_with (with_reducible refine wpList_alloc_z rfl 46 rfl Px.zero.cs 18 z_px ?_)
    exact ⟨rfl, rfl, HX.out⟩
  · have d1 : (E == 7) = false := by simpa using h7
    obtain rfl : q = wr := by rw [HR.out.2.2.2, HR.out.2.2.1, if_neg h7]
    clear h7
    go_wp2_with (with_reducible refine wpList_alloc_z rfl 46 rfl Px.zero.cs 18 z_px ?_)
    exact ⟨rfl, rfl, HX.out⟩
set_option maxHeartbeats 1600000 in
theorem rpre_ok {w : World} {r g : Nat} {R : List Nat} {wr : Int} (hW : Wid w) (h : RdAt w r g R wr) (hB : Bys R) (hl : R.length ≤ 6000) (hE : decPE R = 0) :
    Calls Tryz.prog 45 #[.pointer (some ⟨r, 0, none⟩)] w fun e w' => e = .returned (.agg (decPX R).cs) ∧ RdAt w' r g (R.drop (decPN R)) wr ∧ Kept [r] w w' := by
  have hNl : decPN R ≤ R.length := (enc_dec hB hE).2.2
  have hR0 : R ≠ [] := fun e => by rw [e] at hE; unfold decPE at hE; simp at hE
  obtain ⟨W0, hW0⟩ : ∃ W0, w.alloc (.cells Px.zero.cs 46) = W0 := ⟨_, rfl⟩
  have hb0 : Below w.heap.size w W0 := by rw [← hW0]; exact (Below.refl _ _).alloc (Nat.le_refl _) _
  have hbz : Blk W0 w.heap.size 46 Px.zero.cs := by rw [← hW0]; exact Blk.new _ _ _
  obtain ⟨a, c, hbw, hLw, hg, hc, hm⟩ := h.st
  obtain ⟨o, rfl, hglt⟩ : ∃ o, a = some ⟨g, o, none⟩ ∧ g < w.heap.size := by
    rcases hLw with hL | ⟨g', o, h1, h2, _⟩
    · exact absurd hL hR0
    · rcases hg with hg | ⟨o', hg⟩
      · exact absurd hg hR0
      · rw [hg] at h1; cases h1; exact ⟨_, hg, h2⟩
  have hrl := h.lt
  have hb := hbw.later hb0
  have hL := hLw.kept hb0
  have HGW := Lib.hid (show g ≠ w.heap.size by omega)
  clear hbw hLw hglt hg
  have C0 : W0.cell? ⟨r, 0, none⟩ = some (.slice (some ⟨g, o, none⟩) R.length c) := hb.cell 0
  have HD := decode_any (some ⟨g, o, none⟩) c R W0 (hW.later hb0) hB hl hc (by unfold maxLen at hm; omega) hL
  rw [hE] at HD
  obtain ⟨N, hN⟩ : ∃ N, decPN R = N := ⟨_, rfl⟩
  rw [hN] at HD hNl ⊢
  obtain ⟨X, hX⟩ : ∃ X, decPX R = X := ⟨_, rfl⟩
  rw [hX] at HD ⊢
  have hD := fun w1 => px_box9 w1 X
  obtain ⟨n, hn⟩ : ∃ n, R.length = n := ⟨_, rfl⟩
  rw [hn] at C0 HD hNl hl hc hb
  have HR := Lib.hid (And.intro hb0 (And.intro hb (And.intro hbz (And.intro hL (And.intro hn hrl)))))
  have hm2 : c ≤ 9223372036854775807 := by unfold maxLen at hm; omega
  have HM := Lib.hid hm
  clear hb0 hb hbz hL h hW hN hX hE hB hR0 hn hrl hm
  go_enter Tryz.func45, Tryz.ntmps45
  go_wp2_with (with_reducible refine wpList_alloc_z rfl 46 rfl Px.zero.cs 18 z_px ?_)
  refine HD.mono ?_
  rintro e W1 ⟨rfl, hb1⟩
  obtain ⟨W2, STP, hbp, hb2⟩ := hD W1
  have hb02 := bel_trans hb1 hb2
  have b2 := HR.out.2.1.later hb02
  have C2 : W2.cell? ⟨r, 0, none⟩ = some (.slice (some ⟨g, o, none⟩) n c) := b2.cell 0
  have F2 := b2.free 0
  have hlen : (R.drop N).length = n - N := by rw [List.length_drop, HR.out.2.2.2.2.1]
  by_cases hcN : c = N
  · have hnil : R.drop N = [] := List.eq_nil_of_length_eq_zero (by rw [hlen]; omega)
    have hst := RdAt.step b2 (R := R.drop N) (.inl hnil) (g := g) (a' := some ⟨g, o, none⟩) (.inl hnil) (c' := 0) (by rw [hlen]; omega) (by unfold maxLen; omega)
    rw [hlen] at hst
    obtain ⟨W3, hW3⟩ : ∃ W3, W2.setCell ⟨r, 0, none⟩ (.slice (some ⟨g, o, none⟩) (n - N) 0) = W3 := ⟨_, rfl⟩
    rw [hW3] at hst
    have hrl := HR.out.2.2.2.2.2
    have hs0 : w.heap.size < W0.heap.size := HR.out.2.2.1.lt
    have hbp3 := hbp.kept hst.2 (by simp; have := hb1.size; omega)
    have hbz3 := (HR.out.2.2.1.later hb02).kept hst.2 (by simp; omega)
    have LP3 := px_p hbp3 W3 (Below.refl _ _)
    have SP3 := st_pxz (q := X) hbz3
    have hk03 : Kept [r] w W3 := kept_trans (kept_below (bel_trans HR.out.1 hb02)) hst.2
    have hgw := HGW.out
    have HZ := Lib.hid (And.intro hst.1 (And.intro hk03 (And.intro hbz3 (And.intro hrl hgw))))
    clear hnil hst hbp3 hbz3 hk03 hb1 hb2 hb02 b2 hD HD C0 hlen hrl hs0 hbp hgw
    go_wp2_with (with_reducible refine wpList_alloc_z rfl 46 rfl Px.zero.cs 18 z_px ?_)
    refine bodyPost_ret (results_cell_row rfl _ _ w.heap.size 46 _ (0, 0) _ rfl (HZ.out.2.2.1.row _) Tryz.underlying46 rfl (s_px _)) rfl ?_
    refine ⟨rfl, ?_, HZ.out.2.1.setRow (.inr (Nat.le_refl _)) _⟩
    exact HZ.out.1.row9 (by have := HZ.out.2.2.2.1; omega) (.inr HZ.out.2.2.2.2) _
  · have hst := RdAt.step b2 (((HR.out.2.2.2.1.kept hb02)).dropN N) (g := g) (.inr ⟨_, rfl⟩) (c' := c - N) (by rw [hlen]; omega) (by have := HM.out; omega)
    rw [hlen] at hst
    obtain ⟨W3, hW3⟩ : ∃ W3, W2.setCell ⟨r, 0, none⟩ (.slice (some ⟨g, o + N, none⟩) (n - N) (c - N)) = W3 := ⟨_, rfl⟩
    rw [hW3] at hst
    have hrl := HR.out.2.2.2.2.2
    have hs0 : w.heap.size < W0.heap.size := HR.out.2.2.1.lt
    have hbp3 := hbp.kept hst.2 (by simp; have := hb1.size; omega)
    have hbz3 := (HR.out.2.2.1.later hb02).kept hst.2 (by simp; omega)
    have LP3 := px_p hbp3 W3 (Below.refl _ _)
    have SP3 := st_pxz (q := X) hbz3
    have hk03 : Kept [r] w W3 := kept_trans (kept_below (bel_trans HR.out.1 hb02)) hst.2
    have hgw := HGW.out
    have HZ := Lib.hid (And.intro hst.1 (And.intro hk03 (And.intro hbz3 (And.intro hrl hgw))))
    clear hst hbp3 hbz3 hk03 hb1 hb2 hb02 b2 hD HD C0 hlen hrl hs0 hbp hgw
    go_wp2_with (with_reducible refine wpList_alloc_z rfl 46 rfl Px.zero.cs 18 z_px ?_)
    refine bodyPost_ret (results_cell_row rfl _ _ w.heap.size 46 _ (0, 0) _ rfl (HZ.out.2.2.1.row _) Tryz.underlying46 rfl (s_px _)) rfl ?_
    refine ⟨rfl, ?_, HZ.out.2.1.setRow (.inr (Nat.le_refl _)) _⟩
    exact HZ.out.1.row9 (by have := HZ.out.2.2.2.1; omega) (.inr HZ.out.2.2.2.2) _
end Go.Proofs.YtikdgbmdepplgaaGreatDoor
