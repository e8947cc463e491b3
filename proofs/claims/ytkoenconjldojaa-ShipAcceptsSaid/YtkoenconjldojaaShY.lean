/-
  Two copies of a view, or of a message, are laid into two variables. Nothing here is a statement of the document.
-/
import Derived.Test.YtkoenconjldojaaShV
import Derived.Test.YtkoenconjldojaaLinU
namespace Go.Proofs.Ytkoenconjldojaa
open Go.RowKit Go.Shelf
set_option linter.unusedVariables false
set_option linter.unusedSimpArgs false
set_option maxRecDepth 100000
attribute [local go_sem 10000] gtU_rule leU_rule ltU_rule geU_rule adU_rule sbU_rule mxU_rule mnU_rule mnI_rule
attribute [local go_sem ↓] load_at_rule store_at_rule load_la_rule store_la_rule load_bs_rule store_bs_rule load_vw_rule store_vw_rule load_jo_rule store_jo_rule load_ms_rule store_ms_rule load_ch_rule store_ch_rule load_hd_rule store_hd_rule load_rb_rule store_rb_rule load_en_rule store_en_rule
attribute [local go_sem ↓] build_hd_rule build_rb_rule build_en_rule build_at_rule build_jo_rule upbuild_rule upapp_rule robuild_rule roapp_rule enbuild_rule enapp_rule build_vw_rule eq_at_rule eq_la_rule build_ch_rule build_ms_rule
theorem Bs.As.symm {b d : Bs} (h : b.As d) : d.As b := ⟨h.1.symm, h.2.1.symm, h.2.2.1.symm, h.2.2.2.symm⟩
theorem Bs.As.trans {b d f : Bs} (h : b.As d) (k : d.As f) : b.As f := ⟨h.1.trans k.1, h.2.1.trans k.2.1, h.2.2.1.trans k.2.2.1, h.2.2.2.trans k.2.2.2⟩
theorem Bs.Of.as {b d x : Bs} {w w' : World} {B B' : Nat} (h : b.Of x w B) (k : d.Of x w' B') : b.As d := ⟨h.i.trans k.i.symm, h.e.trans k.e.symm, h.l.trans k.l.symm, h.R.trans k.R.symm⟩
theorem Vw.Of.as {v u x : Vw} {w w' : World} {B B' : Nat} (h : v.Of x w B) (k : u.Of x w' B') : v.As u ∧ v.n = u.n := ⟨⟨h.v.trans k.v.symm, h.b.as k.b, h.L.trans k.L.symm⟩, h.n.trans k.n.symm⟩
theorem Ms.Of.as {m o x : Ms} {w w' : World} {B B' : Nat} (h : m.Of x w B) (k : o.Of x w' B') : m.As o ∧ m.n = o.n := by
  obtain ⟨h1, h2, h3, h4, h5, h6, h7, h8, h9, h10, h11, h12⟩ := h.f
  obtain ⟨k1, k2, k3, k4, k5, k6, k7, k8, k9, k10, k11, k12⟩ := k.f
  exact ⟨⟨⟨h1.trans k1.symm, h2.trans k2.symm, h3.trans k3.symm, h4.trans k4.symm, h5.trans k5.symm, h6.trans k6.symm, h7.trans k7.symm, h8.trans k8.symm, h9.trans k9.symm, h10.trans k10.symm, h11.trans k11.symm, h12.trans k12.symm, h.ub.2.1.trans k.ub.2.1.symm⟩, h.L.trans k.L.symm, h.b.as k.b⟩, h.n.trans k.n.symm⟩
theorem Vw.As.z {v u : Vw} (h : v.As u) (hn : v.n = u.n) : v.z = u.z := by
  unfold Vw.z
  rw [h.2.1.1, hn]
theorem Vw.As.ok {v u : Vw} (h : v.As u) (hn : v.n = u.n) : v.ok = u.ok := by
  unfold Vw.ok
  rw [h.2.1.1, hn]
theorem Ms.As.off {m o : Ms} (h : m.As o) (hn : m.n = o.n) : m.off = o.off := by
  unfold Ms.off
  rw [h.1.1, hn, h.1.2.2.2.2.1]
theorem Vw.As.place {v u : Vw} (h : v.As u) (hn : v.n = u.n) (x : Nat) : placeR v x = placeR u x := by
  unfold placeR
  rw [h.z hn, h.2.1.1, h.2.1.2.1, (con_eq.1 (h.2.2.get (x - u.b.i - 1))).1]
theorem there_as {v u : Vw} {m o : Ms} (h : v.As u) (hn : v.n = u.n) (k : m.As o) (q : Nat) : there v m q = there u o q := by
  unfold there
  rw [h.z hn, h.2.1.1, k.1.2.2.2.2.1, h.2.2.get, k.2.1.get]
theorem Same'.drop {L M : List En} (h : Same' L M) (k : Nat) : Same' (L.drop k) (M.drop k) := by
  have h9 : L.map con = M.map con := h
  show (L.drop k).map con = (M.drop k).map con
  rw [List.map_drop, List.map_drop, h9]
theorem fit_as {v u : Vw} {m o : Ms} {c : Ch} (h : v.As u) (hn : v.n = u.n) (k : m.As o) (km : m.n = o.n) (hc : FitR v m c) : FitR u o c := by
  obtain ⟨h1, h2, h3⟩ := hc
  have e1 := h.2.1.1
  have e2 := k.1.2.2.2.2.1
  refine ⟨h1, by rw [h2, e2, km], ?_⟩
  rcases h3 with ⟨p1, p2, p3, p4⟩ | ⟨j, p1, p2, p3, p4, p5, p6⟩
  · refine .inl ⟨p1, p2, p3, fun q hq => ?_⟩
    rw [← e1, ← e2, ← km] at hq
    have := p4 q hq
    rw [there_as h hn k, e1, e2] at this
    exact this
  · rw [e1, e2] at p1 p2 p3 p4 p5 p6
    rw [km] at p1 p5
    refine .inr ⟨j, p1, fun q hq => ?_, ?_, p4, p5, Eq.trans p6 (k.2.1.drop _)⟩
    · rw [← there_as h hn k]; exact p2 q hq
    · rw [← there_as h hn k]; exact p3
theorem made_as {v u : Vw} {m o : Ms} {c : Ch} (h : v.As u) (hn : v.n = u.n) (k : m.As o) (km : m.n = o.n) (hc : MadeR v m c) : MadeR u o c := by
  unfold MadeR at *
  rw [← h.z hn, ← k.1.2.2.2.2.1, ← h.place hn, ← k.1.2.2.2.2.2.1]
  rcases hc with hc | hc | ⟨h1, h2, hc⟩
  · exact .inl hc
  · exact .inr (.inl hc)
  · exact .inr (.inr ⟨h1, h2, fit_as h hn k km hc⟩)
theorem fit_one {v : Vw} {m : Ms} {c d : Ch} (h : FitR v m c) (k : FitR v m d) : c.As d := by
  obtain ⟨h1, h2, h3⟩ := h
  obtain ⟨k1, k2, k3⟩ := k
  refine ⟨h1.trans k1.symm, ?_, h2.trans k2.symm, ?_⟩
  · rcases h3 with ⟨p1, p2, p3, p4⟩ | ⟨i, p1, p2, p3, p4, p5, p6⟩
    · rcases k3 with ⟨q1, q2, q3, q4⟩ | ⟨j, q1, q2, q3, q4, q5, q6⟩
      · rw [p1, q1]
      · rw [p4 j q1] at q3; cases q3
    · rcases k3 with ⟨q1, q2, q3, q4⟩ | ⟨j, q1, q2, q3, q4, q5, q6⟩
      · rw [q4 i p1] at p3; cases p3
      · obtain rfl : i = j := by
          rcases Nat.lt_trichotomy i j with e | e | e
          · rw [q2 i e] at p3; cases p3
          · exact e
          · rw [p2 j e] at q3; cases q3
        rw [p4, q4]
  · rcases h3 with ⟨p1, p2, p3, p4⟩ | ⟨i, p1, p2, p3, p4, p5, p6⟩
    · rcases k3 with ⟨q1, q2, q3, q4⟩ | ⟨j, q1, q2, q3, q4, q5, q6⟩
      · rw [p3, q3]; rfl
      · rw [p4 j q1] at q3; cases q3
    · rcases k3 with ⟨q1, q2, q3, q4⟩ | ⟨j, q1, q2, q3, q4, q5, q6⟩
      · rw [q4 i p1] at p3; cases p3
      · obtain rfl : i = j := by
          rcases Nat.lt_trichotomy i j with e | e | e
          · rw [q2 i e] at p3; cases p3
          · exact e
          · rw [p2 j e] at q3; cases q3
        exact Eq.trans p6 (Eq.symm q6)
theorem Ch.As.refl (c : Ch) : c.As c := ⟨rfl, rfl, rfl, rfl⟩
theorem made_one {v : Vw} {m : Ms} {c d : Ch} (h : MadeR v m c) (k : MadeR v m d) : c.As d := by
  rcases h with ⟨h1, rfl⟩ | ⟨h1, h2, rfl⟩ | ⟨h1, h2, h3⟩
  · rcases k with ⟨k1, rfl⟩ | ⟨k1, k2, rfl⟩ | ⟨k1, k2, k3⟩
    · exact Ch.As.refl _
    · exact absurd h1 k1
    · exact absurd h1 k1
  · rcases k with ⟨k1, rfl⟩ | ⟨k1, k2, rfl⟩ | ⟨k1, k2, k3⟩
    · exact absurd k1 h1
    · exact Ch.As.refl _
    · exact absurd h2 k2
  · rcases k with ⟨k1, rfl⟩ | ⟨k1, k2, rfl⟩ | ⟨k1, k2, k3⟩
    · exact absurd k1 h1
    · exact absurd k2 h2
    · exact fit_one h3 k3
/-- What spoil leaves standing. -/
structure Soil (a : Option Addr) (L : List En) (B : Nat) (w0 w : World) : Prop where
  bel : Below B w0 w
  oth : ∀ g t cs, t ≠ 92 → t ≠ 106 → Blk w0 g t cs → Blk w g t cs
  row : L ≠ [] → ∃ g cur, a = some ⟨g, 0, none⟩ ∧ B ≤ g ∧ Blk w g 92 cur ∧ ∀ i, i < L.length → (∃ v, cur[i * 4]? = some v) ∧ cur[i * 4 + 3]? = some (.slice (eng L i).a (eng L i).n (eng L i).c)
  ups : ∀ x ∈ L, x.n ≠ 0 → ∃ g cur, x.a = some ⟨g, 0, none⟩ ∧ B ≤ g ∧ Blk w g 106 cur ∧ x.n * 22 ≤ cur.size
theorem Soil.of {w : World} {B : Nat} {a : Option Addr} {n c : Nat} {L : List En} (h : EnOwn w B (.slice a n c) L) : Soil a L B w w := by
  refine ⟨Below.refl _ _, fun _ _ _ _ _ h => h, fun hne => ?_, fun x hx hne => ?_⟩
  · rcases h.1.2 with ⟨h9, h0⟩ | ⟨g, cap, cur, h1, hb, hg, hc, hm, hs, ht⟩
    · exact absurd (List.eq_nil_of_length_eq_zero h0) hne
    · injection h1 with h1
      refine ⟨g, cur, h1, hb, hg, fun i hi => ?_⟩
      have key : ∀ j, j < 4 → cur[i * 4 + j]? = (eng L i).cs[j]? := fun j hj => by
        rw [← encs_get L hi hj, ← ht, List.getElem?_take, if_pos (by omega), Array.getElem?_toList]
      exact ⟨⟨_, (key 0 (by decide)).trans (eng L i).q0⟩, (key 3 (by decide)).trans (eng L i).q3⟩
  · rcases (h.2 x hx).2 with ⟨h9, h0⟩ | ⟨g, cap, cur, h1, hb, hg, hc, hm, hs, ht⟩
    · injection h9 with _ h9 _
      exact absurd h9 hne
    · injection h1 with h1 h2 h3
      exact ⟨g, cur, h1, hb, hg, by rw [hs, h2]; have := hc; exact Nat.mul_le_mul_right 22 hc⟩
theorem Soil.put {a : Option Addr} {L : List En} {B : Nat} {w0 w : World} (h : Soil a L B w0 w) {g : Nat} {t : TypeId} {cur : Array Value} (hb : Blk w g t cur) (hB : B ≤ g) (ht : t = 92 ∨ t = 106) (i : Nat) (v : Value) (hS : B ≤ w.heap.size)
    (hk : t = 92 → i % 4 = 0) : Soil a L B w0 (w.setCell ⟨g, i, none⟩ v) := by
  have k : Kept [g] w (w.setCell ⟨g, i, none⟩ v) := Kept.setCell (p := ⟨g, i, none⟩) (Kept.refl _ _) (.inl (by simp)) _
  have hn := hb.set i v
  refine ⟨Below.trans h.bel (k.below (fun j hj => by simp at hj; omega) hS), fun g2 t2 cs h1 h2 h3 => ?_, fun hne => ?_, fun x hx hne => ?_⟩
  · have h4 := h.oth g2 t2 cs h1 h2 h3
    refine h4.kept k (fun hm => ?_)
    obtain rfl : g2 = g := by simpa using hm
    refine (Blk.ne h4 hb (fun e => ?_)) rfl
    rcases ht with rfl | rfl
    · exact h1 e
    · exact h2 e
  · obtain ⟨g2, cs, e, hB2, hb2, hr⟩ := h.row hne
    by_cases hg : g2 = g
    · subst hg
      have et : t = 92 := by
        refine Classical.byContradiction fun hne => ?_
        exact (Blk.ne hb hb2 hne) rfl
      subst et
      have ec : cs = cur := by
        have h8 := hb2.symm.trans hb
        injection h8 with h8
        injection h8
      subst ec
      refine ⟨g2, _, e, hB2, hn, fun q hq => ⟨?_, ?_⟩⟩
      · obtain ⟨u, hu⟩ := (hr q hq).1
        by_cases e9 : i = q * 4
        · subst e9
          refine ⟨v, ?_⟩
          rw [Array.getElem?_setIfInBounds_self_of_lt]
          exact (Array.getElem?_eq_some_iff.1 hu).1
        · refine ⟨u, ?_⟩
          rw [Array.getElem?_setIfInBounds_ne e9]
          exact hu
      · rw [Array.getElem?_setIfInBounds_ne (by have := hk rfl; omega)]
        exact (hr q hq).2
    · exact ⟨g2, cs, e, hB2, hb2.kept k (by simp; exact hg), hr⟩
  · obtain ⟨g2, cs, e, hB2, hb2, hr⟩ := h.ups x hx hne
    by_cases hg : g2 = g
    · subst hg
      have et : t = 106 := by
        refine Classical.byContradiction fun hne => ?_
        exact (Blk.ne hb hb2 hne) rfl
      subst et
      have ec : cs = cur := by
        have h8 := hb2.symm.trans hb
        injection h8 with h8
        injection h8
      subst ec
      exact ⟨g2, _, e, hB2, hn, by simpa using hr⟩
    · exact ⟨g2, cs, e, hB2, hb2.kept k (by simp; exact hg), hr⟩
set_option maxHeartbeats 4000000 in
theorem spoil_any (a : Option Addr) (n c : Nat) (L : List En) (B : Nat) (w : World) (h : EnOwn w B (.slice a n c) L) (hB : B ≤ w.heap.size) : Calls Try.prog 17 #[.slice a n c] w fun e w' => e = .returned (.tuple #[]) ∧ Soil a L B w w' := by
  have hI := h.into
  have hn := hI.1
  have hs : n ≤ 9223372036854775807 := by have h3 := hI.2.2.1; have h4 := hI.2.2.2.1; unfold maxLen at h4; omega
  have hxs : ∀ x ∈ L, x.n ≤ 9223372036854775807 := fun x hx => by have h3 := (hI.2.2.2.2.2.2 x hx).2.2.1; have h4 := (hI.2.2.2.2.2.2 x hx).2.2.2.1; unfold maxLen at h4; omega
  have H0 := Lib.hid (And.intro (Soil.of h) (And.intro hB hxs))
  clear h hI hB hxs
  go_enter Try.func17, Try.ntmps17
  go_wp2_with fail
  go_loopw [6] (fun i wr => ∃ q : Nat, q ≤ n ∧ i = .int .i64 (q : Int) ∧ Soil a L B w wr) (fun i _ => n - (intOf i).toNat)
  case atStart => exact ⟨0, Nat.zero_le _, rfl, H0.out.1⟩
  case round =>
    obtain ⟨q, hq, rfl, hso⟩ := hrel
    by_cases hlt : q < n
    · have hql : q < L.length := by omega
      have hne : L ≠ [] := fun e => by rw [e] at hql; simp at hql
      obtain ⟨g, cur, ha, hB2, hb, hr⟩ := hso.row hne
      subst ha
      have c3 : wr.cell? ⟨g, q * 4 + 3, none⟩ = some (.slice (eng L q).a (eng L q).n (eng L q).c) := (hb.cell _).trans (hr q hql).2
      have hxm := H0.out.2.2 _ (eng_mem hql)
      obtain ⟨x, hx⟩ : ∃ x, eng L q = x := ⟨_, rfl⟩
      have hxL : x ∈ L := by rw [← hx]; exact eng_mem hql
      rw [hx] at c3 hxm
      have HX := Lib.hid (And.intro hso (And.intro hxL (And.intro hql hx)))
      clear hso hb hr hxL hx
      go_wp2_with fail
      go_loopw [16] (fun i wr => ∃ k : Nat, k ≤ x.n ∧ i = .int .i64 (k : Int) ∧ Soil (some ⟨g, 0, none⟩) L B w wr) (fun i _ => x.n - (intOf i).toNat)
      case atStart => exact ⟨0, Nat.zero_le _, rfl, HX.out.1⟩
      case round =>
        obtain ⟨k, hk, rfl, hso⟩ := hrel
        by_cases hlk : k < x.n
        · obtain ⟨g2, cur2, ha2, hB3, hb2, hr2⟩ := hso.row (fun e => by have := HX.out.2.2.1; rw [e] at this; simp at this)
          injection ha2 with ha2
          injection ha2 with ha2 _ _
          subst ha2
          have e3 := (hb2.cell _).trans (hr2 q HX.out.2.2.1).2
          rw [HX.out.2.2.2] at e3
          obtain ⟨gu, cu, hau, hBu, hbu, hru⟩ := hso.ups x HX.out.2.1 (by omega)
          rw [hau] at e3
          obtain ⟨old, hold⟩ : ∃ old, wr.cell? ⟨gu, k * 22 + 21, none⟩ = some old := ⟨_, (hbu.cell _).trans (Array.getElem?_eq_getElem (by omega))⟩
          have hfr := hbu.free (k * 22 + 21)
          have hP := hso.put hbu hBu (.inr rfl) (k * 22 + 21) (.int .i64 99) (Nat.le_trans H0.out.2.1 hso.bel.size) (fun e => absurd e (by decide))
          have HP := Lib.hid hP
          clear hP hso hb2 hr2 hbu hru hau
          go_wp2_with fail
          go_roundw
          case rel => exact ⟨k + 1, by omega, by go_num, HP.out⟩
          case measure => (simp [intOf]; try omega)
        · obtain rfl : k = x.n := by omega
          obtain ⟨g2, cur2, ha2, hB3, hb2, hr2⟩ := hso.row (fun e => by have := HX.out.2.2.1; rw [e] at this; simp at this)
          injection ha2 with ha2
          injection ha2 with ha2 _ _
          subst ha2
          obtain ⟨old, hold⟩ := (hr2 q HX.out.2.2.1).1
          have e0 := (hb2.cell _).trans hold
          have hfr := hb2.free (q * 4)
          have hP := hso.put hb2 hB3 (.inl rfl) (q * 4) (.int .u64 99) (Nat.le_trans H0.out.2.1 hso.bel.size) (fun _ => by omega)
          have HP := Lib.hid hP
          clear hP hso hb2 hr2 hold
          go_wp2_with fail
          go_roundw
          case rel => exact ⟨q + 1, by omega, by go_num, HP.out⟩
          case measure => (simp [intOf]; try omega)
    · obtain rfl : q = n := by omega
      have HE := Lib.hid hso
      clear hso
      go_wp2_with fail
      go_end0
      exact ⟨rfl, HE.out⟩
end Go.Proofs.Ytkoenconjldojaa
namespace Go.Proofs.Ytkoenconjldojaa
open Go.RowKit Go.Shelf
set_option linter.unusedVariables false
set_option linter.unusedSimpArgs false
set_option maxRecDepth 100000
theorem EnOwn.turn2 {X Y : World} {B : Nat} {v : Value} {L : List En} (h : EnOwn X B v L) (k : ∀ g t cs, t = 92 ∨ t = 106 → Blk X g t cs → Blk Y g t cs) : EnOwn Y B v L := by
  refine ⟨⟨h.1.1, ?_⟩, fun x hx => ⟨(h.2 x hx).1, ?_⟩⟩
  · rcases h.1.2 with h | ⟨g, cap, cur, h1, h2, h3, h4⟩
    · exact .inl h
    · exact .inr ⟨g, cap, cur, h1, h2, k g _ _ (.inl rfl) h3, h4⟩
  · rcases (h.2 x hx).2 with h | ⟨g, cap, cur, h1, h2, h3, h4⟩
    · exact .inl h
    · exact .inr ⟨g, cap, cur, h1, h2, k g _ _ (.inr rfl) h3, h4⟩
theorem ro_byte (r : Ro) : ∃ n : Nat, r.cs[1]? = some (byc n) := by
  have h16 := r.p.a.b.len
  have e : r.p.a.b.cs[0]? = some (byc (r.p.a.b.l[0]'(by omega))) := by
    unfold B16.cs
    rw [List.getElem?_toArray, List.getElem?_map, List.getElem?_eq_getElem (by omega)]
    rfl
  exact ⟨_, (r.cp 1 (by omega)).trans ((r.p.cb 0 (by omega)).trans e)⟩
theorem RoIn.turn2 {X Y : World} {B g : Nat} {a : Option Addr} {n c : Nat} {R : List Ro} {t : TypeId} {cs : Array Value} (h : RoIn X B a n c R) (hb : Blk X g t cs) (hno : ∀ i k : Nat, cs[i]? ≠ some (byc k)) (k : Kept [g] X Y) : RoIn Y B a n c R := by
  obtain ⟨h1, h2, h3⟩ := h
  refine ⟨h1, ?_, h3⟩
  rcases h2 with rfl | ⟨q, o, e, hr⟩
  · exact .inl rfl
  · by_cases h0 : R = []
    · exact .inl h0
    · have hl : 0 < R.length := List.length_pos_iff.2 h0
      have hne : q ≠ g := fun e9 => by
        subst e9
        obtain ⟨z, hz⟩ := ro_byte (rog R 0)
        have h9 := hr.row 0 hl 1 (by omega)
        rw [hz, hb.cell] at h9
        exact hno _ _ h9
      refine .inr ⟨q, o, e, Nat.lt_of_lt_of_le hr.lt k.size, fun i hi j hj => ?_⟩
      rw [← hr.row i hi j hj]
      have hb := k.block q hr.lt (by simpa using hne)
      simp only [World.cell?, hb]
theorem Vw.Of.less {v x : Vw} {w : World} {B B' : Nat} (h : v.Of x w B) (k : B' ≤ B) : v.Of x w B' := ⟨h.v, ⟨h.b.i, h.b.e, h.b.l, h.b.R, h.b.n, h.b.at'.less k⟩, h.n, h.L, h.at'.less k⟩
theorem Ms.Of.less {v x : Ms} {w : World} {B B' : Nat} (h : v.Of x w B) (k : B' ≤ B) : v.Of x w B' := ⟨h.f, h.ub, ⟨h.b.i, h.b.e, h.b.l, h.b.R, h.b.n, h.b.at'.less k⟩, h.n, h.L, h.at'.less k⟩
theorem Vw.Of.lies {v x : Vw} {w : World} {B : Nat} (h : v.Of x w B) : v.In w 0 := ⟨h.b.at'.less (Nat.zero_le _), h.at'.into.less (Nat.zero_le _)⟩
theorem Ms.Of.lies {v x : Ms} {w : World} {B : Nat} (h : v.Of x w B) : v.In w 0 := ⟨h.at'.into.less (Nat.zero_le _), h.b.at'.less (Nat.zero_le _)⟩
theorem Ms.Of.lim {m x : Ms} {w : World} {B : Nat} (h : m.Of x w B) : ∀ e ∈ m.L, e.n ≤ 1000 := by
  intro e he
  have h1 : con e ∈ (x.L.map cut9).take 9 := by rw [← h.L]; exact List.mem_map_of_mem he
  obtain ⟨y, _, hy⟩ := List.mem_map.1 (List.mem_of_mem_take h1)
  have h2 : y.U.take 9 = e.U := congrArg Eq'.U hy
  have h3 := (h.lies.1.2.2.2.2.2.2 e he).1
  rw [← h3, ← h2, List.length_take]
  omega
theorem no_byte_vw (v : Vw) : ∀ i z : Nat, v.cs[i]? ≠ some (byc z) := by
  intro i z h
  have h9 := Array.mem_of_getElem? h
  simp [Vw.cs, byc] at h9
theorem Vw.Of.turn {v x y : Vw} {X Y : World} {B g : Nat} (h : v.Of x X B) (hb : Blk X g 36 y.cs) (k : Kept [g] X Y) : v.Of x Y B := by
  have hE : ∀ q t cs, t = 92 ∨ t = 106 → Blk X q t cs → Blk Y q t cs := fun q t cs ht h9 => h9.kept k (fun hm => by
    obtain rfl : q = g := by simpa using hm
    refine (Blk.ne h9 hb ?_) rfl
    rcases ht with rfl | rfl <;> decide)
  exact ⟨h.v, ⟨h.b.i, h.b.e, h.b.l, h.b.R, h.b.n, h.b.at'.turn2 hb (no_byte_vw y) k⟩, h.n, h.L, h.at'.turn2 hE⟩
theorem two_vw {x : Vw} {w : World} {B g4 g5 : Nat} {v u : Vw} (h4 : Blk w g4 36 Vw.zero.cs) (h5 : Blk w g5 36 Vw.zero.cs) (hv : v.Of x w B) (hu : u.Of x w B) :
    ∃ W1 W2, (storeSem 36 (.pointer (some ⟨g4, 0, none⟩)) (.agg v.cs)).run Try.prog w = .ok () W1 ∧ (storeSem 36 (.pointer (some ⟨g5, 0, none⟩)) (.agg u.cs)).run Try.prog W1 = .ok () W2 ∧ ∃ v4 : Vw, Blk W2 g4 36 v4.cs ∧ v4.Of x W2 B ∧ Blk W2 g5 36 u.cs ∧ u.Of x W2 B ∧ Kept [g4, g5] w W2 := by
  have s1 := st_vw (b2 := v) h4
  have k1 : Kept [g4] w (w.setRow g4 v.cs) := (Kept.refl _ _).setRow (.inl (by simp)) _
  have c4 := h4.row v.cs
  have hv1 := hv.turn h4 k1
  have hu1 := hu.turn h4 k1
  obtain ⟨b, hb⟩ : ∃ b : Vw, Blk (w.setRow g4 v.cs) g5 36 b.cs := by
    by_cases e : g5 = g4
    · subst e; exact ⟨v, c4⟩
    · exact ⟨Vw.zero, h5.kept k1 (by simpa using e)⟩
  have s2 := st_vw (b2 := u) hb
  have k2 : Kept [g5] (w.setRow g4 v.cs) ((w.setRow g4 v.cs).setRow g5 u.cs) := (Kept.refl _ _).setRow (.inl (by simp)) _
  have hv2 := hv1.turn hb k2
  have hu2 := hu1.turn hb k2
  have hk : Kept [g4, g5] w ((w.setRow g4 v.cs).setRow g5 u.cs) := ((Kept.refl _ _).setRow (.inl (by simp)) _).setRow (.inl (by simp)) _
  refine ⟨_, _, s1, s2, ?_⟩
  by_cases e : g4 = g5
  · subst e
    exact ⟨u, hb.row u.cs, hu2, hb.row u.cs, hu2, hk⟩
  · exact ⟨v, c4.kept k2 (by simpa using e), hv2, hb.row u.cs, hu2, hk⟩
/-- What the operations of such a region give. -/
def twVw (x : Vw) (B : Nat) (i : Nat) (u : Value) (w : World) : Prop :=
  (i = 1 ∨ i = 3 → ∃ v : Vw, u = .agg v.cs ∧ v.Of x w B) ∧ (i = 4 ∨ i = 5 → ∃ g, u = .pointer (some ⟨g, 0, none⟩) ∧ B ≤ g ∧ Blk w g 36 Vw.zero.cs)
theorem twVw.later {x : Vw} {B i : Nat} {u : Value} {w w' : World} (h : twVw x B i u w) (k : Below w.heap.size w w') : twVw x B i u w' :=
  ⟨fun e => by obtain ⟨v, h1, h2⟩ := h.1 e; exact ⟨v, h1, h2.later k⟩, fun e => by obtain ⟨g, h1, h2, h3⟩ := h.2 e; exact ⟨g, h1, h2, h3.later k⟩⟩
theorem no_byte_ms (v : Ms) : ∀ i z : Nat, v.cs[i]? ≠ some (byc z) := by
  intro i z h
  have h9 := Array.mem_of_getElem? h
  simp [Ms.cs, byc] at h9
theorem Ms.Of.turn {v x y : Ms} {X Y : World} {B g : Nat} (h : v.Of x X B) (hb : Blk X g 47 y.cs) (k : Kept [g] X Y) : v.Of x Y B := by
  have hE : ∀ q t cs, t = 92 ∨ t = 106 → Blk X q t cs → Blk Y q t cs := fun q t cs ht h9 => h9.kept k (fun hm => by
    obtain rfl : q = g := by simpa using hm
    refine (Blk.ne h9 hb ?_) rfl
    rcases ht with rfl | rfl <;> decide)
  exact ⟨h.f, h.ub, ⟨h.b.i, h.b.e, h.b.l, h.b.R, h.b.n, h.b.at'.turn2 hb (no_byte_ms y) k⟩, h.n, h.L, h.at'.turn2 hE⟩
theorem two_ms {x : Ms} {w : World} {B g4 g5 : Nat} {v u : Ms} (h4 : Blk w g4 47 Ms.zero.cs) (h5 : Blk w g5 47 Ms.zero.cs) (hv : v.Of x w B) (hu : u.Of x w B) :
    ∃ W1 W2, (storeSem 47 (.pointer (some ⟨g4, 0, none⟩)) (.agg v.cs)).run Try.prog w = .ok () W1 ∧ (storeSem 47 (.pointer (some ⟨g5, 0, none⟩)) (.agg u.cs)).run Try.prog W1 = .ok () W2 ∧ ∃ v4 : Ms, Blk W2 g4 47 v4.cs ∧ v4.Of x W2 B ∧ Blk W2 g5 47 u.cs ∧ u.Of x W2 B ∧ Kept [g4, g5] w W2 := by
  have s1 := st_ms (b2 := v) h4
  have k1 : Kept [g4] w (w.setRow g4 v.cs) := (Kept.refl _ _).setRow (.inl (by simp)) _
  have c4 := h4.row v.cs
  have hv1 := hv.turn h4 k1
  have hu1 := hu.turn h4 k1
  obtain ⟨b, hb⟩ : ∃ b : Ms, Blk (w.setRow g4 v.cs) g5 47 b.cs := by
    by_cases e : g5 = g4
    · subst e; exact ⟨v, c4⟩
    · exact ⟨Ms.zero, h5.kept k1 (by simpa using e)⟩
  have s2 := st_ms (b2 := u) hb
  have k2 : Kept [g5] (w.setRow g4 v.cs) ((w.setRow g4 v.cs).setRow g5 u.cs) := (Kept.refl _ _).setRow (.inl (by simp)) _
  have hv2 := hv1.turn hb k2
  have hu2 := hu1.turn hb k2
  have hk : Kept [g4, g5] w ((w.setRow g4 v.cs).setRow g5 u.cs) := ((Kept.refl _ _).setRow (.inl (by simp)) _).setRow (.inl (by simp)) _
  refine ⟨_, _, s1, s2, ?_⟩
  by_cases e : g4 = g5
  · subst e
    exact ⟨u, hb.row u.cs, hu2, hb.row u.cs, hu2, hk⟩
  · exact ⟨v, c4.kept k2 (by simpa using e), hv2, hb.row u.cs, hu2, hk⟩
/-- What the operations of such a region give. -/
def twMs (x : Ms) (B : Nat) (i : Nat) (u : Value) (w : World) : Prop :=
  (i = 1 ∨ i = 3 → ∃ v : Ms, u = .agg v.cs ∧ v.Of x w B) ∧ (i = 4 ∨ i = 5 → ∃ g, u = .pointer (some ⟨g, 0, none⟩) ∧ B ≤ g ∧ Blk w g 47 Ms.zero.cs)
theorem twMs.later {x : Ms} {B i : Nat} {u : Value} {w w' : World} (h : twMs x B i u w) (k : Below w.heap.size w w') : twMs x B i u w' :=
  ⟨fun e => by obtain ⟨v, h1, h2⟩ := h.1 e; exact ⟨v, h1, h2.later k⟩, fun e => by obtain ⟨g, h1, h2, h3⟩ := h.2 e; exact ⟨g, h1, h2, h3.later k⟩⟩
end Go.Proofs.Ytkoenconjldojaa
