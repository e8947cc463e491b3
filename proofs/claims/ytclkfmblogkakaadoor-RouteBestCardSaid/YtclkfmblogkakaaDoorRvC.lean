/-
  What a batch makes of a RIB, put in its place at once. Nothing here is a statement of the document.
-/
import Derived.Test.YtclkfmblogkakaaDoorRvL
import Derived.Test.YtclkfmblogkakaaDoorTbS
namespace Go.Proofs.YtclkfmblogkakaaDoor
open Go.RowKit Go.Shelf
set_option linter.unusedVariables false
set_option maxRecDepth 100000
/-- Those that have been put when the rounds stand at preference pf, source sc and place k. -/
def putBy (L : List Ro) (pf sc : Int) (k : Nat) (j : Nat) : Prop := (rog L j).f < pf ∨ ((rog L j).f = pf ∧ (sc < (rog L j).s ∨ ((rog L j).s = sc ∧ j < k)))
theorem put_next {L : List Ro} {T : List Rt} {pf sc : Int} {k : Nat} (h : BI L T (putBy L pf sc k)) (hL : One L) (hk : k < L.length) (hf : (rog L k).f = pf) (hs : (rog L k).s = sc) (hh : (rog L k).h ≠ 0) :
    BI L (putL T (rog L k).p (rog L k).h) (putBy L pf sc (k + 1)) := by
  refine (h.put hL hk (fun i hi hq => ?_) hh).congr fun j hj => ?_
  · unfold putBy at hq; unfold asGood; omega
  · unfold putBy
    constructor
    · rintro (q | rfl)
      · omega
      · omega
    · intro q
      by_cases e : j = k
      · exact .inr e
      · left; omega
theorem put_skip {L : List Ro} {T : List Rt} {pf sc : Int} {k : Nat} (h : BI L T (putBy L pf sc k)) (hne : ¬ ((rog L k).f = pf ∧ (rog L k).s = sc)) : BI L T (putBy L pf sc (k + 1)) :=
  h.congr fun j hj => by
    unfold putBy
    by_cases e : j = k
    · subst e; omega
    · omega
theorem put_src {L : List Ro} {T : List Rt} {pf sc : Int} (h : BI L T (putBy L pf sc L.length)) : BI L T (putBy L pf (sc - 1) 0) :=
  h.congr fun j hj => by unfold putBy; omega
theorem put_pref {L : List Ro} {T : List Rt} {pf : Int} (h : BI L T (putBy L pf 0 0)) (ho : ∀ j, j < L.length → okRo (rog L j)) : BI L T (putBy L (pf + 1) 4 0) :=
  h.congr fun j hj => by have := (ho j hj).2.1; unfold putBy; omega
theorem put_first {L : List Ro} (ho : ∀ j, j < L.length → okRo (rog L j)) : BI L [] (putBy L 0 4 0) :=
  BI.none L fun j hj => by have := (ho j hj).2.1; have := (ho j hj).2.2.1; unfold putBy; omega
theorem put_done {L : List Ro} {T : List Rt} (h : BI L T (putBy L 256 4 0)) (ho : ∀ j, j < L.length → okRo (rog L j)) : BI L T (fun _ => True) :=
  h.congr fun j hj => by have := (ho j hj).2.2.1; unfold putBy; exact ⟨fun _ => trivial, fun _ => by omega⟩
attribute [local go_sem ↓] load_b16_rule store_b16_rule load_ad_rule store_ad_rule load_px_rule store_px_rule load_ro_rule store_ro_rule load_rib_rule load_tab_rule store_tab_rule build_tab_rule
/-- What stands at the head of each round: the table's box and its rows. -/
structure BW (W w : World) (B tb : Nat) (L : List Ro) (Q : Nat → Prop) : Prop where
  st : ∃ a c T, Blk w tb 41 #[.slice a (List.length T) c] ∧ Tbl w a c T ∧ (∀ x, a = some x → tb < x.block) ∧ BI L T Q
  bel : Below B W w
theorem BW.congr {W w : World} {B tb : Nat} {L : List Ro} {Q Q' : Nat → Prop} (h : BW W w B tb L Q) (k : ∀ T, BI L T Q → BI L T Q') : BW W w B tb L Q' := by
  obtain ⟨⟨a, c, T, h1, h2, h3, h4⟩, h5⟩ := h
  exact ⟨⟨a, c, T, h1, h2, h3, k T h4⟩, h5⟩
set_option maxHeartbeats 4000000 in
theorem rrbest_any (a : Option Addr) (n c : Nat) (L : List Ro) (w : World) (hW : Wid w) (hn : L.length = n) (hs : n ≤ 900) (hR : RoAt w a L) (hok : okRib L) :
    Calls Tryd.prog 23 #[.agg #[.slice a n c]] w fun e w' => ∃ a' c' T, e = .returned (.agg #[.slice a' (List.length T) c']) ∧ Tbl w' a' c' T ∧ BI L T (fun _ => True) ∧ Below w.heap.size w w' := by
  obtain ⟨W0, hW0⟩ : ∃ W0, w.alloc (.cells #[.slice a n c] 24) = W0 := ⟨_, rfl⟩
  obtain ⟨W1, hW1⟩ : ∃ W1, W0.alloc (.cells #[.slice none 0 0] 41) = W1 := ⟨_, rfl⟩
  obtain ⟨W2, hW2⟩ : ∃ W2, W1.alloc (.cells #[.slice none 0 0] 41) = W2 := ⟨_, rfl⟩
  have sz0 : W0.heap.size = w.heap.size + 1 := by rw [← hW0]; simp
  have sz1 : W1.heap.size = w.heap.size + 2 := by rw [← hW1, World.size_alloc, sz0]
  have sz2 : W2.heap.size = w.heap.size + 3 := by rw [← hW2, World.size_alloc, sz1]
  have hb0 : Below w.heap.size w W0 := by rw [← hW0]; exact (Below.refl w.heap.size w).alloc (Nat.le_refl _) _
  have hb01 : Below W0.heap.size W0 W1 := by rw [← hW1]; exact (Below.refl _ _).alloc (Nat.le_refl _) _
  have hb12 : Below W1.heap.size W1 W2 := by rw [← hW2]; exact (Below.refl _ _).alloc (Nat.le_refl _) _
  have hb2 : Below w.heap.size w W2 := bel_trans (bel_trans hb0 hb01) hb12
  have b1 : Blk W2 w.heap.size 24 #[.slice a n c] := by
    have h9 := Blk.new w 24 #[.slice a n c]
    rw [hW0] at h9
    exact (h9.later hb01).later hb12
  have b3 : Blk W2 W0.heap.size 41 #[.slice none 0 0] := by
    have h9 := Blk.new W0 41 #[.slice none 0 0]
    rw [hW1] at h9
    exact h9.later hb12
  have b4 : Blk W2 W1.heap.size 41 #[.slice none 0 0] := by rw [← hW2]; exact Blk.new _ _ _
  have HB := Lib.hid (And.intro hb2 (And.intro b1 (And.intro b3 (And.intro sz0 (And.intro sz1 (And.intro sz2 (And.intro hn (And.intro hR hW))))))))
  have h0 : BW W2 W2 W1.heap.size W1.heap.size L (putBy L 0 4 0) := ⟨⟨none, 0, [], b4, Tbl.none _, fun x hx => (by cases hx), put_first hok.1⟩, Below.refl _ _⟩
  have H0 := Lib.hid (And.intro h0 hok)
  have HK : ∀ wr, Below W1.heap.size W2 wr → Below w.heap.size w wr ∧ RoAt wr a L ∧ Wid wr ∧ wr.cell? ⟨w.heap.size, 0, none⟩ = some (.slice a n c) ∧ Blk wr W0.heap.size 41 #[.slice none 0 0] := fun wr h => by
    have k1 : Below w.heap.size w wr := HB.out.1.trans (h.mono (by have := HB.out.2.2.2.2.1; omega))
    refine ⟨k1, HB.out.2.2.2.2.2.2.2.1.later k1, HB.out.2.2.2.2.2.2.2.2.later k1, ?_, (h.block _ (by have := HB.out.2.2.2.2.1; have := HB.out.2.2.2.1; omega)).trans HB.out.2.2.1⟩
    exact Blk.cell (w := wr) ((h.block _ (by have := HB.out.2.2.2.2.1; omega)).trans HB.out.2.1) 0
  have HKh := Lib.hid HK
  clear hR hW hn sz0 sz1 sz2 hb0 hb01 hb12 hb2 b1 b3 b4 h0 HK hok
  go_enter Tryd.func23, Tryd.ntmps23
  go_wp2_with (with_reducible refine wpList_alloc_z rfl 41 rfl #[.slice none 0 0] 1 z_tab ?_)
  go_loopw [4] (fun i wr => ∃ p : Nat, p ≤ 256 ∧ i = .int .i64 (p : Int) ∧ BW W2 wr W1.heap.size W1.heap.size L (putBy L p 4 0)) (fun i _ => 256 - (intOf i).toNat)
  case atStart => exact ⟨0, Nat.zero_le _, rfl, H0.out.1⟩
  case round =>
    obtain ⟨p, hp, rfl, hb⟩ := hrel
    obtain ⟨wo, hwo⟩ : ∃ wo, wo = wr := ⟨_, rfl⟩
    subst hwo
    by_cases hlt : p < 256
    · have i1 : (p : Int) ≤ 255 := by omega
      have HP := Lib.hid hb
      clear hb
      go_wp2_with fail
      go_loopw [5] (fun i wr => ∃ q : Nat, q ≤ 4 ∧ i = .int .i64 (q : Int) ∧ BW W2 wr W1.heap.size W1.heap.size L (putBy L p q 0)) (fun i _ => (intOf i).toNat)
      case atStart => exact ⟨4, Nat.le_refl _, rfl, HP.out⟩
      case round =>
        obtain ⟨q, hq, rfl, hb2⟩ := hrel
        obtain ⟨wi, hwi⟩ : ∃ wi, wi = wr := ⟨_, rfl⟩
        subst hwi
        by_cases hq1 : 1 ≤ q
        · have i2 : (1 : Int) ≤ (q : Int) := by omega
          have HQ := Lib.hid hb2
          clear hb2 HP
          go_wp2_with fail
          go_loopw [6] (fun i wr => ∃ k : Nat, k ≤ n ∧ i = .int .i64 (k : Int) ∧ BW W2 wr W1.heap.size W1.heap.size L (putBy L p q k)) (fun i _ => n - (intOf i).toNat)
          case atStart => exact ⟨0, Nat.zero_le _, rfl, HQ.out⟩
          case round =>
            obtain ⟨k, hk, rfl, hb3⟩ := hrel
            obtain ⟨hkw, hkr, hkW, CT3, hbr⟩ := HKh.out wr hb3.bel
            by_cases hkn : k < n
            · have hkl : k < L.length := by have := HB.out.2.2.2.2.2.2.1; omega
              obtain ⟨g, o, hao, hrow⟩ := hkr.spot hkl
              have LK := hrow.load hkl
              obtain ⟨W3, hst, hblk, hb5⟩ := ro_new (rog L k) wr
              obtain ⟨⟨a', c', T, h1, h2, h3, h4⟩, hbel⟩ := hb3
              have LF := ro_f hblk W3 (Below.refl _ _)
              have LS := ro_s hblk W3 (Below.refl _ _)
              subst hao
              have hw1 : W1.heap.size ≤ W2.heap.size := by have := HB.out.2.2.2.2.1; have := HB.out.2.2.2.2.2.1; omega
              have hw2 := hbel.size
              have HX := Lib.hid (And.intro h4 (And.intro hkl (And.intro h3 (And.intro hbel (And.intro hb5 (And.intro (Nat.le_trans hw1 hw2) (And.intro h1 (And.intro h2 (And.intro hblk hkW)))))))))
              clear h1 h2 h3 h4 hbel hb5 hkw hkr hkW hbr hrow hkl hblk hw1 hw2 HQ
              by_cases hf : (rog L k).f = p
              · have d1 : ((rog L k).f == (p : Int)) = true := by rw [hf]; simp
                by_cases hs2 : (rog L k).s = q
                · have d2 : ((rog L k).s == (q : Int)) = true := by rw [hs2]; simp
                  have LP := ro_p HX.out.2.2.2.2.2.2.2.2.1 W3 (Below.refl _ _)
                  have LH := ro_h HX.out.2.2.2.2.2.2.2.2.1 W3 (Below.refl _ _)
                  have LTb := tab_t (HX.out.2.2.2.2.2.2.1.later HX.out.2.2.2.2.1) W3 (Below.refl _ _)
                  have HPU := rput_any a' T.length c' T (rog L k).p (rog L k).h W3 rfl (by have := HX.out.1.len; have := H0.out.2.2.2; omega) (HX.out.2.2.2.2.2.2.2.2.2.later HX.out.2.2.2.2.1) (HX.out.2.2.2.2.2.2.2.1.later HX.out.2.2.2.2.1)
                  have HM := Lib.hid (And.intro hf hs2)
                  clear hf hs2
                  go_wp2_with (with_reducible refine wpList_alloc_z rfl 67 rfl Ro.zero.cs 21 z_ro ?_)
                  refine HPU.mono ?_
                  rintro e W4 ⟨a4, c4, rfl, ht4, hf4, hb4⟩
                  have bt4 : Blk W4 W1.heap.size 41 #[.slice a' T.length c'] := (HX.out.2.2.2.2.2.2.1.later HX.out.2.2.2.2.1).later hb4
                  have ST4 := st_tab (a2 := a4) (n2 := (putL T (rog L k).p (rog L k).h).length) (c2 := c4) bt4
                  have hsz3 : W1.heap.size < W3.heap.size := by have := HX.out.2.2.2.2.2.2.1.lt; have := HX.out.2.2.2.2.1.size; omega
                  have HY := Lib.hid (And.intro bt4 (And.intro ht4 (And.intro hf4 (And.intro hb4 hsz3))))
                  clear bt4 ht4 hf4 hb4 HPU LP LH LTb LK LF LS hst hsz3
                  go_wp2_with fail
                  go_roundw
                  case rel => exact ⟨k + 1, by omega, by go_num, ⟨⟨a4, c4, _, Blk.row HY.out.1 _, HY.out.2.1.kept ((Kept.refl [W1.heap.size] W4).setRow (.inl (by simp)) _) (fun x hx => by have := HY.out.2.2.1 x hx; have := HY.out.2.2.2.2; simp; omega), (fun x hx => by have := HY.out.2.2.1 x hx; have := HY.out.2.2.2.2; omega), put_next HX.out.1 (Up2.uniq H0.out.2.2.1) HX.out.2.1 HM.out.1 HM.out.2 (by have := (H0.out.2.1 k HX.out.2.1).2.2.2.1; omega)⟩, below_setRow ((HX.out.2.2.2.1.trans (HX.out.2.2.2.2.1.mono HX.out.2.2.2.2.2.1)).trans (HY.out.2.2.2.1.mono (by have := HY.out.2.2.2.2; omega))) (Nat.le_refl _) _⟩⟩
                  case measure => (simp [intOf]; try omega)
                · have d2 : ((rog L k).s == (q : Int)) = false := by simpa using hs2
                  have HM := Lib.hid hs2
                  clear hf hs2
                  go_wp2_with (with_reducible refine wpList_alloc_z rfl 67 rfl Ro.zero.cs 21 z_ro ?_)
                  go_roundw
                  case rel => exact ⟨k + 1, by omega, by go_num, ⟨⟨a', c', T, HX.out.2.2.2.2.2.2.1.later HX.out.2.2.2.2.1, HX.out.2.2.2.2.2.2.2.1.later HX.out.2.2.2.2.1, HX.out.2.2.1, put_skip HX.out.1 (fun h => HM.out h.2)⟩, HX.out.2.2.2.1.trans (HX.out.2.2.2.2.1.mono HX.out.2.2.2.2.2.1)⟩⟩
                  case measure => (simp [intOf]; try omega)
              · have d1 : ((rog L k).f == (p : Int)) = false := by simpa using hf
                have HM := Lib.hid hf
                clear hf
                go_wp2_with (with_reducible refine wpList_alloc_z rfl 67 rfl Ro.zero.cs 21 z_ro ?_)
                go_roundw
                case rel => exact ⟨k + 1, by omega, by go_num, ⟨⟨a', c', T, HX.out.2.2.2.2.2.2.1.later HX.out.2.2.2.2.1, HX.out.2.2.2.2.2.2.2.1.later HX.out.2.2.2.2.1, HX.out.2.2.1, put_skip HX.out.1 (fun h => HM.out h.1)⟩, HX.out.2.2.2.1.trans (HX.out.2.2.2.2.1.mono HX.out.2.2.2.2.2.1)⟩⟩
                case measure => (simp [intOf]; try omega)
            · have i3 : ¬ ((k : Int) < (n : Int)) := by omega
              have hkL : k = L.length := by have := HB.out.2.2.2.2.2.2.1; omega
              obtain ⟨q2, rfl⟩ : ∃ q2, q = q2 + 1 := ⟨q - 1, by omega⟩
              have HX := Lib.hid (And.intro hb3 hkL)
              clear hb3 hkL hkw hkr hkW hbr HQ
              go_wp2_with fail
              go_roundw
              case rel => exact ⟨q2, by omega, by go_num, HX.out.1.congr (fun T h => by rw [HX.out.2] at h; have h9 := put_src h; rwa [show ((q2 + 1 : Nat) : Int) - 1 = (q2 : Int) by omega] at h9)⟩
              case measure => (simp [intOf]; try omega)
        · have i2 : ¬ ((1 : Int) ≤ (q : Int)) := by omega
          have hq0 : q = 0 := by omega
          have HX := Lib.hid (And.intro hb2 hq0)
          clear hb2 hq0 HP
          go_wp2_with fail
          go_roundw
          case rel => exact ⟨p + 1, by omega, by go_num, HX.out.1.congr (fun T h => by rw [HX.out.2] at h; have h9 := put_pref h H0.out.2.1; rwa [show (p : Int) + 1 = ((p + 1 : Nat) : Int) by omega] at h9)⟩
          case measure => (simp [intOf]; try omega)
    · have i1 : ¬ ((p : Int) ≤ 255) := by omega
      obtain rfl : p = 256 := by omega
      obtain ⟨hkw, hkr, hkW, CT3, hbr⟩ := HKh.out _ hb.bel
      obtain ⟨⟨a', c', T, h1, h2, h3, h4⟩, hbel⟩ := hb
      have LTb := tab_t h1 _ (Below.refl _ _)
      have SO := st_tab (a2 := a') (n2 := T.length) (c2 := c') hbr
      have HF := Lib.hid (And.intro h2 (And.intro h3 (And.intro h4 (And.intro hkw hbr))))
      clear h1 h2 h3 h4 hbel hkw hkr hkW hbr CT3
      go_wp2
      refine bodyPost_ret (results_cell_row rfl _ _ W0.heap.size 41 _ (0, 0) _ rfl (HF.out.2.2.2.2.row _) Tryd.underlying41 rfl s_tab1) rfl ?_
      exact ⟨a', c', T, rfl, HF.out.1.kept ((Kept.refl [W0.heap.size] _).setRow (.inl (by simp)) _) (fun x hx => by have := HF.out.2.1 x hx; have := HB.out.2.2.2.1; have := HB.out.2.2.2.2.1; simp; omega), put_done HF.out.2.2.1 H0.out.2.1, below_setRow HF.out.2.2.2.1 (by have := HB.out.2.2.2.1; omega) _⟩
end Go.Proofs.YtclkfmblogkakaaDoor
namespace Go.Proofs.YtclkfmblogkakaaDoor
open Go.RowKit Go.Shelf
set_option linter.unusedVariables false
set_option maxRecDepth 100000
def ltQ (x y : Ro) : Prop := cmpR x y < 0
theorem cmpR_zero {x y : Ro} : cmpR x y = 0 ↔ x.p = y.p ∧ x.s = y.s := by
  constructor
  · intro h
    rw [cmpR_eq] at h
    by_cases e : cmpP x.p y.p = 0
    · rw [if_pos e] at h
      refine ⟨(cmpP_zero _ _).1 e, ?_⟩
      rcases cmpI_cases x.s y.s with k | k | k <;> omega
    · rw [if_neg e] at h; exact absurd h e
  · rintro ⟨h1, h2⟩; exact cmpR_same h1 h2
theorem ltQ_trans {x y z : Ro} (h : ltQ x y) (k : ltQ y z) : ltQ x z := cm_r.lt _ _ _ h k
theorem ltQ_irr {x y : Ro} (h : ltQ x y) (e : x = y) : False := by
  subst e
  unfold ltQ at h
  rw [cmpR_same rfl rfl] at h
  omega
theorem spk_zero {u : Up} {y : Ro} : spk u y ↔ cmpR (said u) y = 0 := by
  rw [cmpR_zero]; rfl
theorem Up2.pair {L : List Ro} : Up2 L ↔ L.Pairwise ltQ := by
  constructor
  · intro h
    rw [List.pairwise_iff_getElem]
    intro i j hi hj hij
    have := h.lt hij hj
    rw [rog_get hi, rog_get hj] at this
    exact this
  · intro h j hj
    have := (List.pairwise_iff_getElem.1 h) j (j + 1) (by omega) hj (by omega)
    rw [rog_get hj, rog_get (show j < L.length by omega)]
    exact this
theorem rise_ro : ∀ {L M : List Ro}, L.Pairwise ltQ → M.Pairwise ltQ → (∀ x, x ∈ L ↔ x ∈ M) → L = M
  | [], [], _, _, _ => rfl
  | [], y :: M, _, _, h => by have := (h y).2 (by simp); simp at this
  | x :: L, [], _, _, h => by have := (h x).1 (by simp); simp at this
  | x :: L, y :: M, h1, h2, h => by
    have g1 := List.pairwise_cons.1 h1
    have g2 := List.pairwise_cons.1 h2
    have e : x = y := by
      rcases List.mem_cons.1 ((h x).1 (by simp)) with k | k
      · exact k
      · rcases List.mem_cons.1 ((h y).2 (by simp)) with l | l
        · exact l.symm
        · exact absurd rfl (fun e => ltQ_irr (ltQ_trans (g1.1 y l) (g2.1 x k)) e)
    subst e
    congr 1
    refine rise_ro g1.2 g2.2 fun z => ?_
    constructor
    · intro hz
      rcases List.mem_cons.1 ((h z).1 (by simp [hz])) with k | k
      · exact absurd k.symm (fun e => ltQ_irr (g1.1 z hz) e)
      · exact k
    · intro hz
      rcases List.mem_cons.1 ((h z).2 (by simp [hz])) with k | k
      · exact absurd k.symm (fun e => ltQ_irr (g2.1 z hz) e)
      · exact k
/-- What stands behind the first k candidates: what is put together, whether the new one stands in it, whether there was one in its stead. -/
noncomputable def insK (L : List Ro) (u : Up) : Nat → List Ro × Bool × Bool
  | 0 => ([], u.g, false)
  | k + 1 => if spk u (rog L k) then ((insK L u k).1, (insK L u k).2.1, true)
    else if (insK L u k).2.1 = false ∧ cmpR (said u) (rog L k) < 0 then ((insK L u k).1 ++ [said u] ++ [rog L k], true, (insK L u k).2.2)
    else ((insK L u k).1 ++ [rog L k], (insK L u k).2.1, (insK L u k).2.2)
noncomputable def insR (L : List Ro) (u : Up) : List Ro := if (insK L u L.length).2.1 = false then (insK L u L.length).1 ++ [said u] else (insK L u L.length).1
noncomputable def hadL (L : List Ro) (u : Up) : Bool := (insK L u L.length).2.2
theorem insK_len (L : List Ro) (u : Up) : ∀ k, (insK L u k).1.length + (if (insK L u k).2.1 = false then 1 else 0) ≤ k + 1
  | 0 => by cases h : u.g <;> simp [insK, h]
  | k + 1 => by
    have ih := insK_len L u k
    rw [insK]
    split
    · simp only; omega
    · split
      · rename_i h; rw [if_pos h.1] at ih; simp; omega
      · simp only [List.length_append, List.length_cons, List.length_nil]; omega
theorem insR_len (L : List Ro) (u : Up) : (insR L u).length ≤ L.length + 1 := by
  have := insK_len L u L.length
  unfold insR
  split
  · rename_i h; rw [if_pos h] at this; simp; omega
  · omega
theorem had_iff (L : List Ro) (u : Up) : ∀ k, (insK L u k).2.2 = true ↔ ∃ j, j < k ∧ spk u (rog L j)
  | 0 => by simp [insK]
  | k + 1 => by
    have ih := had_iff L u k
    by_cases h : spk u (rog L k)
    · rw [insK, if_pos h]
      exact ⟨fun _ => ⟨k, by omega, h⟩, fun _ => rfl⟩
    · have e : (insK L u (k + 1)).2.2 = (insK L u k).2.2 := by
        rw [insK, if_neg h]; split <;> rfl
      rw [e, ih]
      constructor
      · rintro ⟨j, h1, h2⟩; exact ⟨j, by omega, h2⟩
      · rintro ⟨j, h1, h2⟩
        refine ⟨j, ?_, h2⟩
        by_cases e2 : j = k
        · subst e2; exact absurd h2 h
        · omega
structure InsOk (L : List Ro) (u : Up) (k : Nat) : Prop where
  rise : (insK L u k).1.Pairwise ltQ
  mem : ∀ x, x ∈ (insK L u k).1 ↔ ((∃ j, j < k ∧ rog L j = x) ∧ ¬ spk u x) ∨ ((insK L u k).2.1 = true ∧ u.g = false ∧ x = said u)
  low : (insK L u k).2.1 = false → ∀ x ∈ (insK L u k).1, ltQ x (said u)
  next : ∀ x ∈ (insK L u k).1, ∀ j, k ≤ j → j < L.length → ltQ x (rog L j)
  some : (insK L u k).2.1 = false → u.g = false
theorem ins_ok {L : List Ro} (hL : Up2 L) (u : Up) : ∀ k, k ≤ L.length → InsOk L u k
  | 0, _ => by
    refine ⟨List.Pairwise.nil, fun x => ?_, fun _ x hx => by simp [insK] at hx, fun x hx => by simp [insK] at hx, fun e => by simpa [insK] using e⟩
    simp [insK]
    intro e1 e2
    rw [e1] at e2; cases e2
  | k + 1, hk => by
    have ih := ins_ok hL u k (by omega)
    have hkl : k < L.length := by omega
    by_cases h1 : spk u (rog L k)
    · have e : (insK L u (k + 1)).1 = (insK L u k).1 := by rw [insK, if_pos h1]
      have e2 : (insK L u (k + 1)).2.1 = (insK L u k).2.1 := by rw [insK, if_pos h1]
      refine ⟨by rw [e]; exact ih.rise, fun x => ?_, by rw [e, e2]; exact ih.low, fun x hx j hj hjl => ih.next x (by rw [e] at hx; exact hx) j (by omega) hjl, by rw [e2]; exact ih.some⟩
      rw [e, e2, ih.mem]
      constructor
      · rintro (⟨⟨j, hj, hx⟩, hp⟩ | h2)
        · exact .inl ⟨⟨j, by omega, hx⟩, hp⟩
        · exact .inr h2
      · rintro (⟨⟨j, hj, hx⟩, hp⟩ | h2)
        · refine .inl ⟨⟨j, ?_, hx⟩, hp⟩
          by_cases ej : j = k
          · rw [ej] at hx; rw [← hx] at hp; exact absurd h1 hp
          · omega
        · exact .inr h2
    · have hlater : ∀ j, k + 1 ≤ j → j < L.length → ltQ (rog L k) (rog L j) := fun j hj hjl => hL.lt (by omega) hjl
      by_cases h2 : (insK L u k).2.1 = false ∧ cmpR (said u) (rog L k) < 0
      · have e : insK L u (k + 1) = ((insK L u k).1 ++ [said u] ++ [rog L k], true, (insK L u k).2.2) := by rw [insK, if_neg h1, if_pos h2]
        have hP : ltQ (said u) (rog L k) := h2.2
        refine ⟨?_, fun x => ?_, fun h9 => (by rw [e] at h9; cases h9), fun x hx j hj hjl => ?_, fun h9 => (by rw [e] at h9; cases h9)⟩
        · rw [e]
          simp only [List.append_assoc, List.pairwise_append, List.pairwise_cons, List.cons_append, List.nil_append]
          refine ⟨ih.rise, ⟨by simpa using hP, by simp, List.Pairwise.nil⟩, fun x hx y hy => ?_⟩
          rcases List.mem_cons.1 hy with e9 | hy
          · rw [e9]; exact ih.low h2.1 x hx
          · have e9 : y = rog L k := by simpa using hy
            rw [e9]; exact ih.next x hx k (Nat.le_refl _) hkl
        · rw [e]
          simp only [List.append_assoc, List.mem_append, List.mem_cons, List.cons_append, List.nil_append, List.not_mem_nil, or_false, true_and]
          rw [ih.mem]
          constructor
          · rintro ((⟨⟨j, hj, hx⟩, hp⟩ | ⟨_, q2, q3⟩) | hx | hx)
            · exact .inl ⟨⟨j, by omega, hx⟩, hp⟩
            · exact .inr ⟨q2, q3⟩
            · exact .inr ⟨ih.some h2.1, hx⟩
            · exact .inl ⟨⟨k, by omega, hx.symm⟩, by rw [hx]; exact h1⟩
          · rintro (⟨⟨j, hj, hx⟩, hp⟩ | ⟨q2, q3⟩)
            · by_cases ej : j = k
              · exact .inr (.inr (by rw [← hx, ej]))
              · exact .inl (.inl ⟨⟨j, by omega, hx⟩, hp⟩)
            · exact .inr (.inl q3)
        · rw [e] at hx
          simp only [List.append_assoc, List.mem_append, List.mem_cons, List.cons_append, List.nil_append, List.not_mem_nil, or_false] at hx
          rcases hx with hx | hx | hx
          · exact ih.next x hx j (by omega) hjl
          · rw [hx]; exact ltQ_trans hP (hlater j hj hjl)
          · rw [hx]; exact hlater j hj hjl
      · have e : insK L u (k + 1) = ((insK L u k).1 ++ [rog L k], (insK L u k).2.1, (insK L u k).2.2) := by rw [insK, if_neg h1, if_neg h2]
        refine ⟨?_, fun x => ?_, fun h9 x hx => ?_, fun x hx j hj hjl => ?_, fun h9 => ih.some (by rw [e] at h9; exact h9)⟩
        · rw [e]
          simp only [List.pairwise_append, List.pairwise_cons]
          exact ⟨ih.rise, ⟨by simp, List.Pairwise.nil⟩, fun x hx y hy => by
            have e9 : y = rog L k := by simpa using hy
            rw [e9]; exact ih.next x hx k (Nat.le_refl _) hkl⟩
        · rw [e]
          simp only [List.mem_append, List.mem_singleton]
          rw [ih.mem]
          constructor
          · rintro ((⟨⟨j, hj, hx⟩, hp⟩ | q) | hx)
            · exact .inl ⟨⟨j, by omega, hx⟩, hp⟩
            · exact .inr q
            · exact .inl ⟨⟨k, by omega, hx.symm⟩, by rw [hx]; exact h1⟩
          · rintro (⟨⟨j, hj, hx⟩, hp⟩ | q)
            · by_cases ej : j = k
              · exact .inr (by rw [← hx, ej])
              · exact .inl (.inl ⟨⟨j, by omega, hx⟩, hp⟩)
            · exact .inl (.inr q)
        · rw [e] at hx h9
          simp only [List.mem_append, List.mem_singleton] at hx
          rcases hx with hx | hx
          · exact ih.low h9 x hx
          · rw [hx]
            have c1 : ¬ cmpR (said u) (rog L k) < 0 := fun c => h2 ⟨h9, c⟩
            have c2 : cmpR (said u) (rog L k) ≠ 0 := fun c => h1 (spk_zero.2 c)
            have c3 := cm_r.flip (rog L k) (said u)
            show cmpR (rog L k) (said u) < 0
            omega
        · rw [e] at hx
          simp only [List.mem_append, List.mem_singleton] at hx
          rcases hx with hx | hx
          · exact ih.next x hx j (by omega) hjl
          · rw [hx]; exact hlater j hj hjl
theorem insR_spec {L : List Ro} (hL : Up2 L) (u : Up) : Up2 (insR L u) ∧ ∀ x, x ∈ insR L u ↔ (x ∈ L ∧ ¬ spk u x) ∨ (u.g = false ∧ x = said u) := by
  have ih := ins_ok hL u L.length (Nat.le_refl _)
  have hm : ∀ x, (∃ j, j < L.length ∧ rog L j = x) ↔ x ∈ L := fun x => ⟨fun ⟨j, hj, hx⟩ => by rw [← hx]; exact rog_mem hj, mem_rog⟩
  rw [Up2.pair]
  unfold insR
  by_cases h1 : (insK L u L.length).2.1 = false
  · rw [if_pos h1]
    refine ⟨?_, fun x => ?_⟩
    · simp only [List.pairwise_append, List.pairwise_cons]
      exact ⟨ih.rise, ⟨by simp, List.Pairwise.nil⟩, fun x hx y hy => by
        have e9 : y = said u := by simpa using hy
        rw [e9]; exact ih.low h1 x hx⟩
    · simp only [List.mem_append, List.mem_singleton]
      rw [ih.mem, hm, h1]
      constructor
      · rintro ((q | ⟨q, _⟩) | q)
        · exact .inl q
        · cases q
        · exact .inr ⟨ih.some h1, q⟩
      · rintro (q | ⟨_, q⟩)
        · exact .inl (.inl q)
        · exact .inr q
  · have h2 : (insK L u L.length).2.1 = true := by simpa using h1
    rw [if_neg h1]
    refine ⟨ih.rise, fun x => ?_⟩
    rw [ih.mem, hm, h2]
    simp
/-- The same candidates, each once. -/
structure Alike (M N : List Ro) : Prop where
  mem : ∀ x, x ∈ M ↔ x ∈ N
  one : One M
  up : Up2 N
theorem One.nodup {M : List Ro} (h : One M) : M.Nodup := by
  rw [List.nodup_iff_pairwise_ne, List.pairwise_iff_getElem]
  intro i j hi hj hij e
  have := h i j hi hj (by rw [rog_get hi, rog_get hj, e]) (by rw [rog_get hi, rog_get hj, e])
  omega
theorem alike_had {M N : List Ro} (h : Alike M N) (u : Up) : hadL N u = true ↔ spotF u M < M.length := by
  rw [hadL, had_iff]
  constructor
  · rintro ⟨j, hj, hs⟩
    obtain ⟨i, hi, e⟩ := mem_rog ((h.mem _).2 (rog_mem hj))
    refine Classical.byContradiction fun k => ?_
    have := spotF_ahead (u := u) (L := M) (j := i) (by omega)
    rw [e] at this
    exact this hs
  · intro k
    obtain ⟨j, hj, e⟩ := mem_rog ((h.mem _).1 (rog_mem k))
    exact ⟨j, hj, by rw [e]; exact spotF_at k⟩
theorem rest_mem {M : List Ro} (h : One M) (u : Up) (x : Ro) : x ∈ rest1 M u ↔ x ∈ M ∧ ¬ spk u x := by
  by_cases k : spotF u M < M.length
  · have hs := spotF_at k
    rw [rest1, if_pos k, List.mem_eraseIdx_iff_getElem]
    constructor
    · rintro ⟨j, hj, hne, e⟩
      refine ⟨by rw [← e]; exact List.getElem_mem hj, fun hx => hne ?_⟩
      rw [← e, ← rog_get hj] at hx
      exact h _ _ hj k (hx.1.symm.trans hs.1) (hx.2.symm.trans hs.2)
    · rintro ⟨hx, hn⟩
      obtain ⟨j, hj, e⟩ := mem_rog hx
      refine ⟨j, hj, fun e2 => hn ?_, by rw [← rog_get hj]; exact e⟩
      rw [← e, e2]; exact hs
  · rw [rest1, if_neg k]
    refine ⟨fun hx => ⟨hx, fun hs => ?_⟩, fun hx => hx.1⟩
    obtain ⟨j, hj, e⟩ := mem_rog hx
    have := spotF_ahead (u := u) (L := M) (j := j) (by omega)
    rw [e] at this
    exact this hs
theorem one_pair {M : List Ro} : One M ↔ M.Pairwise fun x y => ¬ (x.p = y.p ∧ x.s = y.s) := by
  rw [List.pairwise_iff_getElem]
  constructor
  · intro h i j hi hj hij ⟨e1, e2⟩
    have := h i j hi hj (by rw [rog_get hi, rog_get hj]; exact e1) (by rw [rog_get hi, rog_get hj]; exact e2)
    omega
  · intro h i j hi hj e1 e2
    rw [rog_get hi, rog_get hj] at e1 e2
    rcases Nat.lt_trichotomy i j with k | k | k
    · exact absurd ⟨e1, e2⟩ (h i j hi hj k)
    · exact k
    · exact absurd ⟨e1.symm, e2.symm⟩ (h j i hj hi k)
theorem alike_step {M N : List Ro} (h : Alike M N) (u : Up) : Alike (stepL M u) (insR N u) := by
  obtain ⟨q1, q2⟩ := insR_spec h.up u
  have r1 : One (rest1 M u) := by
    rw [rest1]
    split
    · exact one_pair.2 ((one_pair.1 h.one).sublist (List.eraseIdx_sublist _ _))
    · exact h.one
  refine ⟨fun x => ?_, ?_, q1⟩
  · rw [q2, stepL]
    split
    · rename_i hg
      rw [rest_mem h.one, h.mem]
      exact ⟨fun k => .inl k, fun k => k.resolve_right fun k2 => by rw [hg] at k2; cases k2.1⟩
    · rename_i hg
      rw [List.mem_append, rest_mem h.one, h.mem, List.mem_singleton]
      exact ⟨fun k => k.imp id fun k2 => ⟨by simpa using hg, k2⟩, fun k => k.imp id fun k2 => k2.2⟩
  · rw [stepL]
    split
    · exact r1
    · rw [one_pair, List.pairwise_append]
      refine ⟨one_pair.1 r1, by simp, fun x hx y hy => ?_⟩
      have hy2 : y = said u := by simpa using hy
      subst hy2
      rintro ⟨e1, e2⟩
      exact ((rest_mem h.one u x).1 hx).2 ⟨e1.symm, e2.symm⟩
theorem alike_self {L : List Ro} (h : Up2 L) : Alike L L := ⟨fun _ => Iff.rfl, h.uniq, h⟩
theorem alike_sorted {D S N : List Ro} (h : Alike D N) (hS : Sorted cmpR D S) : S = N := by
  refine rise_ro ?_ (Up2.pair.1 h.up) fun x => (hS.1.mem_iff).trans (h.mem x)
  have hl : S.length = D.length := hS.1.length_eq
  have ho : S.Pairwise fun x y => ¬ (x.p = y.p ∧ x.s = y.s) := (one_pair.1 h.one).perm hS.1.symm fun k e => k ⟨e.1.symm, e.2.symm⟩
  rw [List.pairwise_iff_getElem] at ho ⊢
  intro i j hi hj hij
  have h1 := hS.2 i j hij (by omega)
  rw [rog_get hi, rog_get hj] at h1
  have h2 : cmpR S[i] S[j] ≠ 0 := fun e => ho i j hi hj hij (cmpR_zero.1 e)
  show cmpR S[i] S[j] < 0
  omega
/-- What the document's words make of it. -/
noncomputable def runI : List Ro → List Up → Option (List Ro)
  | M, [] => some M
  | M, u :: U => open Classical in if u.g = true ∧ hadL M u = false then none else runI (insR M u) U
theorem run_same : ∀ (U : List Up) {M N : List Ro}, Alike M N → (runU M U = none ↔ runI N U = none) ∧ ∀ D, runU M U = some D → ∃ E, runI N U = some E ∧ Alike D E
  | [], M, N, h => ⟨by simp [runU, runI], fun D e => ⟨N, rfl, by cases e; exact h⟩⟩
  | u :: U, M, N, h => by
    have ih := run_same U (alike_step h u)
    have hh := alike_had h u
    by_cases k : badU M u
    · have k2 : u.g = true ∧ hadL N u = false := ⟨k.1, by cases e : hadL N u with
        | false => rfl
        | true => exact absurd (hh.1 e) k.2⟩
      rw [runU, if_pos k, runI, if_pos k2]
      exact ⟨by simp, fun D e => by cases e⟩
    · have k2 : ¬ (u.g = true ∧ hadL N u = false) := fun q => k ⟨q.1, fun e => by rw [hh.2 e] at q; cases q.2⟩
      rw [runU, if_neg k, runI, if_neg k2]
      exact ih
/-- What a batch makes of a RIB by the document's words, and the error. -/
inductive AppI (L : List Ro) (U : List Up) : List Ro → Int → Prop
  | rib : ¬ okRib L → AppI L U [] 211
  | bat : okRib L → ¬ okBat U → AppI L U [] 210
  | gone : okRib L → okBat U → runI L U = none → AppI L U [] 4
  | full {D : List Ro} : okRib L → okBat U → runI L U = some D → ¬ disN D D.length ≤ 40 → AppI L U [] 6
  | good {D : List Ro} : okRib L → okBat U → runI L U = some D → disN D D.length ≤ 40 → AppI L U D 0
theorem app_same {L M N : List Ro} {U : List Up} {e f : Int} (h : AppR L U M e) (k : AppI L U N f) : M = N ∧ e = f := by
  cases h with
  | rib h1 => cases k with
    | rib k1 => exact ⟨rfl, rfl⟩
    | bat k1 => exact absurd k1 h1
    | gone k1 => exact absurd k1 h1
    | full k1 => exact absurd k1 h1
    | good k1 => exact absurd k1 h1
  | bat h1 h2 => cases k with
    | rib k1 => exact absurd h1 k1
    | bat k1 => exact ⟨rfl, rfl⟩
    | gone _ k1 => exact absurd k1 h2
    | full _ k1 => exact absurd k1 h2
    | good _ k1 => exact absurd k1 h2
  | gone h1 h2 h3 =>
    have hr := run_same U (alike_self h1.2.1)
    cases k with
    | rib k1 => exact absurd h1 k1
    | bat _ k1 => exact absurd h2 k1
    | gone => exact ⟨rfl, rfl⟩
    | full _ _ k1 => rw [hr.1.1 h3] at k1; cases k1
    | good _ _ k1 => rw [hr.1.1 h3] at k1; cases k1
  | full h1 h2 h3 h4 h5 =>
    obtain ⟨E, e1, e2⟩ := (run_same U (alike_self h1.2.1)).2 _ h3
    cases k with
    | rib k1 => exact absurd h1 k1
    | bat _ k1 => exact absurd h2 k1
    | gone _ _ k1 => rw [e1] at k1; cases k1
    | full => exact ⟨rfl, rfl⟩
    | good _ _ k1 k2 =>
      rw [e1] at k1; cases k1
      have := alike_sorted e2 h4
      subst this
      rw [Up2.count e2.up _ (Nat.le_refl _)] at k2
      exact absurd k2 h5
  | good h1 h2 h3 h4 h5 =>
    obtain ⟨E, e1, e2⟩ := (run_same U (alike_self h1.2.1)).2 _ h3
    cases k with
    | rib k1 => exact absurd h1 k1
    | bat _ k1 => exact absurd h2 k1
    | gone _ _ k1 => rw [e1] at k1; cases k1
    | full _ _ k1 k2 =>
      rw [e1] at k1; cases k1
      have := alike_sorted e2 h4
      subst this
      rw [Up2.count e2.up _ (Nat.le_refl _)] at k2
      exact absurd h5 k2
    | good _ _ k1 k2 =>
      rw [e1] at k1; cases k1
      exact ⟨alike_sorted e2 h4, rfl⟩
end Go.Proofs.YtclkfmblogkakaaDoor
