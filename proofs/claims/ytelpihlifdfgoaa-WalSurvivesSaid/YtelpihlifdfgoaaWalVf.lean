/-
  A log of which there may be one of two: what Crash, Arm, Fail and Open leave of it. Nothing here is a statement of the document.
-/
import Derived.Test.YtelpihlifdfgoaaWalVb
namespace Go.Proofs.Ytelpihlifdfgoaa
open Go.RowKit Go.Shelf
set_option linter.unusedVariables false
/-- The log that comes of a frame on its way. -/
def NewIs (t c : Nat) (s : List Nat) (txs : List (List Nat)) (t' : Nat) (l : List Nat) (t2 c2 : Nat) (s2 : List Nat) (txs2 : List (List Nat)) : Prop :=
  (t' = t ∧ t2 = t ∧ c2 = c ∧ s2 = s ∧ txs2 = txs ++ [l]) ∨ (t' = t + 1 ∧ t2 = t + 1 ∧ c2 = 1 - c ∧ s2 = l ∧ txs2 = [])
def OldIs (t c : Nat) (s : List Nat) (txs : List (List Nat)) (t2 c2 : Nat) (s2 : List Nat) (txs2 : List (List Nat)) : Prop := t2 = t ∧ c2 = c ∧ s2 = s ∧ txs2 = txs
section
variable {D : Dk} {N n t c q t' m' : Nat} {s l : List Nat} {txs : List (List Nat)}
theorem open_core (hn : D.Nod N) (hN : 2 + 2 * n ≤ N) (h : Pend n t c s txs q t' m' l) (hP : ∀ i, i < 2 + 2 * n → PerP n t c s txs q t' m' l i (showsM D i)) (h1 : (readsM D 0 2).2.2 = 0) (h3 : (readsM (readsM D 0 2).1 2 n).2.2 = 0) (h4 : (readsM (readsM (readsM D 0 2).1 2 n).1 (2 + n) n).2.2 = 0) :
    ∃ D3 P t2 c2 s2 txs2, D3 = (readsM (readsM (readsM D 0 2).1 2 n).1 (2 + n) n).1 ∧ D3.plate = D.plate ∧ D3.rows = D.rows ∧ D3.dead = D.dead ∧ D3.fuse = D.fuse ∧ openM D = ⟨(layM D3 (openL P)).1, (layM D3 (openL P)).2, n, (some (t2, s2, txs2, (chainB t2 s2 txs2).length), c2)⟩ ∧ (OldIs t c s txs t2 c2 s2 txs2 ∨ (NewIs t c s txs t' l t2 c2 s2 txs2 ∧ ∀ k, k < secN l.length → showsM D (q + k) = (partAt t' m' l k).blk)) ∧ LogF (putF (showsM D) (openL P)) n t2 c2 s2 txs2 ∧ ∀ p ∈ P, p < 2 + 2 * n ∧ Per n t c s txs p Bk.zero := by
  obtain ⟨⟨D1, H, e1⟩, hE1⟩ : ∃ x, readsM D 0 2 = x := ⟨_, rfl⟩
  obtain ⟨a1, a2, a3, a4, a5⟩ := reads_keeps hn 0 2
  rw [hE1] at h1 h3 h4 a1 a2 a3 a4 a5 ⊢
  obtain rfl : e1 = 0 := h1
  have n1 : D1.Nod N := nod_turn hn a1 a2
  obtain ⟨⟨D2, A, e2⟩, hE2⟩ : ∃ x, readsM D1 2 n = x := ⟨_, rfl⟩
  obtain ⟨b1, b2, b3, b4, b5⟩ := reads_keeps n1 2 n
  rw [hE2] at h3 h4 b1 b2 b3 b4 b5 ⊢
  obtain rfl : e2 = 0 := h3
  have n2 : D2.Nod N := nod_turn n1 b1 b2
  obtain ⟨⟨D3, B, e3⟩, hE3⟩ : ∃ x, readsM D2 (2 + n) n = x := ⟨_, rfl⟩
  obtain ⟨c1, c2, c3, c4, c5⟩ := reads_keeps n2 (2 + n) n
  rw [hE3] at h4 c1 c2 c3 c4 c5 ⊢
  obtain rfl : e3 = 0 := h4
  have s1 : showsM D1 = showsM D := shows_turn a1 a2
  have s2 : showsM D2 = showsM D := (shows_turn b1 b2).trans s1
  have p3 : D3.plate = D.plate := c1.trans (b1.trans a1)
  have r3 : D3.rows = D.rows := c2.trans (b2.trans a2)
  have hN0 := h.nums
  have hn4 := hN0.n4
  have hH : H = [labL n, labL n] := by
    refine (a5 rfl).trans ?_
    show [showsM D 0, showsM D 1] = _
    have l0 : showsM D 0 = labL n := by
      rcases hP 0 (by omega) with hp | ⟨g1, _, _⟩
      · exact hp.lab (by omega)
      · have := h.far; omega
    have l1 : showsM D 1 = labL n := by
      rcases hP 1 (by omega) with hp | ⟨g1, _, _⟩
      · exact hp.lab (by omega)
      · have := h.far; omega
    rw [l0, l1]
  subst hH
  have hsz : sizeR [labL n, labL n] D1.plate.length = some n := lab_size hn4 (by rw [n1.len]; exact hN) _
  have hA : A = areaL (showsM D) 2 n := by rw [← s1]; exact b5 rfl
  have hB : B = areaL (showsM D) (2 + n) n := by rw [← s2]; exact c5 rfl
  subst hA
  subst hB
  by_cases hw : ∀ k, k < secN l.length → showsM D (q + k) = (partAt t' m' l k).blk
  · have hex : ∃ t2 c2 s2 txs2, NewIs t c s txs t' l t2 c2 s2 txs2 ∧ LogF (showsM D) n t2 c2 s2 txs2 := by
      rcases h.kind with ⟨rfl, k2⟩ | ⟨rfl, k2⟩
      · exact ⟨_, _, _, _, .inl ⟨rfl, rfl, rfl, rfl, rfl⟩, whole_app h k2 hP hw⟩
      · exact ⟨_, _, _, _, .inr ⟨rfl, rfl, rfl, rfl, rfl⟩, whole_chk h k2 hP hw⟩
    obtain ⟨t2, c2', s2', txs2, hnew, hlf⟩ := hex
    have hl := hlf.left
    refine ⟨D3, [], t2, c2', s2', txs2, rfl, p3, r3, c3.trans (b3.trans a3), c4.trans (b4.trans a4), ?_, .inr ⟨hnew, hw⟩, hlf, by simp⟩
    refine open_some hE1 hsz hE2 hE3 hlf.best (by show t2 ≠ 0; have := hlf.t0.1; omega) ?_
    show layM D3 (openL (leftPl (areaL (showsM D) 2 n) (areaL (showsM D) (2 + n) n) t2 (chainB t2 s2' txs2).length n c2')) = _
    rw [hl]
  · have hb := best_of hN0.t0.1 hN0.c2 (part_counts h hP hw) (fun d hd hdc => part_other h hP hw hd hdc)
    refine ⟨D3, leftPl (areaL (showsM D) 2 n) (areaL (showsM D) (2 + n) n) t (chainB t s txs).length n c, t, c, s, txs, rfl, p3, r3, c3.trans (b3.trans a3), c4.trans (b4.trans a4), ?_, .inl ⟨rfl, rfl, rfl, rfl⟩, part_wiped h hP, fun p hp => ?_⟩
    · exact open_some hE1 hsz hE2 hE3 hb (by show t ≠ 0; have := hN0.t0.1; omega) rfl
    · obtain ⟨g1, g2, g3, g4⟩ := (left_mem hN0.c2 hN0.fit).1 hp
      refine ⟨g2, byt_zero, fun hl => by omega, fun k x e hx => ?_, fun _ _ => by rw [zero_turn]; exact hN0.t0.1⟩
      have := (List.getElem?_eq_some_iff.1 hx).1
      omega
/-- What Open leaves, come what may. -/
theorem open_mix {Q : Nat → Bk → Prop} (hQ1 : ∀ i b, Q i b → PerP n t c s txs q t' m' l i b) (hQ2 : ∀ i, Per n t c s txs i Bk.zero → Q i Bk.zero) (hn : D.Nod N) (hN : 2 + 2 * n ≤ N) (h : Pend n t c s txs q t' m' l) (hP : ∀ i, i < 2 + 2 * n → ∀ b, Poss D i b → Q i b) :
    ((openM D).D.Nod N ∧ (∀ i, i < 2 + 2 * n → ∀ b, Poss (openM D).D i b → Q i b)) ∧
    ((openM D).e = 0 → (openM D).D.dead = false ∧ (openM D).D.rows = [] ∧ (openM D).n = n ∧ ∃ t2 c2 s2 txs2, (OldIs t c s txs t2 c2 s2 txs2 ∨ (NewIs t c s txs t' l t2 c2 s2 txs2 ∧ ∀ k, k < secN l.length → showsM D (q + k) = (partAt t' m' l k).blk)) ∧ (openM D).r = (some (t2, s2, txs2, (chainB t2 s2 txs2).length), c2) ∧ LogF (showsM (openM D).D) n t2 c2 s2 txs2) ∧
    (D.Well N → (openM D).e = 0 ∧ (openM D).D.Well N) := by
  have hP0 : ∀ i, i < 2 + 2 * n → PerP n t c s txs q t' m' l i (showsM D i) := fun i hi => hQ1 _ _ (hP i hi _ (poss_shows D i))
  obtain ⟨a1, a2, a3, a4, a5⟩ := reads_keeps hn 0 2
  have n1 : (readsM D 0 2).1.Nod N := nod_turn hn a1 a2
  obtain ⟨b1, b2, b3, b4, b5⟩ := reads_keeps n1 2 n
  have n2 : (readsM (readsM D 0 2).1 2 n).1.Nod N := nod_turn n1 b1 b2
  obtain ⟨c1, c2, c3, c4, c5⟩ := reads_keeps n2 (2 + n) n
  have hwell : D.Well N → (readsM D 0 2).2.2 = 0 ∧ (readsM (readsM D 0 2).1 2 n).2.2 = 0 ∧ (readsM (readsM (readsM D 0 2).1 2 n).1 (2 + n) n).2.2 = 0 ∧ (readsM (readsM (readsM D 0 2).1 2 n).1 (2 + n) n).1.Well N := by
    intro hw
    obtain ⟨E1, e1, w1, m1, _⟩ := reads_well hw hn 0 2 (by omega)
    obtain ⟨E2, e2, w2, m2, _⟩ := reads_well w1 m1 2 n (by omega)
    obtain ⟨E3, e3, w3, m3, _⟩ := reads_well w2 m2 (2 + n) n (by omega)
    rw [e1, e2, e3]
    exact ⟨rfl, rfl, rfl, w3⟩
  by_cases z1 : (readsM D 0 2).2.2 = 0
  · by_cases z2 : (readsM (readsM D 0 2).1 2 n).2.2 = 0
    · by_cases z3 : (readsM (readsM (readsM D 0 2).1 2 n).1 (2 + n) n).2.2 = 0
      · obtain ⟨D3, P, t2, c2', s2, txs2, hD3, p3, r3, d3, f3, ho, hon, hlf, hPw⟩ := open_core hn hN h hP0 z1 z2 z3
        have n3 : D3.Nod N := nod_turn hn p3 r3
        obtain ⟨k1, k2, k3⟩ := lay_keeps (openL P) n3
        rw [ho]
        refine ⟨⟨k1, fun i hi b hb => ?_⟩, fun he => ?_, fun hw => ?_⟩
        · rcases lay_poss (D := D3) hb with h1 | ⟨y, hy, h1, h2⟩
          · exact hP i hi b (poss_turn p3 r3 h1)
          · obtain ⟨p, hp, rfl⟩ := List.mem_map.1 hy
            rw [h2, h1]
            exact hQ2 _ (hPw p hp).2
        · obtain ⟨g1, g2, g3⟩ := k2 he
          refine ⟨g1, g2, rfl, t2, c2', s2, txs2, hon, rfl, ?_⟩
          show LogF (showsM (layM D3 (openL P)).1) n t2 c2' s2 txs2
          rw [g3, shows_turn (D := D) (E := D3) p3 r3]
          exact hlf
        · have hw3 := (hwell hw).2.2.2
          rw [← hD3] at hw3
          exact lay_well (openL P) hw3 (fun x hx => by
            obtain ⟨p, hp, rfl⟩ := List.mem_map.1 hx
            have := (hPw p hp).1
            show p < N
            omega)
      · have hsz : sizeR (readsM D 0 2).2.1 (readsM D 0 2).1.plate.length = some n := by
          have l0 : showsM D 0 = labL n := by
            rcases hP0 0 (by omega) with hp | ⟨g1, _, _⟩
            · exact hp.lab (by omega)
            · have := h.far; omega
          have l1 : showsM D 1 = labL n := by
            rcases hP0 1 (by have := h.nums.n4; omega) with hp | ⟨g1, _, _⟩
            · exact hp.lab (by omega)
            · have := h.far; omega
          have hH : (readsM D 0 2).2.1 = [labL n, labL n] := by
            refine (a5 z1).trans ?_
            show [showsM D 0, showsM D 1] = _
            rw [l0, l1]
          rw [hH]
          exact lab_size h.nums.n4 (by rw [n1.len]; exact hN) _
        have ho := open_second (D := D) (D1 := (readsM D 0 2).1) (H := (readsM D 0 2).2.1) (n := n) (D2 := (readsM (readsM D 0 2).1 2 n).1) (A := (readsM (readsM D 0 2).1 2 n).2.1) (D3 := (readsM (readsM (readsM D 0 2).1 2 n).1 (2 + n) n).1) (B := (readsM (readsM (readsM D 0 2).1 2 n).1 (2 + n) n).2.1) (e := (readsM (readsM (readsM D 0 2).1 2 n).1 (2 + n) n).2.2) (by rw [← z1]) hsz (by rw [← z2]) rfl z3
        rw [ho]
        exact ⟨⟨nod_turn n2 c1 c2, fun i hi b hb => hP i hi b (poss_turn a1 a2 (poss_turn b1 b2 (poss_turn c1 c2 hb)))⟩, fun he => absurd he z3, fun hw => absurd (hwell hw).2.2.1 z3⟩
    · have hsz : sizeR (readsM D 0 2).2.1 (readsM D 0 2).1.plate.length = some n := by
        have l0 : showsM D 0 = labL n := by
          rcases hP0 0 (by omega) with hp | ⟨g1, _, _⟩
          · exact hp.lab (by omega)
          · have := h.far; omega
        have l1 : showsM D 1 = labL n := by
          rcases hP0 1 (by have := h.nums.n4; omega) with hp | ⟨g1, _, _⟩
          · exact hp.lab (by omega)
          · have := h.far; omega
        have hH : (readsM D 0 2).2.1 = [labL n, labL n] := by
          refine (a5 z1).trans ?_
          show [showsM D 0, showsM D 1] = _
          rw [l0, l1]
        rw [hH]
        exact lab_size h.nums.n4 (by rw [n1.len]; exact hN) _
      have ho := open_first (D := D) (D1 := (readsM D 0 2).1) (H := (readsM D 0 2).2.1) (n := n) (D2 := (readsM (readsM D 0 2).1 2 n).1) (A := (readsM (readsM D 0 2).1 2 n).2.1) (e := (readsM (readsM D 0 2).1 2 n).2.2) (by rw [← z1]) hsz rfl z2
      rw [ho]
      exact ⟨⟨n2, fun i hi b hb => hP i hi b (poss_turn a1 a2 (poss_turn b1 b2 hb))⟩, fun he => absurd he z2, fun hw => absurd (hwell hw).2.1 z2⟩
  · have ho := open_heads (D := D) (D1 := (readsM D 0 2).1) (H := (readsM D 0 2).2.1) (e := (readsM D 0 2).2.2) rfl z1
    rw [ho]
    exact ⟨⟨n1, fun i hi b hb => hP i hi b (poss_turn a1 a2 hb)⟩, fun he => absurd he z1, fun hw => absurd (hwell hw).1 z1⟩
/-- What an append or a checkpoint leaves on the disk, come what may. -/
theorem lay_mix (hn : D.Nod N) (hN : 2 + 2 * n ≤ N) (h : Pend n t c s txs q t' m' l) (hP : ∀ i, i < 2 + 2 * n → ∀ b, Poss D i b → Per n t c s txs i b) :
    (layM D (frmL q t' m' l)).1.Nod N ∧ (∀ i, i < 2 + 2 * n → ∀ b, Poss (layM D (frmL q t' m' l)).1 i b → PerP n t c s txs q t' m' l i b) ∧
    ((layM D (frmL q t' m' l)).2 = 0 → (layM D (frmL q t' m' l)).1.dead = false ∧ ∃ t2 c2 s2 txs2, NewIs t c s txs t' l t2 c2 s2 txs2 ∧ LogF (showsM (layM D (frmL q t' m' l)).1) n t2 c2 s2 txs2 ∧ ∀ i, i < 2 + 2 * n → ∀ b, Poss (layM D (frmL q t' m' l)).1 i b → Per n t2 c2 s2 txs2 i b) := by
  obtain ⟨k1, k2, k3⟩ := lay_keeps (frmL q t' m' l) hn
  refine ⟨k1, fun i hi b hb => ?_, fun he => ?_⟩
  · rcases lay_poss hb with h1 | ⟨y, hy, h1, h2⟩
    · exact .inl (hP i hi b h1)
    · obtain ⟨k, hk, rfl⟩ := List.mem_map.1 hy
      have hk := List.mem_range.1 hk
      right
      have h1 : i = q + k := h1
      refine ⟨by omega, by omega, ?_⟩
      rw [h2, show i - q = k by omega]
  · obtain ⟨g1, g2, g3⟩ := k2 he
    have hf0 : LogF (showsM D) n t c s txs := logf_per h.nums (fun i hi => hP i hi _ (poss_shows D i))
    have hex : ∃ t2 c2 s2 txs2, NewIs t c s txs t' l t2 c2 s2 txs2 ∧ LogF (showsM (layM D (frmL q t' m' l)).1) n t2 c2 s2 txs2 := by
      rw [g3]
      rcases h.kind with ⟨rfl, rfl, rfl, k5⟩ | ⟨rfl, k5, rfl, rfl, k6⟩
      · exact ⟨_, _, _, _, .inl ⟨rfl, rfl, rfl, rfl, rfl⟩, hf0.app h.len h.bys k5⟩
      · exact ⟨_, _, _, _, .inr ⟨rfl, rfl, rfl, rfl, rfl⟩, hf0.chk h.len h.bys k6 k5⟩
    obtain ⟨t2, c2, s2, txs2, hnew, hlf⟩ := hex
    exact ⟨g1, t2, c2, s2, txs2, hnew, hlf, fun i hi b hb => by rw [poss_none g2 hb]; exact hlf.per hi⟩
end
end Go.Proofs.Ytelpihlifdfgoaa
namespace Go.Proofs.Ytelpihlifdfgoaa
open Go.RowKit Go.Shelf
set_option linter.unusedVariables false
theorem write_err (D : Dk) (i : Int) (b : Bk) : (writeM D i b).2 = 0 ∨ (writeM D i b).2 = 2 ∨ (writeM D i b).2 = 8 ∨ (writeM D i b).2 = 9 := by
  have hr : reachE D i = 0 ∨ reachE D i = 2 ∨ reachE D i = 9 := by
    unfold reachE
    split
    · exact .inr (.inr rfl)
    · split
      · exact .inl rfl
      · exact .inr (.inl rfl)
  unfold writeM
  split
  · rcases hr with h | h | h <;> simp [h]
  · split
    · exact .inr (.inr (.inr rfl))
    · split
      · exact .inr (.inr (.inl rfl))
      · exact .inl rfl
theorem sync_err (D : Dk) : (syncM D).2 = 0 ∨ (syncM D).2 = 2 ∨ (syncM D).2 = 8 ∨ (syncM D).2 = 9 := by
  unfold syncM
  split
  · exact .inr (.inr (.inr rfl))
  · split
    · exact .inr (.inr (.inr rfl))
    · split
      · exact .inr (.inr (.inl rfl))
      · exact .inl rfl
theorem puts_err : ∀ (l : List (Nat × Bk)) (D : Dk), (putsM D l).2 = 0 ∨ (putsM D l).2 = 2 ∨ (putsM D l).2 = 8 ∨ (putsM D l).2 = 9
  | [], D => .inl rfl
  | x :: l, D => by
    unfold putsM
    split
    · exact puts_err l _
    · exact write_err D _ _
theorem lay_err (l : List (Nat × Bk)) (D : Dk) : (layM D l).2 = 0 ∨ (layM D l).2 = 2 ∨ (layM D l).2 = 8 ∨ (layM D l).2 = 9 := by
  unfold layM
  split
  · exact sync_err _
  · exact puts_err l D
/-- What a write leaves: nothing, as it was refused; the new log; or a log that is broken, a frame on its way. -/
def After (W w' : World) (B p pb g N n t c : Nat) (s : List Nat) (txs : List (List Nat)) (bv sv tv : Value) (vs : List Value) (D : Dk) (t' : Nat) (l : List Nat) (er : Int) : Prop :=
  ∃ (bv' : Value) (D' : Dk), Dsk w' B p pb bv' D' ∧ D'.Byt ∧ D'.Nod N ∧ Kept (g :: (tv.ownBlock.toList ++ fp p pb bv)) W w' ∧ Below B W w' ∧ (D.fuse = none → D'.fuse = none ∧ D'.dead = D.dead) ∧ (D.Well N → (er = 0 ∨ er = 6) ∧ D'.Well N) ∧
    ((er = 6 ∧ D' = D ∧ LcX B w' p g n t c s txs sv tv vs) ∨
     (er = 0 ∧ D'.dead = false ∧ ∃ t2 c2 s2 txs2 sv2 tv2 vs2, NewIs t c s txs t' l t2 c2 s2 txs2 ∧ LcX B w' p g n t2 c2 s2 txs2 sv2 tv2 vs2 ∧ (∀ i, tv2.ownBlock = some i → tv.ownBlock = some i ∨ W.heap.size ≤ i) ∧ LogN n t2 c2 s2 txs2 ∧ ∀ i, i < 2 + 2 * n → ∀ b, Poss D' i b → Per n t2 c2 s2 txs2 i b) ∨
     (er ≠ 0 ∧ er ≠ 6 ∧ (∃ t0 sv0 tv0 u0 c0, Blk w' g 67 (lgcs t0 sv0 tv0 u0 p n c0 true)) ∧ ∃ q m', Pend n t c s txs q t' m' l ∧ ∀ i, i < 2 + 2 * n → ∀ b, Poss D' i b → PerP n t c s txs q t' m' l i b))
section
variable {B p pb g n N t c : Nat} {W W' : World} {s : List Nat} {txs : List (List Nat)} {bv sv tv : Value} {vs : List Value} {D : Dk}
theorem app_gen (hD : Dsk W B p pb bv D) (hy : D.Byt) (hn : D.Nod N) (hNum : LogN n t c s txs) (hP : ∀ i, i < 2 + 2 * n → ∀ b, Poss D i b → Per n t c s txs i b) (h : LcX B W p g n t c s txs sv tv vs) (hN : 2 + 2 * n ≤ N) (hB : B ≤ W.heap.size) {a : Option Addr} {l : List Nat} (hG : Give W p pb g a l) (cp : Nat) (hcp : l.length ≤ cp) :
    Calls Try.prog 29 #[.pointer (some ⟨g, 0, none⟩), .slice a l.length cp] W fun e w' => ∃ er, e = .returned (.int .i64 er) ∧ After W w' B p pb g N n t c s txs bv sv tv vs D t l er := by
  have hh := h
  obtain ⟨h1, h2, h3, h4, h5⟩ := h
  obtain ⟨ta, tc, rfl⟩ := wown_slice h3
  have hm := hNum.more
  have hn4 := hNum.n4
  have hu := hNum.fit
  have hc := hNum.c2
  have ht := hNum.t0
  have hcn := hNum.cn
  by_cases hfit : (chainB t s txs).length + secN l.length ≤ n
  · have har : areaN n c = 2 + c * n := by rcases (show c = 0 ∨ c = 1 by omega) with rfl | rfl <;> simp [areaN]
    have hap := wappend_done2 hD hB h1 hc hn4.2 hu (by omega) ht.2 h3 hB a l.length cp l hG.lies rfl hG.len hcp hG.bys hG.safe hG.apart hG.none (by omega)
    rw [har] at hap
    have hpend : Pend n t c s txs (2 + c * n + (chainB t s txs).length) t (txs.length + 1) l := ⟨hNum, hG.len, hG.bys, .inl ⟨rfl, rfl, rfl, hfit⟩⟩
    obtain ⟨m1, m2, m3⟩ := lay_mix hn hN hpend hP
    obtain ⟨k1, k2, k3⟩ := lay_keeps (frmL (2 + c * n + (chainB t s txs).length) t (txs.length + 1) l) hn
    have y2 := byt_lay hy (frm_byt (first := 2 + c * n + (chainB t s txs).length) (m := txs.length + 1) (l := l) ht.2 (by omega) hG.bys)
    have hin : ∀ x ∈ frmL (2 + c * n + (chainB t s txs).length) t (txs.length + 1) l, x.1 < N := frm_in (by omega)
    have hwell : D.Well N → (layM D (frmL (2 + c * n + (chainB t s txs).length) t (txs.length + 1) l)).2 = 0 ∧ (layM D (frmL (2 + c * n + (chainB t s txs).length) t (txs.length + 1) l)).1.Well N := fun hw => lay_well _ hw hin
    have hle := lay_err (frmL (2 + c * n + (chainB t s txs).length) t (txs.length + 1) l) D
    refine hap.mono ?_
    rintro e w' ⟨rfl, bv', hD', hok, hno, hk', ho'⟩
    have hbel : Below B W w' := hk'.below (fun i hi => by
      simp only [List.mem_cons, List.mem_append, Option.mem_toList] at hi
      rcases hi with h9 | h9 | h9
      · rw [h9]; exact h5
      · exact own_ge h3 i h9
      · exact fp_ge hD i h9) hB
    refine ⟨_, rfl, bv', _, hD', y2, k1, hk', hbel, k3, fun hw => ⟨.inl (hwell hw).1, (hwell hw).2⟩, ?_⟩
    by_cases e0 : (layM D (frmL (2 + c * n + (chainB t s txs).length) t (txs.length + 1) l)).2 = 0
    · right; left
      obtain ⟨v, tv', hv, htv', hg', hown9⟩ := hok e0
      obtain ⟨g1, t2, c2, s2, txs2, hnew, hlf, hper⟩ := m3 e0
      refine ⟨e0, g1, t2, c2, s2, txs2, sv, tv', vs ++ [v], hnew, ?_, hown9, hlf.nums, hper⟩
      rcases hnew with ⟨_, rfl, rfl, rfl, rfl⟩ | ⟨h9, _⟩
      · refine ⟨?_, ?_, by simpa using htv', Txs.snoc (own_base hv hB) (Txs.imp (fun v l h => ?_) h4), h5⟩
        · have e : (chainB t2 s2 (txs ++ [l])).length = (chainB t2 s2 txs).length + secN l.length := by rw [chainB_snoc, List.length_append, frameB_len]
          rw [e]; exact hg'
        · refine own_far h2 hk' (fun i hi hm => ?_)
          simp only [List.mem_cons, List.mem_append, Option.mem_toList] at hm
          rcases hm with h9 | h9 | h9
          · exact own_apart h2 hD h1 (.inl rfl) i hi (by simp [h9])
          · exact own_two h2 h3 (by decide) i hi h9
          · exact own_apart h2 hD h1 (.inl rfl) i hi (by simp [h9])
        · refine own_far h hk' (fun i hi hm => ?_)
          simp only [List.mem_cons, List.mem_append, Option.mem_toList] at hm
          rcases hm with h9 | h9 | h9
          · exact own_apart h hD h1 (.inl rfl) i hi (by simp [h9])
          · exact own_two h h3 (by decide) i hi h9
          · exact own_apart h hD h1 (.inl rfl) i hi (by simp [h9])
      · omega
    · right; right
      exact ⟨e0, by omega, ⟨_, _, _, _, _, hno e0⟩, _, _, hpend, m2⟩
  · have hfu := wappend_full (w := W) h1 hc hn4.2 hu a l.length cp hG.len (by omega)
    refine hfu.mono ?_
    rintro e w' ⟨rfl, hb⟩
    exact ⟨6, rfl, bv, D, hD.later hb, hy, hn, Kept.of_below _ hb, hb.mono hB, fun hf => ⟨hf, rfl⟩, fun hw => ⟨.inr rfl, hw⟩, .inl ⟨rfl, rfl, hh.later hb⟩⟩
theorem chk_gen (hD : Dsk W B p pb bv D) (hy : D.Byt) (hn : D.Nod N) (hNum : LogN n t c s txs) (hP : ∀ i, i < 2 + 2 * n → ∀ b, Poss D i b → Per n t c s txs i b) (h : LcX B W p g n t c s txs sv tv vs) (hN : 2 + 2 * n ≤ N) (hB : B ≤ W.heap.size) {a : Option Addr} {l : List Nat} (hG : Give W p pb g a l) (cp : Nat) (hcp : l.length ≤ cp) (hfit : secN l.length ≤ n) (htt : t < 4294967295) :
    Calls Try.prog 30 #[.pointer (some ⟨g, 0, none⟩), .slice a l.length cp] W fun e w' => ∃ er, e = .returned (.int .i64 er) ∧ After W w' B p pb g N n t c s txs bv sv tv vs D (t + 1) l er := by
  obtain ⟨h1, h2, h3, h4, h5⟩ := h
  have hn4 := hNum.n4
  have hc := hNum.c2
  have hpend : Pend n t c s txs (2 + (1 - c) * n) (t + 1) 0 l := ⟨hNum, hG.len, hG.bys, .inr ⟨rfl, htt, rfl, rfl, hfit⟩⟩
  obtain ⟨m1, m2, m3⟩ := lay_mix hn hN hpend hP
  obtain ⟨k1, k2, k3⟩ := lay_keeps (frmL (2 + (1 - c) * n) (t + 1) 0 l) hn
  have y2 := byt_lay hy (frm_byt (first := 2 + (1 - c) * n) (m := 0) (l := l) (t := t + 1) (by omega) (by omega) hG.bys)
  have hin : ∀ x ∈ frmL (2 + (1 - c) * n) (t + 1) 0 l, x.1 < N := frm_in (by rcases (show c = 0 ∨ c = 1 by omega) with rfl | rfl <;> omega)
  have hwell : D.Well N → (layM D (frmL (2 + (1 - c) * n) (t + 1) 0 l)).2 = 0 ∧ (layM D (frmL (2 + (1 - c) * n) (t + 1) 0 l)).1.Well N := fun hw => lay_well _ hw hin
  have hle := lay_err (frmL (2 + (1 - c) * n) (t + 1) 0 l) D
  have hcl : (chainB (t + 1) l []).length = secN l.length := by rw [chainB_one, frameB_len]
  have hmore : ∀ w', Kept (g :: fp p pb bv) W w' → Kept (g :: (tv.ownBlock.toList ++ fp p pb bv)) W w' ∧ Below B W w' := fun w' k => ⟨k.more (fun i hi => by
    rcases List.mem_cons.1 hi with h9 | h9
    · simp [h9]
    · simp [h9]), k.below (fun i hi => by
    rcases List.mem_cons.1 hi with h9 | h9
    · rw [h9]; exact h5
    · exact fp_ge hD i h9) hB⟩
  rcases (show c = 0 ∨ c = 1 by omega) with rfl | rfl
  · have hch := wcheck_done0 hD hB h1 hn4.2 a l.length cp l hG.lies rfl hG.len hcp hG.bys hG.safe hG.apart hG.none hfit htt
    rw [show 2 + (1 - 0) * n = 2 + n by omega] at m1 m2 m3 k1 k2 k3 y2 hwell hle hpend
    refine hch.mono ?_
    rintro e w' ⟨rfl, bv', hD', hok, hno, hk', ho'⟩
    obtain ⟨hk2, hbel⟩ := hmore w' hk'
    refine ⟨_, rfl, bv', _, hD', y2, k1, hk2, hbel, k3, fun hw => ⟨.inl (hwell hw).1, (hwell hw).2⟩, ?_⟩
    by_cases e0 : (layM D (frmL (2 + n) (t + 1) 0 l)).2 = 0
    · right; left
      obtain ⟨v, hv, hg'⟩ := hok e0
      obtain ⟨g1, t2, c2, s2, txs2, hnew, hlf, hper⟩ := m3 e0
      refine ⟨e0, g1, t2, c2, s2, txs2, v, .slice none 0 0, [], hnew, ?_, (fun i hi => by cases hi), hlf.nums, hper⟩
      rcases hnew with ⟨h9, _⟩ | ⟨_, rfl, rfl, rfl, rfl⟩
      · omega
      · exact ⟨by rw [hcl]; exact hg', own_base hv hB, World.ownsRow_nil _ _ _ _, trivial, h5⟩
    · right; right
      exact ⟨e0, by omega, ⟨_, _, _, _, _, hno e0⟩, _, _, hpend, m2⟩
  · have hch := wcheck_done1 hD hB h1 hn4.2 a l.length cp l hG.lies rfl hG.len hcp hG.bys hG.safe hG.apart hG.none hfit htt
    rw [show 2 + (1 - 1) * n = 2 by omega] at m1 m2 m3 k1 k2 k3 y2 hwell hle hpend
    refine hch.mono ?_
    rintro e w' ⟨rfl, bv', hD', hok, hno, hk', ho'⟩
    obtain ⟨hk2, hbel⟩ := hmore w' hk'
    refine ⟨_, rfl, bv', _, hD', y2, k1, hk2, hbel, k3, fun hw => ⟨.inl (hwell hw).1, (hwell hw).2⟩, ?_⟩
    by_cases e0 : (layM D (frmL 2 (t + 1) 0 l)).2 = 0
    · right; left
      obtain ⟨v, hv, hg'⟩ := hok e0
      obtain ⟨g1, t2, c2, s2, txs2, hnew, hlf, hper⟩ := m3 e0
      refine ⟨e0, g1, t2, c2, s2, txs2, v, .slice none 0 0, [], hnew, ?_, (fun i hi => by cases hi), hlf.nums, hper⟩
      rcases hnew with ⟨h9, _⟩ | ⟨_, rfl, rfl, rfl, rfl⟩
      · omega
      · exact ⟨by rw [hcl]; exact hg', own_base hv hB, World.ownsRow_nil _ _ _ _, trivial, h5⟩
    · right; right
      exact ⟨e0, by omega, ⟨_, _, _, _, _, hno e0⟩, _, _, hpend, m2⟩
end
end Go.Proofs.Ytelpihlifdfgoaa
namespace Go.Proofs.Ytelpihlifdfgoaa
open Go.RowKit Go.Shelf
set_option linter.unusedVariables false
/-- A deed's kind, of a number. -/
def kindN (k : Int) : Nat := (k % 18446744073709551616).toNat % 11
theorem kindN_lt (k : Int) : kindN k < 11 := Nat.mod_lt _ (by omega)
set_option maxHeartbeats 1000000 in
theorem kindw_any (k : Int) (x1 x2 x3 : Value) (w : World) : Calls Try.prog 9 #[.agg #[.int .i64 k, x1, x2, x3]] w fun e w' => e = .returned (.int .u64 (kindN k : Int)) ∧ Below w.heap.size w w' := by
  have e : (IntKind.u64.wrap k).tmod 11 = (kindN k : Int) := by
    have e1 : IntKind.u64.wrap k = k % 18446744073709551616 := by rfl
    rw [e1, Int.tmod_eq_emod_of_nonneg (by omega)]
    simp only [kindN]
    omega
  go_enter Try.func9, Try.ntmps9
  go_wp2
  go_ret
  exact ⟨by first | rfl | (rw [e]; rfl), (Below.refl _ _).alloc (Nat.le_refl _) _⟩
section
variable {B p pb g n N t c : Nat} {W W' : World} {s : List Nat} {txs : List (List Nat)} {bv sv tv : Value} {vs : List Value} {D : Dk}
theorem After.base {W3 w' : World} {t' : Nat} {l : List Nat} {er : Int} (h : After W3 w' B p pb g N n t c s txs bv sv tv vs D t' l er) (hb : Below W.heap.size W W3) (hB : B ≤ W.heap.size) : After W w' B p pb g N n t c s txs bv sv tv vs D t' l er := by
  obtain ⟨bv', D', h1, h2, h3, h4, h5, h6, h7, h8⟩ := h
  refine ⟨bv', D', h1, h2, h3, (Kept.of_below _ hb).trans h4, (hb.mono hB).trans h5, h6, h7, ?_⟩
  rcases h8 with h8 | ⟨k0, k1, t2, c2, s2, txs2, sv2, tv2, vs2, k2, k3, k4, k5⟩ | h8
  · exact .inl h8
  · exact .inr (.inl ⟨k0, k1, t2, c2, s2, txs2, sv2, tv2, vs2, k2, k3, fun i hi => (k4 i hi).imp id (fun h => Nat.le_trans hb.size h), k5⟩)
  · exact .inr (.inr h8)
attribute [local go_sem ↓] load_deed_rule
set_option maxRecDepth 100000 in
set_option maxHeartbeats 1000000 in
/-- writes, of a deed that appends. -/
theorem writes_low {R : Int → World → Prop} (k : Int) (hk : kindN k < 4) (x1 x3 : Value) (a : Option Addr) (len cp : Nat) (l : List Nat) (hL : Lies W a l) (hl : l.length = len) (hc : len ≤ cp) (h0 : a = none → len = 0) (hcb : cp ≤ 9223372036854775807)
    (hap : ∀ W3 va vc, Below W.heap.size W W3 → W3.ownsRow W.heap.size 5 1 (.slice va (l.take 400).length vc) (l.take 400).length ((l.take 400).map byc) → Calls Try.prog 29 #[.pointer (some ⟨g, 0, none⟩), .slice va (l.take 400).length vc] W3 fun e w' => ∃ er, e = .returned (.int .i64 er) ∧ R er w') :
    Calls Try.prog 11 #[.pointer (some ⟨g, 0, none⟩), .agg #[.int .i64 k, x1, .slice a len cp, x3]] W fun e w' => ∃ er, e = .returned (.int .i64 er) ∧ R er w' := by
  obtain ⟨q, hq⟩ : ∃ q, l.take 400 = q := ⟨_, rfl⟩
  obtain ⟨m, hm⟩ : ∃ m, q.length = m := ⟨_, rfl⟩
  rw [hq, hm] at hap
  have hdb := fun w h => dbytes_any (.int .i64 k) x1 x3 a len cp l w h hl hc h0 hcb
  rw [hq, hm] at hdb
  clear hq hm
  have hk0 := fun w => kindw_any k x1 (.slice a len cp) x3 w
  obtain ⟨K, hK⟩ : ∃ K, kindN k = K := ⟨_, rfl⟩
  rw [hK] at hk0 hk
  have hkI : (K : Int) < 4 := by omega
  obtain ⟨W1, hW1⟩ : ∃ W1, W.alloc (.cells #[.int .i64 k, x1, .slice a len cp, x3] 35) = W1 := ⟨_, rfl⟩
  have hb1 : Below W.heap.size W W1 := by rw [← hW1]; exact (Below.refl _ _).alloc (Nat.le_refl _) _
  have hd1 : Blk W1 W.heap.size 35 #[.int .i64 k, x1, .slice a len cp, x3] := by rw [← hW1]; exact Blk.new _ _ _
  have hld := ld_deed hd1
  have HH := Lib.hid (And.intro hL (And.intro hb1 (And.intro hd1 hap)))
  clear hL hl h0 hb1 hd1 hap hK hk
  go_enter Try.func11, Try.ntmps11
  go_wp2_with fail
  refine (hk0 _).mono ?_
  rintro e W2 ⟨rfl, hb2⟩
  clear hk0 hld
  have hb12 := bel_lat HH.out.2.1 hb2
  have hld := ld_deed (HH.out.2.2.1.kept (Kept.of_below [] hb2) (by simp))
  have hby := hdb W2 (HH.out.1.kept hb12)
  have HB2 := Lib.hid hb12
  clear hb12 hb2 hdb
  go_wp2_with fail
  refine hby.mono ?_
  rintro e W3 ⟨v, rfl, hown, hb3⟩
  clear hby hld
  obtain ⟨va, vc, rfl⟩ := wown_slice hown
  have hap := HH.out.2.2.2 W3 va vc (bel_lat HB2.out hb3) (own_base hown HB2.out.size)
  clear hown hb3
  go_wp2_with fail
  refine hap.mono ?_
  rintro e W4 ⟨er, rfl, hR⟩
  have HX := Lib.hid hR
  clear hap hR
  go_wp2_with fail
  go_ret
  exact ⟨_, rfl, HX.out⟩
set_option maxRecDepth 100000 in
set_option maxHeartbeats 1000000 in
/-- writes, of a deed that checkpoints. -/
theorem writes_high {R : Int → World → Prop} (k : Int) (hk : ¬ kindN k < 4) (x1 x3 : Value) (a : Option Addr) (len cp : Nat) (l : List Nat) (hL : Lies W a l) (hl : l.length = len) (hc : len ≤ cp) (h0 : a = none → len = 0) (hcb : cp ≤ 9223372036854775807)
    (hap : ∀ W3 va vc, Below W.heap.size W W3 → W3.ownsRow W.heap.size 5 1 (.slice va (l.take 400).length vc) (l.take 400).length ((l.take 400).map byc) → Calls Try.prog 30 #[.pointer (some ⟨g, 0, none⟩), .slice va (l.take 400).length vc] W3 fun e w' => ∃ er, e = .returned (.int .i64 er) ∧ R er w') :
    Calls Try.prog 11 #[.pointer (some ⟨g, 0, none⟩), .agg #[.int .i64 k, x1, .slice a len cp, x3]] W fun e w' => ∃ er, e = .returned (.int .i64 er) ∧ R er w' := by
  obtain ⟨q, hq⟩ : ∃ q, l.take 400 = q := ⟨_, rfl⟩
  obtain ⟨m, hm⟩ : ∃ m, q.length = m := ⟨_, rfl⟩
  rw [hq, hm] at hap
  have hdb := fun w h => dbytes_any (.int .i64 k) x1 x3 a len cp l w h hl hc h0 hcb
  rw [hq, hm] at hdb
  clear hq hm
  have hk0 := fun w => kindw_any k x1 (.slice a len cp) x3 w
  obtain ⟨K, hK⟩ : ∃ K, kindN k = K := ⟨_, rfl⟩
  rw [hK] at hk0 hk
  have hkI : ¬ ((K : Int) < 4) := by omega
  have hkd : decide ((K : Int) < 4) = false := decide_eq_false hkI
  obtain ⟨W1, hW1⟩ : ∃ W1, W.alloc (.cells #[.int .i64 k, x1, .slice a len cp, x3] 35) = W1 := ⟨_, rfl⟩
  have hb1 : Below W.heap.size W W1 := by rw [← hW1]; exact (Below.refl _ _).alloc (Nat.le_refl _) _
  have hd1 : Blk W1 W.heap.size 35 #[.int .i64 k, x1, .slice a len cp, x3] := by rw [← hW1]; exact Blk.new _ _ _
  have hld := ld_deed hd1
  have HH := Lib.hid (And.intro hL (And.intro hb1 (And.intro hd1 hap)))
  clear hL hl h0 hb1 hd1 hap hK hk
  go_enter Try.func11, Try.ntmps11
  go_wp2_with fail
  refine (hk0 _).mono ?_
  rintro e W2 ⟨rfl, hb2⟩
  clear hk0 hld
  have hb12 := bel_lat HH.out.2.1 hb2
  have hld := ld_deed (HH.out.2.2.1.kept (Kept.of_below [] hb2) (by simp))
  have hby := hdb W2 (HH.out.1.kept hb12)
  have HB2 := Lib.hid hb12
  clear hb12 hb2 hdb
  go_wp2_with fail
  refine hby.mono ?_
  rintro e W3 ⟨v, rfl, hown, hb3⟩
  clear hby hld
  obtain ⟨va, vc, rfl⟩ := wown_slice hown
  have hap := HH.out.2.2.2 W3 va vc (bel_lat HB2.out hb3) (own_base hown HB2.out.size)
  clear hown hb3
  go_wp2_with fail
  refine hap.mono ?_
  rintro e W4 ⟨er, rfl, hR⟩
  have HX := Lib.hid hR
  clear hap hR
  go_wp2_with fail
  go_ret
  exact ⟨_, rfl, HX.out⟩
/-- A disk that lives, and a log on it that is whole, nothing on its way. -/
structure Hale (W : World) (B p pb g N n t c : Nat) (s : List Nat) (txs : List (List Nat)) (bv sv tv : Value) (vs : List Value) (D : Dk) : Prop where
  disk : Dsk W B p pb bv D
  byt : D.Byt
  nod : D.Nod N
  nums : LogN n t c s txs
  per : ∀ i, i < 2 + 2 * n → ∀ b, Poss D i b → Per n t c s txs i b
  log : LcX B W p g n t c s txs sv tv vs
theorem Hale.later (h : Hale W B p pb g N n t c s txs bv sv tv vs D) (k : Below W.heap.size W W') : Hale W' B p pb g N n t c s txs bv sv tv vs D := ⟨h.disk.later k, h.byt, h.nod, h.nums, h.per, h.log.later k⟩
theorem Hale.logf (h : Hale W B p pb g N n t c s txs bv sv tv vs D) : LogF (showsM D) n t c s txs := logf_per h.nums (fun i hi => h.per i hi _ (poss_shows D i))
theorem Hale.size (h : Hale W B p pb g N n t c s txs bv sv tv vs D) : B ≤ W.heap.size := Nat.le_of_lt (Nat.lt_of_le_of_lt h.log.2.2.2.2 h.log.1.lt)
theorem sec400 {l : List Nat} : secN (l.take 400).length ≤ 9 ∧ (l.take 400).length ≤ 400 := by
  have h : (l.take 400).length ≤ 400 := by rw [List.length_take]; omega
  refine ⟨?_, h⟩
  unfold secN
  split
  · omega
  · split <;> omega
/-- What a deed that writes leaves. -/
theorem writes_gen (h : Hale W B p pb g N n t c s txs bv sv tv vs D) (hN : 2 + 2 * n ≤ N) (hn9 : 9 ≤ n) (htt : t < 4294967295) (k : Int) (x1 x3 : Value) (a : Option Addr) (len cp : Nat) (l : List Nat) (hL : Lies W a l) (hl : l.length = len) (hc : len ≤ cp) (h0 : a = none → len = 0) (hcb : cp ≤ 9223372036854775807) (hBy : Bys l) :
    Calls Try.prog 11 #[.pointer (some ⟨g, 0, none⟩), .agg #[.int .i64 k, x1, .slice a len cp, x3]] W fun e w' => ∃ er, e = .returned (.int .i64 er) ∧ After W w' B p pb g N n t c s txs bv sv tv vs D (if kindN k < 4 then t else t + 1) (l.take 400) er := by
  have hq := sec400 (l := l)
  by_cases hk : kindN k < 4
  · rw [if_pos hk]
    refine writes_low (R := fun er w' => After W w' B p pb g N n t c s txs bv sv tv vs D t (l.take 400) er) k hk x1 x3 a len cp l hL hl hc h0 hcb (fun W3 va vc hb3 hown => ?_)
    have h3 := h.later hb3
    obtain ⟨hG, hvc⟩ := give_own h.disk h.log.1.lt hown hb3 (by omega) (hBy.take 400)
    exact (app_gen h3.disk h.byt h.nod h.nums h.per h3.log hN h3.size hG vc hvc).mono fun e w' ⟨er, he, ha⟩ => ⟨er, he, ha.base hb3 h.size⟩
  · rw [if_neg hk]
    refine writes_high (R := fun er w' => After W w' B p pb g N n t c s txs bv sv tv vs D (t + 1) (l.take 400) er) k hk x1 x3 a len cp l hL hl hc h0 hcb (fun W3 va vc hb3 hown => ?_)
    have h3 := h.later hb3
    obtain ⟨hG, hvc⟩ := give_own h.disk h.log.1.lt hown hb3 (by omega) (hBy.take 400)
    exact (chk_gen h3.disk h.byt h.nod h.nums h.per h3.log hN h3.size hG vc hvc (by omega) htt).mono fun e w' ⟨er, he, ha⟩ => ⟨er, he, ha.base hb3 h.size⟩
end
end Go.Proofs.Ytelpihlifdfgoaa
namespace Go.Proofs.Ytelpihlifdfgoaa
open Go.RowKit Go.Shelf
set_option linter.unusedVariables false
theorem poss_byt {D : Dk} (h : D.Byt) {i : Nat} {b : Bk} (hp : Poss D i b) : b.Byt := by
  rcases hp with rfl | ⟨r, hr, _, rfl⟩
  · rw [List.getD_eq_getElem?_getD]
    cases hg : D.plate[i]? with
    | none => simpa using byt_zero
    | some b => exact h.plate b (List.mem_of_getElem? hg)
  · exact h.rows r hr
theorem byt_crash {D : Dk} (h : D.Byt) (ks : List Bool) : (crashM D ks).Byt := by
  refine ⟨fun b hb => ?_, fun r hr => by cases hr⟩
  obtain ⟨i, hi⟩ := List.mem_iff_getElem?.1 hb
  refine poss_byt h (crash_poss ks (i := i) (.inl ?_))
  rw [List.getD_eq_getElem?_getD, hi]; rfl
theorem open_byt {D : Dk} (h : D.Byt) : (openM D).D.Byt := by
  have y1 := (h.reads 0 2).1
  unfold openM
  split
  · exact y1
  · split
    · exact y1
    · rename_i n _
      have y2 := (y1.reads 2 n).1
      have y3 := (y2.reads (2 + n) n).1
      split
      · exact y2
      · split
        · exact y3
        · split
          · exact y3
          · exact byt_lay y3 (fun x hx => by obtain ⟨p, _, rfl⟩ := List.mem_map.1 hx; exact byt_zero)
/-- It is the one log, whole; or a frame is on its way that makes the other one of it. -/
def Fork (N n t c : Nat) (s : List Nat) (txs : List (List Nat)) (t2 c2 : Nat) (s2 : List Nat) (txs2 : List (List Nat)) (D : Dk) : Prop :=
  D.Byt ∧ D.Nod N ∧ LogN n t c s txs ∧ t < 4294967295 ∧
  ((∃ q t' m' l, Pend n t c s txs q t' m' l ∧ NewIs t c s txs t' l t2 c2 s2 txs2 ∧ ∀ i, i < 2 + 2 * n → ∀ b, Poss D i b → PerP n t c s txs q t' m' l i b) ∨
   ((t2 = t ∧ c2 = c ∧ s2 = s ∧ txs2 = txs) ∧ ∀ i, i < 2 + 2 * n → ∀ b, Poss D i b → Per n t c s txs i b))
theorem new_one {t c : Nat} {s : List Nat} {txs : List (List Nat)} {t' : Nat} {l : List Nat} {a b : Nat} {x : List Nat} {y : List (List Nat)} {a2 b2 : Nat} {x2 : List Nat} {y2 : List (List Nat)} (h : NewIs t c s txs t' l a b x y) (k : NewIs t c s txs t' l a2 b2 x2 y2) : a = a2 ∧ b = b2 ∧ x = x2 ∧ y = y2 := by
  rcases h with ⟨h1, rfl, rfl, rfl, rfl⟩ | ⟨h1, rfl, rfl, rfl, rfl⟩ <;> rcases k with ⟨k1, rfl, rfl, rfl, rfl⟩ | ⟨k1, rfl, rfl, rfl, rfl⟩
  · exact ⟨rfl, rfl, rfl, rfl⟩
  · omega
  · omega
  · exact ⟨rfl, rfl, rfl, rfl⟩
section
variable {N n t c t2 c2 : Nat} {s s2 : List Nat} {txs txs2 : List (List Nat)} {D E : Dk}
theorem Fork.same (h : Fork N n t c s txs t2 c2 s2 txs2 D) (hy : E.Byt) (hn : E.Nod N) (hp : ∀ i b, Poss E i b → Poss D i b) : Fork N n t c s txs t2 c2 s2 txs2 E := by
  obtain ⟨h1, h2, h3, ht, h4⟩ := h
  refine ⟨hy, hn, h3, ht, ?_⟩
  rcases h4 with ⟨q, t', m', l, k1, k2, k3⟩ | ⟨k1, k2⟩
  · exact .inl ⟨q, t', m', l, k1, k2, fun i hi b hb => k3 i hi b (hp i b hb)⟩
  · exact .inr ⟨k1, fun i hi b hb => k2 i hi b (hp i b hb)⟩
theorem Fork.crash (h : Fork N n t c s txs t2 c2 s2 txs2 D) (ks : List Bool) : Fork N n t c s txs t2 c2 s2 txs2 (crashM D ks) ∧ (crashM D ks).Well N :=
  ⟨h.same (byt_crash h.1 ks) (crash_keeps h.2.1 ks).1 (fun i b hb => crash_poss ks hb), (crash_keeps h.2.1 ks).2.1⟩
theorem Fork.turn (h : Fork N n t c s txs t2 c2 s2 txs2 D) (h1 : E.plate = D.plate) (h2 : E.rows = D.rows) : Fork N n t c s txs t2 c2 s2 txs2 E :=
  h.same (byt_turn h.1 h1 h2) (nod_turn h.2.1 h1 h2) (fun i b hb => poss_turn h1 h2 hb)
/-- What Open makes of it. -/
theorem open_fork (h : Fork N n t c s txs t2 c2 s2 txs2 D) (hN : 2 + 2 * n ≤ N) :
    Fork N n t c s txs t2 c2 s2 txs2 (openM D).D ∧ (D.Well N → (openM D).e = 0 ∧ (openM D).D.Well N) ∧
    ((openM D).e = 0 → (openM D).D.dead = false ∧ (openM D).n = n ∧ ∃ t3 c3 s3 txs3, ((t3 = t ∧ c3 = c ∧ s3 = s ∧ txs3 = txs) ∨ (t3 = t2 ∧ c3 = c2 ∧ s3 = s2 ∧ txs3 = txs2)) ∧ (openM D).r = (some (t3, s3, txs3, (chainB t3 s3 txs3).length), c3) ∧ LogN n t3 c3 s3 txs3 ∧ ∀ i, i < 2 + 2 * n → ∀ b, Poss (openM D).D i b → Per n t3 c3 s3 txs3 i b) := by
  obtain ⟨h1, h2, h3, ht, h4⟩ := h
  have hy := open_byt h1
  rcases h4 with ⟨q, t', m', l, k1, k2, k3⟩ | ⟨k1, k2⟩
  · obtain ⟨⟨g1, g2⟩, g3, g4⟩ := open_mix (Q := PerP n t c s txs q t' m' l) (fun i b hb => hb) (fun i hi => .inl hi) h2 hN k1 k3
    refine ⟨⟨hy, g1, h3, ht, .inl ⟨q, t', m', l, k1, k2, g2⟩⟩, g4, fun he => ?_⟩
    obtain ⟨e1, e2, e3, t3, c3, s3, txs3, e4, e5, e6⟩ := g3 he
    refine ⟨e1, e3, t3, c3, s3, txs3, ?_, e5, e6.nums, fun i hi b hb => by rw [poss_none e2 hb]; exact e6.per hi⟩
    rcases e4 with e4 | ⟨e4, _⟩
    · exact .inl e4
    · exact .inr (new_one e4 k2)
  · have hp : Pend n t c s txs (2 + (1 - c) * n) (t + 1) 0 [] := ⟨h3, by simp, (by intro x hx; cases hx), .inr ⟨rfl, ht, rfl, rfl, by have := h3.n4; show 1 ≤ n; omega⟩⟩
    obtain ⟨⟨g1, g2⟩, g3, g4⟩ := open_mix (Q := Per n t c s txs) (fun i b hb => .inl hb) (fun i hi => hi) h2 hN hp k2
    refine ⟨⟨hy, g1, h3, ht, .inr ⟨k1, g2⟩⟩, g4, fun he => ?_⟩
    obtain ⟨e1, e2, e3, t3, c3, s3, txs3, e4, e5, e6⟩ := g3 he
    refine ⟨e1, e3, t3, c3, s3, txs3, ?_, e5, e6.nums, fun i hi b hb => by rw [poss_none e2 hb]; exact e6.per hi⟩
    rcases e4 with e4 | ⟨_, e4⟩
    · exact .inl e4
    · exfalso
      have hc := h3.c2
      have hn4 := h3.n4
      have hfit := h3.fit
      have h0 := e4 0 (by show 0 < 1; omega)
      rw [Nat.add_zero] at h0
      have h9 := (k2 (2 + (1 - c) * n) (by rcases (show c = 0 ∨ c = 1 by omega) with rfl | rfl <;> omega) _ (poss_shows D _)).rest (by omega) (by rcases (show c = 0 ∨ c = 1 by omega) with rfl | rfl <;> omega)
      rw [h0, part_turn (by omega) (by omega) (by intro x hx; cases hx)] at h9
      omega
end
section
variable {B p pb g n N t c t2 c2 : Nat} {W W' : World} {s s2 : List Nat} {txs txs2 : List (List Nat)} {bv sv tv : Value} {vs : List Value} {D : Dk}
theorem Hale.fork (h : Hale W B p pb g N n t c s txs bv sv tv vs D) (ht : t < 4294967295) : Fork N n t c s txs t c s txs D := ⟨h.byt, h.nod, h.nums, ht, .inr ⟨⟨rfl, rfl, rfl, rfl⟩, h.per⟩⟩
/-- Open, called. -/
theorem open_gen (hD : Dsk W B p pb bv D) (h : Fork N n t c s txs t2 c2 s2 txs2 D) (hN : 2 + 2 * n ≤ N) (hB : B ≤ W.heap.size) :
    Calls Try.prog 18 #[.pointer (some ⟨p, 0, none⟩)] W fun e w' => ∃ bv' D', Dsk w' B p pb bv' D' ∧ D' = (openM D).D ∧ Kept (fp p pb bv) W w' ∧ Below B W w' ∧ (D.Well N → D'.Well N) ∧
      ((∃ er, er ≠ 0 ∧ ¬ D.Well N ∧ e = .returned (.tuple #[.pointer none, .int .i64 er]) ∧ Fork N n t c s txs t2 c2 s2 txs2 D') ∨
       (∃ g' t3 c3 s3 txs3 sv' tv' vs', e = .returned (.tuple #[.pointer (some ⟨g', 0, none⟩), .int .i64 0]) ∧ ((t3 = t ∧ c3 = c ∧ s3 = s ∧ txs3 = txs) ∨ (t3 = t2 ∧ c3 = c2 ∧ s3 = s2 ∧ txs3 = txs2)) ∧ D'.dead = false ∧ W.heap.size ≤ g' ∧ (∀ i, tv'.ownBlock = some i → W.heap.size ≤ i) ∧ Hale w' B p pb g' N n t3 c3 s3 txs3 bv' sv' tv' vs' D')) := by
  obtain ⟨f1, f2, f3⟩ := open_fork h hN
  refine (wopen_any hD hB h.1).mono ?_
  rintro e w' ⟨bv', hD', hno, hok, hk', ho'⟩
  refine ⟨bv', _, hD', rfl, hk', hk'.below (fp_ge hD) hB, fun hw => (f2 hw).2, ?_⟩
  by_cases he : (openM D).e = 0
  · right
    obtain ⟨g', t', sv, tv, u, rfl, hg', hb, hch, ht0⟩ := hok he
    obtain ⟨e1, e2, t3, c3, s3, txs3, e4, e5, e6, e7⟩ := f3 he
    rw [e5] at hch hb
    rw [e2] at hb
    rcases hch with ⟨h9, _⟩ | ⟨l, txs', vs, h9, h2, h3, h4⟩
    · cases h9
    · simp only [Option.some.injEq, Prod.mk.injEq] at h9
      obtain ⟨rfl, rfl, rfl, rfl⟩ := h9
      exact ⟨g', _, _, _, _, sv, tv, vs, rfl, e4, e1, hg', own_ge h3, hD', f1.1, f1.2.1, e6, e7, hb, own_base h2 hB, own_base h3 hB, Txs.imp (fun v l h => own_base h hB) h4, Nat.le_trans hB hg'⟩
  · left
    exact ⟨_, he, fun hw => he (f2 hw).1, hno he, f1⟩
end
end Go.Proofs.Ytelpihlifdfgoaa
