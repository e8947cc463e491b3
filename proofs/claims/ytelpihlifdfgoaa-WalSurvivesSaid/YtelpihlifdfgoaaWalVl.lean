/-
  Words for the walk of WalSurvives. Nothing here is a statement of the document.
-/
import Derived.Test.YtelpihlifdfgoaaWalVi
namespace Go.Proofs.Ytelpihlifdfgoaa
open Go.RowKit Go.Shelf
set_option linter.unusedVariables false
theorem lays_none {N : Nat} : ∀ (ls : List (List (Nat × Bk))) {D : Dk}, D.Nod N → ls ≠ [] → (laysM D ls).2 = 0 → (laysM D ls).1.rows = []
  | [], D, hn, h, _ => absurd rfl h
  | l :: r, D, hn, _, he => by
    obtain ⟨k1, k2, _⟩ := lay_keeps l hn
    unfold laysM at he ⊢
    by_cases h0 : (layM D l).2 = 0
    · rw [if_pos h0] at he ⊢
      by_cases hr : r = []
      · subst hr
        exact (k2 h0).2.1
      · exact lays_none r k1 hr he
    · rw [if_neg h0] at he
      exact absurd he h0
section
variable {B p pb g n N t c : Nat} {W W' : World} {bv : Value} {D : Dk} {f : Nat → Bk}
theorem hale_format (hk : Lk B W p pb N bv D f) (hn : 4 ≤ n ∧ n ≤ 1000) (hN : 2 + 2 * n ≤ N) (hB : B ≤ W.heap.size) :
    Calls Try.prog 28 #[.pointer (some ⟨p, 0, none⟩), .int .i64 (n : Int)] W fun e w' => ∃ g, e = .returned (.tuple #[.pointer (some ⟨g, 0, none⟩), .int .i64 0]) ∧ (∃ bv' D' sv tv vs, Hale w' B p pb g N n 1 0 [] [] bv' sv tv vs D' ∧ D'.Well N) ∧ Below B W w' := by
  obtain ⟨hD, hw, hy, hsh⟩ := hk
  have hfo := wformat_done hD hB hn.1 hn.2 (by rw [hw.len]; exact hN)
  have hin := fmt_in (n := n) (N := N) (by omega) hN
  obtain ⟨e0, w2⟩ := lays_well (fmtL n) hw hin
  obtain ⟨n2, s2⟩ := lays_shows (fmtL n) hw (nod_of hD hw) hin
  have r2 := lays_none (fmtL n) (nod_of hD hw) (by unfold fmtL; simp) e0
  have y2 := byt_lays (fmtL n) hy (fmt_byt n)
  refine hfo.mono ?_
  rintro e w' ⟨bv', hD', hok, _, hk', ho'⟩
  obtain ⟨g, v, rfl, hg, hv, hb⟩ := hok e0
  have hlf : LogF (showsM (laysM D (fmtL n)).1) n 1 0 [] [] := by rw [s2]; exact logf_format hn
  exact ⟨g, rfl, ⟨bv', _, v, .slice none 0 0, [], ⟨hD', y2, n2, hlf.nums, fun i hi b hb => by rw [poss_none r2 hb]; exact hlf.per hi, ⟨hb, own_base hv hB, World.ownsRow_nil _ _ _ _, trivial, Nat.le_trans hB hg⟩⟩, w2⟩, hk'.below (fp_ge hD) hB⟩
end
set_option maxRecDepth 100000 in
set_option maxHeartbeats 2000000 in
theorem made2_any (w : World) : Calls Try.prog 7 #[] w fun e w' => ∃ g p pb bv D sv tv vs, e = .returned (.tuple #[.pointer (some ⟨g, 0, none⟩), .bool true]) ∧ Hale w' w.heap.size p pb g 26 12 1 0 [] [] bv sv tv vs D ∧ D.Well 26 ∧ Below w.heap.size w w' := by
  have hnew := new_any 26 (by omega) (by omega) w
  rw [show ((26 : Nat) : Int) = 26 from rfl] at hnew
  go_enter Try.func7, Try.ntmps7
  go_wp2_with fail
  refine hnew.mono ?_
  rintro e W1 ⟨rfl, hD1, hb1⟩
  clear hnew
  have hfo := hale_format (lk_new 26 hD1) (n := 12) ⟨by omega, by omega⟩ (by omega) hb1.size
  rw [show ((12 : Nat) : Int) = 12 from rfl] at hfo
  obtain ⟨p, hp⟩ : ∃ p, w.heap.size + 1 = p := ⟨_, rfl⟩
  rw [hp] at hfo ⊢
  have HB := Lib.hid hb1
  clear hD1 hp hb1
  go_wp2_with fail
  refine hfo.mono ?_
  rintro e W2 ⟨g, rfl, ⟨bv', D', sv, tv, vs, hH, hw⟩, hb⟩
  clear hfo
  have HR := Lib.hid (And.intro hH (And.intro hw hb))
  clear hH hw hb
  go_wp2_with fail
  go_ret2
  exact ⟨g, p, _, bv', D', sv, tv, vs, rfl, HR.out.1, HR.out.2.1, HB.out.trans HR.out.2.2⟩
end Go.Proofs.Ytelpihlifdfgoaa
namespace Go.Proofs.Ytelpihlifdfgoaa
open Go.RowKit Go.Shelf
set_option linter.unusedVariables false
attribute [local go_sem ↓] load_deed_rule store_things_rule tx_rule
set_option maxRecDepth 100000 in
set_option maxHeartbeats 4000000 in
theorem withh_any (k : Int) (K : Nat) (hK : kindN k = K) (hk9 : ¬ K < 4) (x1 x3 : Value) (a : Option Addr) (len cp : Nat) (l : List Nat) (sn rv : Value) (w : World) (hL : Lies w a l) (hl : l.length = len) (hc : len ≤ cp) (h0 : a = none → len = 0) (hcb : cp ≤ 9223372036854775807) :
    Calls Try.prog 10 #[.agg #[sn, rv], .agg #[.int .i64 k, x1, .slice a len cp, x3]] w fun e w' => ∃ v, e = .returned (.agg #[v, .slice none 0 0]) ∧ w'.ownsRow w.heap.size 5 1 v (l.take 400).length ((l.take 400).map byc) ∧ Below w.heap.size w w' := by
  obtain ⟨q, hq⟩ : ∃ q, l.take 400 = q := ⟨_, rfl⟩
  have hdb := fun x0 w h => dbytes_any x0 x1 x3 a len cp l w h hl hc h0 hcb
  rw [hq] at hdb ⊢
  have hk0 := fun w => kindw_any k x1 (.slice a len cp) x3 w
  rw [hK] at hk0
  have hkI : ¬ ((K : Int) < 4) := by omega
  have hkd : decide ((K : Int) < 4) = false := decide_eq_false hkI
  clear hK hk9
  obtain ⟨W1, hW1⟩ : ∃ W1, ((w.alloc (.cells #[sn, rv] 32)).alloc (.cells #[.int .i64 k, x1, .slice a len cp, x3] 35)).alloc (.cells #[.slice none 0 0, .slice none 0 0] 32) = W1 := ⟨_, rfl⟩
  have hb1 : Below w.heap.size w W1 := by rw [← hW1]; exact (((Below.refl _ w).alloc (Nat.le_refl _) _).alloc (by simp) _).alloc (by simp; omega) _
  have hd1 : Blk W1 (w.heap.size + 1) 35 #[.int .i64 k, x1, .slice a len cp, x3] := by rw [← hW1]; exact (Blk.wnew2 w _ _ _).alloc _
  have ht1 : Blk W1 (w.heap.size + 2) 32 #[.slice none 0 0, .slice none 0 0] := by
    rw [← hW1]
    have := Blk.new ((w.alloc (.cells #[sn, rv] 32)).alloc (.cells #[.int .i64 k, x1, .slice a len cp, x3] 35)) 32 #[.slice none 0 0, .slice none 0 0]
    simpa using this
  have hld := ld_deed hd1
  have HH := Lib.hid (And.intro hL (And.intro hb1 (And.intro hd1 ht1)))
  clear hL hl h0 hb1 hd1 ht1
  go_enter Try.func10, Try.ntmps10
  go_wp2_with fail
  refine (hk0 _).mono ?_
  rintro e W2 ⟨rfl, hb2⟩
  clear hk0 hld hW1
  have hld := ld_deed (HH.out.2.2.1.kept (Kept.of_below [] hb2) (by simp))
  have hby := hdb (.int .i64 k) W2 (HH.out.1.kept (bel_lat HH.out.2.1 hb2))
  have H2 := Lib.hid hb2
  clear hb2 hdb
  go_wp2_with fail
  refine hby.mono ?_
  rintro e W3 ⟨v, rfl, hown, hb3⟩
  clear hby hld
  obtain ⟨va, vc, rfl⟩ := wown_slice hown
  have hb13 := bel_lat H2.out hb3
  have ht3 := HH.out.2.2.2.kept (Kept.of_below [] hb13) (by simp)
  have hst := st_things (g := w.heap.size + 1 + 1) (y0 := .slice va q.length vc) (y1 := .slice none 0 0) ht3 rfl rfl
  have h4 := ht3.row #[.slice va q.length vc, .slice none 0 0]
  obtain ⟨W4, hW4⟩ : ∃ W4, W3.setRow (w.heap.size + 1 + 1) #[.slice va q.length vc, .slice none 0 0] = W4 := ⟨_, rfl⟩
  rw [hW4] at hst h4
  have hk4 : Kept [w.heap.size + 2] W3 W4 := by rw [← hW4]; exact (Kept.refl _ _).setRow (.inl (by simp)) _
  have HB := Lib.hid (And.intro hown (And.intro hb13 (And.intro ht3 (And.intro h4 hk4))))
  clear hown hb3 hb13 ht3 h4 hk4 hW4
  go_wp2_with fail
  refine bodyPost_ret (results_cell_row rfl _ _ (w.heap.size + 2) 32 #[.slice va q.length vc, .slice none 0 0] (0, 0) _ rfl HB.out.2.2.2.1 Try.underlying32 rfl (s_things _ _)) rfl ?_
  obtain ⟨hown, hb13, ht3, h4, hk4⟩ := HB.out
  have hb03 : Below w.heap.size w W3 := bel_lat HH.out.2.1 hb13
  refine ⟨_, rfl, own_base (own_far hown hk4 (fun i hi hmm => row_ne hown ht3 (by decide) (by rw [List.mem_singleton.1 hmm] at hi; exact hi))) (Nat.le_trans HH.out.2.1.size H2.out.size), hb03.trans (hk4.below (fun k hk => by rw [List.mem_singleton.1 hk]; omega) hb03.size)⟩
set_option maxRecDepth 100000 in
set_option maxHeartbeats 4000000 in
theorem withl_any (k : Int) (K : Nat) (hK : kindN k = K) (hk9 : K < 4) (x1 x3 : Value) (a : Option Addr) (len cp : Nat) (l : List Nat) (sa : Option Addr) (sl sc : Nat) {B m tc : Nat} {ta : Option Addr} {vs : List Value} (w : World) (hL : Lies w a l) (hl : l.length = len) (hc : len ≤ cp) (h0 : a = none → len = 0) (hcb : cp ≤ 9223372036854775807) (ht : w.ownsRow B 29 1 (.slice ta m tc) m vs) (hm : m ≤ 999) :
    Calls Try.prog 10 #[.agg #[.slice sa sl sc, .slice ta m tc], .agg #[.int .i64 k, x1, .slice a len cp, x3]] w fun e w' => ∃ v rv, e = .returned (.agg #[.slice sa sl sc, rv]) ∧ w'.ownsRow w.heap.size 5 1 v (l.take 400).length ((l.take 400).map byc) ∧ w'.ownsRow w.heap.size 29 1 rv (m + 1) (vs ++ [v]) ∧ Below w.heap.size w w' := by
  obtain ⟨q, hq⟩ : ∃ q, l.take 400 = q := ⟨_, rfl⟩
  have hdb := fun x0 w h => dbytes_any x0 x1 x3 a len cp l w h hl hc h0 hcb
  rw [hq] at hdb ⊢
  have hmt : m ≤ tc := by
    rcases ht.2 with ⟨h8, h0⟩ | ⟨g, cap, cur, h8, _, _, hnc, _⟩
    · omega
    · cases h8; exact hnc
  have hk0 := fun w => kindw_any k x1 (.slice a len cp) x3 w
  rw [hK] at hk0
  have hkI : (K : Int) < 4 := by omega
  clear hK hk9
  obtain ⟨W1, hW1⟩ : ∃ W1, ((w.alloc (.cells #[.slice sa sl sc, .slice ta m tc] 32)).alloc (.cells #[.int .i64 k, x1, .slice a len cp, x3] 35)).alloc (.cells #[.slice none 0 0, .slice none 0 0] 32) = W1 := ⟨_, rfl⟩
  have hb1 : Below w.heap.size w W1 := by rw [← hW1]; exact (((Below.refl _ w).alloc (Nat.le_refl _) _).alloc (by simp) _).alloc (by simp; omega) _
  have ha1 : Blk W1 w.heap.size 32 #[.slice sa sl sc, .slice ta m tc] := by rw [← hW1]; exact ((Blk.new w _ _).alloc _).alloc _
  have hd1 : Blk W1 (w.heap.size + 1) 35 #[.int .i64 k, x1, .slice a len cp, x3] := by rw [← hW1]; exact (Blk.wnew2 w _ _ _).alloc _
  have ht1 : Blk W1 (w.heap.size + 2) 32 #[.slice none 0 0, .slice none 0 0] := by
    rw [← hW1]
    have := Blk.new ((w.alloc (.cells #[.slice sa sl sc, .slice ta m tc] 32)).alloc (.cells #[.int .i64 k, x1, .slice a len cp, x3] 35)) 32 #[.slice none 0 0, .slice none 0 0]
    simpa using this
  have hld := ld_deed hd1
  have HH := Lib.hid (And.intro hL (And.intro hb1 (And.intro hd1 (And.intro ht1 (And.intro ha1 ht)))))
  clear hL hl h0 hb1 hd1 ht1 ha1 ht
  go_enter Try.func10, Try.ntmps10
  go_wp2_with fail
  refine (hk0 _).mono ?_
  rintro e W2 ⟨rfl, hb2⟩
  clear hk0 hld hW1
  have hd2 := HH.out.2.2.1.kept (Kept.of_below [] hb2) (by simp)
  have ha2 := HH.out.2.2.2.2.1.kept (Kept.of_below [] hb2) (by simp)
  have hmt2 : (m : Int) ≤ (tc : Int) := by omega
  have hb12 := bel_lat HH.out.2.1 hb2
  obtain ⟨S, hS⟩ : ∃ S : World → Prop, S = fun w' => Blk w' w.heap.size 32 #[.slice sa sl sc, .slice ta m tc] ∧ Blk w' (w.heap.size + 1) 35 #[.int .i64 k, x1, .slice a len cp, x3] := ⟨_, rfl⟩
  have hSb : ∀ w', Below W2.heap.size W2 w' → S w' := fun w' h => by rw [hS]; exact ⟨ha2.kept (Kept.of_below [] h) (by simp), hd2.kept (Kept.of_below [] h) (by simp)⟩
  have hSi : ∀ w', Blk w' w.heap.size 32 #[.slice sa sl sc, .slice ta m tc] → Blk w' (w.heap.size + 1) 35 #[.int .i64 k, x1, .slice a len cp, x3] → S w' := fun w' h1 h2 => by rw [hS]; exact ⟨h1, h2⟩
  have hS0 : S W2.drew := hSb _ (Below.refl _ _).drew
  have L0 : ∀ w', S w' → w'.cell? ⟨w.heap.size, 0, none⟩ = some (.slice sa sl sc) := fun w' h => by rw [hS] at h; exact h.1.cell 0
  have L1 : ∀ w', S w' → w'.cell? ⟨w.heap.size, 1, none⟩ = some (.slice ta m tc) := fun w' h => by rw [hS] at h; exact h.1.cell 1
  have L2 : ∀ w', S w' → (loadSem 35 (.pointer (some ⟨w.heap.size + 1, 0, none⟩))).run Try.prog w' = .ok (.agg #[.int .i64 k, x1, .slice a len cp, x3]) w' := fun w' h => by rw [hS] at h; exact ld_deed h.2
  have hby := hdb (.int .i64 k) W2.drew (HH.out.1.kept hb12.drew)
  have H2 := Lib.hid (And.intro hb2 (And.intro hb12 (And.intro hSb (And.intro hSi (And.intro hd2 ha2)))))
  clear hb2 hdb hd2 ha2 hb12 hS hSb hSi
  go_wp2_with fail
  refine wp_region_linY S [12, 13, 14, 16] [0, 1, 2, 3, 4, 5, 6, 7, 8, 9, 10, 11, 12, 13, 14, 15, 16] (by kernel_rfl) (by kernel_rfl) hS0 ?_
  (repeat (first | (refine linX_off rfl rfl (by rfl) ?_; (try simp only [Act.put, List.getElem_toArray, List.getElem_cons_zero, List.getElem_cons_succ, List.setIfInBounds_toArray, List.set_cons_zero, List.set_cons_succ])) | (refine linX_op (v := ?_) rfl rfl (by rfl) (fun w9 hS9 => ?_) ?_; rotate_left; (focus (((have k0 := L0 w9 hS9; have k1 := L1 w9 hS9; have k2 := L2 w9 hS9; go_simp; (try go_bits)) <;> with_reducible rfl))); (try simp only [Act.put, List.getElem_toArray, List.getElem_cons_zero, List.getElem_cons_succ, List.setIfInBounds_toArray, List.set_cons_zero, List.set_cons_succ]))))
  refine linX_call (f := 24) (args := #[.agg #[.int .i64 k, x1, .slice a len cp, x3]]) rfl rfl (by rfl) rfl rfl (enters_of Try.func24 (by kernel_rfl) rfl) ?_ ?_
  · simp [Act.eval]
  refine hby.mono ?_
  rintro e W3 ⟨v, rfl, hown, hb3⟩
  obtain ⟨va, vc, rfl⟩ := wown_slice hown
  have hb23 : Below W2.heap.size W2 W3 := (Below.refl W2.heap.size W2).drew.trans hb3
  refine ⟨_, rfl, H2.out.2.2.1 _ hb23, ?_⟩
  (try simp only [Act.put, List.getElem_toArray, List.getElem_cons_zero, List.getElem_cons_succ, List.setIfInBounds_toArray, List.set_cons_zero, List.set_cons_succ])
  obtain ⟨W4, hW4⟩ : ∃ W4, W3.alloc (.cells #[.slice va q.length vc] 29) = W4 := ⟨_, rfl⟩
  have hb34 : Below W3.heap.size W3 W4 := by rw [← hW4]; exact (Below.refl _ _).alloc (Nat.le_refl _) _
  have bn : Blk W4 W3.heap.size 29 #[.slice va q.length vc] := by rw [← hW4]; exact Blk.new _ _ _
  have hb24 := bel_lat hb23 hb34
  refine linX_do (v := .slice (some ⟨W3.heap.size, 0, none⟩) 1 1) (w' := W4) rfl rfl (by rfl) ?_ (H2.out.2.2.1 _ hb24) ?_
  · (focus ((go_simp; (try go_bits)) <;> with_reducible rfl))
  (try simp only [Act.put, List.getElem_toArray, List.getElem_cons_zero, List.getElem_cons_succ, List.setIfInBounds_toArray, List.set_cons_zero, List.set_cons_succ])
  have hb04 : Below w.heap.size w W4 := bel_lat H2.out.2.1 hb24
  have ht4 := owns_later2 HH.out.2.2.2.2.2 hb04
  obtain ⟨g5, cap5, W5, hrun, ho5, hb45⟩ := tx_copy (C := w.heap.size) 30 ht4 (by omega) bn rfl hb04.size
  have hrun2 : (Builtin.append_ #[30, 30] 30 #[.slice ta m m, .slice (some ⟨W3.heap.size, 0, none⟩) 1 1]).run Try.prog W4 = .ok (.slice (some ⟨g5, 0, none⟩) (m + 1) cap5) W5 := hrun
  have hb25 := bel_lat hb24 hb45
  refine linX_do (v := .slice (some ⟨g5, 0, none⟩) (m + 1) cap5) (w' := W5) rfl rfl (by rfl) ?_ (H2.out.2.2.1 _ hb25) ?_
  · simp [execOp, resolve, invoke, builtin, Act.eval, hrun2, Result.andThen, Sem.run_bind]
  (try simp only [Act.put, List.getElem_toArray, List.getElem_cons_zero, List.getElem_cons_succ, List.setIfInBounds_toArray, List.set_cons_zero, List.set_cons_succ])
  (repeat (first | (refine linX_off rfl rfl (by rfl) ?_; (try simp only [Act.put, List.getElem_toArray, List.getElem_cons_zero, List.getElem_cons_succ, List.setIfInBounds_toArray, List.set_cons_zero, List.set_cons_succ])) | (refine linX_op (v := ?_) rfl rfl (by rfl) (fun w9 hS9 => ?_) ?_; rotate_left; (focus (((have k0 := L0 w9 hS9; have k1 := L1 w9 hS9; have k2 := L2 w9 hS9; go_simp; (try go_bits)) <;> with_reducible rfl))); (try simp only [Act.put, List.getElem_toArray, List.getElem_cons_zero, List.getElem_cons_succ, List.setIfInBounds_toArray, List.set_cons_zero, List.set_cons_succ]))))
  have hb05 : Below w.heap.size w W5 := bel_lat H2.out.2.1 hb25
  have ht5 := HH.out.2.2.2.1.kept (Kept.of_below [] (bel_lat H2.out.1 hb25)) (by simp)
  have hst := st_things (g := w.heap.size + 1 + 1) (y0 := .slice sa sl sc) (y1 := .slice (some ⟨g5, 0, none⟩) (m + 1) cap5) ht5 rfl rfl
  have h6 := ht5.row #[.slice sa sl sc, .slice (some ⟨g5, 0, none⟩) (m + 1) cap5]
  obtain ⟨W6, hW6⟩ : ∃ W6, W5.setRow (w.heap.size + 1 + 1) #[.slice sa sl sc, .slice (some ⟨g5, 0, none⟩) (m + 1) cap5] = W6 := ⟨_, rfl⟩
  rw [hW6] at hst h6
  have hk6 : Kept [w.heap.size + 2] W5 W6 := by rw [← hW6]; exact (Kept.refl _ _).setRow (.inl (by simp)) _
  have hs6 : S W6 := by
    refine H2.out.2.2.2.1 _ ?_ ?_
    · exact ((H2.out.2.2.2.2.2.kept (Kept.of_below [] hb25) (by simp)).kept hk6 (by simp))
    · exact ((H2.out.2.2.2.2.1.kept (Kept.of_below [] hb25) (by simp)).kept hk6 (by simp))
  refine linX_store (w' := W6) rfl rfl (by rfl) ?_ hs6 ?_
  · (focus ((go_simp; (try go_bits)) <;> with_reducible rfl))
  refine linX_nil ?_
  have HB := Lib.hid (And.intro hown (And.intro ho5 (And.intro hb05 (And.intro hk6 (And.intro h6 (And.intro ht5 (And.intro hb34 hb45)))))))
  clear hown ho5 hb05 hk6 h6 ht5 hb34 hb45
  go_wp2_with fail
  refine bodyPost_ret (results_cell_row rfl _ _ (w.heap.size + 2) 32 #[.slice sa sl sc, .slice (some ⟨g5, 0, none⟩) (m + 1) cap5] (0, 0) _ rfl HB.out.2.2.2.2.1 Try.underlying32 rfl (s_things _ _)) rfl ?_
  obtain ⟨hown, ho5, hb05, hk6, h6, ht5, hb34, hb45⟩ := HB.out
  have hown5 := owns_later2 (owns_later2 hown hb34) hb45
  refine ⟨_, _, rfl, own_base (own_far hown5 hk6 (fun i hi hmm => row_ne hown5 ht5 (by decide) (by rw [List.mem_singleton.1 hmm] at hi; exact hi))) (Nat.le_trans HH.out.2.1.size H2.out.1.size), own_far ho5 hk6 (fun i hi hmm => row_ne ho5 ht5 (by decide) (by rw [List.mem_singleton.1 hmm] at hi; exact hi)), hb05.trans (hk6.below (fun k hk => by rw [List.mem_singleton.1 hk]; omega) hb05.size)⟩
end Go.Proofs.Ytelpihlifdfgoaa
namespace Go.Proofs.Ytelpihlifdfgoaa
open Go.RowKit Go.Shelf
set_option linter.unusedVariables false
/-- The things in this box are those. -/
def Bx (W : World) (C q : Nat) (s : List Nat) (txs : List (List Nat)) : Prop := ∃ sn rv rvs, Now W C q s txs sn rv rvs ∧ Bys s ∧ ∀ x ∈ txs, Bys x
/-- A log that is whole, and the things that it is to tell in a box. -/
def Sv (W : World) (C B p pb g q T : Nat) : Prop :=
  ∃ bv D t ch s txs sv tv vs sn rv rvs, Hale W B p pb g 26 12 t ch s txs bv sv tv vs D ∧ D.dead = false ∧ t ≤ T ∧ Now W C q s txs sn rv rvs ∧ ∀ i, rv.ownBlock = some i → tv.ownBlock ≠ some i
/-- One of two logs, and the things of each in a box. -/
def SvF (W : World) (C B p pb q q' T : Nat) : Prop :=
  ∃ bv D t ch s txs t2 c2 s2 txs2, Dsk W B p pb bv D ∧ Fork 26 12 t ch s txs t2 c2 s2 txs2 D ∧ t ≤ T ∧ t2 ≤ T ∧ Bx W C q s txs ∧ Bx W C q' s2 txs2
theorem Bx.later {W W' : World} {C q : Nat} {s : List Nat} {txs : List (List Nat)} (h : Bx W C q s txs) (k : Below W.heap.size W W') : Bx W' C q s txs := by
  obtain ⟨sn, rv, rvs, h1, h2⟩ := h
  exact ⟨sn, rv, rvs, h1.later k, h2⟩
theorem Sv.later {W W' : World} {C B p pb g q T : Nat} (h : Sv W C B p pb g q T) (k : Below W.heap.size W W') : Sv W' C B p pb g q T := by
  obtain ⟨bv, D, t, ch, s, txs, sv, tv, vs, sn, rv, rvs, h1, h2, h3, h4, h5⟩ := h
  exact ⟨bv, D, t, ch, s, txs, sv, tv, vs, sn, rv, rvs, h1.later k, h2, h3, h4.later k, h5⟩
theorem SvF.later {W W' : World} {C B p pb q q' T : Nat} (h : SvF W C B p pb q q' T) (k : Below W.heap.size W W') : SvF W' C B p pb q q' T := by
  obtain ⟨bv, D, t, ch, s, txs, t2, c2, s2, txs2, h1, h2, h3, h4, h5, h6⟩ := h
  exact ⟨bv, D, t, ch, s, txs, t2, c2, s2, txs2, h1.later k, h2, h3, h4, h5.later k, h6.later k⟩
theorem Sv.more {W : World} {C B p pb g q T T' : Nat} (h : Sv W C B p pb g q T) (hT : T ≤ T') : Sv W C B p pb g q T' := by
  obtain ⟨bv, D, t, ch, s, txs, sv, tv, vs, sn, rv, rvs, h1, h2, h3, h4, h5⟩ := h
  exact ⟨bv, D, t, ch, s, txs, sv, tv, vs, sn, rv, rvs, h1, h2, Nat.le_trans h3 hT, h4, h5⟩
section
variable {C B p pb g q n N t c : Nat} {W W' : World} {s s' z : List Nat} {txs txs' zs : List (List Nat)} {bv sv tv sn rv : Value} {vs rvs : List Value} {D : Dk}
theorem Hale.box (h : Hale W B p pb g N n t c s txs bv sv tv vs D) {cs : Array Value} (hq : Blk W q 32 cs) (k : Kept [q] W W') : Hale W' B p pb g N n t c s txs bv sv tv vs D :=
  ⟨h.disk.apart k (fun i hi hm => things_far h.disk hq (by rw [← List.mem_singleton.1 hi]; exact hm)), h.byt, h.nod, h.nums, h.per, h.log.box hq k⟩
theorem dsk_box (h : Dsk W B p pb bv D) {cs : Array Value} (hq : Blk W q 32 cs) (k : Kept [q] W W') : Dsk W' B p pb bv D :=
  h.apart k (fun i hi hm => things_far h hq (by rw [← List.mem_singleton.1 hi]; exact hm))
theorem own_box {e : TypeId} {v : Value} {m : Nat} {xs : List Value} (h : W.ownsRow C e 1 v m xs) (he : e ≠ 32) {cs : Array Value} (hq : Blk W q 32 cs) (k : Kept [q] W W') : W'.ownsRow C e 1 v m xs :=
  own_far h k (fun i hi hm => row_ne h hq (fun e' => he e'.symm) (by rw [List.mem_singleton.1 hm] at hi; exact hi))
/-- Other things in another box. -/
theorem Now.other {q2 : Nat} (h : Now W C q s txs sn rv rvs) {cs : Array Value} (hq : Blk W q2 32 cs) (hne : q ≠ q2) (k : Kept [q2] W W') : Now W' C q s txs sn rv rvs :=
  ⟨h.1.kept k (by simpa using hne), own_box h.2.1 (by decide) hq k, own_box h.2.2.1 (by decide) hq k, Txs.imp (fun v l h => own_box h (by decide) hq k) h.2.2.2⟩
/-- The things, copied into another box. -/
theorem Now.copy {q2 : Nat} (h : Now W C q s txs sn rv rvs) {cs : Array Value} (hq : Blk W q2 32 cs) (k : Kept [q2] W W') (hq' : Blk W' q2 32 #[sn, rv]) : Now W' C q2 s txs sn rv rvs :=
  ⟨hq', own_box h.2.1 (by decide) hq k, own_box h.2.2.1 (by decide) hq k, Txs.imp (fun v l h => own_box h (by decide) hq k) h.2.2.2⟩
theorem fork_bys {t2 c2 : Nat} {s2 : List Nat} {txs2 : List (List Nat)} (h : Fork N n t c s txs t2 c2 s2 txs2 D) : (Bys s ∧ ∀ x ∈ txs, Bys x) ∧ (Bys s2 ∧ ∀ x ∈ txs2, Bys x) := by
  obtain ⟨_, _, h3, _, h4⟩ := h
  have h5 : Bys s ∧ ∀ x ∈ txs, Bys x := ⟨h3.len.2.1, fun x hx => (h3.len.2.2 x hx).2⟩
  refine ⟨h5, ?_⟩
  rcases h4 with ⟨q, t', m', l, k1, k2, _⟩ | ⟨⟨_, _, rfl, rfl⟩, _⟩
  · rcases k2 with ⟨_, rfl, rfl, rfl, rfl⟩ | ⟨_, rfl, rfl, rfl, rfl⟩
    · refine ⟨h5.1, fun x hx => ?_⟩
      rcases List.mem_append.1 hx with h6 | h6
      · exact h5.2 x h6
      · rw [List.mem_singleton.1 h6]; exact k1.bys
    · exact ⟨k1.bys, by simp⟩
  · exact h5
theorem Bx.box2 {q2 : Nat} (h : Bx W C q s txs) {cs : Array Value} (hq : Blk W q2 32 cs) (hne : q ≠ q2) (k : Kept [q2] W W') : Bx W' C q s txs := by
  obtain ⟨sn, rv, rvs, h1, h2⟩ := h
  exact ⟨sn, rv, rvs, h1.other hq hne k, h2⟩
theorem Bx.disk (h : Bx W C q s txs) (hD : Dsk W B p pb bv D) (k : Kept (fp p pb bv) W W') : Bx W' C q s txs := by
  obtain ⟨sn, rv, rvs, h1, h2⟩ := h
  exact ⟨sn, rv, rvs, h1.disk hD k, h2⟩
theorem Hale.bys (h : Hale W B p pb g N n t c s txs bv sv tv vs D) : Bys s ∧ ∀ x ∈ txs, Bys x := ⟨h.nums.len.2.1, fun x hx => (h.nums.len.2.2 x hx).2⟩
theorem fold_store {q2 : Nat} {a b : Value} {cs : Array Value} (hq : Blk W q2 32 cs) : Kept [q2] W (W.setRow q2 #[a, b]) ∧ Blk (W.setRow q2 #[a, b]) q2 32 #[a, b] := ⟨(Kept.refl _ _).setRow (.inl (by simp)) _, hq.row _⟩
/-- What comes of the things by a deed. -/
def StepS (k : Int) (l s : List Nat) (txs : List (List Nat)) (s2 : List Nat) (txs2 : List (List Nat)) : Prop := (kindN k < 4 ∧ s2 = s ∧ txs2 = txs ++ [l.take 400]) ∨ (¬ kindN k < 4 ∧ s2 = l.take 400 ∧ txs2 = [])
theorem StepS.one {k : Int} {l : List Nat} {a b : List Nat} {x y : List (List Nat)} (h : StepS k l s txs a x) (h' : StepS k l s txs b y) : a = b ∧ x = y := by
  rcases h with ⟨h0, rfl, rfl⟩ | ⟨h0, rfl, rfl⟩ <;> rcases h' with ⟨k0, rfl, rfl⟩ | ⟨k0, rfl, rfl⟩
  · exact ⟨rfl, rfl⟩
  · exact absurd h0 k0
  · exact absurd k0 h0
  · exact ⟨rfl, rfl⟩
theorem step_new {k : Int} {l : List Nat} {t2 c2 : Nat} {s2 : List Nat} {txs2 : List (List Nat)} (h : NewIs t c s txs (if kindN k < 4 then t else t + 1) (l.take 400) t2 c2 s2 txs2) : StepS k l s txs s2 txs2 ∧ t2 ≤ t + 1 := by
  by_cases hk : kindN k < 4
  · rw [if_pos hk] at h
    rcases h with ⟨_, rfl, rfl, rfl, rfl⟩ | ⟨h9, _⟩
    · exact ⟨.inl ⟨hk, rfl, rfl⟩, by omega⟩
    · omega
  · rw [if_neg hk] at h
    rcases h with ⟨h9, _⟩ | ⟨_, rfl, rfl, rfl, rfl⟩
    · omega
    · exact ⟨.inr ⟨hk, rfl, rfl⟩, by omega⟩
theorem with_gen {w : World} (k : Int) (x1 x3 : Value) (a : Option Addr) (len cp : Nat) (l : List Nat) (sa : Option Addr) (sc : Nat) (ra : Option Addr) (rc : Nat) (hL : Lies w a l) (hl : l.length = len) (hc : len ≤ cp) (h0 : a = none → len = 0) (hcb : cp ≤ 9223372036854775807)
    (h1 : w.ownsRow C 5 1 (.slice sa s.length sc) s.length (s.map byc)) (h2 : w.ownsRow C 29 1 (.slice ra txs.length rc) txs.length rvs) (h3 : Txs w C rvs txs) (hm : txs.length ≤ 999) (hC : C ≤ w.heap.size) :
    Calls Try.prog 10 #[.agg #[.slice sa s.length sc, .slice ra txs.length rc], .agg #[.int .i64 k, x1, .slice a len cp, x3]] w fun e w' => ∃ na nl nc ma ml mc rvs2 s2 txs2, e = .returned (.agg #[.slice na nl nc, .slice ma ml mc]) ∧ nl = s2.length ∧ ml = txs2.length ∧ StepS k l s txs s2 txs2 ∧ w'.ownsRow C 5 1 (.slice na nl nc) s2.length (s2.map byc) ∧ w'.ownsRow w.heap.size 29 1 (.slice ma ml mc) txs2.length rvs2 ∧ Txs w' C rvs2 txs2 ∧ Below w.heap.size w w' := by
  by_cases hk : kindN k < 4
  · refine (withl_any k (kindN k) rfl hk x1 x3 a len cp l sa s.length sc w hL hl hc h0 hcb h2 hm).mono ?_
    rintro e w' ⟨v, rv, rfl, hv, hr, hb⟩
    obtain ⟨ma, mc, rfl⟩ := wown_slice hr
    have hlen : (txs ++ [l.take 400]).length = txs.length + 1 := by rw [List.length_append]; rfl
    exact ⟨sa, s.length, sc, ma, _, mc, _, s, txs ++ [l.take 400], rfl, rfl, by rw [hlen], .inl ⟨hk, rfl, rfl⟩, owns_later2 h1 hb, by rw [hlen]; exact hr, Txs.snoc (own_base hv hC) (Txs.imp (fun v l h => owns_later2 h hb) h3), hb⟩
  · refine (withh_any k (kindN k) rfl hk x1 x3 a len cp l (.slice sa s.length sc) (.slice ra txs.length rc) w hL hl hc h0 hcb).mono ?_
    rintro e w' ⟨v, rfl, hv, hb⟩
    obtain ⟨na, nc, rfl⟩ := wown_slice hv
    exact ⟨na, _, nc, none, 0, 0, [], l.take 400, [], rfl, rfl, rfl, .inr ⟨hk, rfl, rfl⟩, own_base hv hC, World.ownsRow_nil _ _ _ _, trivial, hb⟩
/-- What a deed that writes leaves, one of three. -/
theorem After.three {w' : World} {k : Int} {l : List Nat} {er : Int} (h : After W w' B p pb g N n t c s txs bv sv tv vs D (if kindN k < 4 then t else t + 1) (l.take 400) er) (hH : Hale W B p pb g N n t c s txs bv sv tv vs D) (hdd : D.dead = false) (ht : t + 1 < 4294967295) :
    (er = 6 ∧ ∃ bv', Hale w' B p pb g N n t c s txs bv' sv tv vs D) ∨
    (er = 0 ∧ ∃ bv' D' t2 c2 s2 txs2 sv2 tv2 vs2, StepS k l s txs s2 txs2 ∧ t2 ≤ t + 1 ∧ D'.dead = false ∧ (∀ i, tv2.ownBlock = some i → tv.ownBlock = some i ∨ W.heap.size ≤ i) ∧ Hale w' B p pb g N n t2 c2 s2 txs2 bv' sv2 tv2 vs2 D') ∨
    (er ≠ 0 ∧ er ≠ 6 ∧ (∃ t0 sv0 tv0 u0 c0, Blk w' g 67 (lgcs t0 sv0 tv0 u0 p n c0 true)) ∧ ∃ bv' D' t2 c2 s2 txs2, StepS k l s txs s2 txs2 ∧ t2 ≤ t + 1 ∧ Dsk w' B p pb bv' D' ∧ Fork N n t c s txs t2 c2 s2 txs2 D') := by
  obtain ⟨bv', D', h1, h2, h3, h4, h5, h6, h7, h8⟩ := h
  rcases h8 with ⟨rfl, rfl, k1⟩ | ⟨rfl, k1, t2, c2, s2, txs2, sv2, tv2, vs2, k2, k3, k9, k4, k5⟩ | ⟨k1, k2, k3, q, m', k4, k5⟩
  · exact .inl ⟨rfl, bv', h1, h2, h3, hH.nums, hH.per, k1⟩
  · exact .inr (.inl ⟨rfl, bv', D', t2, c2, s2, txs2, sv2, tv2, vs2, (step_new k2).1, (step_new k2).2, k1, k9, h1, h2, h3, k4, k5, k3⟩)
  · have hex : ∃ t2 c2 s2 txs2, NewIs t c s txs (if kindN k < 4 then t else t + 1) (l.take 400) t2 c2 s2 txs2 := by
      rcases k4.kind with ⟨h9, _⟩ | ⟨h9, _⟩
      · rw [h9]; exact ⟨_, _, _, _, .inl ⟨rfl, rfl, rfl, rfl, rfl⟩⟩
      · rw [h9]; exact ⟨_, _, _, _, .inr ⟨rfl, rfl, rfl, rfl, rfl⟩⟩
    obtain ⟨t2, c2, s2, txs2, hnew⟩ := hex
    exact .inr (.inr ⟨k1, k2, k3, bv', D', t2, c2, s2, txs2, (step_new hnew).1, (step_new hnew).2, h1, h2, h3, hH.nums, by omega, .inl ⟨q, _, m', _, k4, hnew, k5⟩⟩)
theorem After.kept {w' : World} {t' : Nat} {l : List Nat} {er : Int} (h : After W w' B p pb g N n t c s txs bv sv tv vs D t' l er) : Kept (g :: (tv.ownBlock.toList ++ fp p pb bv)) W w' ∧ Below B W w' := by
  obtain ⟨bv', D', h1, h2, h3, h4, h5, _⟩ := h
  exact ⟨h4, h5⟩
theorem deed_far {qx : Nat} {cs : Array Value} (h : Dsk W B p pb bv D) (hq : Blk W qx 35 cs) : qx ∉ fp p pb bv := by
  intro hm
  simp only [fp, List.mem_cons, Option.mem_toList] at hm
  rcases hm with h9 | h9 | h9
  · exact hq.ne h.cells (by decide) h9
  · exact hq.ne h.plate (by decide) h9
  · rcases h.buf.2 with h8 | ⟨g, cap, cur, e1, e2, e3, e4⟩
    · rw [h8.1] at h9; cases h9
    · rw [e1] at h9
      obtain rfl : g = qx := by simpa [Value.ownBlock] using h9
      unfold Blk at hq
      rw [e3] at hq
      have := Option.some.inj hq
      simp only [Obj.cells.injEq] at this
      exact absurd this.2.1 (by decide)
theorem deed_log {qx : Nat} {cs : Array Value} (h : Dsk W B p pb bv D) (hL : LcX B W p g n t c s txs sv tv vs) (hq : Blk W qx 35 cs) : qx ∉ g :: (tv.ownBlock.toList ++ fp p pb bv) := by
  intro hm
  simp only [List.mem_cons, List.mem_append, Option.mem_toList] at hm
  rcases hm with h9 | h9 | h9
  · exact hq.ne hL.1 (by decide) h9
  · exact row_ne hL.2.2.1 hq (by decide) h9
  · exact deed_far h hq h9
theorem are_not {w : World} {f : Nat → Bk} (h : Lc B w p g 12 t c s txs) (hf : LogF f 12 t c s txs) (hs : w.ownsRow C 5 1 sn z.length (z.map byc)) (hzB : Bys z) (hr : w.ownsRow C 29 1 rv zs.length rvs) (hx : Txs w C rvs zs) (hzz : ∀ x ∈ zs, Bys x) (hne : ¬ (z = s ∧ zs = txs)) :
    Calls Try.prog 15 #[.agg #[sn, rv], .pointer (some ⟨g, 0, none⟩)] w fun e w' => e = .returned (.bool false) ∧ Below w.heap.size w w' := by
  obtain ⟨b, hb, hc⟩ := are_dec h hf hs hzB hr hx hzz
  cases b with
  | false => exact hc
  | true => exact absurd (hb.1 rfl) hne
end
end Go.Proofs.Ytelpihlifdfgoaa
