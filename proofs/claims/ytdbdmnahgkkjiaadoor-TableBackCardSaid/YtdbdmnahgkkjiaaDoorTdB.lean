/-
  The contract of table.Decode. Nothing here is a statement of the document.
-/
import Derived.Test.YtdbdmnahgkkjiaaDoorTbL
import Derived.Test.YtdbdmnahgkkjiaaDoorTbX
namespace Go.Proofs.YtdbdmnahgkkjiaaDoor
open Go.RowKit Go.Shelf
set_option linter.unusedVariables false
set_option maxRecDepth 100000
/-- One row is appended. -/
theorem tappB_one {w : World} {B m c : Nat} {a : Option Addr} {O : List Rt} (ho : OwnT w B (.slice a m c) O) (hs : O.length ≤ 1000) (hB : B ≤ w.heap.size) (r : Rt) :
    ∃ a' c' w2, (∀ ty : TypeId, (Builtin.append_ #[22, 22] ty #[.slice a m c, .slice (some ⟨w.heap.size, 0, none⟩) 1 1]).run Tryd.prog (w.alloc (.cells r.cs 48)) = .ok (.slice a' (m + 1) c') w2) ∧ OwnT w2 B (.slice a' (m + 1) c') (O ++ [r]) ∧ Below B w w2 ∧ w.heap.size ≤ w2.heap.size ∧ ∀ g, g < w.heap.size → (Value.slice a m c).ownBlock ≠ some g → w2.heap[g]? = w.heap[g]? := by
  obtain ⟨_, _, e1, _⟩ := ho.lies
  have hml : m = O.length := by injection e1
  have k1 : Below w.heap.size w (w.alloc (.cells r.cs 48)) := (Below.refl _ _).alloc (Nat.le_refl _) _
  have hq : RowsAt (w.alloc (.cells r.cs 48)) (some ⟨w.heap.size, 0, none⟩) [r] := by
    have hb9 := Blk.new w 48 r.cs
    exact .inr ⟨w.heap.size, 0, rfl, row_cells _ _ [r] 0 hb9.lt (fun k u hk => by rw [Nat.zero_add, hb9.cell]; simpa [rtcs] using hk)⟩
  obtain ⟨v', w2, q1, q2, q3, _⟩ := tapp_run (c := 1) 22 (ho.later k1) (m := 1) rfl hq (by omega) (by simp; omega)
  obtain ⟨a', c', e2, _⟩ := q2.lies
  have hl : (O ++ [r]).length = m + 1 := by simp [hml]
  rw [hl] at e2
  subst e2
  have q4 := q3.size
  refine ⟨a', c', w2, fun ty => q1, q2, (k1.mono hB).grown q3 (by simp; omega) (fun k hk => ((ho.later k1).lt k hk).1), by simp at q4; omega, fun g hg he => ?_⟩
  exact (q3.block g (by simp; omega) (fun e => he e.symm)).trans (k1.block g hg)
theorem own_sameT {w w' : World} {B : Nat} {v : Value} {L : List Rt} (h : OwnT w B v L) (hs : ∀ g, B ≤ g → g < w.heap.size → w'.heap[g]? = w.heap[g]?) : OwnT w' B v L := by
  refine ⟨h.1, ?_⟩
  rcases h.2 with h | ⟨g, cap, cur, h1, h2, h3, h4⟩
  · exact .inl h
  · exact .inr ⟨g, cap, cur, h1, h2, (hs g h2 (Array.getElem?_eq_some_iff.1 h3).1).trans h3, h4⟩
theorem blk_at {w w2 : World} {g : Nat} {t : TypeId} {C : Array Value} (h : Blk w g t C) (e : w2.heap[g]? = w.heap[g]?) : Blk w2 g t C := e.trans h
theorem wrap_u8 {k : Nat} (h : k < 255) : IntKind.u8.wrap ((k : Int) + 1) = ((k + 1 : Nat) : Int) := by
  unfold IntKind.wrap
  simp [IntKind.bits, IntKind.signed]
  omega
theorem dt_ok {L : List Nat} {T : List Rt} (h : L ≠ []) (e1 : (decR (L.getD 0 0) (L.drop 1)).1 = T) (e2 : (decR (L.getD 0 0) (L.drop 1)).2 = ([], 0)) (hT : okT T) : dtE L = 0 ∧ dtR L = T := by
  have e : dtE L = 0 := by
    unfold dtE
    rw [if_neg h, e1, e2, if_neg (by simp), if_neg (by rintro (h | h); exact h rfl; exact h hT)]
  exact ⟨e, by unfold dtR; rw [if_pos e, e1]⟩
theorem dt_bad {L l : List Nat} {T : List Rt} (h : L ≠ []) (e1 : (decR (L.getD 0 0) (L.drop 1)).1 = T) (e2 : (decR (L.getD 0 0) (L.drop 1)).2 = (l, 0)) (hT : l ≠ [] ∨ ¬ okT T) : dtE L = 190 ∧ dtR L = [] := by
  have e : dtE L = 190 := by
    unfold dtE
    rw [if_neg h, e1, e2, if_neg (by simp), if_pos hT]
  exact ⟨e, by unfold dtR; rw [if_neg (by rw [e]; omega)]⟩
theorem dt_stop {L l : List Nat} {E : Int} (h : L ≠ []) (e2 : (decR (L.getD 0 0) (L.drop 1)).2 = (l, E)) (hE : E ≠ 0) : dtE L = E ∧ dtR L = [] := by
  have e : dtE L = E := by
    unfold dtE
    rw [if_neg h, e2, if_pos hE]
  exact ⟨e, by unfold dtR; rw [if_neg (by rw [e]; exact hE)]⟩
theorem dt_nil : dtE [] = 7 ∧ dtR [] = [] := by
  have e : dtE [] = 7 := if_pos rfl
  exact ⟨e, by unfold dtR; rw [if_neg (by rw [e]; omega)]⟩
attribute [local go_sem ↓] load_b16_rule store_b16_rule load_ad_rule store_ad_rule load_px_rule store_px_rule eq_b16_rule eq_ad_rule eq_px_rule load_rt_rule store_rt_rule build_ad_rule build_px_rule build_b16_rule build_rt_rule load_tab_rule build_tab_rule store_tab_rule tbuild_rule tapp_rule tcopy_rule eq_rt_rule cutB_rule tbuild_rule store_tab_rule
set_option maxHeartbeats 8000000 in
theorem tdecode_any (a : Option Addr) (n cap : Nat) (L : List Nat) (w : World) (hW : Wid w) (hB : Bys L) (hn : L.length = n) (hlm : n ≤ 4000) (hc : n ≤ cap) (hcm : cap ≤ 9223372036854775807) (hL : Lies w a L) :
    Calls Tryd.prog 13 #[.slice a n cap] w fun e w' => ∃ a' c', e = .returned (.tuple #[.agg #[.slice a' (dtR L).length c'], .int .i64 (dtE L)]) ∧ Tbl w' a' c' (dtR L) ∧ Below w.heap.size w w' := by
  obtain ⟨W1, hW1⟩ : ∃ W1, w.alloc (.cells #[.slice none 0 0] 24) = W1 := ⟨_, rfl⟩
  have s1 : W1.heap.size = w.heap.size + 1 := by rw [← hW1]; simp
  have hb1 : Below w.heap.size w W1 := by rw [← hW1]; exact (Below.refl _ _).alloc (Nat.le_refl _) _
  have b1 : Blk W1 w.heap.size 24 #[.slice none 0 0] := by rw [← hW1]; exact Blk.new _ _ _
  have BZ := build_tab0
  by_cases h0 : n = 0
  · have hLn : L = [] := List.length_eq_zero_iff.1 (by omega)
    have d0 : ((n : Int) == 0) = true := by simp [h0]
    subst hLn
    have HF := Lib.hid dt_nil
    have ST := st_tab (a2 := none) (n2 := 0) (c2 := 0) b1
    have HB := Lib.hid (And.intro hb1 b1)
    clear hL hB hW hb1 b1 h0 hn s1
    go_enter Tryd.func13, Tryd.ntmps13
    go_wp2_with (with_reducible refine wpList_alloc_z rfl 24 rfl #[.slice none 0 0] 1 z_tab ?_)
    refine bodyPost_ret (results_blk rfl _ _ w.heap.size _ _ rfl (HB.out.2.row _) Tryd.underlying24 rfl s_tab1) rfl ?_
    exact ⟨none, 0, by rw [HF.out.1, HF.out.2]; rfl, by rw [HF.out.2]; exact Tbl.none _, below_setRow HB.out.1 (Nat.le_refl _) _⟩
  · have hLne : L ≠ [] := fun h => h0 (by rw [← hn, h]; rfl)
    have d0 : ((n : Int) == 0) = false := by simp [h0]
    obtain ⟨W2, hW2⟩ : ∃ W2, W1.alloc (.cells #[.slice none 0 0] 24) = W2 := ⟨_, rfl⟩
    have s2 : W2.heap.size = w.heap.size + 2 := by rw [← hW2]; simp [s1]
    have k12 : Below W1.heap.size W1 W2 := by rw [← hW2]; exact (Below.refl _ _).alloc (Nat.le_refl _) _
    have b2 : Blk W2 W1.heap.size 24 #[.slice none 0 0] := by rw [← hW2]; exact Blk.new _ _ _
    have hbw2 : Below w.heap.size w W2 := bel_trans hb1 k12
    obtain ⟨g0, o0, ea, hcell⟩ := hL.byte (i := 0) (by omega)
    have hgl : g0 < w.heap.size := by
      rcases hL with h | ⟨b, off, e, hb, _⟩
      · exact absurd h hLne
      · rw [ea] at e; cases e; exact hb
    obtain ⟨cnt, hcnt⟩ : ∃ cnt, L.getD 0 0 = cnt := ⟨_, rfl⟩
    have hc0 := hcell 0 (by omega)
    rw [hcnt, Nat.add_zero] at hc0
    have hc256 : cnt < 256 := by
      rw [← hcnt]
      have hlen : 0 < L.length := by omega
      simp only [List.getD_eq_getElem?_getD, List.getElem?_eq_getElem hlen, Option.getD_some]
      exact hB _ (List.getElem_mem hlen)
    have LB : ∀ w', Below W2.heap.size W2 w' → w'.cell? ⟨g0, o0, none⟩ = some (.int .u8 (cnt : Int)) := fun w' h => ((bel_trans hbw2 h).cell (p := ⟨g0, o0, none⟩) hgl).trans hc0
    obtain ⟨a1, hct, hl1⟩ := cutB_run hn hc hL 1 (by omega)
    change ∀ w2, (cutB (.slice a n cap) (.int .i64 1)).run Tryd.prog w2 = _ at hct
    have hz : 0 < n := by omega
    have hSd : Below W2.heap.size W2 W2.drew := (Below.refl _ _).drew
    subst ea
    have HB := Lib.hid (And.intro hbw2 (And.intro (b1.later k12) (And.intro b2 (And.intro hn (And.intro hLne (And.intro hcnt (And.intro hc256 (And.intro (And.intro s1 s2) (And.intro hW (And.intro hl1 (And.intro (hB.drop9 1) (And.intro (show n ≤ cap from hc) (And.intro hcm hlm)))))))))))))
    clear hb1 b1 b2 hbw2 hn hLne hcnt hc256 hW hl1 hB hL hcell hgl hc0 k12 h0 hc hcm hlm s1 s2
    go_enter Tryd.func13, Tryd.ntmps13
    go_wp2_with (with_reducible refine wpList_alloc_z rfl 24 rfl #[.slice none 0 0] 1 z_tab ?_)
    rw [hW2]
    refine wp_region_linY (fun w' => Below W2.heap.size W2 w') [] [0, 1, 2, 3, 4, 5, 6] (by kernel_rfl) (by kernel_rfl) hSd ?_
    iterate 7 (first | (refine linX_off rfl rfl (by rfl) ?_; (try simp only [Act.put, List.getElem_toArray, List.getElem_cons_zero, List.getElem_cons_succ, List.setIfInBounds_toArray, List.set_cons_zero, List.set_cons_succ])) | (refine linX_op (v := ?_) rfl rfl (by rfl) (fun w9 hS9 => ?_) ?_; rotate_left; (focus (((try dsimp only at hS9); go_simp; (try go_bits)) <;> with_reducible rfl)); (try simp only [Act.put, List.getElem_toArray, List.getElem_cons_zero, List.getElem_cons_succ, List.setIfInBounds_toArray, List.set_cons_zero, List.set_cons_succ])))
    refine linX_nil ?_
    go_wp2_with fail
    obtain ⟨W3, hW3⟩ : ∃ W3, W2.drew = W3 := ⟨_, rfl⟩
    rw [hW3]
    have k23 : Below W2.heap.size W2 W3 := by rw [← hW3]; exact (Below.refl _ _).drew
    have H3 := Lib.hid (And.intro k23 (And.intro (HB.out.1.trans (k23.mono HB.out.1.size)) (And.intro (HB.out.2.1.later k23) (HB.out.2.2.1.later k23))))
    clear LB hct hz hSd k23 hW3 hW2 hW1
    go_loopw [6, 20] (fun r i wr => ∃ (k m cx : Nat) (l : List Nat) (x v : Option Addr) (vc : Nat) (T : List Rt), r = .slice x m cx ∧ i = .int .u8 (k : Int) ∧ l.length = m ∧ m ≤ cx ∧ cx ≤ 9223372036854775807 ∧ m ≤ 4000 ∧ k ≤ cnt ∧ T.length = k ∧ Lies w x l ∧ Bys l ∧ Blk wr W1.heap.size 24 #[.slice v k vc] ∧ Blk wr w.heap.size 24 #[.slice none 0 0] ∧ OwnT wr W2.heap.size (.slice v k vc) T ∧ Below w.heap.size w wr ∧ W2.heap.size ≤ wr.heap.size ∧ (decR cnt (L.drop 1)).1 = T ++ (decR (cnt - k) l).1 ∧ (decR cnt (L.drop 1)).2 = (decR (cnt - k) l).2) (fun r i _ => cnt - (intOf i).toNat)
    case atStart =>
      have o1 := HB.out.2.2.2.2.2.2.2.2.2
      have hnn := HB.out.2.2.2.1
      exact ⟨0, n - 1, cap - 1, L.drop 1, a1, none, 0, [], rfl, rfl, by simp [hnn], by have := o1.2.2.1; omega, by have := o1.2.2.2.1; omega, by have := o1.2.2.2.2; omega, Nat.zero_le _, rfl, o1.1, o1.2.1, H3.out.2.2.2, H3.out.2.2.1, ⟨rfl, .inl ⟨rfl, rfl⟩⟩, H3.out.2.1, H3.out.1.size, by simp, rfl⟩
    case round =>
      obtain ⟨k, m, cx, l, x, v, vc, T, rfl, rfl, hlm2, hmc, hcx, hm4, hk, hTk, hLx, hBx, hbt, hbr, hown, hkb, hsz, hd1, hd2⟩ := hrel
      by_cases hlt : k < cnt
      · have dk : decide ((k : Int) < (cnt : Int)) = true := decide_eq_true (by omega)
        have HFI := first_any x cx l m wr (HB.out.2.2.2.2.2.2.2.2.1.later hkb) hBx hlm2 hm4 hmc hcx (hLx.kept hkb)
        obtain ⟨j, hj⟩ : ∃ j, cnt - k = j + 1 := ⟨cnt - k - 1, by omega⟩
        rw [hj] at hd1 hd2
        have HR := Lib.hid (And.intro hlm2 (And.intro hmc (And.intro hcx (And.intro hm4 (And.intro hk (And.intro hTk (And.intro hLx (And.intro hBx (And.intro hbt (And.intro hbr (And.intro hown (And.intro hkb (And.intro hsz (And.intro hd1 (And.intro hd2 hj)))))))))))))))
        clear hlm2 hmc hcx hm4 hTk hLx hBx hbt hbr hown hkb hsz hd1 hd2 hj
        go_wp2_with fail
        refine HFI.mono ?_
        rintro e w4 ⟨rfl, hb4⟩
        obtain ⟨E, hE⟩ : ∃ E, fE l = E := ⟨_, rfl⟩
        obtain ⟨N, hN⟩ : ∃ N, fN l = N := ⟨_, rfl⟩
        obtain ⟨R, hR⟩ : ∃ R, fR l = R := ⟨_, rfl⟩
        rw [hE, hN, hR]
        obtain ⟨W5, hW5⟩ : ∃ W5, w4.alloc (.cells R.cs 48) = W5 := ⟨_, rfl⟩
        have S5 := st_rt (q := R) (Blk.new w4 48 Rt.zero.cs)
        rw [World.setRow_alloc_new, hW5] at S5
        have b5 : Blk W5 w4.heap.size 48 R.cs := by rw [← hW5]; exact Blk.new _ _ _
        have k45 : Below w4.heap.size w4 W5 := by rw [← hW5]; exact (Below.refl _ _).alloc (Nat.le_refl _) _
        have kr5 : Below wr.heap.size wr W5 := bel_trans hb4 k45
        have br5 := HR.out.2.2.2.2.2.2.2.2.2.1.later kr5
        have STZ := st_tab (a2 := none) (n2 := 0) (c2 := 0) br5
        have H5 := Lib.hid (And.intro b5 (And.intro kr5 (And.intro br5 (And.intro hb4.size (And.intro hE (And.intro hN hR))))))
        clear hb4 hE hN hR b5 k45 kr5 br5 HFI hW5
        by_cases hE0 : E = 0
        · have dE : (E != 0) = false := by simp [hE0]
          obtain ⟨_, hN1, hN2⟩ := f_zero HR.out.2.2.2.2.2.2.2.1 (H5.out.2.2.2.2.1.trans hE0)
          have hNm : N ≤ m := by have := HR.out.1; have := H5.out.2.2.2.2.2.1; omega
          obtain ⟨x', hct, hlx'⟩ := cutB_run HR.out.1 HR.out.2.1 HR.out.2.2.2.2.2.2.1 N hNm
          have kw5 : Below w.heap.size w W5 := HR.out.2.2.2.2.2.2.2.2.2.2.2.1.trans (H5.out.2.1.mono HR.out.2.2.2.2.2.2.2.2.2.2.2.1.size)
          have bt5 := HR.out.2.2.2.2.2.2.2.2.1.later H5.out.2.1
          have ow5 := HR.out.2.2.2.2.2.2.2.2.2.2.1.later H5.out.2.1
          obtain ⟨X0, hX0⟩ : ∃ X0, W5.drew = X0 := ⟨_, rfl⟩
          have k50 : Below W5.heap.size W5 X0 := by rw [← hX0]; exact (Below.refl _ _).drew
          have bt0 := bt5.later k50
          have ow0 := ow5.later k50
          have bR0 := H5.out.1.later k50
          have hsz0 : W2.heap.size ≤ X0.heap.size := by have := HR.out.2.2.2.2.2.2.2.2.2.2.2.2.1; have := H5.out.2.1.size; have := k50.size; omega
          obtain ⟨v8, c8, X4, r7, o4, k4, q4, q5⟩ := tappB_one ow0 (by have := HR.out.2.2.2.2.2.1; have := HB.out.2.2.2.2.2.2.1; omega) hsz0 R
          obtain ⟨X3, hX3⟩ : ∃ X3, X0.alloc (.cells R.cs 48) = X3 := ⟨_, rfl⟩
          have r3 := tbuild1_run R X0
          rw [hX3] at r3 r7
          have k03 : Below X0.heap.size X0 X3 := by rw [← hX3]; exact (Below.refl _ _).alloc (Nat.le_refl _) _
          obtain ⟨S5p, hSp⟩ : ∃ S5p : World → Prop, S5p = fun w' => Blk w' W1.heap.size 24 #[.slice v k vc] ∧ Blk w' w4.heap.size 48 R.cs := ⟨_, rfl⟩
          have ct : ∀ w', S5p w' → w'.cell? ⟨W1.heap.size, 0, none⟩ = some (.slice v k vc) := fun w' h => by rw [hSp] at h; exact h.1.cell 0
          have cR : ∀ w', S5p w' → (loadSem 48 (.pointer (some ⟨w4.heap.size, 0, none⟩))).run Tryd.prog w' = .ok (.agg R.cs) w' := fun w' h => by rw [hSp] at h; exact rt_r h.2 w' (Below.refl _ _)
          have hS0 : S5p X0 := by rw [hSp]; exact ⟨bt0, bR0⟩
          have hS3 : S5p X3 := by rw [hSp]; exact ⟨bt0.later k03, bR0.later k03⟩
          have hlt1 : W1.heap.size < W2.heap.size := by have := HB.out.2.2.2.2.2.2.2.1; omega
          have bt4 : Blk X4 W1.heap.size 24 #[.slice v k vc] := blk_at bt0 (q5 _ bt0.lt (fun e => by have := (ow0.lt _ e).1; omega))
          have bR4 : Blk X4 w4.heap.size 48 R.cs := blk_at bR0 (q5 _ bR0.lt (fun e => by have := (HR.out.2.2.2.2.2.2.2.2.2.2.1.lt _ e).2; have := H5.out.2.2.2.1; omega))
          have hS4 : S5p X4 := by rw [hSp]; exact ⟨bt4, bR4⟩
          have cz : X4.cell? ⟨W1.heap.size, 0, none⟩ = some (.slice v k vc) := bt4.cell 0
          have fz := bt4.free 0
          have br0 := H5.out.2.2.1.later k50
          have br4 : Blk X4 w.heap.size 24 #[.slice none 0 0] := blk_at br0 (q5 _ br0.lt (fun e => by have := (ow0.lt _ e).1; have := HB.out.2.2.2.2.2.2.2.1; omega))
          have HX := Lib.hid (And.intro kw5 (And.intro k50 (And.intro o4 (And.intro k4 (And.intro q4 (And.intro bt4 (And.intro br4 (And.intro hlx' (And.intro hNm (And.intro hN1 hlt1))))))))))
          clear kw5 k50 o4 k4 q4 q5 bt4 bR4 bR0 ow0 ow5 bt0 bt5 hlx' hsz0 br0 br4 hlt1 hSp k03 hX3 hN1 hN2 hNm STZ BZ
          go_wp2_with (with_reducible refine wpList_alloc_z rfl 48 rfl Rt.zero.cs 19 z_rt ?_)
          refine wp_region_linG S5p 9 [3, 4, 9] [5, 6, 7, 10] [0, 1, 2, 5, 6, 7, 3, 4, 8, 9, 10] (by kernel_rfl) (by kernel_rfl) (by rw [hX0]; exact hS0) ?_
          rw [hX0]
          (first | (refine linG_op (v := ?_) rfl rfl rfl (by rfl) (fun w9 hS9 => ?_) ?_; rotate_left; (focus (((try dsimp only at hS9);  go_simp; (try go_bits)) <;> with_reducible rfl)); (try simp only [Act.put, List.getElem_toArray, List.getElem_cons_zero, List.getElem_cons_succ, List.setIfInBounds_toArray, List.set_cons_zero, List.set_cons_succ])) | (refine linG_free (v := ?_) rfl rfl (by rfl) (fun w9 => ?_) ?_; rotate_left; (focus ((go_simp; (try go_bits)) <;> with_reducible rfl)); (try simp only [Act.put, List.getElem_toArray, List.getElem_cons_zero, List.getElem_cons_succ, List.setIfInBounds_toArray, List.set_cons_zero, List.set_cons_succ])))
          (first | (refine linG_op (v := ?_) rfl rfl rfl (by rfl) (fun w9 hS9 => ?_) ?_; rotate_left; (focus (((try dsimp only at hS9); have k9 := ct w9 hS9;  go_simp; (try go_bits)) <;> with_reducible rfl)); (try simp only [Act.put, List.getElem_toArray, List.getElem_cons_zero, List.getElem_cons_succ, List.setIfInBounds_toArray, List.set_cons_zero, List.set_cons_succ])) | (refine linG_free (v := ?_) rfl rfl (by rfl) (fun w9 => ?_) ?_; rotate_left; (focus ((go_simp; (try go_bits)) <;> with_reducible rfl)); (try simp only [Act.put, List.getElem_toArray, List.getElem_cons_zero, List.getElem_cons_succ, List.setIfInBounds_toArray, List.set_cons_zero, List.set_cons_succ])))
          (first | (refine linG_op (v := ?_) rfl rfl rfl (by rfl) (fun w9 hS9 => ?_) ?_; rotate_left; (focus (((try dsimp only at hS9); have k9 := cR w9 hS9;  go_simp; (try go_bits)) <;> with_reducible rfl)); (try simp only [Act.put, List.getElem_toArray, List.getElem_cons_zero, List.getElem_cons_succ, List.setIfInBounds_toArray, List.set_cons_zero, List.set_cons_succ])) | (refine linG_free (v := ?_) rfl rfl (by rfl) (fun w9 => ?_) ?_; rotate_left; (focus ((go_simp; (try go_bits)) <;> with_reducible rfl)); (try simp only [Act.put, List.getElem_toArray, List.getElem_cons_zero, List.getElem_cons_succ, List.setIfInBounds_toArray, List.set_cons_zero, List.set_cons_succ])))
          (first | (refine linG_op (v := ?_) rfl rfl rfl (by rfl) (fun w9 hS9 => ?_) ?_; rotate_left; (focus (((try dsimp only at hS9);  go_simp; (try go_bits)) <;> with_reducible rfl)); (try simp only [Act.put, List.getElem_toArray, List.getElem_cons_zero, List.getElem_cons_succ, List.setIfInBounds_toArray, List.set_cons_zero, List.set_cons_succ])) | (refine linG_free (v := ?_) rfl rfl (by rfl) (fun w9 => ?_) ?_; rotate_left; (focus ((go_simp; (try go_bits)) <;> with_reducible rfl)); (try simp only [Act.put, List.getElem_toArray, List.getElem_cons_zero, List.getElem_cons_succ, List.setIfInBounds_toArray, List.set_cons_zero, List.set_cons_succ])))
          (first | (refine linG_op (v := ?_) rfl rfl rfl (by rfl) (fun w9 hS9 => ?_) ?_; rotate_left; (focus (((try dsimp only at hS9);  go_simp; (try go_bits)) <;> with_reducible rfl)); (try simp only [Act.put, List.getElem_toArray, List.getElem_cons_zero, List.getElem_cons_succ, List.setIfInBounds_toArray, List.set_cons_zero, List.set_cons_succ])) | (refine linG_free (v := ?_) rfl rfl (by rfl) (fun w9 => ?_) ?_; rotate_left; (focus ((go_simp; (try go_bits)) <;> with_reducible rfl)); (try simp only [Act.put, List.getElem_toArray, List.getElem_cons_zero, List.getElem_cons_succ, List.setIfInBounds_toArray, List.set_cons_zero, List.set_cons_succ])))
          (first | (refine linG_op (v := ?_) rfl rfl rfl (by rfl) (fun w9 hS9 => ?_) ?_; rotate_left; (focus (((try dsimp only at hS9);  go_simp; (try go_bits)) <;> with_reducible rfl)); (try simp only [Act.put, List.getElem_toArray, List.getElem_cons_zero, List.getElem_cons_succ, List.setIfInBounds_toArray, List.set_cons_zero, List.set_cons_succ])) | (refine linG_free (v := ?_) rfl rfl (by rfl) (fun w9 => ?_) ?_; rotate_left; (focus ((go_simp; (try go_bits)) <;> with_reducible rfl)); (try simp only [Act.put, List.getElem_toArray, List.getElem_cons_zero, List.getElem_cons_succ, List.setIfInBounds_toArray, List.set_cons_zero, List.set_cons_succ])))
          refine linG_do (v := .slice (some ⟨X0.heap.size, 0, none⟩) 1 1) (w' := X3) rfl rfl (by rfl) (by go_simp) hS3 ?_
          (try simp only [Act.put, List.getElem_toArray, List.getElem_cons_zero, List.getElem_cons_succ, List.setIfInBounds_toArray, List.set_cons_zero, List.set_cons_succ])
          refine linG_do (v := .slice v8 (k + 1) c8) (w' := X4) rfl rfl (by rfl) (by have r := r7 22; simp [execOp, resolve, invoke, builtin, Act.eval, r, Result.andThen]) hS4 ?_
          (try simp only [Act.put, List.getElem_toArray, List.getElem_cons_zero, List.getElem_cons_succ, List.setIfInBounds_toArray, List.set_cons_zero, List.set_cons_succ])
          (first | (refine linG_op (v := ?_) rfl rfl rfl (by rfl) (fun w9 hS9 => ?_) ?_; rotate_left; (focus (((try dsimp only at hS9);  go_simp; (try go_bits)) <;> with_reducible rfl)); (try simp only [Act.put, List.getElem_toArray, List.getElem_cons_zero, List.getElem_cons_succ, List.setIfInBounds_toArray, List.set_cons_zero, List.set_cons_succ])) | (refine linG_free (v := ?_) rfl rfl (by rfl) (fun w9 => ?_) ?_; rotate_left; (focus ((go_simp; (try go_bits)) <;> with_reducible rfl)); (try simp only [Act.put, List.getElem_toArray, List.getElem_cons_zero, List.getElem_cons_succ, List.setIfInBounds_toArray, List.set_cons_zero, List.set_cons_succ])))
          refine linG_fin (w' := X4.setCell ⟨W1.heap.size, 0, none⟩ (.slice v8 (k + 1) c8)) rfl rfl (by rfl) (by go_simp) ?_
          (try simp only [Act.put, List.getElem_toArray, List.getElem_cons_zero, List.getElem_cons_succ, List.setIfInBounds_toArray, List.set_cons_zero, List.set_cons_succ])
          (first | (refine linG_op (v := ?_) rfl rfl rfl (by rfl) (fun w9 hS9 => ?_) ?_; rotate_left; (focus (((try dsimp only at hS9);  go_simp; (try go_bits)) <;> with_reducible rfl)); (try simp only [Act.put, List.getElem_toArray, List.getElem_cons_zero, List.getElem_cons_succ, List.setIfInBounds_toArray, List.set_cons_zero, List.set_cons_succ])) | (refine linG_free (v := ?_) rfl rfl (by rfl) (fun w9 => ?_) ?_; rotate_left; (focus ((go_simp; (try go_bits)) <;> with_reducible rfl)); (try simp only [Act.put, List.getElem_toArray, List.getElem_cons_zero, List.getElem_cons_succ, List.setIfInBounds_toArray, List.set_cons_zero, List.set_cons_succ])))
          refine linG_nil ?_
          have k5 : Kept [W1.heap.size] X4 (X4.setCell ⟨W1.heap.size, 0, none⟩ (.slice v8 (k + 1) c8)) := (Kept.refl [W1.heap.size] X4).setCell (p := ⟨W1.heap.size, 0, none⟩) (.inl (by simp)) _
          have b5 : Blk (X4.setCell ⟨W1.heap.size, 0, none⟩ (.slice v8 (k + 1) c8)) W1.heap.size 24 #[.slice v8 (k + 1) c8] := by
            have := HX.out.2.2.2.2.2.1.set 0 (.slice v8 (k + 1) c8)
            simpa using this
          have hs12 := HB.out.2.2.2.2.2.2.2.1
          have br5 : Blk (X4.setCell ⟨W1.heap.size, 0, none⟩ (.slice v8 (k + 1) c8)) w.heap.size 24 #[.slice none 0 0] := (k5.block _ HX.out.2.2.2.2.2.2.1.lt (by simp; omega)).trans HX.out.2.2.2.2.2.2.1
          have kw4 : Below w.heap.size w X4 := (bel_trans HX.out.1 HX.out.2.1).trans (HX.out.2.2.2.1.mono (by omega))
          have kwS : Below w.heap.size w (X4.setCell ⟨W1.heap.size, 0, none⟩ (.slice v8 (k + 1) c8)) := kw4.trans (k5.below (by simp; omega) kw4.size)
          have oS : OwnT (X4.setCell ⟨W1.heap.size, 0, none⟩ (.slice v8 (k + 1) c8)) W2.heap.size (.slice v8 (k + 1) c8) (T ++ [R]) := own_sameT HX.out.2.2.1 (fun g hg hl => k5.block g hl (by simp; omega))
          have hszS : X4.heap.size ≤ (X4.setCell ⟨W1.heap.size, 0, none⟩ (.slice v8 (k + 1) c8)).heap.size := k5.size
          generalize (X4.setCell ⟨W1.heap.size, 0, none⟩ (.slice v8 (k + 1) c8)) = X5 at *
          have wk := wrap_u8 (k := k) (by have := HB.out.2.2.2.2.2.2.1; omega)
          have hszX : W2.heap.size ≤ X5.heap.size := by have := HX.out.2.2.2.2.1; have := HX.out.2.1.size; have := H5.out.2.1.size; have := HR.out.2.2.2.2.2.2.2.2.2.2.2.2.1; omega
          have HQ := Lib.hid (And.intro b5 (And.intro br5 (And.intro kwS (And.intro oS hszX))))
          clear b5 br5 kwS oS hszX hszS kw4 k5 hs12 hS0 hS3 hS4 ct cR cz fz hX0 hct r3 r7 S5
          go_wp2_with fail
          go_roundw
          case rel =>
            refine ⟨k + 1, m - N, cx - N, l.drop N, x', v8, c8, T ++ [R], rfl, by simp, ?_, ?_, ?_, ?_, by omega, ?_, HX.out.2.2.2.2.2.2.2.1, HR.out.2.2.2.2.2.2.2.1.drop9 N, HQ.out.1, HQ.out.2.1, HQ.out.2.2.2.1, HQ.out.2.2.1, HQ.out.2.2.2.2, ?_, ?_⟩
            · simp [HR.out.1]
            · have := HR.out.2.1; omega
            · have := HR.out.2.2.1; omega
            · have := HR.out.2.2.2.1; omega
            · simp [HR.out.2.2.2.2.2.1]
            · rw [HR.out.2.2.2.2.2.2.2.2.2.2.2.2.2.1, decR_next (H5.out.2.2.2.2.1.trans hE0), H5.out.2.2.2.2.2.2, H5.out.2.2.2.2.2.1, show cnt - (k + 1) = j by have := HR.out.2.2.2.2.2.2.2.2.2.2.2.2.2.2.2; omega]
              simp
            · rw [HR.out.2.2.2.2.2.2.2.2.2.2.2.2.2.2.1, decR_next (H5.out.2.2.2.2.1.trans hE0), H5.out.2.2.2.2.2.1, show cnt - (k + 1) = j by have := HR.out.2.2.2.2.2.2.2.2.2.2.2.2.2.2.2; omega]
          case measure =>
            simp only [intOf]
            omega
        · have dE : (E != 0) = true := by simp [hE0]
          have hst : (decR (L.getD 0 0) (L.drop 1)).2 = (l, E) := by
            rw [HB.out.2.2.2.2.2.1, HR.out.2.2.2.2.2.2.2.2.2.2.2.2.2.2.1, decR_stop (by rw [H5.out.2.2.2.2.1]; exact hE0), H5.out.2.2.2.2.1]
          have HF := Lib.hid (dt_stop HB.out.2.2.2.2.1 hst hE0)
          clear hst hE0
          go_wp2_with (with_reducible refine wpList_alloc_z rfl 48 rfl Rt.zero.cs 19 z_rt ?_)
          refine bodyPost_ret (results_blk rfl _ _ w.heap.size _ _ rfl (H5.out.2.2.1.row _) Tryd.underlying24 rfl s_tab1) rfl ?_
          exact ⟨none, 0, by rw [HF.out.1, HF.out.2]; rfl, by rw [HF.out.2]; exact Tbl.none _, below_setRow (HR.out.2.2.2.2.2.2.2.2.2.2.2.1.trans (H5.out.2.1.mono HR.out.2.2.2.2.2.2.2.2.2.2.2.1.size)) (Nat.le_refl _) _⟩
      · obtain rfl : k = cnt := by omega
        rw [Nat.sub_self] at hd1 hd2
        simp only [decR, List.append_nil] at hd1 hd2
        have hne := HB.out.2.2.2.2.1
        rw [← HB.out.2.2.2.2.2.1] at hd1 hd2
        have dk : decide ((k : Int) < (k : Int)) = false := decide_eq_false (by omega)
        have CTb := tab_c hbt
        have LTb := tab_t hbt
        have STZ := st_tab (a2 := none) (n2 := 0) (c2 := 0) hbr
        have hk4 : m ≤ 4000 := hm4
        have hW9 : Wid wr := HB.out.2.2.2.2.2.2.2.2.1.later hkb
        have hown9 := hown
        obtain ⟨_, _, e9, _⟩ := hown9.lies
        have hTl : T.length = k := hTk
        obtain ⟨va, vca, e8, htbl⟩ := hown.tbl
        rw [hTk] at e8
        injection e8 with e81 e82 e83
        subst e81 e83
        by_cases hm0 : m = 0
        · have hl0 : l = [] := List.length_eq_zero_iff.1 (by omega)
          subst hl0 hm0
          have d9 : decide (0 < ((0 : Nat) : Int)) = false := rfl
          have HCK := tcheck_any v k vc T wr hW9 hTk (by have := HB.out.2.2.2.2.2.2.1; omega) htbl.at'
          by_cases hT : okT T
          · rw [eT_ok hT] at HCK
            have HF := Lib.hid (dt_ok hne hd1 hd2 hT)
            have HG := Lib.hid (And.intro hkb (And.intro hbr (And.intro htbl (And.intro hTk (And.intro hbt HB.out.2.2.2.2.2.2.2.1)))))
            have LT0 := LTb wr (Below.refl _ _)
            clear hkb hbr htbl hTk hbt hown hown9 hd1 hd2 hT e9 hW9 hm4 hk4 hLx hBx CTb LTb e82 STZ hTl hcx hmc hlm2
            go_wp2_with fail
            refine HCK.mono ?_
            rintro e w2 ⟨rfl, hb2⟩
            have LT2 := tab_t HG.out.2.2.2.2.1 w2 hb2
            have STT := st_tab (a2 := v) (n2 := k) (c2 := vc) (HG.out.2.1.later hb2)
            have HH := Lib.hid hb2
            clear hb2 HCK LT0
            go_wp2_with fail
            refine bodyPost_ret (results_blk rfl _ _ w.heap.size _ _ rfl ((HG.out.2.1.later HH.out).row _) Tryd.underlying24 rfl s_tab1) rfl ?_
            refine ⟨v, vc, by rw [HF.out.1, HF.out.2, HG.out.2.2.2.1]; rfl, by rw [HF.out.2]; exact Tbl.box (HG.out.2.1.later HH.out) (HG.out.2.2.1.later HH.out) _, below_setRow (HG.out.1.trans (HH.out.mono HG.out.1.size)) (Nat.le_refl _) _⟩
          · rw [eT_no hT] at HCK
            have HF := Lib.hid (dt_bad hne hd1 hd2 (.inr hT))
            have HG := Lib.hid (And.intro hkb (And.intro hbr (And.intro htbl (And.intro hTk (And.intro hbt HB.out.2.2.2.2.2.2.2.1)))))
            have LT0 := LTb wr (Below.refl _ _)
            clear hkb hbr htbl hTk hbt hown hown9 hd1 hd2 hT e9 hW9 hm4 hk4 hLx hBx CTb LTb e82 STZ hTl hcx hmc hlm2
            go_wp2_with fail
            refine HCK.mono ?_
            rintro e w2 ⟨rfl, hb2⟩
            have STT := st_tab (a2 := none) (n2 := 0) (c2 := 0) (HG.out.2.1.later hb2)
            have HH := Lib.hid hb2
            clear hb2 HCK LT0
            go_wp2_with fail
            refine bodyPost_ret (results_blk rfl _ _ w.heap.size _ _ rfl ((HG.out.2.1.later HH.out).row _) Tryd.underlying24 rfl s_tab1) rfl ?_
            exact ⟨none, 0, by rw [HF.out.1, HF.out.2]; rfl, by rw [HF.out.2]; exact Tbl.none _, below_setRow (HG.out.1.trans (HH.out.mono HG.out.1.size)) (Nat.le_refl _) _⟩
        · have d9 : decide (0 < (m : Int)) = true := decide_eq_true (by omega)
          have d8 : decide (0 < m) = true := decide_eq_true (by omega)
          have HF := Lib.hid (dt_bad hne hd1 hd2 (.inl (fun h => hm0 (by rw [← hlm2, h]; rfl))))
          have HG := Lib.hid (And.intro hkb hbr)
          clear hkb hbr htbl hTk hbt hown hown9 hd1 hd2 e9 hW9 hm4 hk4 hLx hBx CTb LTb e82 hTl hcx hmc hlm2 hm0
          go_wp2_with fail
          refine bodyPost_ret (results_blk rfl _ _ w.heap.size _ _ rfl (HG.out.2.row #[.slice none 0 0]) Tryd.underlying24 rfl s_tab1) rfl ?_
          exact ⟨none, 0, by rw [HF.out.1, HF.out.2]; rfl, by rw [HF.out.2]; exact Tbl.none _, below_setRow HG.out.1 (Nat.le_refl _) _⟩
end Go.Proofs.YtdbdmnahgkkjiaaDoor
