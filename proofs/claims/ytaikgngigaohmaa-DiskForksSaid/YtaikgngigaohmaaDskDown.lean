/-
  What goes down by the document, by its contract. Nothing here is a statement of the document.
-/
import Derived.Test.YtaikgngigaohmaaDskRg
namespace Go.Proofs.Ytaikgngigaohmaa
open Go.RowKit Go.Shelf
set_option linter.unusedVariables false
attribute [local go_sem ↓] rbuild_rule rapp_rule

def downTo (M : Rk) (ks : List Bool) : Nat → List Bk × List Rw
  | 0 => (M.plate, [])
  | j + 1 => match M.rows[j]? with
    | none => downTo M ks j
    | some r => if ks.getD j false = true then ((downTo M ks j).1.set r.s r.b, (downTo M ks j).2) else ((downTo M ks j).1, (downTo M ks j).2 ++ [r])
def downR (M : Rk) (ks : List Bool) : Rk := { M with plate := (downTo M ks M.rows.length).1, rows := (downTo M ks M.rows.length).2 }
theorem downTo_len (M : Rk) (ks : List Bool) : ∀ j, (downTo M ks j).1.length = M.plate.length ∧ (downTo M ks j).2.length ≤ j
  | 0 => ⟨rfl, Nat.le_refl _⟩
  | j + 1 => by
    obtain ⟨h1, h2⟩ := downTo_len M ks j
    unfold downTo
    split
    · exact ⟨h1, by omega⟩
    · split
      · exact ⟨by simpa using h1, by show (downTo M ks j).2.length ≤ j + 1; omega⟩
      · exact ⟨h1, by simp; omega⟩

/-- A block of a row that is owned is written. -/
theorem own_put {w : World} {B n c g : Nat} {P : List Bk} (h : w.ownsRow B 38 64 (.slice (some ⟨g, 0, none⟩) n c) n (pcs P)) (hP : P.length = n) {s : Nat} (hs : s < n) (b : Bk) :
    ∃ C, Blk w g 38 C ∧ s * 64 + b.cs.size ≤ C.size ∧ (w.setRow g (over C (s * 64) b.cs)).ownsRow B 38 64 (.slice (some ⟨g, 0, none⟩) n c) n (pcs (P.set s b)) := by
  rcases h.2 with ⟨h9, _⟩ | ⟨g', cap, cur, h9, hB, hg, hc, hm, hsz, ht⟩
  · cases h9
  · injection h9 with h9 _ h8
    injection h9 with h9
    injection h9 with h9 _ _
    subst h9 h8
    have hb : Blk w g 38 cur := hg
    have hbs : b.cs.size = 64 := b.size
    have hfit : s * 64 + b.cs.size ≤ cur.size := by rw [hsz, hbs]; have : (s + 1) * 64 ≤ c * 64 := Nat.mul_le_mul_right _ (by omega); omega
    refine ⟨cur, hb, hfit, by rw [pcs_length, List.length_set, hP], .inr ⟨g, c, over cur (s * 64) b.cs, rfl, hB, hb.row _, hc, hm, by rw [size_over hfit]; exact hsz, ?_⟩⟩
    rw [← pcs_set b (by omega), ← ht]
    apply List.ext_getElem?
    intro i
    have hl : s * 64 + b.cs.toList.length ≤ (cur.toList.take (n * 64)).length := by
      rw [List.length_take, Array.length_toList, Array.length_toList, hsz, hbs]
      have : (s + 1) * 64 ≤ n * 64 := Nat.mul_le_mul_right _ (by omega)
      have : n * 64 ≤ c * 64 := Nat.mul_le_mul_right _ hc
      omega
    rw [splice_get hl, List.getElem?_take, Array.getElem?_toList, over_get hfit]
    simp only [Array.length_toList, Array.getElem?_toList, List.getElem?_take]
    have hn64 : s * 64 + b.cs.size ≤ n * 64 := by
      have : (s + 1) * 64 ≤ n * 64 := Nat.mul_le_mul_right _ (by omega)
      omega
    by_cases h1 : i < s * 64
    · rw [if_pos h1, if_pos h1]
    · rw [if_neg h1, if_neg h1]
      by_cases h2 : i < s * 64 + b.cs.size
      · rw [if_pos h2, if_pos h2, if_pos (by omega)]
      · rw [if_neg h2, if_neg h2]

theorem own_pslice {w : World} {B n : Nat} {v : Value} {xs : List Value} (h : w.ownsRow B 38 64 v n xs) (hn : 0 < n) : ∃ g c, v = .slice (some ⟨g, 0, none⟩) n c ∧ B ≤ g := by
  obtain ⟨g, c, C, rfl, hB, _⟩ := own_cells h hn
  exact ⟨g, c, rfl, hB⟩
theorem own_kept0 {S : List Nat} {w w' : World} {b : Nat} {e : TypeId} {size : Nat} {v : Value} {n : Nat} {xs : List Value} (h : w.ownsRow b e size v n xs) (hk : Kept S w w') (hS : ∀ k, v.ownBlock = some k → k ∉ S) : w'.ownsRow b e size v n xs := by
  rcases h.2 with h9 | ⟨g, cap, cur, h1, h2, h3, h4⟩
  · exact ⟨h.1, .inl h9⟩
  · subst h1
    exact ⟨h.1, .inr ⟨g, cap, cur, rfl, h2, hk.blk h3 (hS g rfl), h4⟩⟩

/-- A plate is where it was, or in new memory. -/
def NewP (w : World) (pv pv' : Value) : Prop := ∀ k, pv'.ownBlock = some k → pv.ownBlock = some k ∨ w.heap.size ≤ k
theorem NewP.refl (w : World) (pv : Value) : NewP w pv pv := fun k h => .inl h
theorem NewP.mono {w w2 : World} {pv pv' : Value} (h : NewP w2 pv pv') (hs : w.heap.size ≤ w2.heap.size) : NewP w pv pv' := fun k hk => (h k hk).imp id (fun h9 => Nat.le_trans hs h9)

set_option maxRecDepth 100000 in
set_option maxHeartbeats 4000000 in
theorem down_ref {w : World} {pv rv : Value} {M : Rk} (h : Ref w pv rv M) (ks : List Bool) (ka : Option Addr) (kc : Nat) (hks : Bools w ka ks) (hkl : ks.length ≤ 9223372036854775807) (hp0 : 0 < M.plate.length) (hp8 : M.plate.length ≤ 2048) (hr8 : M.rows.length ≤ 8) (hrs : ∀ r ∈ M.rows, r.s < M.plate.length) :
    Calls Try.prog 49 #[.agg (M.vals pv rv), .slice ka ks.length kc] w fun e w' => ∃ pv' rv', e = .returned (.agg ((downR M ks).vals pv' rv')) ∧ Ref w' pv' rv' (downR M ks) ∧ Below w.heap.size w w' ∧ NewP w pv pv' ∧ ∀ k, rv'.ownBlock = some k → w.heap.size ≤ k := by
  obtain ⟨g, c, C, rfl, _, hbp, hps, hpc, hpm, hC⟩ := own_cells h.p hp0
  obtain ⟨rb, rc, rfl, hrow⟩ := own_rows h.r
  obtain ⟨i0, hi, hz0, hz1, hz2⟩ := info_parts i_blk
  have hlen := downTo_len M ks
  have hd0 : downTo M ks 0 = (M.plate, []) := rfl
  have hds : ∀ j r, M.rows[j]? = some r → downTo M ks (j + 1) = if ks.getD j false = true then ((downTo M ks j).1.set r.s r.b, (downTo M ks j).2) else ((downTo M ks j).1, (downTo M ks j).2 ++ [r]) := fun j r hj => by
    show (match M.rows[j]? with | none => _ | some r => _) = _
    rw [hj]
  unfold downR
  generalize downTo M ks = dt at *
  obtain ⟨pl, rs, fu, fl, de, op⟩ := M
  simp only [Rk.vals] at *
  obtain ⟨n, hn⟩ : ∃ n, pl.length = n := ⟨_, rfl⟩
  have hlen2 : ∀ j, (dt j).1.length = n ∧ (dt j).2.length ≤ j := fun j => by rw [← hn]; exact hlen j
  rw [hn] at hC hps hpc hp0 hp8 hrs ⊢
  obtain ⟨W1, hW1⟩ : ∃ W1, (w.alloc (.cells #[.slice (some ⟨g, 0, none⟩) n c, .slice rb rs.length rc, .int .i64 fu, .int .i64 fl, .bool de, .int .i64 op] 32)).alloc (.cells #[.slice none 0 0, .slice none 0 0, .int .i64 0, .int .i64 0, .bool false, .int .i64 0] 32) = W1 := ⟨_, rfl⟩
  have hb1 : Below w.heap.size w W1 := by rw [← hW1]; exact ((Below.refl _ _).alloc (Nat.le_refl _) _).alloc (by simp) _
  have bd : Blk W1 w.heap.size 32 #[.slice (some ⟨g, 0, none⟩) n c, .slice rb rs.length rc, .int .i64 fu, .int .i64 fl, .bool de, .int .i64 op] := by rw [← hW1]; exact (Blk.new w _ _).alloc _
  have bz : Blk W1 (w.heap.size + 1) 32 #[.slice none 0 0, .slice none 0 0, .int .i64 0, .int .i64 0, .bool false, .int .i64 0] := by rw [← hW1]; exact Blk.new2 _ _ _ _
  obtain ⟨W2, hW2⟩ : ∃ W2, W1.alloc (.cells #[] 38) = W2 := ⟨_, rfl⟩
  have hb12 : Below W1.heap.size W1 W2 := by rw [← hW2]; exact (Below.refl _ _).alloc (Nat.le_refl _) _
  have hb2 : Below w.heap.size w W2 := hb1.trans (hb12.mono hb1.size)
  have hmade : W2.ownsRow w.heap.size 38 64 (.slice (some ⟨W1.heap.size, 0, none⟩) 0 0) 0 [] := by rw [← hW2]; exact World.ownsRow_made W1 #[] 0 hb1.size (Nat.zero_le _) rfl
  have bp2 : Blk W2 g 38 C := hbp.kept (Kept.of_below [] hb2) (by simp)
  have bd2 := bd.kept (Kept.of_below [] hb12) (by simp)
  have bz2 := bz.kept (Kept.of_below [] hb12) (by simp)
  have c0 := bd2.cell 0
  have c1 := bd2.cell 1
  simp only [List.getElem?_toArray, List.getElem?_cons_zero, List.getElem?_cons_succ] at c0 c1
  have HC := Lib.hid hC
  have HI := Lib.hid (And.intro hi (And.intro hz0 (And.intro hz1 hz2)))
  have H2 := Lib.hid (And.intro hb2 (And.intro bd2 (And.intro bz2 (And.intro hmade bp2))))
  have HD := Lib.hid (And.intro hlen2 (And.intro hd0 hds))
  have HR := Lib.hid hrow
  have HK := Lib.hid hks
  have HN := Lib.hid (And.intro hn (And.intro hp0 (And.intro hp8 hrs)))
  clear hlen2 hC hi hz0 hz1 hz2 hb1 hb12 hb2 bd bz bd2 bz2 hmade bp2 hlen hd0 hds hrow hks hn hp0 hp8 hrs hbp hps h
  go_enter Try.func49, Try.ntmps49
  go_wp2_with (at_builtin; refine wpList_append_own _ rfl _ _ 29 rfl w.heap.size 38 i0 (.agg Bk.zero.cs) 64 64 Try.underlying29 HI.out.1 HI.out.2.1 HI.out.2.2.1 HI.out.2.2.2 (Bk.size _) (by decide) _ _ _ rfl H2.out.2.2.2.1 ⟨g, 0, none⟩ n c (pcs pl) rfl ?qc1 ?qc2 ?qc3 ?qc4 ?qc5 ?qc6 ?_)
  case qc1 => rw [pcs_length, HN.out.1]
  case qc2 =>
    intro j u hj
    have hjl : j < (pcs pl).length := (List.getElem?_eq_some_iff.1 hj).1
    rw [pcs_length, HN.out.1] at hjl
    have h9 := H2.out.2.2.2.2.cell j
    rw [HC.out j hjl, hj] at h9
    first | exact h9 | (rw [Addr.add_lit, Nat.zero_add]; exact h9)
  case qc3 =>
    intro u hu
    obtain ⟨b, _, hub⟩ := List.mem_flatMap.1 hu
    exact Array.all_eq_true_iff_forall_mem.1 b.one u (by simpa using hub)
  case qc4 => have := HN.out.2.2.1; unfold maxLen; omega
  case qc5 => have := HN.out.2.2.1; omega
  case qc6 => exact H2.out.1.size
  intro v' W3 hown hgrow hnil
  obtain ⟨g', c', rfl, hBg⟩ := own_pslice hown HN.out.2.1
  have hW1s : w.heap.size + 1 < W1.heap.size := by rw [← hW1]; simp
  have hk3 : Kept [W1.heap.size] W2 W3 := (Kept.refl _ _).grown hgrow (by intro k hk; left; simp [Value.ownBlock] at hk; simp [hk])
  have bd3 := H2.out.2.1.kept hk3 (by simp; omega)
  have bz3 := H2.out.2.2.1.kept hk3 (by simp; omega)
  have hb3 : Below w.heap.size w W3 := H2.out.1.trans (hk3.below (by simp; omega) H2.out.1.size)
  have c0 := bd3.cell 0
  have c1 := bd3.cell 1
  simp only [List.getElem?_toArray, List.getElem?_cons_zero, List.getElem?_cons_succ] at c0 c1
  have H3 := Lib.hid (And.intro hb3 (And.intro bd3 (And.intro bz3 (And.intro hown hBg))))
  clear hown hgrow hnil hk3 bd3 bz3 hb3 hW1 hW2 hW1s H2 hBg
  go_wp2_with fail
  go_loopw [16, 6] (fun x q wi => ∃ j : Nat, j ≤ rs.length ∧ x = .int .i64 j ∧ (∃ qa qc, q = .slice qa (dt j).2.length qc ∧ wi.ownsRow w.heap.size 74 65 (.slice qa (dt j).2.length qc) (dt j).2.length (rcs (dt j).2)) ∧ wi.ownsRow w.heap.size 38 64 (.slice (some ⟨g', 0, none⟩) n c') n (pcs (dt j).1) ∧ Blk wi w.heap.size 32 #[.slice (some ⟨g, 0, none⟩) n c, .slice rb rs.length rc, .int .i64 fu, .int .i64 fl, .bool de, .int .i64 op] ∧ Blk wi (w.heap.size + 1) 32 #[.slice none 0 0, .slice none 0 0, .int .i64 0, .int .i64 0, .bool false, .int .i64 0] ∧ Below w.heap.size w wi) (fun x _ _ => rs.length - (intOf x).toNat)
  case atStart => exact ⟨0, Nat.zero_le _, rfl, ⟨none, 0, by rw [HD.out.2.1]; rfl, by rw [HD.out.2.1]; exact World.ownsRow_nil _ _ _ _⟩, by rw [HD.out.2.1]; exact H3.out.2.2.2.1, H3.out.2.1, H3.out.2.2.1, H3.out.1⟩
  case round =>
    obtain ⟨j, hj, rfl, ⟨qa, qc, rfl, hq⟩, hpo, hbd, hbz, hbw⟩ := hrel
    clear c0 c1
    by_cases hlt : j < rs.length
    · obtain ⟨r, hr⟩ : ∃ r, rs[j]? = some r := ⟨_, List.getElem?_eq_getElem hlt⟩
      obtain ⟨g2, C2, rfl, hb2, hs2, hc2⟩ := HR.out j r hr
      have hstep := HD.out.2.2 j r hr
      have hb2' := hb2.kept (Kept.of_below [] hbw) (by simp)
      have hld2 : ∀ q, q < r.cs.size → C2[j * 65 + q]? = r.cs[q]? := fun q hq => hc2 q (by rw [Rw.size] at hq; exact hq)
      have HL2 := Lib.hid hld2
      have hji : (j : Int) < (rs.length : Int) := by omega
      obtain ⟨W4, hW4⟩ : ∃ W4, wr.alloc (.cells r.cs 74) = W4 := ⟨_, rfl⟩
      have hb4 : Below wr.heap.size wr W4 := by rw [← hW4]; exact (Below.refl _ _).alloc (Nat.le_refl _) _
      have b8 : Blk W4 wr.heap.size 74 r.cs := by rw [← hW4]; exact Blk.new _ _ _
      have hzr : Rw.zero.cs.size = r.cs.size := by rw [Rw.size, Rw.size]
      have HZR := Lib.hid hzr
      have e0 : W4.cell? ⟨wr.heap.size, 0, none⟩ = some (.int .i64 (r.s : Int)) := (b8.cell 0).trans (Rw.cell0 r)
      have hld3 : ∀ q, q < r.b.cs.size → r.cs[1 + q]? = r.b.cs[q]? := fun q _ => Rw.cell1 r q
      have HL3 := Lib.hid hld3
      have h00 : ∀ q, q < r.cs.size → r.cs[0 + q]? = r.cs[q]? := fun q _ => by rw [Nat.zero_add]
      have H00 := Lib.hid h00
      have hbb4 : Below w.heap.size w W4 := hbw.trans (hb4.mono hbw.size)
      have hq4 := own_below hq hb4
      have hp4 := own_below hpo hb4
      have hbd4 := hbd.kept (Kept.of_below [] hb4) (by simp)
      have hbz4 := hbz.kept (Kept.of_below [] hb4) (by simp)
      have hrs : r.s < n := HN.out.2.2.2 r (List.mem_of_getElem? hr)
      have hdl := HD.out.1 j
      have hBw : w.heap.size ≤ wr.heap.size := hbw.size
      by_cases hkj : ks.getD j false = true
      · have hkl2 : j < ks.length := by
          refine Nat.lt_of_not_le fun h9 => ?_
          rw [List.getD_eq_getElem?_getD, List.getElem?_eq_none h9] at hkj
          cases hkj
        obtain ⟨b3, o3, rfl, hb3l, hk3⟩ : ∃ b3 o3, ka = some ⟨b3, o3, none⟩ ∧ b3 < w.heap.size ∧ w.cell? ⟨b3, o3 + j, none⟩ = some (.bool true) := by
          rcases HK.out with h9 | ⟨b3, o3, h1, h2, h3⟩
          · rw [h9] at hkl2; simp at hkl2
          · exact ⟨b3, o3, h1, h2, by rw [h3 j hkl2, hkj]⟩
        have hkc : W4.cell? ⟨b3, o3 + j, none⟩ = some (.bool true) := (hbb4.cell (p := ⟨b3, o3 + j, none⟩) hb3l).trans hk3
        have hkd : decide ((j : Int) < (ks.length : Int)) = true := by simp; omega
        have hki : (j : Int) < (ks.length : Int) := by omega
        have hsi : (r.s : Int) < (n : Int) := by omega
        rw [if_pos hkj] at hstep
        obtain ⟨C4, hC4, hfit4, hput4⟩ := own_put hp4 hdl.1 hrs r.b
        have hgg : w.heap.size ≤ g' := H3.out.2.2.2.2
        have hne0 : w.heap.size ∉ [g'] := by
          intro h9
          have h8 : w.heap.size = g' := by simpa using h9
          exact hbd4.ne hC4 (by decide) h8
        have hne1 : w.heap.size + 1 ∉ [g'] := by
          intro h9
          have h8 : w.heap.size + 1 = g' := by simpa using h9
          exact hbz4.ne hC4 (by decide) h8
        have hkk : Kept [g'] W4 (W4.setRow g' (over C4 (r.s * 64) r.b.cs)) := (Kept.refl _ _).setRow (.inl (by simp)) _
        have hqo : ∀ k, (Value.slice qa (dt j).2.length qc).ownBlock = some k → k ∉ [g'] := by
          intro k hk h9
          have h8 : k = g' := by simpa using h9
          rcases hq4.2 with ⟨h7, _⟩ | ⟨g5, cc5, cur5, h7, _, h6, _⟩
          · rw [h7] at hk; simp [Value.ownBlock] at hk
          · rw [h7] at hk
            simp only [Value.ownBlock, Option.some.injEq] at hk
            subst hk h8
            exact (show Blk W4 g5 74 cur5 from h6).ne hC4 (by decide) rfl
        have hq5 := own_kept0 hq4 hkk hqo
        have e2 : (dt (j + 1)).2 = (dt j).2 := by rw [hstep]
        have e1 : (dt (j + 1)).1 = (dt j).1.set r.s r.b := by rw [hstep]
        rw [← e1] at hput4
        rw [← e2] at hq5
        have HX := Lib.hid (And.intro hq5 (And.intro hput4 (And.intro (hbd4.kept hkk hne0) (And.intro (hbz4.kept hkk hne1) (below_setRow hbb4 hgg (over C4 (r.s * 64) r.b.cs))))))
        have HF := Lib.hid hfit4
        have HE2 := Lib.hid e2
        clear hq hpo hbd hbz hbw hb2 hs2 hc2 hstep hld2 hb4 hzr hld3 h00 hbb4 hq4 hp4 hbd4 hbz4 hrs hdl hkj hkl2 hk3 hput4 hfit4 hgg hne0 hne1 hkk hqo hq5 e2 e1 hr hBw hb3l
        generalize hsv : r.s = sv at *
        clear hsv
        go_wp2_with (first | (with_reducible refine wpList_load_blk rfl 74 (.tmp 19) rfl g2 (j * 65) rfl r.cs C2 _ hb2' HL2.out _ Try.underlying74 rfl (s_rrow r) ?_) | (with_reducible refine wpList_alloc_z rfl 74 rfl Rw.zero.cs 65 z_rrow ?_) | (with_reducible refine wpList_store_new rfl 74 (.tmp 8) (.tmp 20) rfl r.cs Rw.zero.cs _ rfl rfl HZR.out (s_rrow r) r.one ?_; rw [hW4]) | (with_reducible refine wpList_load_blk rfl 38 (.tmp 34) rfl wr.heap.size 1 rfl r.b.cs r.cs _ b8 HL3.out _ Try.underlying38 rfl (s_blk r.b) ?_) | (with_reducible refine wpList_store_blk rfl 38 (.tmp 36) (.tmp 35) rfl g' (sv * 64) r.b.cs C4 _ rfl rfl hC4 HF.out (s_blk r.b) r.b.one ?_))
        go_roundw
        case rel => exact ⟨j + 1, by omega, by go_num, ⟨qa, qc, by rw [HE2.out], HX.out.1⟩, HX.out.2.1, HX.out.2.2.1, HX.out.2.2.2.1, HX.out.2.2.2.2⟩
        case measure => simp [intOf]; omega
      · rw [if_neg hkj] at hstep
        obtain ⟨W5, hW5⟩ : ∃ W5, W4.alloc (.cells r.cs 74) = W5 := ⟨_, rfl⟩
        have hb45 : Below W4.heap.size W4 W5 := by rw [← hW5]; exact (Below.refl _ _).alloc (Nat.le_refl _) _
        have hbb5 : Below w.heap.size w W5 := hbb4.trans (hb45.mono hbb4.size)
        have hbq : Blk W5 W4.heap.size 74 r.cs := by rw [← hW5]; exact Blk.new _ _ _
        have hq5 := own_below hq4 hb45
        have hp5 := own_below hp4 hb45
        have hbd5 := hbd4.kept (Kept.of_below [] hb45) (by simp)
        have hbz5 := hbz4.kept (Kept.of_below [] hb45) (by simp)
        obtain ⟨g9, cap9, W6, hrun, hq6, hgrow, hg9⟩ := rappSem_run 30 hq5 (by omega) hbq hbb5.size
        have BS : (rbuildSem 1 #[(0, .agg r.cs)]).run Try.prog W4 = .ok (.slice (some ⟨W4.heap.size, 0, none⟩) 1 1) W5 := by rw [← hW5]; exact rbuildSem_run r W4
        have hown : ∀ k, (Value.slice qa (dt j).2.length qc).ownBlock = some k → w.heap.size ≤ k ∧ ∃ cur, Blk W5 k 74 cur := by
          intro k hk
          rcases hq5.2 with ⟨h7, _⟩ | ⟨g5, cc5, cur5, h7, h8, h6, _⟩
          · rw [h7] at hk; simp [Value.ownBlock] at hk
          · rw [h7] at hk
            simp only [Value.ownBlock, Option.some.injEq] at hk
            subst hk
            exact ⟨h8, cur5, h6⟩
        generalize hob : (Value.slice qa (dt j).2.length qc).ownBlock = ob at hgrow hown
        have hk56 : Kept ob.toList W5 W6 := (Kept.refl _ _).grown hgrow (fun k hk => .inl (by simp [hk]))
        have hbb6 : Below w.heap.size w W6 := hbb5.trans (hk56.below (fun k hk => (hown k (by simpa using hk)).1) hbb5.size)
        have nd : w.heap.size ∉ ob.toList := fun h9 => by
          obtain ⟨_, cur, h8⟩ := hown _ (by simpa using h9)
          exact hbd5.ne h8 (by decide) rfl
        have nz : w.heap.size + 1 ∉ ob.toList := fun h9 => by
          obtain ⟨_, cur, h8⟩ := hown _ (by simpa using h9)
          exact hbz5.ne h8 (by decide) rfl
        have np : ∀ k, (Value.slice (some ⟨g', 0, none⟩) n c').ownBlock = some k → k ∉ ob.toList := by
          intro k hk h9
          obtain ⟨_, cur, h8⟩ := hown _ (by simpa using h9)
          obtain ⟨C5, hC5, _⟩ := own_put hp5 hdl.1 hrs r.b
          simp only [Value.ownBlock, Option.some.injEq] at hk
          subst hk
          exact hC5.ne h8 (by decide) rfl
        have hp6 := own_kept0 hp5 hk56 np
        have e2 : (dt (j + 1)).2 = (dt j).2 ++ [r] := by rw [hstep]
        have e3 : (dt (j + 1)).2.length = (dt j).2.length + 1 := by rw [e2]; simp
        have e1 : (dt (j + 1)).1 = (dt j).1 := by rw [hstep]
        rw [← e1] at hp6
        rw [← e2, ← e3] at hq6
        have HX := Lib.hid (And.intro hq6 (And.intro hp6 (And.intro (hbd5.kept hk56 nd) (And.intro (hbz5.kept hk56 nz) hbb6))))
        have HE2 := Lib.hid e3
        have hsplit : (∃ b3 o3, ka = some ⟨b3, o3, none⟩ ∧ W4.cell? ⟨b3, o3 + j, none⟩ = some (.bool false) ∧ decide ((j : Int) < (ks.length : Int)) = true ∧ (j : Int) < (ks.length : Int)) ∨ (decide ((j : Int) < (ks.length : Int)) = false ∧ (ks.length : Int) ≤ (j : Int) ∧ decide (j < ks.length) = false) := by
          by_cases hkl2 : j < ks.length
          · left
            rcases HK.out with h9 | ⟨b3, o3, h1, h2, h3⟩
            · rw [h9] at hkl2; simp at hkl2
            · refine ⟨b3, o3, h1, (hbb4.cell (p := ⟨b3, o3 + j, none⟩) h2).trans ?_, by simp; omega, by omega⟩
              rw [h3 j hkl2]
              cases hgd : ks.getD j false
              · rfl
              · exact absurd hgd hkj
          · right; exact ⟨by simp; omega, by omega, by simp; omega⟩
        clear hq hpo hbd hbz hbw hb2 hs2 hc2 hstep hld2 hb4 hzr hld3 h00 hbb4 hq4 hp4 hbd4 hbz4 hrs hdl hkj hr hBw hb45 hbb5 hbq hq5 hp5 hbd5 hbz5 hq6 hgrow hown hk56 hbb6 nd nz np hp6 e2 e3 e1 hob hg9
        rcases hsplit with ⟨b3, o3, rfl, hkc, hkd, hki⟩ | ⟨hkd, hki, hkd2⟩
        · go_wp2_with (first | (with_reducible refine wpList_load_blk rfl 74 (.tmp 19) rfl g2 (j * 65) rfl r.cs C2 _ hb2' HL2.out _ Try.underlying74 rfl (s_rrow r) ?_) | (with_reducible refine wpList_alloc_z rfl 74 rfl Rw.zero.cs 65 z_rrow ?_) | (with_reducible refine wpList_store_new rfl 74 (.tmp 8) (.tmp 20) rfl r.cs Rw.zero.cs _ rfl rfl HZR.out (s_rrow r) r.one ?_; rw [hW4]) | (with_reducible refine wpList_load_blk rfl 74 (.tmp 8) rfl wr.heap.size 0 rfl r.cs r.cs _ b8 H00.out _ Try.underlying74 rfl (s_rrow r) ?_))
          go_roundw
          case rel => exact ⟨j + 1, by omega, by go_num, ⟨some ⟨g9, 0, none⟩, cap9, by rw [HE2.out], HX.out.1⟩, HX.out.2.1, HX.out.2.2.1, HX.out.2.2.2.1, HX.out.2.2.2.2⟩
          case measure => simp [intOf]; omega
        · go_wp2_with (first | (with_reducible refine wpList_load_blk rfl 74 (.tmp 19) rfl g2 (j * 65) rfl r.cs C2 _ hb2' HL2.out _ Try.underlying74 rfl (s_rrow r) ?_) | (with_reducible refine wpList_alloc_z rfl 74 rfl Rw.zero.cs 65 z_rrow ?_) | (with_reducible refine wpList_store_new rfl 74 (.tmp 8) (.tmp 20) rfl r.cs Rw.zero.cs _ rfl rfl HZR.out (s_rrow r) r.one ?_; rw [hW4]) | (with_reducible refine wpList_load_blk rfl 74 (.tmp 8) rfl wr.heap.size 0 rfl r.cs r.cs _ b8 H00.out _ Try.underlying74 rfl (s_rrow r) ?_))
          go_roundw
          case rel => exact ⟨j + 1, by omega, by go_num, ⟨some ⟨g9, 0, none⟩, cap9, by rw [HE2.out], HX.out.1⟩, HX.out.2.1, HX.out.2.2.1, HX.out.2.2.2.1, HX.out.2.2.2.2⟩
          case measure => simp [intOf]; omega
    · obtain rfl : j = rs.length := by omega
      have d0 := hbd.cell 0
      have d1 := hbd.cell 1
      have f0 := hbd.free 0
      have f1 := hbd.free 1
      simp only [List.getElem?_toArray, List.getElem?_cons_zero, List.getElem?_cons_succ] at d0 d1
      have hfin : Ref wr (.slice (some ⟨g', 0, none⟩) n c') (.slice qa (dt rs.length).2.length qc) ⟨(dt rs.length).1, (dt rs.length).2, fu, fl, de, op⟩ := ⟨by rw [(HD.out.1 rs.length).1]; exact own_zero hpo, own_zero hq⟩
      have hqn : ∀ k, (Value.slice qa (dt rs.length).2.length qc).ownBlock = some k → w.heap.size ≤ k := fun k hk => (hq.lt k hk).1
      generalize (dt rs.length).2.length = L at *
      have HQ := Lib.hid hqn
      clear hqn
      obtain ⟨W5, hW5⟩ : ∃ W5, (wr.setCell ⟨w.heap.size, 0, none⟩ (.slice (some ⟨g', 0, none⟩) n c')).setCell ⟨w.heap.size, 1, none⟩ (.slice qa L qc) = W5 := ⟨_, rfl⟩
      have hd5 : Blk W5 w.heap.size 32 #[.slice (some ⟨g', 0, none⟩) n c', .slice qa L qc, .int .i64 fu, .int .i64 fl, .bool de, .int .i64 op] := by rw [← hW5]; exact (hbd.set 0 _).set 1 _
      have hz5 : Blk W5 (w.heap.size + 1) 32 #[.slice none 0 0, .slice none 0 0, .int .i64 0, .int .i64 0, .bool false, .int .i64 0] := by rw [← hW5]; exact (hbz.far (by simp) _).far (by simp) _
      have hk5 : Kept [w.heap.size] wr W5 := by rw [← hW5]; exact ((Kept.refl _ _).setCell (p := ⟨w.heap.size, 0, none⟩) (.inl (by simp)) _).setCell (p := ⟨w.heap.size, 1, none⟩) (.inl (by simp)) _
      have hbw5 : Below w.heap.size w W5 := hbw.trans (hk5.below (by simp) hbw.size)
      have hnp : ∀ k, (Value.slice (some ⟨g', 0, none⟩) n c').ownBlock = some k → k ∉ [w.heap.size, w.heap.size + 1] := by
        intro k hk h9
        simp only [Value.ownBlock, Option.some.injEq] at hk
        subst hk
        obtain ⟨C5, hC5⟩ : ∃ C5, Blk wr g' 38 C5 := by
          rcases hpo.2 with ⟨h7, _⟩ | ⟨g5, cc5, cur5, h7, _, h6, _⟩
          · cases h7
          · injection h7 with h7; injection h7 with h7; injection h7 with h7; subst h7; exact ⟨_, h6⟩
        simp only [List.mem_cons, List.not_mem_nil, or_false] at h9
        rcases h9 with h9 | h9
        · exact hbd.ne hC5 (by decide) h9.symm
        · exact hbz.ne hC5 (by decide) h9.symm
      have hnq : ∀ k, (Value.slice qa L qc).ownBlock = some k → k ∉ [w.heap.size, w.heap.size + 1] := by
        intro k hk h9
        obtain ⟨C5, hC5⟩ : ∃ C5, Blk wr k 74 C5 := by
          rcases hq.2 with ⟨h7, _⟩ | ⟨g5, cc5, cur5, h7, _, h6, _⟩
          · rw [h7] at hk; simp [Value.ownBlock] at hk
          · rw [h7] at hk
            simp only [Value.ownBlock, Option.some.injEq] at hk
            subst hk
            exact ⟨_, h6⟩
        simp only [List.mem_cons, List.not_mem_nil, or_false] at h9
        rcases h9 with h9 | h9
        · exact hbd.ne hC5 (by decide) h9.symm
        · exact hbz.ne hC5 (by decide) h9.symm
      have hk6 : Kept [w.heap.size, w.heap.size + 1] wr (W5.setRow (w.heap.size + 1) #[.slice (some ⟨g', 0, none⟩) n c', .slice qa L qc, .int .i64 fu, .int .i64 fl, .bool de, .int .i64 op]) := (hk5.more (by simp)).setRow (.inl (by simp)) _
      have hres : Ref (W5.setRow (w.heap.size + 1) #[.slice (some ⟨g', 0, none⟩) n c', .slice qa L qc, .int .i64 fu, .int .i64 fl, .bool de, .int .i64 op]) (.slice (some ⟨g', 0, none⟩) n c') (.slice qa L qc) ⟨(dt rs.length).1, (dt rs.length).2, fu, fl, de, op⟩ := ⟨own_kept0 hfin.p hk6 hnp, own_kept0 hfin.r hk6 hnq⟩
      have HE := Lib.hid (And.intro (hz5.row #[.slice (some ⟨g', 0, none⟩) n c', .slice qa L qc, .int .i64 fu, .int .i64 fl, .bool de, .int .i64 op]) (And.intro hres (below_setRow hbw5 (Nat.le_succ _) #[.slice (some ⟨g', 0, none⟩) n c', .slice qa L qc, .int .i64 fu, .int .i64 fl, .bool de, .int .i64 op])))
      have hov : over #[.slice none 0 0, .slice none 0 0, .int .i64 0, .int .i64 0, .bool false, .int .i64 0] 0 #[.slice (some ⟨g', 0, none⟩) n c', .slice qa L qc, .int .i64 fu, .int .i64 fl, .bool de, .int .i64 op] = #[.slice (some ⟨g', 0, none⟩) n c', .slice qa L qc, .int .i64 fu, .int .i64 fl, .bool de, .int .i64 op] := over_all rfl
      have HOV := Lib.hid hov
      clear hfin hk5 hbw hbw5 hnp hnq hk6 hres hov hq hpo hbz hbd
      go_wp2_with (first | (with_reducible refine wpList_load_blk rfl 32 (.tmp 2) rfl w.heap.size 0 rfl #[.slice (some ⟨g', 0, none⟩) n c', .slice qa L qc, .int .i64 fu, .int .i64 fl, .bool de, .int .i64 op] _ _ hd5 (fun q _ => by rw [Nat.zero_add]) _ Try.underlying32 rfl (by kernel_rfl) ?_) | (with_reducible refine wpList_store_blk rfl 32 (.tmp 4) (.tmp 46) rfl (w.heap.size + 1) 0 #[.slice (some ⟨g', 0, none⟩) n c', .slice qa L qc, .int .i64 fu, .int .i64 fl, .bool de, .int .i64 op] _ _ rfl rfl hz5 (by simp) (by kernel_rfl) (by kernel_rfl) ?_; rw [HOV.out]))
      refine bodyPost_ret (results_cell_row rfl _ _ (w.heap.size + 1) 32 _ (0, 0) _ rfl HE.out.1 Try.underlying32 rfl (by kernel_rfl)) rfl ?_
      exact ⟨_, _, rfl, HE.out.2.1, HE.out.2.2, fun k hk => by
        simp only [Value.ownBlock, Option.some.injEq] at hk
        subst hk
        exact .inr H3.out.2.2.2.2, HQ.out⟩
end Go.Proofs.Ytaikgngigaohmaa
