/-
  The document's write where the act is done. Nothing here is a statement of the document.
-/
import Derived.Test.YtaikgngigaohmaaDskRw
import Derived.Test.YtaikgngigaohmaaDskRg
import Derived.Laws.AppendOwnNone
namespace Go.Proofs.Ytaikgngigaohmaa
open Go.RowKit Go.Shelf
set_option linter.unusedVariables false
attribute [local go_sem ↓] rbuild_rule rapp_rule

/-- A row's block is another one. -/
theorem own_rput {w : World} {B n c g : Nat} {R : List Rw} (h : w.ownsRow B 74 65 (.slice (some ⟨g, 0, none⟩) n c) n (rcs R)) (hR : R.length = n) {j : Nat} {r : Rw} (hj : R[j]? = some r) (b : Bk) :
    ∃ C, Blk w g 74 C ∧ j * 65 + 1 + b.cs.size ≤ C.size ∧ (w.setRow g (over C (j * 65 + 1) b.cs)).ownsRow B 74 65 (.slice (some ⟨g, 0, none⟩) n c) n (rcs (R.set j ⟨r.s, b⟩)) := by
  rcases h.2 with ⟨h9, _⟩ | ⟨g', cap, cur, h9, hB, hg, hc, hm, hsz, ht⟩
  · cases h9
  · injection h9 with h9 _ h8
    injection h9 with h9
    injection h9 with h9 _ _
    subst h9 h8
    have hjl : j < R.length := (List.getElem?_eq_some_iff.1 hj).1
    have hb : Blk w g 74 cur := hg
    have hbs : b.cs.size = 64 := b.size
    have hfit : j * 65 + 1 + b.cs.size ≤ cur.size := by rw [hsz, hbs]; have : (j + 1) * 65 ≤ c * 65 := Nat.mul_le_mul_right _ (by omega); omega
    refine ⟨cur, hb, hfit, by rw [rcs_length, List.length_set, hR], .inr ⟨g, c, over cur (j * 65 + 1) b.cs, rfl, hB, hb.row _, hc, hm, by rw [size_over hfit]; exact hsz, ?_⟩⟩
    have hcur : ∀ i, i < n * 65 → cur[i]? = (rcs R)[i]? := fun i hi => by
      rw [← ht, List.getElem?_take, if_pos hi, Array.getElem?_toList]
    have hw : (Rw.cs ⟨r.s, b⟩).toList.length = 65 := by have := Rw.size ⟨r.s, b⟩; simp [this]
    have hfit2 : j * 65 + (Rw.cs ⟨r.s, b⟩).toList.length ≤ (rcs R).length := by rw [hw, rcs_length]; have : (j + 1) * 65 ≤ R.length * 65 := Nat.mul_le_mul_right _ (by omega); omega
    have hfit3 : j * 65 + 65 ≤ n * 65 := by rw [hw, rcs_length, hR] at hfit2; exact hfit2
    rw [← rcs_set ⟨r.s, b⟩ hjl]
    apply List.ext_getElem?
    intro i
    rw [splice_get hfit2, hw, List.getElem?_take]
    by_cases hi : i < n * 65
    · rw [if_pos hi, Array.getElem?_toList, over_get hfit, hbs]
      by_cases h1 : i < j * 65
      · rw [if_pos (by omega), if_pos h1, hcur i hi]
      · rw [if_neg h1]
        by_cases h2 : i < j * 65 + 65
        · rw [if_pos h2]
          by_cases h3 : i = j * 65
          · subst h3
            rw [if_pos (by omega), hcur _ hi]
            have := rcs_get hj (j := 0) (by omega)
            rw [Nat.add_zero] at this
            rw [this, Nat.sub_self, Rw.cell0, Array.getElem?_toList, Rw.cell0]
            first | rfl | (rw [if_pos h2])
          · rw [if_neg (by omega), if_pos (by omega)]
            obtain ⟨q, rfl⟩ : ∃ q, i = j * 65 + (1 + q) := ⟨i - j * 65 - 1, by omega⟩
            rw [Nat.add_sub_cancel_left, Array.getElem?_toList, Rw.cell1, show j * 65 + (1 + q) - (j * 65 + 1) = q by omega]
        · rw [if_neg h2, if_neg (by omega), if_neg (by omega), hcur i hi]
    · rw [if_neg hi, if_neg (by omega), if_neg (by omega)]
      rw [List.getElem?_eq_none (by rw [rcs_length, hR]; omega)]

theorem rbuild0_run (w : World) : (rbuildSem 0 #[]).run Try.prog w = .ok (.slice (some ⟨w.heap.size, 0, none⟩) 0 0) (w.alloc (.cells #[] 74)) := by
  have hu := run_underlying (P := Try.prog) Try.underlying30 w
  have hz := (zero_of_info z_rrow).1 w
  unfold rbuildSem Instr.buildSlice
  simp only [Sem.run_bind, hu, Result.andThen_ok]
  go_simp

/-- The document's rows, appended to a slice of none: a clone. -/
theorem clone_run {w : World} (ty : TypeId) {B : Nat} {v rv : Value} {L : List Rw} (hown : w.ownsRow B 74 65 v 0 []) (hr : w.ownsRow 0 74 65 rv L.length (rcs L)) (h8 : L.length ≤ 8) (hB : B ≤ w.heap.size) :
    ∃ v' w', (rappSem ty #[v, rv]).run Try.prog w = .ok v' w' ∧ w'.ownsRow B 74 65 v' L.length (rcs L) ∧ w.grownBy w' v.ownBlock := by
  obtain ⟨i0, hi, hz0, hz1, hz2⟩ := info_parts (show (Try.prog.info? 74).map (fun i => (i.zero, i.size, i.bytes)) = some (some (.agg Rw.zero.cs), 65, 72) by kernel_rfl)
  rcases hr.2 with ⟨rfl, h0⟩ | ⟨g, cap, cur, rfl, hbg, hg, hnc, hcm, hcs, htake⟩
  · obtain rfl := List.eq_nil_of_length_eq_zero h0
    exact ⟨v, w, run_append_owned_none (P := Try.prog) (w := w) B 30 ty 74 i0 65 Try.underlying30 hi v 0 [] hown, hown, World.grownBy.refl _ _⟩
  · obtain ⟨v', w', h1, h2, h3, _⟩ := run_append_own (P := Try.prog) w B 30 ty 74 i0 (.agg Rw.zero.cs) 65 72 Try.underlying30 hi hz0 hz1 hz2 (Rw.size _) (by decide) v 0 [] hown ⟨g, 0, none⟩ L.length cap (rcs L) (rcs_length L) (by
      intro j u hj
      have hjl : j < (rcs L).length := (List.getElem?_eq_some_iff.1 hj).1
      rw [rcs_length] at hjl
      rw [Addr.add_lit, Nat.zero_add, cell_of_row w g j cur _ _ hg, ← Array.getElem?_toList]
      rw [← htake, List.getElem?_take, if_pos hjl] at hj
      exact hj) (rcs_one L) (by unfold maxLen; omega) (by omega) hB
    exact ⟨v', w', h1, by simpa using h2, h3⟩

/-- The document's write. -/
def writeR (M : Rk) (i : Int) (b : Bk) : Rk × Int :=
  if (actM M i true).2 ≠ 0 then actM M i true
  else match M.rows.findIdx? (fun r => r.s == i.toNat) with
    | some k => ({ (actM M i true).1 with rows := M.rows.set k ⟨i.toNat, b⟩ }, 0)
    | none => if M.rows.length = 8 then ({ downR (actM M i true).1 [true] with rows := (downR (actM M i true).1 [true]).rows ++ [⟨i.toNat, b⟩] }, 0)
      else ({ (actM M i true).1 with rows := M.rows ++ [⟨i.toNat, b⟩] }, 0)

set_option maxRecDepth 100000 in
set_option maxHeartbeats 8000000 in
/-- The document's write where the act is done. -/
theorem write_ref_done {w : World} {pv rv : Value} {M : Rk} (h : Ref w pv rv M) (s : Nat) (b : Bk) (hf : M.fuse ≤ 9223372036854775807) (hl : M.flaw ≤ 9223372036854775807) (hl2 : -1 ≤ M.flaw) (hp8 : M.plate.length ≤ 2048) (hr8 : M.rows.length ≤ 8) (hrs : ∀ r ∈ M.rows, r.s < M.plate.length) (he : (actM M (s : Int) true).2 = 0) :
    Calls Try.prog 32 #[.agg (M.vals pv rv), .int .i64 (s : Int), .agg b.cs] w fun e w' => ∃ pv' rv', e = .returned (.tuple #[.agg ((writeR M (s : Int) b).1.vals pv' rv'), .int .i64 0]) ∧ Ref w' pv' rv' (writeR M (s : Int) b).1 ∧ Below w.heap.size w w' ∧ NewP w pv pv' := by
  have hin := actM_in he
  have hslt : s < M.plate.length := by omega
  obtain ⟨pa, pc, rfl⟩ := own_slice h.p
  obtain ⟨rb, rc, rfl⟩ := own_slice h.r
  obtain ⟨W1, hW1⟩ : ∃ W1, ((w.alloc (.cells (M.vals (.slice pa M.plate.length pc) (.slice rb M.rows.length rc)) 32)).alloc (.cells b.cs 38)).alloc (.cells #[.slice none 0 0, .slice none 0 0, .int .i64 0, .int .i64 0, .bool false, .int .i64 0] 32) = W1 := ⟨_, rfl⟩
  have hb1 : Below w.heap.size w W1 := by rw [← hW1]; exact (((Below.refl _ _).alloc (Nat.le_refl _) _).alloc (by simp) _).alloc (by simp; omega) _
  have bd : Blk W1 w.heap.size 32 (M.vals (.slice pa M.plate.length pc) (.slice rb M.rows.length rc)) := by rw [← hW1]; exact ((Blk.new w _ _).alloc _).alloc _
  have bb : Blk W1 (w.heap.size + 1) 38 b.cs := by rw [← hW1]; exact (Blk.new2 _ _ _ _).alloc _
  have bz : Blk W1 (w.heap.size + 1 + 1) 32 #[.slice none 0 0, .slice none 0 0, .int .i64 0, .int .i64 0, .bool false, .int .i64 0] := by rw [← hW1]; exact Blk.new3 _ _ _ _ _
  have hact := act_ref M pa pc rb M.rows.length rc (s : Int) true W1 hf hl hl2
  have hlists := actM_lists M (s : Int) true
  have hR1 := h.below hb1
  have hwr : writeR M (s : Int) b = (match M.rows.findIdx? (fun r => r.s == s) with
    | some k => ({ (actM M (s : Int) true).1 with rows := M.rows.set k ⟨s, b⟩ }, 0)
    | none => if M.rows.length = 8 then ({ downR (actM M (s : Int) true).1 [true] with rows := (downR (actM M (s : Int) true).1 [true]).rows ++ [⟨s, b⟩] }, 0)
      else ({ (actM M (s : Int) true).1 with rows := M.rows ++ [⟨s, b⟩] }, 0)) := by
    unfold writeR
    rw [if_neg (by rw [he]; simp)]
    rfl
  generalize writeR M (s : Int) b = WR at *
  generalize actM M (s : Int) true = AR at *
  obtain ⟨A, ae⟩ := AR
  simp only at he
  subst he
  have hRA : Ref W1 (.slice pa M.plate.length pc) (.slice rb M.rows.length rc) A := ⟨by rw [hlists.1]; exact hR1.p, by rw [hlists.2]; exact hR1.r⟩
  have HA := Lib.hid hRA
  have HWR := Lib.hid hwr
  have HLI := Lib.hid hlists
  clear hRA hR1 hlists h hwr hin
  obtain ⟨pl, rs, fu, fl, de, op⟩ := M
  simp only [Rk.vals] at *
  have HRS := Lib.hid hrs
  have c0 := bd.cell 0
  have c1 := bd.cell 1
  have c2 := bd.cell 2
  have c3 := bd.cell 3
  have c4 := bd.cell 4
  have c5 := bd.cell 5
  simp only [List.getElem?_toArray, List.getElem?_cons_zero, List.getElem?_cons_succ] at c0 c1 c2 c3 c4 c5
  have H := Lib.hid (And.intro hb1 (And.intro bd (And.intro bz bb)))
  clear hb1 bd bz bb hrs
  go_enter Try.func32, Try.ntmps32
  go_wp2_with fail
  clear hW1
  refine hact.mono ?_
  rintro e W2 ⟨rfl, hb2⟩
  have bd2 := H.out.2.1.kept (Kept.of_below [] hb2) (by simp)
  have bz2 := H.out.2.2.1.kept (Kept.of_below [] hb2) (by simp)
  have bb2 := H.out.2.2.2.kept (Kept.of_below [] hb2) (by simp)
  have hbb2 : Below w.heap.size w W2 := H.out.1.trans (hb2.mono H.out.1.size)
  have h6 := set6 bd2 (.slice pa pl.length pc) (.slice rb rs.length rc) (.int .i64 A.fuse) (.int .i64 A.flaw) (.bool A.dead) (.int .i64 A.ops)
  have bz3 := bz2.kept h6.2 (by simp; omega)
  have bb3 := bb2.kept h6.2 (by simp)
  have hbb3 : Below w.heap.size w _ := hbb2.trans (h6.2.below (by simp) hbb2.size)
  have hRA2 := HA.out.below hb2
  have hR3 : Ref _ (.slice pa pl.length pc) (.slice rb rs.length rc) A := ⟨own_kept0 hRA2.p h6.2 (own_apart hRA2.p bd2 (by decide)), own_kept0 hRA2.r h6.2 (own_apart hRA2.r bd2 (by decide))⟩
  have c0 := bd2.cell 0
  have c1 := bd2.cell 1
  have c2 := bd2.cell 2
  have c3 := bd2.cell 3
  have c4 := bd2.cell 4
  have c5 := bd2.cell 5
  have f0 := bd2.free 0
  have f1 := bd2.free 1
  have f2 := bd2.free 2
  have f3 := bd2.free 3
  have f4 := bd2.free 4
  have f5 := bd2.free 5
  simp only [List.getElem?_toArray, List.getElem?_cons_zero, List.getElem?_cons_succ] at c0 c1 c2 c3 c4 c5
  obtain ⟨W3, hW3⟩ : ∃ W3, ((((((W2.setCell ⟨w.heap.size, 0, none⟩ (.slice pa pl.length pc)).setCell ⟨w.heap.size, 1, none⟩ (.slice rb rs.length rc)).setCell ⟨w.heap.size, 2, none⟩ (.int .i64 A.fuse)).setCell ⟨w.heap.size, 3, none⟩ (.int .i64 A.flaw)).setCell ⟨w.heap.size, 4, none⟩ (.bool A.dead)).setCell ⟨w.heap.size, 5, none⟩ (.int .i64 A.ops)) = W3 := ⟨_, rfl⟩
  rw [hW3] at h6 bz3 bb3 hbb3 hR3
  have bd3 := h6.1
  have d1 : W3.cell? ⟨w.heap.size, 1, none⟩ = some (.slice rb rs.length rc) := bd3.cell 1
  have d1n : (W3.alloc (.cells #[] 74)).cell? ⟨w.heap.size, 1, none⟩ = some (.slice rb rs.length rc) := (bd3.alloc _).cell 1
  have hon : (W3.alloc (.cells #[] 74)).ownsRow W3.heap.size 74 65 (.slice (some ⟨W3.heap.size, 0, none⟩) 0 0) 0 [] :=
    ⟨rfl, .inr ⟨_, 0, #[], rfl, Nat.le_refl _, heap_alloc_new W3 _, Nat.le_refl _, by simp, rfl, rfl⟩⟩
  have hb34 : Below W3.heap.size W3 (W3.alloc (.cells #[] 74)) := (Below.refl _ _).alloc (Nat.le_refl _) _
  have hR4 := hR3.below hb34
  have hAr : A.rows = rs := HLI.out.2
  have hr4 : (W3.alloc (.cells #[] 74)).ownsRow 0 74 65 (.slice rb rs.length rc) rs.length (rcs rs) := by
    have := hR4.r
    rwa [hAr] at this
  have H3 := Lib.hid (And.intro hbb3 (And.intro bd3 (And.intro bz3 (And.intro bb3 (And.intro hR3 hb34)))))
  clear hbb3 bz3 bb3 hR3 hRA2 h6 hbb2 bz2 bb2 bd2 hact hb2 bd3 hb34 hR4
  obtain ⟨v9, W5, hclone, hown5, hG5⟩ := clone_run 30 hon hr4 hr8 (by simp)
  have hbs0 := fun w => rbuild0_run w
  obtain ⟨a9, c9, rfl, hrow9⟩ := own_rows (own_zero hown5)
  have hb35 : Below W3.heap.size W3 W5 := H3.out.2.2.2.2.2.grown hG5 (by simp) (fun k hk => by cases hk; exact Nat.le_refl _)
  have bd5 := H3.out.2.1.kept (Kept.of_below [] hb35) (by simp)
  have bz5 := H3.out.2.2.1.kept (Kept.of_below [] hb35) (by simp)
  have bb5 := H3.out.2.2.2.1.kept (Kept.of_below [] hb35) (by simp)
  have hR5 := H3.out.2.2.2.2.1.below hb35
  have hbb5 := H3.out.1.trans (hb35.mono H3.out.1.size)
  have hown0 := own_zero hown5
  have H5 := Lib.hid (And.intro bd5 (And.intro bz5 (And.intro bb5 (And.intro hR5 (And.intro hbb5 hown0)))))
  have HR9 := Lib.hid hrow9
  have h0b : ∀ q, q < b.cs.size → b.cs[0 + q]? = b.cs[q]? := fun q _ => by rw [Nat.zero_add]
  have H0B := Lib.hid h0b
  have hge9 : ∀ k, a9.map Addr.block = some k → w.heap.size ≤ k := fun k hk => by
    cases a9 with
    | none => simp at hk
    | some ad =>
      have h1 := (hown5.lt ad.block rfl).1
      have h2 := H3.out.1.size
      simp at hk
      omega
  have HGE := Lib.hid hge9
  have HPV := Lib.hid (NewP.refl w (.slice pa pl.length pc))
  clear hon hr4 hown5 hG5 hb35 bd5 bz5 bb5 hR5 hbb5 hown0 hrow9 h0b
  go_wp2
  clear hclone hbs0 hW3 d1 d1n f0 f1 f2 f3 f4 f5 c0 c1 c2 c3 c4 c5
  go_loop [27] (fun x => ∃ j : Nat, j ≤ rs.length ∧ x = .int .i64 j ∧ Hid (∀ i (r : Rw), i < j → rs[i]? = some r → r.s ≠ s)) (fun x => rs.length - (intOf x).toNat)
  case atStart => exact ⟨0, Nat.zero_le _, rfl, fun i r h => absurd h (by omega)⟩
  case round =>
    obtain ⟨j, hj, rfl, hno⟩ := hrel
    by_cases hlt : j < rs.length
    · obtain ⟨r, hr⟩ : ∃ r, rs[j]? = some r := ⟨_, List.getElem?_eq_getElem hlt⟩
      obtain ⟨g9, C9, rfl, hb9, hs9, hc9⟩ := HR9.out j r hr
      have e0 : W5.cell? ⟨g9, j * 65, none⟩ = some (.int .i64 (r.s : Int)) := by
        have h8 := hc9 0 (by omega)
        rw [Nat.add_zero, Rw.cell0] at h8
        rw [hb9.cell, h8]
      have hji : (j : Int) < (rs.length : Int) := by omega
      by_cases hs : r.s = s
      · have heq : ((r.s : Int) == (s : Int)) = true := by simp; omega
        have hfind : rs.findIdx? (fun r => r.s == s) = some j := by
          rw [List.findIdx?_eq_some_iff_getElem]
          refine ⟨hlt, ?_, fun i hi => ?_⟩
          · have := (List.getElem?_eq_some_iff.1 hr).2
            rw [this]; simpa using hs
          · have := hno.out i _ hi (List.getElem?_eq_getElem (by omega))
            simpa using this
        obtain ⟨C, hC, hfit, hput⟩ := own_rput H5.out.2.2.2.2.2 rfl hr b
        rw [hs] at hput
        obtain ⟨W6, hW6⟩ : ∃ W6, W5.setRow g9 (over C (j * 65 + 1) b.cs) = W6 := ⟨_, rfl⟩
        have hk6 : Kept [g9] W5 W6 := by rw [← hW6]; exact (Kept.refl _ _).setRow (.inl (by simp)) _
        have n1 : w.heap.size ∉ [g9] := by intro h9; exact H5.out.1.ne hC (by decide) (by simpa using h9)
        have n2 : w.heap.size + 1 + 1 ∉ [g9] := by intro h9; exact H5.out.2.1.ne hC (by decide) (by simpa using h9)
        have bd6 := H5.out.1.kept hk6 n1
        have bz6 := H5.out.2.1.kept hk6 n2
        rw [hW6] at hput
        have hp6 := own_kept0 H5.out.2.2.2.1.p hk6 (own_apart H5.out.2.2.2.1.p hC (by decide))
        have hbb6 : Below w.heap.size w W6 := by rw [← hW6]; exact below_setRow H5.out.2.2.2.2.1 (HGE.out g9 rfl) _
        have f1 := bd6.free 1
        have d1 : W6.cell? ⟨w.heap.size, 1, none⟩ = some (.slice rb rs.length rc) := bd6.cell 1
        obtain ⟨W7, hW7⟩ : ∃ W7, W6.setCell ⟨w.heap.size, 1, none⟩ (.slice (some ⟨g9, 0, none⟩) rs.length c9) = W7 := ⟨_, rfl⟩
        have hk7 : Kept [w.heap.size] W6 W7 := by rw [← hW7]; exact (Kept.refl _ _).setCell (.inl (by simp)) _
        have bd7 : Blk W7 w.heap.size 32 #[.slice pa pl.length pc, .slice (some ⟨g9, 0, none⟩) rs.length c9, .int .i64 A.fuse, .int .i64 A.flaw, .bool A.dead, .int .i64 A.ops] := by rw [← hW7]; exact bd6.set 1 _
        have bz7 := bz6.kept hk7 (by simp; omega)
        have hp7 := own_kept0 hp6 hk7 (own_apart hp6 bd6 (by decide))
        have hr7 := own_kept0 hput hk7 (own_apart hput bd6 (by decide))
        have hbb7 := hbb6.trans (hk7.below (by simp) hbb6.size)
        obtain ⟨V, hV⟩ : ∃ V : Array Value, V = #[.slice pa pl.length pc, .slice (some ⟨g9, 0, none⟩) rs.length c9, .int .i64 A.fuse, .int .i64 A.flaw, .bool A.dead, .int .i64 A.ops] := ⟨_, rfl⟩
        have hp7' := hp7
        rw [HLI.out.1] at hp7'
        have HOV := Lib.hid (show over #[.slice none 0 0, .slice none 0 0, .int .i64 0, .int .i64 0, .bool false, .int .i64 0] 0 V = V from over_all (by rw [hV]; rfl))
        have hsz : V.size = 6 := by rw [hV]; rfl
        have hsi : (Try.prog.info? 32).map (·.size) = some V.size := by rw [hsz]; kernel_rfl
        have hone : V.all (·.oneCell') = true := by rw [hV]; kernel_rfl
        have hkz : Kept [w.heap.size + 1 + 1] W7 (W7.setRow (w.heap.size + 1 + 1) V) := (Kept.refl _ _).setRow (.inl (by simp)) _
        have hpF := own_kept0 hp7' hkz (own_apart hp7' bz7 (by decide))
        have hrF := own_kept0 hr7 hkz (own_apart hr7 bz7 (by decide))
        have hbF : Below w.heap.size w _ := hbb7.trans (hkz.below (by simp; omega) hbb7.size)
        have HE := Lib.hid (And.intro (bz7.row V) (And.intro hpF (And.intro hrF hbF)))
        have HV := Lib.hid hV
        rw [← hV] at bd7
        have hfz : 0 + V.size ≤ (#[.slice none 0 0, .slice none 0 0, .int .i64 0, .int .i64 0, .bool false, .int .i64 0] : Array Value).size := by rw [hsz]; decide
        have h0v : ∀ q, q < V.size → V[0 + q]? = V[q]? := fun q _ => by rw [Nat.zero_add]
        have HZ := Lib.hid (And.intro hfz (And.intro hsi (And.intro hone h0v)))
        clear hkz hpF hrF hbF hV hsz hfz hsi hone h0v hk6 n1 n2 hp6 hp7 hp7' hr7 hbb6 hbb7 bd6 hk7 hput hb9 hs9 hc9
        have hwr2 := HWR.out
        rw [hfind] at hwr2
        simp only at hwr2
        have HWX := Lib.hid hwr2
        have HFT := Lib.hid hfit
        clear hwr2 hfind hno hfit
        generalize ((r.s : Nat) : Int) = sv at *
        go_wp2_with (first | (with_reducible refine wpList_load_blk rfl 38 (.tmp 5) rfl (w.heap.size + 1) 0 rfl b.cs b.cs _ H5.out.2.2.1 H0B.out _ Try.underlying38 rfl (s_blk b) ?_) | (with_reducible refine wpList_store_blk rfl 38 (.tmp 41) (.tmp 39) rfl g9 (j * 65 + 1) b.cs C _ rfl rfl hC HFT.out (s_blk b) b.one ?_; rw [hW6]) | (with_reducible refine wpList_load_blk rfl 32 (.tmp 3) rfl w.heap.size 0 rfl V V _ bd7 HZ.out.2.2.2 _ Try.underlying32 rfl HZ.out.2.1 ?_) | (with_reducible refine wpList_store_blk rfl 32 (.tmp 6) (.tmp 44) rfl (w.heap.size + 1 + 1) 0 V #[.slice none 0 0, .slice none 0 0, .int .i64 0, .int .i64 0, .bool false, .int .i64 0] _ rfl rfl bz7 HZ.out.1 HZ.out.2.1 HZ.out.2.2.1 ?_; rw [HOV.out]))
        refine bodyPost_ret (results_blk rfl _ _ (w.heap.size + 1 + 1) V _ rfl HE.out.1 Try.underlying32 rfl HZ.out.2.1) rfl ?_
        refine ⟨.slice pa pl.length pc, (.slice (some ⟨g9, 0, none⟩) rs.length c9), ?_, ⟨?_, ?_⟩, HE.out.2.2.2, NewP.refl _ _⟩
        · rw [HWX.out, HV.out]; skip; rfl
        · rw [HWX.out]; show World.ownsRow _ 0 _ 64 _ A.plate.length (pcs A.plate); rw [HLI.out.1]; exact HE.out.2.1
        · rw [HWX.out]; show World.ownsRow _ 0 _ 65 _ (rs.set j ⟨s, b⟩).length (rcs (rs.set j ⟨s, b⟩)); rw [List.length_set]; exact HE.out.2.2.1
      · have heq : ((r.s : Int) == (s : Int)) = false := by simp; omega
        have hno2 : Hid (∀ i (r : Rw), i < j + 1 → rs[i]? = some r → r.s ≠ s) := fun i y hi hy => by
          by_cases hij : i = j
          · subst hij
            rw [hr] at hy
            cases hy
            exact hs
          · exact hno.out i y (by omega) hy
        clear hno hb9 hs9 hc9 hr
        generalize ((r.s : Nat) : Int) = sv at *
        go_wp2
        go_round
        case rel => exact ⟨j + 1, by omega, by go_num, hno2⟩
        case measure => simp [intOf]; omega
    · obtain rfl : j = rs.length := by omega
      have hfind : rs.findIdx? (fun r => r.s == s) = none := by
        rw [List.findIdx?_eq_none_iff]
        intro y hy
        obtain ⟨i, hi, rfl⟩ := List.mem_iff_getElem.1 hy
        have := hno.out i _ hi (List.getElem?_eq_getElem hi)
        simpa using this
      have hwr2 := HWR.out
      rw [hfind] at hwr2
      simp only at hwr2
      by_cases h8 : rs.length = 8
      · rw [if_pos h8] at hwr2
        have h8i : ((rs.length : Int) == 8) = true := by rw [beq_iff_eq]; omega
        have hbt : Below W5.heap.size W5 (W5.alloc (.cells #[.bool true] 4)) := (Below.refl _ _).alloc (Nat.le_refl _) _
        have hR6 := H5.out.2.2.2.1.below hbt
        have hbools : Bools (W5.alloc (.cells #[.bool true] 4)) (some ⟨W5.heap.size, 0, none⟩) [true] := by
          refine .inr ⟨_, 0, rfl, by simp, fun i hi => ?_⟩
          obtain rfl : i = 0 := by simpa using hi
          exact (Blk.new W5 4 #[.bool true]).cell 0
        have hdn := down_ref hR6 [true] (some ⟨W5.heap.size, 0, none⟩) 1 hbools (by simp) (by rw [HLI.out.1]; omega) (by rw [HLI.out.1]; exact hp8) (by rw [HLI.out.2]; exact hr8) (by rw [HLI.out.1, HLI.out.2]; exact HRS.out)
        have hdr := downTo_len A [true] A.rows.length
        have hdl : (downR A [true]).plate.length = pl.length := by rw [← HLI.out.1]; exact hdr.1
        have hdrl : (downR A [true]).rows.length ≤ 8 := Nat.le_trans hdr.2 (by rw [HLI.out.2]; exact hr8)
        have hdf : (downR A [true]).fuse = A.fuse ∧ (downR A [true]).flaw = A.flaw ∧ (downR A [true]).dead = A.dead ∧ (downR A [true]).ops = A.ops := ⟨rfl, rfl, rfl, rfl⟩
        generalize downR A [true] = DR at *
        simp only [Rk.vals, HLI.out.1, HLI.out.2] at hdn
        have bd5 := H5.out.1
        have c0 := bd5.cell 0
        have c1 := bd5.cell 1
        have c2 := bd5.cell 2
        have c3 := bd5.cell 3
        have c4 := bd5.cell 4
        have c5 := bd5.cell 5
        simp only [List.getElem?_toArray, List.getElem?_cons_zero, List.getElem?_cons_succ] at c0 c1 c2 c3 c4 c5
        have HDL := Lib.hid (And.intro hdl (And.intro hdrl hdf))
        have HWX := Lib.hid hwr2
        have HBT := Lib.hid hbt
        clear hR6 hbools hdr hdl hdrl hdf hwr2 hbt bd5 hfind hno h8
        go_wp2_with fail
        refine hdn.mono ?_
        rintro e W7 ⟨pv2, rv2, he, hR7, hb7, hn7, hv7⟩
        obtain ⟨pa2, pc2, rfl⟩ := own_slice hR7.p
        obtain ⟨rb2, rc2, rfl⟩ := own_slice hR7.r
        subst he
        have hb57 : Below W5.heap.size W5 W7 := HBT.out.trans (hb7.mono HBT.out.size)
        have bd7 := H5.out.1.kept (Kept.of_below [] hb57) (by simp)
        have bz7 := H5.out.2.1.kept (Kept.of_below [] hb57) (by simp)
        have bb7 := H5.out.2.2.1.kept (Kept.of_below [] hb57) (by simp)
        have hbb7 := H5.out.2.2.2.2.1.trans (hb57.mono H5.out.2.2.2.2.1.size)
        have h6 := set6 bd7 (.slice pa2 DR.plate.length pc2) (.slice rb2 DR.rows.length rc2) (.int .i64 DR.fuse) (.int .i64 DR.flaw) (.bool DR.dead) (.int .i64 DR.ops)
        have bz8 := bz7.kept h6.2 (by simp; omega)
        have bb8 := bb7.kept h6.2 (by simp)
        have hbb8 : Below w.heap.size w _ := hbb7.trans (h6.2.below (by simp) hbb7.size)
        have hR8 : Ref _ (.slice pa2 DR.plate.length pc2) (.slice rb2 DR.rows.length rc2) DR := ⟨own_kept0 hR7.p h6.2 (own_apart hR7.p bd7 (by decide)), own_kept0 hR7.r h6.2 (own_apart hR7.r bd7 (by decide))⟩
        clear c0 c1 c2 c3 c4 c5
        have c0 := bd7.cell 0
        have c1 := bd7.cell 1
        have c2 := bd7.cell 2
        have c3 := bd7.cell 3
        have c4 := bd7.cell 4
        have c5 := bd7.cell 5
        have f0 := bd7.free 0
        have f1 := bd7.free 1
        have f2 := bd7.free 2
        have f3 := bd7.free 3
        have f4 := bd7.free 4
        have f5 := bd7.free 5
        simp only [List.getElem?_toArray, List.getElem?_cons_zero, List.getElem?_cons_succ] at c0 c1 c2 c3 c4 c5
        have hnew : NewP w (.slice pa pl.length pc) (.slice pa2 DR.plate.length pc2) := NewP.mono hn7 (Nat.le_trans H5.out.2.2.2.2.1.size HBT.out.size)
        have hge2 : ∀ k, (Value.slice rb2 DR.rows.length rc2).ownBlock = some k → w.heap.size ≤ k := fun k hk => Nat.le_trans (Nat.le_trans H5.out.2.2.2.2.1.size HBT.out.size) (hv7 k hk)
        have HNW := Lib.hid (And.intro hnew hge2)
        obtain ⟨W8, hW8⟩ : ∃ W8, ((((((W7.setCell ⟨w.heap.size, 0, none⟩ (.slice pa2 DR.plate.length pc2)).setCell ⟨w.heap.size, 1, none⟩ (.slice rb2 DR.rows.length rc2)).setCell ⟨w.heap.size, 2, none⟩ (.int .i64 DR.fuse)).setCell ⟨w.heap.size, 3, none⟩ (.int .i64 DR.flaw)).setCell ⟨w.heap.size, 4, none⟩ (.bool DR.dead)).setCell ⟨w.heap.size, 5, none⟩ (.int .i64 DR.ops)) = W8 := ⟨_, rfl⟩
        rw [hW8] at h6 bz8 bb8 hbb8 hR8
        have d1' : W8.cell? ⟨w.heap.size, 1, none⟩ = some (.slice rb2 DR.rows.length rc2) := h6.1.cell 1
        have H8 := Lib.hid (And.intro h6.1 (And.intro bz8 (And.intro bb8 (And.intro hR8 (And.intro hbb8 hR8.r)))))
        clear hb57 bd7 bz7 bb7 hbb7 h6 bz8 bb8 hbb8 hR7 hR8 hb7 hn7 hv7 hnew hge2 hdn
        obtain ⟨W9, hW9⟩ : ∃ W9, W8.alloc (.cells (Rw.cs ⟨s, b⟩) 74) = W9 := ⟨_, rfl⟩
        have hb56 : Below W8.heap.size W8 W9 := by rw [← hW9]; exact (Below.refl _ _).alloc (Nat.le_refl _) _
        have hbq : Blk W9 W8.heap.size 74 (Rw.cs ⟨s, b⟩) := by rw [← hW9]; exact Blk.new _ _ _
        have ho6 := own_below H8.out.2.2.2.2.2 hb56
        obtain ⟨g7, c7, W10, hrun, hq7, hgrow, hg7⟩ := rappSem_run 30 ho6 HDL.out.2.1 hbq (Nat.zero_le _)
        have BS : (rbuildSem 1 #[(0, .agg (Rw.cs ⟨s, b⟩))]).run Try.prog W8 = .ok (.slice (some ⟨W8.heap.size, 0, none⟩) 1 1) W9 := by rw [← hW9]; exact rbuildSem_run ⟨s, b⟩ W8
        have hge := HNW.out.2
        have bd6 := H8.out.1.kept (Kept.of_below [] hb56) (by simp)
        have bz6 := H8.out.2.1.kept (Kept.of_below [] hb56) (by simp)
        have hp6 := own_below H8.out.2.2.2.1.p hb56
        have hbb6 := H8.out.2.2.2.2.1.trans (hb56.mono H8.out.2.2.2.2.1.size)
        have nd : w.heap.size ∉ (Value.slice rb2 DR.rows.length rc2).ownBlock.toList := fun h9 => own_apart ho6 bd6 (by decide) w.heap.size (by simpa using h9) (by simp)
        have nz : w.heap.size + 1 + 1 ∉ (Value.slice rb2 DR.rows.length rc2).ownBlock.toList := fun h9 => own_apart ho6 bz6 (by decide) (w.heap.size + 1 + 1) (by simpa using h9) (by simp)
        have np : ∀ k, (Value.slice pa2 DR.plate.length pc2).ownBlock = some k → k ∉ (Value.slice rb2 DR.rows.length rc2).ownBlock.toList := by
          intro k hk h9
          have h7 : (Value.slice rb2 DR.rows.length rc2).ownBlock = some k := by simpa using h9
          rcases ho6.2 with ⟨h7', _⟩ | ⟨g5, cc5, cur5, h7', _, h6, _⟩
          · rw [h7'] at h7; simp [Value.ownBlock] at h7
          · rw [h7'] at h7
            simp only [Value.ownBlock, Option.some.injEq] at h7
            subst h7
            exact own_apart hp6 (show Blk W9 g5 74 cur5 from h6) (by decide) g5 hk (by simp)
        have hk67 : Kept (Value.slice rb2 DR.rows.length rc2).ownBlock.toList W9 W10 := (Kept.refl _ _).grown hgrow (fun k hk => .inl (by simp [hk]))
        have bd7 := bd6.kept hk67 nd
        have bz7 := bz6.kept hk67 nz
        have hp7 := own_kept0 hp6 hk67 np
        have hbb7 : Below w.heap.size w W10 := hbb6.trans (hk67.below (fun k hk => hge k (by simpa using hk)) hbb6.size)
        have f1 := bd7.free 1
        have d1 : W10.cell? ⟨w.heap.size, 1, none⟩ = some (.slice rb2 DR.rows.length rc2) := bd7.cell 1
        obtain ⟨W11, hW11⟩ : ∃ W11, W10.setCell ⟨w.heap.size, 1, none⟩ (.slice (some ⟨g7, 0, none⟩) (DR.rows.length + 1) c7) = W11 := ⟨_, rfl⟩
        have hk8 : Kept [w.heap.size] W10 W11 := by rw [← hW11]; exact (Kept.refl _ _).setCell (.inl (by simp)) _
        have bd8 : Blk W11 w.heap.size 32 #[.slice pa2 DR.plate.length pc2, .slice (some ⟨g7, 0, none⟩) (DR.rows.length + 1) c7, .int .i64 DR.fuse, .int .i64 DR.flaw, .bool DR.dead, .int .i64 DR.ops] := by rw [← hW11]; exact bd7.set 1 _
        have bz8 := bz7.kept hk8 (by simp; omega)
        have hp8' := own_kept0 hp7 hk8 (own_apart hp7 bd7 (by decide))
        have hr8' := own_kept0 hq7 hk8 (own_apart hq7 bd7 (by decide))
        have hbb8 := hbb7.trans (hk8.below (by simp) hbb7.size)
        obtain ⟨V, hV⟩ : ∃ V : Array Value, V = #[.slice pa2 DR.plate.length pc2, .slice (some ⟨g7, 0, none⟩) (DR.rows.length + 1) c7, .int .i64 DR.fuse, .int .i64 DR.flaw, .bool DR.dead, .int .i64 DR.ops] := ⟨_, rfl⟩
        have HOV := Lib.hid (show over #[.slice none 0 0, .slice none 0 0, .int .i64 0, .int .i64 0, .bool false, .int .i64 0] 0 V = V from over_all (by rw [hV]; rfl))
        have hsz : V.size = 6 := by rw [hV]; rfl
        have hsi : (Try.prog.info? 32).map (·.size) = some V.size := by rw [hsz]; kernel_rfl
        have hone : V.all (·.oneCell') = true := by rw [hV]; kernel_rfl
        have hkz : Kept [w.heap.size + 1 + 1] W11 (W11.setRow (w.heap.size + 1 + 1) V) := (Kept.refl _ _).setRow (.inl (by simp)) _
        have hpF := own_kept0 hp8' hkz (own_apart hp8' bz8 (by decide))
        have hrF := own_kept0 hr8' hkz (own_apart hr8' bz8 (by decide))
        have hbF : Below w.heap.size w _ := hbb8.trans (hkz.below (by simp; omega) hbb8.size)
        have HE := Lib.hid (And.intro (bz8.row V) (And.intro hpF (And.intro hrF hbF)))
        have HV := Lib.hid hV
        rw [← hV] at bd8
        have hfz : 0 + V.size ≤ (#[.slice none 0 0, .slice none 0 0, .int .i64 0, .int .i64 0, .bool false, .int .i64 0] : Array Value).size := by rw [hsz]; decide
        have h0v : ∀ q, q < V.size → V[0 + q]? = V[q]? := fun q _ => by rw [Nat.zero_add]
        have HZ := Lib.hid (And.intro hfz (And.intro hsi (And.intro hone h0v)))
        clear hkz hpF hrF hbF hV hsz hfz hsi hone h0v hb56 hbq ho6 hq7 hgrow hg7 hge bd6 bz6 hp6 hbb6 nd nz np hk67 bd7 bz7 hp7 hbb7 hk8 hp8' hr8' hbb8
        go_wp2_with (first | (with_reducible refine wpList_load_blk rfl 38 (.tmp 5) rfl (w.heap.size + 1) 0 rfl b.cs b.cs _ H8.out.2.2.1 H0B.out _ Try.underlying38 rfl (s_blk b) ?_) | (with_reducible refine wpList_rbuild_row rfl (.tmp 55) (.tmp 56) rfl ⟨s, b⟩ rfl rfl ?_) | (with_reducible refine wpList_load_blk rfl 32 (.tmp 3) rfl w.heap.size 0 rfl V V _ bd8 HZ.out.2.2.2 _ Try.underlying32 rfl HZ.out.2.1 ?_) | (with_reducible refine wpList_store_blk rfl 32 (.tmp 6) (.tmp 61) rfl (w.heap.size + 1 + 1) 0 V #[.slice none 0 0, .slice none 0 0, .int .i64 0, .int .i64 0, .bool false, .int .i64 0] _ rfl rfl bz8 HZ.out.1 HZ.out.2.1 HZ.out.2.2.1 ?_; rw [HOV.out]))
        refine bodyPost_ret (results_blk rfl _ _ (w.heap.size + 1 + 1) V _ rfl HE.out.1 Try.underlying32 rfl HZ.out.2.1) rfl ?_
        refine ⟨.slice pa2 DR.plate.length pc2, (.slice (some ⟨g7, 0, none⟩) (DR.rows.length + 1) c7), ?_, ⟨?_, ?_⟩, HE.out.2.2.2, HNW.out.1⟩
        · rw [HWX.out, HV.out]; skip; rfl
        · rw [HWX.out]; exact HE.out.2.1
        · rw [HWX.out]; show World.ownsRow _ 0 _ 65 _ (DR.rows ++ [(⟨s, b⟩ : Rw)]).length (rcs (DR.rows ++ [(⟨s, b⟩ : Rw)])); rw [List.length_append]; exact HE.out.2.2.1
      · rw [if_neg h8] at hwr2
        have h8i : ((rs.length : Int) == 8) = false := by rw [beq_eq_false_iff_ne]; omega
        have hwx := hwr2
        have HWX := Lib.hid hwx
        obtain ⟨W6, hW6⟩ : ∃ W6, W5.alloc (.cells (Rw.cs ⟨s, b⟩) 74) = W6 := ⟨_, rfl⟩
        have hb56 : Below W5.heap.size W5 W6 := by rw [← hW6]; exact (Below.refl _ _).alloc (Nat.le_refl _) _
        have hbq : Blk W6 W5.heap.size 74 (Rw.cs ⟨s, b⟩) := by rw [← hW6]; exact Blk.new _ _ _
        have ho6 := own_below H5.out.2.2.2.2.2 hb56
        obtain ⟨g7, c7, W7, hrun, hq7, hgrow, hg7⟩ := rappSem_run 30 ho6 (by omega) hbq (Nat.zero_le _)
        have BS : (rbuildSem 1 #[(0, .agg (Rw.cs ⟨s, b⟩))]).run Try.prog W5 = .ok (.slice (some ⟨W5.heap.size, 0, none⟩) 1 1) W6 := by rw [← hW6]; exact rbuildSem_run ⟨s, b⟩ W5
        have hge : ∀ k, (Value.slice a9 rs.length c9).ownBlock = some k → w.heap.size ≤ k := fun k hk => by
          cases a9 with
          | none => simp [Value.ownBlock] at hk
          | some ad => exact HGE.out k (by simpa [Value.ownBlock] using hk)
        have bd6 := H5.out.1.kept (Kept.of_below [] hb56) (by simp)
        have bz6 := H5.out.2.1.kept (Kept.of_below [] hb56) (by simp)
        have hp6 := own_below H5.out.2.2.2.1.p hb56
        have hbb6 := H5.out.2.2.2.2.1.trans (hb56.mono H5.out.2.2.2.2.1.size)
        have nd : w.heap.size ∉ (Value.slice a9 rs.length c9).ownBlock.toList := fun h9 => own_apart ho6 bd6 (by decide) w.heap.size (by simpa using h9) (by simp)
        have nz : w.heap.size + 1 + 1 ∉ (Value.slice a9 rs.length c9).ownBlock.toList := fun h9 => own_apart ho6 bz6 (by decide) (w.heap.size + 1 + 1) (by simpa using h9) (by simp)
        have np : ∀ k, (Value.slice pa pl.length pc).ownBlock = some k → k ∉ (Value.slice a9 rs.length c9).ownBlock.toList := by
          intro k hk h9
          have h7 : (Value.slice a9 rs.length c9).ownBlock = some k := by simpa using h9
          rcases ho6.2 with ⟨h7', _⟩ | ⟨g5, cc5, cur5, h7', _, h6, _⟩
          · rw [h7'] at h7; simp [Value.ownBlock] at h7
          · rw [h7'] at h7
            simp only [Value.ownBlock, Option.some.injEq] at h7
            subst h7
            exact own_apart hp6 (show Blk W6 g5 74 cur5 from h6) (by decide) g5 hk (by simp)
        have hk67 : Kept (Value.slice a9 rs.length c9).ownBlock.toList W6 W7 := (Kept.refl _ _).grown hgrow (fun k hk => .inl (by simp [hk]))
        have bd7 := bd6.kept hk67 nd
        have bz7 := bz6.kept hk67 nz
        have hp7 := own_kept0 hp6 hk67 np
        have hbb7 : Below w.heap.size w W7 := hbb6.trans (hk67.below (fun k hk => hge k (by simpa using hk)) hbb6.size)
        have f1 := bd7.free 1
        have d1 : W7.cell? ⟨w.heap.size, 1, none⟩ = some (.slice rb rs.length rc) := bd7.cell 1
        obtain ⟨W8, hW8⟩ : ∃ W8, W7.setCell ⟨w.heap.size, 1, none⟩ (.slice (some ⟨g7, 0, none⟩) (rs.length + 1) c7) = W8 := ⟨_, rfl⟩
        have hk8 : Kept [w.heap.size] W7 W8 := by rw [← hW8]; exact (Kept.refl _ _).setCell (.inl (by simp)) _
        have bd8 : Blk W8 w.heap.size 32 #[.slice pa pl.length pc, .slice (some ⟨g7, 0, none⟩) (rs.length + 1) c7, .int .i64 A.fuse, .int .i64 A.flaw, .bool A.dead, .int .i64 A.ops] := by rw [← hW8]; exact bd7.set 1 _
        have bz8 := bz7.kept hk8 (by simp; omega)
        have hp8' := own_kept0 hp7 hk8 (own_apart hp7 bd7 (by decide))
        have hr8' := own_kept0 hq7 hk8 (own_apart hq7 bd7 (by decide))
        have hbb8 := hbb7.trans (hk8.below (by simp) hbb7.size)
        rw [HLI.out.1] at hp8'
        obtain ⟨V, hV⟩ : ∃ V : Array Value, V = #[.slice pa pl.length pc, .slice (some ⟨g7, 0, none⟩) (rs.length + 1) c7, .int .i64 A.fuse, .int .i64 A.flaw, .bool A.dead, .int .i64 A.ops] := ⟨_, rfl⟩
        have HOV := Lib.hid (show over #[.slice none 0 0, .slice none 0 0, .int .i64 0, .int .i64 0, .bool false, .int .i64 0] 0 V = V from over_all (by rw [hV]; rfl))
        have hsz : V.size = 6 := by rw [hV]; rfl
        have hsi : (Try.prog.info? 32).map (·.size) = some V.size := by rw [hsz]; kernel_rfl
        have hone : V.all (·.oneCell') = true := by rw [hV]; kernel_rfl
        have hkz : Kept [w.heap.size + 1 + 1] W8 (W8.setRow (w.heap.size + 1 + 1) V) := (Kept.refl _ _).setRow (.inl (by simp)) _
        have hpF := own_kept0 hp8' hkz (own_apart hp8' bz8 (by decide))
        have hrF := own_kept0 hr8' hkz (own_apart hr8' bz8 (by decide))
        have hbF : Below w.heap.size w _ := hbb8.trans (hkz.below (by simp; omega) hbb8.size)
        have HE := Lib.hid (And.intro (bz8.row V) (And.intro hpF (And.intro hrF hbF)))
        have HV := Lib.hid hV
        rw [← hV] at bd8
        have hfz : 0 + V.size ≤ (#[.slice none 0 0, .slice none 0 0, .int .i64 0, .int .i64 0, .bool false, .int .i64 0] : Array Value).size := by rw [hsz]; decide
        have h0v : ∀ q, q < V.size → V[0 + q]? = V[q]? := fun q _ => by rw [Nat.zero_add]
        have HZ := Lib.hid (And.intro hfz (And.intro hsi (And.intro hone h0v)))
        clear hkz hpF hrF hbF hV hsz hfz hsi hone h0v hwr2 hwx hfind hno hb56 hbq ho6 hq7 hgrow hg7 hge bd6 bz6 hp6 hbb6 nd nz np hk67 bd7 bz7 hp7 hbb7 hk8 hp8' hr8' hbb8
        go_wp2_with (first | (with_reducible refine wpList_load_blk rfl 38 (.tmp 5) rfl (w.heap.size + 1) 0 rfl b.cs b.cs _ H5.out.2.2.1 H0B.out _ Try.underlying38 rfl (s_blk b) ?_) | (with_reducible refine wpList_rbuild_row rfl (.tmp 55) (.tmp 56) rfl ⟨s, b⟩ rfl rfl ?_) | (with_reducible refine wpList_load_blk rfl 32 (.tmp 3) rfl w.heap.size 0 rfl V V _ bd8 HZ.out.2.2.2 _ Try.underlying32 rfl HZ.out.2.1 ?_) | (with_reducible refine wpList_store_blk rfl 32 (.tmp 6) (.tmp 61) rfl (w.heap.size + 1 + 1) 0 V #[.slice none 0 0, .slice none 0 0, .int .i64 0, .int .i64 0, .bool false, .int .i64 0] _ rfl rfl bz8 HZ.out.1 HZ.out.2.1 HZ.out.2.2.1 ?_; rw [HOV.out]))
        refine bodyPost_ret (results_blk rfl _ _ (w.heap.size + 1 + 1) V _ rfl HE.out.1 Try.underlying32 rfl HZ.out.2.1) rfl ?_
        refine ⟨.slice pa pl.length pc, (.slice (some ⟨g7, 0, none⟩) (rs.length + 1) c7), ?_, ⟨?_, ?_⟩, HE.out.2.2.2, NewP.refl _ _⟩
        · rw [HWX.out, HV.out]; skip; rfl
        · rw [HWX.out]; show World.ownsRow _ 0 _ 64 _ A.plate.length (pcs A.plate); rw [HLI.out.1]; exact HE.out.2.1
        · rw [HWX.out]; show World.ownsRow _ 0 _ 65 _ (rs ++ [(⟨s, b⟩ : Rw)]).length (rcs (rs ++ [(⟨s, b⟩ : Rw)])); rw [List.length_append]; exact HE.out.2.2.1

/-- The document's write, whatever comes of its act. -/
theorem write_ref {w : World} {pv rv : Value} {M : Rk} (h : Ref w pv rv M) (i : Int) (b : Bk) (hf : M.fuse ≤ 9223372036854775807) (hl : M.flaw ≤ 9223372036854775807) (hl2 : -1 ≤ M.flaw) (hp8 : M.plate.length ≤ 2048) (hr8 : M.rows.length ≤ 8) (hrs : ∀ r ∈ M.rows, r.s < M.plate.length) :
    Calls Try.prog 32 #[.agg (M.vals pv rv), .int .i64 i, .agg b.cs] w fun e w' => ∃ pv' rv', e = .returned (.tuple #[.agg ((writeR M i b).1.vals pv' rv'), .int .i64 (writeR M i b).2]) ∧ Ref w' pv' rv' (writeR M i b).1 ∧ Below w.heap.size w w' ∧ NewP w pv pv' := by
  by_cases he : (actM M i true).2 = 0
  · obtain ⟨s, rfl⟩ := Int.eq_ofNat_of_zero_le (actM_in he).1
    have h2 : (writeR M (s : Int) b).2 = 0 := by
      unfold writeR
      rw [if_neg (by rw [he]; simp)]
      cases M.rows.findIdx? (fun r => r.s == (s : Int).toNat) with
      | some k => rfl
      | none =>
        simp only
        split <;> rfl
    rw [h2]
    exact write_ref_done h s b hf hl hl2 hp8 hr8 hrs he
  · have h2 : writeR M i b = actM M i true := by unfold writeR; rw [if_pos he]
    rw [h2]
    refine (write_ref_fails h i b hf hl hl2 he).mono ?_
    rintro e w' ⟨h3, h4, h5⟩
    exact ⟨pv, rv, h3, h4, h5, NewP.refl _ _⟩
end Go.Proofs.Ytaikgngigaohmaa
