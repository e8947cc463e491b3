/-
  The walk of ArenaDoes: op by op both arenas agree. Nothing here is a statement of the document.
-/
import Derived.Test.YtgnpoehcmlmajaaRgA
import Derived.Test.YtgnpoehcmlmajaaRfZ
import Derived.Deep.DeepCutAuto
import Derived.Deep.CutBlock
namespace Go.Proofs.Ytgnpoehcmlmajaa
open Go.RowKit Go.Shelf
set_option linter.unusedVariables false
theorem place_200 (a : Int) : ∃ k : Nat, k < 200 ∧ (IntKind.u64.wrap a).tmod 200 = (k : Int) ∧ IntKind.u64.wrap a % 200 = (k : Int) := by
  have hw : 0 ≤ IntKind.u64.wrap a := by rw [IntKind.wrap_u64]; exact Int.emod_nonneg _ (by decide)
  generalize IntKind.u64.wrap a = t at *
  refine ⟨(t % 200).toNat, by omega, ?_, by omega⟩
  rw [Int.tmod_eq_emod_of_nonneg hw]; omega
theorem acell_lt {w : World} {a : Addr} {v : Value} (h : w.cell? a = some v) : a.block < w.heap.size := by
  refine Nat.lt_of_not_le fun h9 => ?_
  have : w.heap[a.block]? = none := Array.getElem?_eq_none h9
  simp [World.cell?, this] at h
/-- A new arena, as the document has it. -/
def Mo.new (N : Nat) : Mo := ⟨N, [], fun _ => [], 0, 0, 0, 0, 0⟩
theorem pur_new {N : Nat} (h : 64 ≤ N) : Pur (newWs N) (List.replicate N false) (Mo.new N) := by
  have g := fun i (h0 : i ≠ 0) (h1 : i ≠ 15) => newWs_get h h0 h1
  have t : ∀ k, k ≠ 0 → k < 14 → twoN (newWs N) k = 0 := fun k h0 h1 => by unfold twoN; rw [g k h0 (by omega), g (k + 1) (by omega) (by omega)]
  refine ⟨inv_new h, nice_new h, ⟨(newWs_len N).symm, fun b hb => by simp [Mo.new] at hb, (t 1 (by omega) (by omega)).symm, (t 3 (by omega) (by omega)).symm, ?_, ?_, (t 7 (by omega) (by omega)).symm⟩⟩
  · show (0 : Int) = _; rw [g 5 (by omega) (by omega)]; rfl
  · show (0 : Int) = _; rw [g 6 (by omega) (by omega)]; rfl
theorem rfa_new (w : World) (lo : Nat) {N : Nat} (h : N ≤ 16384) : Rfa w lo (.slice none 0 0) (fun _ => .slice none 0 0) [] (Mo.new N) :=
  ⟨World.ownsRow_nil _ _ _ _, rfl, fun k b v hb => by simp [Mo.new] at hb, fun i j v v' hi => by simp at hi, fun b hb => by simp [Mo.new] at hb, fun i j b b' hi => by simp [Mo.new] at hi, fun c _ => Ints.nil _ _ _ _ (fun _ => rfl), Nat.zero_le _, fun c _ => Nat.zero_le _, h⟩
/-- Both arenas, the document's in its box. -/
def Pair2 (w0 W : World) (g p q m7 : Nat) : Prop := ∃ lo ws bs bv ls vs M, Agr W g p q lo ws bs bv ls vs M ∧ Blk W m7 36 (Mo.vals M bv ls) ∧ g < m7 ∧ p < m7 ∧ q < m7 ∧ Below w0.heap.size w0 W
theorem Agr.later {w W : World} {g p q lo : Nat} {ws : List Nat} {bs : List Bool} {bv : Value} {ls : Nat → Value} {vs : List Value} {M : Mo} (h : Agr w g p q lo ws bs bv ls vs M) (k : Below w.heap.size w W) : Agr W g p q lo ws bs bv ls vs M :=
  ⟨h.ar.later k, h.pur, h.rf.later k, h.hg, h.hp, h.hq, Nat.le_trans h.hl k.size⟩
theorem Pair2.later {w0 w W : World} {g p q m7 : Nat} (h : Pair2 w0 w g p q m7) (k : Below w.heap.size w W) : Pair2 w0 W g p q m7 := by
  obtain ⟨lo, ws, bs, bv, ls, vs, M, hag, hbx, h1, h2, h3, hb⟩ := h
  exact ⟨lo, ws, bs, bv, ls, vs, M, hag.later k, hbx.kept (Kept.of_below [] k) (by simp), h1, h2, h3, bel_later hb k⟩
/-- An op is done: the document's arena goes back into its box. -/
theorem Pair2.step {w0 w W : World} {g p q m7 lo : Nat} {C : Array Value} {v : Value} (hbx : Blk w m7 36 C) (hC : C.size = 13) (hg : g < m7) (hp : p < m7) (hq : q < m7) (hb : Below w0.heap.size w0 w) (hw : w0.heap.size ≤ p ∧ w0.heap.size ≤ q ∧ w0.heap.size ≤ m7) (hd : Don w W g p q lo v) :
    ∃ V', v = .agg V' ∧ (storeSem 36 (.pointer (some ⟨m7, 0, none⟩)) (.agg V')).run Try.prog W = .ok () (W.setRow m7 V') ∧ Blk (W.setRow m7 V') m7 36 V' ∧ V'.size = 13 ∧ (∃ lo' ws' bs' bv' ls' vs' M', V' = Mo.vals M' bv' ls' ∧ Agr (W.setRow m7 V') g p q lo' ws' bs' bv' ls' vs' M') ∧ Pair2 w0 (W.setRow m7 V') g p q m7 := by
  obtain ⟨ws', bs', M', bv', ls', vs', lo', rfl, hag, hlo, hk⟩ := hd
  have hbw := hbx.kept hk (by simp; omega)
  have hkr : Kept [m7] W (W.setRow m7 (M'.vals bv' ls')) := (Kept.refl _ _).setRow (.inl (by simp)) _
  have hag' : Agr (W.setRow m7 (M'.vals bv' ls')) g p q lo' ws' bs' bv' ls' vs' M' := ⟨hag.ar.kept hkr (by simp; omega) (by simp; omega) (by simp; omega), hag.pur, hag.rf.farR hbw _, hag.hg, hag.hp, hag.hq, by simpa using hag.hl⟩
  have hbb : Below w0.heap.size w0 (W.setRow m7 (M'.vals bv' ls')) := below_setRow (hb.trans (hk.below (by simp; omega) hb.size)) hw.2.2 _
  exact ⟨_, rfl, sra hbw hC rfl hag.rf.vals_one, hbw.row _, rfl, ⟨lo', ws', bs', bv', ls', vs', M', rfl, hag'⟩, ⟨lo', ws', bs', bv', ls', vs', M', hag', hbw.row _, hg, hp, hq, hbb⟩⟩
theorem store_op_rule (v x : Value) : Instr.storeAt 38 v x = storeSem 38 v x := rfl
theorem sto_new (w : World) (o : OpM) : (storeSem 38 (.pointer (some ⟨w.heap.size, 0, none⟩)) (.agg o.cs)).run Try.prog (w.alloc (.cells #[.int .i64 0, .int .i64 0, .int .i64 0, .int .i64 0, .int .i64 0, .int .u64 0, .bool false] 38)) = .ok () (w.alloc (.cells o.cs 38)) := by
  have := storeRes_of (P := Try.prog) (ty := 38) (o := 0) (vs := o.cs) (Blk.new w 38 #[.int .i64 0, .int .i64 0, .int .i64 0, .int .i64 0, .int .i64 0, .int .u64 0, .bool false]) (by simp [OpM.cs]) s_op (by simp [OpM.cs, Value.oneCell'])
  rwa [over_all (by simp [OpM.cs]), World.setRow_alloc_new] at this
section
attribute [local go_sem ↓] load_ra_rule store_ra_rule load_op_rule store_op_rule
set_option maxRecDepth 100000 in
set_option maxHeartbeats 8000000 in
theorem adoes_walk (n : Int) (a : Option Addr) (cap : Nat) (l : List OpM) (w : World) (h : Ops w a l) (hl : l.length ≤ 9223372036854775807) :
    Calls Try.prog 3 #[.int .i64 n, .slice a l.length cap] w fun e w' => e = .returned (.bool true) ∧ Below w.heap.size w w' := by
  obtain ⟨m, hm, hm1, hm2⟩ := place_200 n
  obtain ⟨N, hN⟩ : ∃ N, 64 + m = N := ⟨_, rfl⟩
  have hN1 : (64 : Int) + (m : Int) = (N : Int) := by omega
  have hN2 : 64 ≤ N := by omega
  have hN3 : N ≤ 300 := by omega
  have HL := Lib.hid h
  clear h
  go_enter Try.func3, Try.ntmps3
  go_wp2_with fail
  refine (wakes6_any w).mono ?_
  rintro e W1 ⟨rfl, hb1⟩
  have H1 := Lib.hid hb1
  clear hb1
  go_wp2_with fail
  refine (new_yes N hN2 (by omega) W1).mono ?_
  rintro e W2 ⟨rfl, hA2, hb2⟩
  have hbw : Below w.heap.size w W2 := bel_later H1.out hb2
  have hpw : ∀ k ∈ [W1.heap.size, W1.heap.size + 1], w.heap.size ≤ k := by have := H1.out.size; simp; omega
  obtain ⟨g, hg⟩ : ∃ g, W1.heap.size + 2 = g := ⟨_, rfl⟩
  obtain ⟨p, hp⟩ : ∃ p, W1.heap.size = p := ⟨_, rfl⟩
  obtain ⟨q, hq⟩ : ∃ q, W1.heap.size + 1 = q := ⟨_, rfl⟩
  rw [hg, hq, hp] at hA2
  rw [hq, hp] at hpw
  rw [hg]
  clear hg hp hq H1 hb2
  have hst := sra_new W2 (V := (Mo.new N).vals (.slice none 0 0) (fun _ => .slice none 0 0)) rfl (rfa_new W2 W2.heap.size (by omega)).vals_one
  have hst' : (storeSem 36 (.pointer (some ⟨W2.heap.size, 0, none⟩)) (.agg #[.int .i64 (N : Int), .slice none 0 0, .slice none 0 0, .slice none 0 0, .slice none 0 0, .slice none 0 0, .slice none 0 0, .slice none 0 0, .int .u64 0, .int .u64 0, .int .i64 0, .int .i64 0, .int .u64 0])).run Try.prog (W2.alloc (.cells #[.int .i64 0, .slice none 0 0, .slice none 0 0, .slice none 0 0, .slice none 0 0, .slice none 0 0, .slice none 0 0, .slice none 0 0, .int .u64 0, .int .u64 0, .int .i64 0, .int .i64 0, .int .u64 0] 36)) = .ok () (W2.alloc (.cells ((Mo.new N).vals (.slice none 0 0) (fun _ => .slice none 0 0)) 36)) := hst
  obtain ⟨W3, hW3⟩ : ∃ W3, W2.alloc (.cells ((Mo.new N).vals (.slice none 0 0) (fun _ => .slice none 0 0)) 36) = W3 := ⟨_, rfl⟩
  have kb3 : Below W2.heap.size W2 W3 := by rw [← hW3]; exact (Below.refl _ _).alloc (Nat.le_refl _) _
  have b3 : Blk W3 W2.heap.size 36 ((Mo.new N).vals (.slice none 0 0) (fun _ => .slice none 0 0)) := by rw [← hW3]; exact Blk.new _ _ _
  rw [hW3] at hst'
  obtain ⟨m7, hm7⟩ : ∃ m7, W2.heap.size = m7 := ⟨_, rfl⟩
  have hT : Pair2 w W3 g p q m7 := by
    have h1 := hA2.box.lt
    have h2 := hA2.wds.lt
    have h3 := hA2.bgs.lt
    rw [hm7] at b3 h1 h2 h3
    exact ⟨m7, _, _, _, _, _, _, ⟨hA2.later kb3, pur_new hN2, rfa_new W3 m7 (by omega), h1, h2, h3, by rw [← hm7]; exact kb3.size⟩, b3, h1, h2, h3, bel_later hbw kb3⟩
  have HT := Lib.hid hT
  have HPW := Lib.hid hpw
  have HM7 := Lib.hid (show w.heap.size ≤ m7 by rw [← hm7]; exact hbw.size)
  rw [hm7] at hst'
  clear hst kb3 b3 hT hpw hA2 hbw hW3 hm hm1 hm2 hN
  go_upto_block 0 with (fail)
  clear hst' hm7 hN1
  go_cut [] from 8 (fun wc => Pair2 w wc g p q m7)
  case first =>
    go_wp2_with fail
    go_loopw [33] (fun i wr => ∃ k : Nat, k ≤ l.length ∧ i = .int .i64 k ∧ Pair2 w wr g p q m7) (fun i _ => l.length - (intOf i).toNat)
    case atStart => exact ⟨0, Nat.zero_le _, rfl, HT.out⟩
    case round =>
      obtain ⟨k, hk, rfl, lo, ws, bs, bv, ls, vs, M, hag, hbx, hg7, hp7, hq7, hbb⟩ := hrel
      clear HT
      by_cases hlt : k < l.length
      · obtain ⟨y, hy⟩ : ∃ y, l[k]? = some y := ⟨_, List.getElem?_eq_getElem hlt⟩
        obtain ⟨b0, o0, rfl, hc, ho⟩ := HL.out.at hy
        have hcc : ∀ j, j < 7 → wr.cell? ⟨b0, o0 + k * 7 + j, none⟩ = (y.cs)[j]? := by
          intro j hj
          have h9 := hc j hj
          rw [← h9]
          have h8 : ∃ v, w.cell? ⟨b0, o0 + k * 7 + j, none⟩ = some v := by
            rw [h9]
            have : j < y.cs.size := by simp [OpM.cs]; omega
            exact ⟨_, Array.getElem?_eq_getElem this⟩
          obtain ⟨v, hv⟩ := h8
          exact hbb.cell (p := ⟨b0, o0 + k * 7 + j, none⟩) (acell_lt hv)
        have hlo := run_loadAt_mid (P := Try.prog) wr b0 (o0 + k * 7) 38 y.cs.toList _ (fun j u hj => by
          have hl7 : j < 7 := (List.getElem?_eq_some_iff.1 hj).1
          rw [hcc j hl7]; simpa using hj) Try.underlying38 rfl (by exact s_op)
        have hlo' : (loadSem 38 (.pointer (some ⟨b0, o0 + k * 7, none⟩))).run Try.prog wr = .ok (.agg y.cs) wr := hlo
        have hsn := sto_new wr y
        obtain ⟨W5, hW5⟩ : ∃ W5, wr.alloc (.cells y.cs 38) = W5 := ⟨_, rfl⟩
        have kb5 : Below wr.heap.size wr W5 := by rw [← hW5]; exact (Below.refl _ _).alloc (Nat.le_refl _) _
        have bo5 : Blk W5 wr.heap.size 38 y.cs := by rw [← hW5]; exact Blk.new _ _ _
        rw [hW5] at hsn
        have hag5 := hag.later kb5
        have hb5 := hbx.kept (Kept.of_below [] kb5) (by simp)
        have hl9 := ld_op bo5
        have hl7 := lra hb5 rfl
        have hdo := does_any hag5 y ho
        have HP5 := Lib.hid (show Pair2 w W5 g p q m7 from ⟨lo, ws, bs, bv, ls, vs, M, hag5, hb5, hg7, hp7, hq7, bel_later hbb kb5⟩)
        have HQ5 := Lib.hid (And.intro hb5 (bel_later hbb kb5))
        have hki : (k : Int) < (l.length : Int) := by omega
        clear hag hbx hbb hc hcc hlo kb5 bo5 hag5 hb5 hy ho hW5
        obtain ⟨VO, hVO⟩ : ∃ VO, y.cs = VO := ⟨_, rfl⟩
        rw [hVO] at hlo' hsn hl9 hdo
        clear hVO
        obtain ⟨V, hV⟩ : ∃ V, M.vals bv ls = V := ⟨_, rfl⟩
        have HV := Lib.hid hV
        rw [hV] at hl7 hdo
        clear hV
        by_cases h40 : k = 40
        · subst h40
          clear hdo hl7 hl9
          go_wp2_with fail
          go_meet
          exact HP5.out
        · have h40i : ¬ (k : Int) = 40 := by omega
          have d40 : ((k : Int) == 40) = false := by simp; omega
          go_wp2_with fail
          refine hdo.mono ?_
          rintro e W6 ⟨v, rfl, hdn⟩
          obtain ⟨V', rfl, hs7, hb7, h13, ⟨lo', ws', bs', bv', ls', vs', M', hVe, hag7⟩, hp2⟩ := Pair2.step (w0 := w) HQ5.out.1 rfl hg7 hp7 hq7 HQ5.out.2 ⟨HPW.out _ (by simp), HPW.out _ (by simp), HM7.out⟩ hdn
          have hl7' := lra hb7 h13
          have hgr := agrees_any hag7
          rw [← hVe] at hgr
          have HR := Lib.hid hp2
          clear hdo hdn hb7 h13 hVe hag7 hp2 hl9 hl7 hsn hlo'
          obtain ⟨W7, hW7⟩ : ∃ W7, W6.setRow m7 V' = W7 := ⟨_, rfl⟩
          rw [hW7] at hs7 hl7' hgr HR
          clear hW7
          go_wp2_with fail
          refine hgr.mono ?_
          rintro e W8 ⟨rfl, hb8⟩
          have HX := Lib.hid (HR.out.later hb8)
          clear hgr hb8 hs7 hl7'
          go_wp2_with fail
          go_roundw
          case rel => exact ⟨k + 1, by omega, by go_num, HX.out⟩
          case measure => simp [intOf]; omega
      · have HX := Lib.hid (show Pair2 w wr g p q m7 from ⟨lo, ws, bs, bv, ls, vs, M, hag, hbx, hg7, hp7, hq7, hbb⟩)
        clear hag hbx hbb
        go_wp2_with fail
        go_meet
        exact HX.out
  case rest =>
    obtain ⟨lo, ws, bs, bv, ls, vs, M, hag, hbx, _, _, _, hbb⟩ := hcut
    have hl7 := lra hbx rfl
    have hgr := agrees_any hag
    have HC := Lib.hid hbb
    clear hag hbx hbb HT
    generalize M.vals bv ls = V at *
    go_wp2_with fail
    refine hgr.mono ?_
    rintro e W9 ⟨rfl, hb9⟩
    have HZ := Lib.hid (bel_later HC.out hb9)
    clear hgr hb9
    go_wp2_with fail
    go_ret
    exact ⟨rfl, HZ.out⟩
end
end Go.Proofs.Ytgnpoehcmlmajaa
