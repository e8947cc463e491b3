/-
  The contract of disk's Crash. Nothing here is a statement of the document.
-/
import Derived.Test.YtkfpkolgikpcpaaDskF
namespace Go.Proofs.Ytkfpkolgikpcpaa
open Go.RowKit Go.Shelf
set_option linter.unusedVariables false

/-- At this address these bools lie. -/
def Bools (w : World) (a : Option Addr) (ks : List Bool) : Prop := ks = [] ∨ ∃ b off, a = some ⟨b, off, none⟩ ∧ b < w.heap.size ∧ ∀ i, i < ks.length → w.cell? ⟨b, off + i, none⟩ = some (.bool (ks.getD i false))

def crashF (D : Dk) (ks : List Bool) (l : List (Nat × Rw)) : Dk := l.foldl (fun D x => if ks.getD x.1 false = true then downM D x.2 else D) D
theorem crashF_snoc (D : Dk) (ks : List Bool) (l : List (Nat × Rw)) (x : Nat × Rw) : crashF D ks (l ++ [x]) = if ks.getD x.1 false = true then downM (crashF D ks l) x.2 else crashF D ks l := by simp [crashF]
theorem crashF_len (D : Dk) (ks : List Bool) (l : List (Nat × Rw)) : (crashF D ks l).plate.length = D.plate.length := by
  induction l generalizing D with
  | nil => rfl
  | cons x l ih =>
    refine (ih _).trans ?_
    dsimp only
    split <;> simp [downM]
def resetM (D : Dk) : Dk := { D with rows := [], fuse := none, flaw := none, dead := false }
def crashM (D : Dk) (ks : List Bool) : Dk := resetM (crashF D ks ((upTo D.rows D.rows.length).map (·.1)))
theorem reset_ok {D : Dk} (h : D.Ok) : (resetM D).Ok := ⟨h.pos, h.max, by simp [resetM], by simp [resetM], by simp [resetM], by simp [resetM], by simp [resetM]⟩

theorem Dsk.reset {W W' : World} {B p pb : Nat} {bv : Value} {D : Dk} (h : Dsk W B p pb bv D) (hk : Kept [p] W W') (hc : Blk W' p 102 (dcs pb (.slice none 0 0) (resetM D))) : Dsk W' B p pb (.slice none 0 0) (resetM D) :=
  ⟨hc, h.plate.kept hk (by simpa using h.ne.symm), World.ownsRow_nil _ _ _ _, h.hp, h.hpb, reset_ok h.ok⟩

set_option maxHeartbeats 400000 in
theorem crash_nil (k : Value) (a : Option Addr) (len cap : Nat) (hk : k = .slice a len cap) (w : World) : Calls Try.prog 28 #[.pointer none, k] w fun e w' => e = .returned (.int .i64 1) ∧ Below w.heap.size w w' := by
  subst hk
  refine calls_of_wp_marks Try.func28 rfl ?_
  simp only [Try.ntmps28, List.size_toArray, List.length_cons, List.length_nil, Nat.reduceAdd, Nat.reduceSub, Array.replicate_succ, Array.replicate_zero, List.push_toArray, List.append_toArray, List.nil_append, List.cons_append]
  obtain ⟨W1, hW1⟩ : ∃ W1, (w.alloc (.cells #[.pointer none] 37)).alloc (.cells #[.slice a len cap] 46) = W1 := ⟨_, rfl⟩
  have hb : Below w.heap.size w W1 := by rw [← hW1]; exact ((Below.refl _ _).alloc (Nat.le_refl _) _).alloc (by simp) _
  have b0 : Blk W1 w.heap.size 37 #[.pointer none] := by rw [← hW1]; exact (Blk.new w _ _).alloc _
  have c0 := b0.cell 0
  clear b0
  go_wp2
  refine ⟨_, ?_, rfl, hb⟩
  simp [results, Try.results28, go_sem]

attribute [local go_sem] Oper.semAt_some

set_option maxRecDepth 100000 in
set_option maxHeartbeats 2000000 in
theorem crash_any2 {w : World} {B p pb : Nat} {bv : Value} {D : Dk} (h : Dsk w B p pb bv D) (a : Option Addr) (cap : Nat) (ks : List Bool) (hks : Bools w a ks) (hka : ks ≠ [] → ∀ b off, a = some ⟨b, off, none⟩ → b ∉ fp p pb bv) (hkl : ks.length ≤ 9223372036854775807) :
    Calls Try.prog 28 #[.pointer (some ⟨p, 0, none⟩), .slice a ks.length cap] w fun e w' => e = .returned (.int .i64 0) ∧ Dsk w' B p pb (.slice none 0 0) (crashM D ks) ∧ Goes w w' p pb bv (.slice none 0 0) := by
  obtain ⟨W1, hW1⟩ : ∃ W1, (w.alloc (.cells #[.pointer (some ⟨p, 0, none⟩)] 37)).alloc (.cells #[.slice a ks.length cap] 46) = W1 := ⟨_, rfl⟩
  have hb : Below w.heap.size w W1 := by rw [← hW1]; exact ((Below.refl _ _).alloc (Nat.le_refl _) _).alloc (by simp) _
  have b1 : Blk W1 w.heap.size 37 #[.pointer (some ⟨p, 0, none⟩)] := by rw [← hW1]; exact (Blk.new w _ _).alloc _
  have b2 : Blk W1 (w.heap.size + 1) 46 #[.slice a ks.length cap] := by
    rw [← hW1]
    have := Blk.new (w.alloc (.cells #[.pointer (some ⟨p, 0, none⟩)] 37)) 46 #[.slice a ks.length cap]
    rwa [World.size_alloc] at this
  have hs1 : W1.heap.size = w.heap.size + 2 := by rw [← hW1]; simp
  have h1 := h.later hb
  have hlp := h.lt
  have hlb := h.plate.lt
  have hfar0 := h.far
  have HFar0 := Lib.hid hfar0
  have HS1 := Lib.hid hs1
  have c0 := b1.cell 0
  have HKS := Lib.hid hks
  have HKA := Lib.hid hka
  generalize hnl : ks.length = len at *
  have HNL := Lib.hid hnl
  clear hfar0 hs1 hks hka hnl
  refine calls_of_wp_marks Try.func28 rfl ?_
  simp only [Try.ntmps28, List.size_toArray, List.length_cons, List.length_nil, Nat.reduceAdd, Nat.reduceSub, Array.replicate_succ, Array.replicate_zero, List.push_toArray, List.append_toArray, List.nil_append, List.cons_append]
  go_wp2_with fail
  clear hW1
  refine (rows_some _ _).mono ?_
  rintro e W0 ⟨rfl, b3, hk3, hs3⟩
  have b1' := b1.kept hk3 (by simp)
  have b2' := b2.kept hk3 (by simp)
  have h3 := h1.apart hk3 (by simp)
  have hk0 : Kept [pb] w W0 := ((Kept.of_below [] hb).trans hk3).more (by simp)
  have hsw : w.heap.size + 3 = W0.heap.size := by have := HS1.out; omega
  have HSW := Lib.hid hsw
  clear h1 hb hk3 b1 b2 hs3 hsw c0
  go_wp2_with fail
  refine wp_range_rows h3 (b3.cell 0) rfl
    (fun pre W => (Blk W w.heap.size 37 #[.pointer (some ⟨p, 0, none⟩)] ∧ Blk W (w.heap.size + 1) 46 #[.slice a len cap] ∧ Dsk W B p pb bv (crashF D ks (pre.map (·.1)))) ∧ Kept [pb] w W)
    (fun _ _ _ => False)
    ?hI ?hIx ⟨⟨b1', b2', h3⟩, hk0⟩
    (fun x a' W => ∃ Bx, Blk W Bx 108 x.1.2.cs ∧ a' = { tmps := #[.pointer (some ⟨p, 0, none⟩), .slice a len cap, .pointer (some ⟨w.heap.size, 0, none⟩), .pointer (some ⟨w.heap.size + 1, 0, none⟩), .int .i64 0, .int .i64 (x.1.1 : Int), .pointer (some ⟨Bx, 0, none⟩), .pointer (some ⟨p, 0, none⟩), .bool false, .pointer (some ⟨p, 0, none⟩), .func (.func 70) #[] #[.pointer (some ⟨W1.heap.size, 0, none⟩)], .int .i64 (x.1.1 : Int), .agg x.1.2.cs, undef, undef, undef, undef, undef, undef, undef, undef, undef, undef, undef, undef, undef, undef, undef, undef, undef, undef, undef, undef, undef, undef, undef, undef, undef, undef, undef], defers := [] })
    ?hAx ?assign ?body ?done ?stop
  case hI => exact OwnFrom.and (OwnFrom.and (own_blk _ _ _ _) (OwnFrom.and (own_blk _ _ _ _) (own_dsk _ _ _ _ _ (fun (s : List (RowAt D.rows)) => crashF D ks (s.map (·.1)))))) (own_kept _ (by have := HSW.out; omega))
  case hIx => exact fun c s X Y row hs hg hr => hs
  case hAx => exact fun x a' s X Y row hs hg hr => by obtain ⟨Bx, e1, e2⟩ := hs; exact ⟨Bx, own_blk (β := Unit) _ _ _ (fun _ => x.1.2.cs) () X Y row e1 hg hr, e2⟩
  case assign =>
    intro l pre x W K hi2 hK
    have hz : Rw.zero.cs.size = x.1.2.cs.size := by rw [Rw.size, Rw.size]
    have HZ := Lib.hid hz
    clear hz
    gi_wp2_with (first | (with_reducible refine wpListIn_alloc_z rfl 108 rfl Rw.zero.cs 65 z_row ?_) | (with_reducible refine wpListIn_store_new rfl 108 (.tmp 6) (.tmp 12) rfl x.1.2.cs Rw.zero.cs _ rfl rfl HZ.out (s_row _) (Rw.one _) ?_))
    have hB : Below W.heap.size W (W.alloc (.cells x.1.2.cs 108)) := (Below.refl _ _).alloc (Nat.le_refl _) _
    exact hK _ _ ((KeepsOthers.alloc _ _).from _) (SameBuf.kept (Kept.of_below [] hB) (fun k hk => ⟨(hi2.1.2.2.far k hk).2.2.2, by simp⟩)) ⟨⟨hi2.1.1.alloc _, hi2.1.2.1.alloc _, hi2.1.2.2.alloc _⟩, hi2.2.alloc _⟩ ⟨_, Blk.new _ _ _, rfl⟩
  case body =>
    rintro l pre x a' W hl hr ⟨⟨d1, d2, dD⟩, dk⟩ ⟨Bx, dx, rfl⟩ hlen
    have cp : W.cell? ⟨w.heap.size, 0, none⟩ = some (.pointer (some ⟨p, 0, none⟩)) := d1.cell 0
    have ck : W.cell? ⟨w.heap.size + 1, 0, none⟩ = some (.slice a len cap) := d2.cell 0
    have esn : crashF D ks ((pre ++ [x]).map (·.1)) = if ks.getD x.1.1 false = true then downM (crashF D ks (pre.map (·.1))) x.1.2 else crashF D ks (pre.map (·.1)) := by rw [List.map_append]; exact crashF_snoc _ _ _ _
    have skip : ¬ ks.getD x.1.1 false = true → crashF D ks (pre.map (·.1)) = crashF D ks ((pre ++ [x]).map (·.1)) := fun h9 => by rw [esn, if_neg h9]
    have ESN := Lib.hid esn
    have SK := Lib.hid skip
    clear esn skip hr
    by_cases hlt : x.1.1 < len
    · have hlt1 : decide ((x.1.1 : Int) < (len : Int)) = true := by simp; exact hlt
      have hlt2 : (x.1.1 : Int) < (len : Int) := by omega
      rcases HKS.out with h9 | ⟨b, off, ha, hbl, hcell⟩
      · have := HNL.out; rw [h9] at this; simp at this; omega
      · subst ha
        have hbn := HKA.out (fun h9 => by have := HNL.out; rw [h9] at this; simp at this; omega) b off rfl
        have cb : W.cell? ⟨b, off + x.1.1, none⟩ = some (.bool (ks.getD x.1.1 false)) := (World.cell?_of_block (dk.block b hbl (fun hm => hbn (by simp [fp]; exact .inr (.inl (by simpa using hm)))))).trans (hcell _ (by have := HNL.out; omega))
        by_cases hk9 : ks.getD x.1.1 false = true
        · rw [hk9] at cb
          have e4 := ESN.out
          rw [if_pos hk9] at e4
          have hat : x.1.2.s < (crashF D ks (pre.map (·.1))).plate.length := by
            rw [crashF_len]
            exact h.ok.at_ _ (List.mem_of_getElem? x.2)
          have h00 : ∀ j, j < x.1.2.cs.size → x.1.2.cs[0 + j]? = x.1.2.cs[j]? := fun j _ => by rw [Nat.zero_add]
          have H0 := Lib.hid h00
          have E4 := Lib.hid e4
          clear h00 e4 hk9 hcell
          gi_wp2_with (first | (with_reducible refine wpListIn_load_blk rfl 108 (.tmp 6) rfl Bx 0 rfl x.1.2.cs x.1.2.cs _ dx H0.out _ Try.underlying108 rfl (s_row _) ?_))
          refine ⟨trivial, ?_⟩
          refine (CallsIn.inRound l (callsIn_wide.2 (down_any dD x.1.2 hat))).mono ?_
          rintro e2 W3 ⟨rfl, hD3, hk3⟩
          have d1' := d1.kept hk3 (by simp; omega)
          have d2' := d2.kept hk3 (by simp; omega)
          have dk' := dk.trans hk3
          have hkf : KeepsFrom W0.heap.size W W3 := KeepsFrom.kept hk3 (by simp; have := HSW.out; omega)
          have hsb : SameBuf bv W W3 := SameBuf.kept hk3 (fun k hk => ⟨(dD.far k hk).2.2.2, by simpa using (dD.far k hk).2.1⟩)
          rw [← E4.out] at hD3
          clear cp ck cb dD dk d1 d2 dx hk3
          gi_wp2
          exact ⟨hkf, hsb, ⟨d1', d2', hD3⟩, dk'⟩
        · have hk8 : ks.getD x.1.1 false = false := by simpa using hk9
          rw [hk8] at cb
          have e4 := SK.out hk9
          have E4 := Lib.hid e4
          clear e4 hk9 hk8 hcell
          gi_wp2
          exact ⟨KeepsFrom.refl _ _, SameBuf.refl _ _, ⟨d1, d2, E4.out ▸ dD⟩, dk⟩
    · have hlt1 : decide ((x.1.1 : Int) < (len : Int)) = false := by simp; omega
      have hlt3 : ¬ (x.1.1 : Int) < (len : Int) := by omega
      have e4 := SK.out (by
        have := HNL.out
        simp [List.getElem?_eq_none (show ks.length ≤ x.1.1 by omega)])
      have E4 := Lib.hid e4
      clear e4
      gi_wp2
      exact ⟨KeepsFrom.refl _ _, SameBuf.refl _ _, ⟨d1, d2, E4.out ▸ dD⟩, dk⟩
  case done =>
    rintro d W hd ⟨⟨d1, d2, dD⟩, dk⟩ hdef
    have cp : W.cell? ⟨w.heap.size, 0, none⟩ = some (.pointer (some ⟨p, 0, none⟩)) := d1.cell 0
    have c1 := dD.c1
    have c2 := dD.c2
    have c3 := dD.c3
    have c4 := dD.c4
    have c5 := dD.c5
    have c6 := dD.c6
    have f1 := dD.cells.free 1
    have f2 := dD.cells.free 2
    have f3 := dD.cells.free 3
    have f4 := dD.cells.free 4
    have f5 := dD.cells.free 5
    have f6 := dD.cells.free 6
    obtain ⟨Wf, hWf⟩ : ∃ Wf, (((((W.setCell ⟨p, 1, none⟩ (.slice none 0 0)).setCell ⟨p, 2, none⟩ (.bool false)).setCell ⟨p, 3, none⟩ (.int .i64 0)).setCell ⟨p, 4, none⟩ (.bool false)).setCell ⟨p, 5, none⟩ (.int .i64 0)).setCell ⟨p, 6, none⟩ (.bool false) = Wf := ⟨_, rfl⟩
    have hkf : Kept [p] W Wf := by
      rw [← hWf]
      exact ((((((Kept.refl _ _).setCell (.inl (by simp)) _).setCell (.inl (by simp)) _).setCell (.inl (by simp)) _).setCell (.inl (by simp)) _).setCell (.inl (by simp)) _).setCell (.inl (by simp)) _
    have hbf : Blk Wf p 102 (dcs pb (.slice none 0 0) (crashM D ks)) := by
      have h9 := (((((dD.cells.set 1 (.slice none 0 0)).set 2 (.bool false)).set 3 (.int .i64 0)).set 4 (.bool false)).set 5 (.int .i64 0)).set 6 (.bool false)
      rw [hWf] at h9
      have e9 : ((((((dcs pb bv (crashF D ks (List.map (fun x => x.1) (upTo D.rows D.rows.length)))).setIfInBounds 1 (.slice none 0 0)).setIfInBounds 2 (.bool false)).setIfInBounds 3 (.int .i64 0)).setIfInBounds 4 (.bool false)).setIfInBounds 5 (.int .i64 0)).setIfInBounds 6 (.bool false) = dcs pb (.slice none 0 0) (crashM D ks) := by
        simp [dcs, crashM, resetM, cdB, cdI]
      rw [← e9]; exact h9
    have hfin := dD.reset hkf hbf
    have hgo : Goes w Wf p pb bv (.slice none 0 0) := ⟨(dk.more (by simp [fp])).trans (hkf.more (by simp [fp])), fun k hk => by simp [Value.ownBlock] at hk⟩
    have hdef2 : Wf.heap[d]? = some (.deferred (some [])) := hkf.blk hdef (by simp; have := HSW.out; omega)
    have hwd : w.heap.size ≤ d := by have := HSW.out; omega
    have HFin := Lib.hid hfin
    have HD2 := Lib.hid hdef2
    generalize hcf : crashF D ks (List.map (fun x => x.1) (upTo D.rows D.rows.length)) = DF at *
    have HWf := Lib.hid hWf
    have HCF := Lib.hid hcf
    clear dD d1 d2 h h3 b1' b2' b3 hkf hbf hfin hdef2 hdef dk hcf hWf
    go_wp2
    refine wp_region_noPanic ?_
    go_region
    refine NoPanic.normal ?_
    clear c1 c2 c3 c4 c5 c6 f1 f2 f3 f4 f5 f6
    rw [HWf.out]
    go_wp2
    refine marks_ret (show Wf.drew.heap[d]? = _ from HD2.out) (by simp [results, Try.results28, go_sem]) ⟨rfl, ?_, ?_⟩
    · rw [show crashM D ks = resetM DF from by rw [← HCF.out]; rfl]
      exact dsk_put HFin.out.drew (show Wf.drew.heap[d]? = _ from HD2.out) rfl
    · exact ⟨put_kept hgo.kept.drew (show Wf.drew.heap[d]? = _ from HD2.out) hwd, hgo.new⟩
  case stop => rintro d c k W hd hk2 hF hdef; exact hF.elim
theorem crash_any {w : World} {B p pb : Nat} {bv : Value} {D : Dk} (h : Dsk w B p pb bv D) (a : Option Addr) (cap : Nat) (ks : List Bool) (hks : Bools w a ks) (hka : ∀ b off, a = some ⟨b, off, none⟩ → b ∉ fp p pb bv) (hkl : ks.length ≤ 9223372036854775807) :
    Calls Try.prog 28 #[.pointer (some ⟨p, 0, none⟩), .slice a ks.length cap] w fun e w' => e = .returned (.int .i64 0) ∧ Dsk w' B p pb (.slice none 0 0) (crashM D ks) ∧ Goes w w' p pb bv (.slice none 0 0) :=
  crash_any2 h a cap ks hks (fun _ => hka) hkl
end Go.Proofs.Ytkfpkolgikpcpaa
