/-
  A range over a function, whichever: what a round may turn, and the rule for such a range. Nothing here is a statement of the document.
-/
import Derived.Test.YtelpihlifdfgoaaOctC
import Derived.StillTailTactics
import Derived.Deep.RegionHeld3
import Derived.Test.YtelpihlifdfgoaaWalA
namespace Go.Proofs.Ytelpihlifdfgoaa
open Go.RowKit Go.Shelf
set_option linter.unusedVariables false

def downsM (D : Dk) (l : List Rw) : Dk := l.foldl downM D
theorem downsM_snoc (D : Dk) (l : List Rw) (r : Rw) : downsM D (l ++ [r]) = downM (downsM D l) r := by simp [downsM]
theorem downsM_len (D : Dk) (l : List Rw) : (downsM D l).plate.length = D.plate.length := by
  induction l generalizing D with
  | nil => rfl
  | cons r l ih => exact (ih (downM D r)).trans (by simp [downM])
theorem downsM_rows (D : Dk) (l : List Rw) : (downsM D l).rows = D.rows := by
  induction l generalizing D with
  | nil => rfl
  | cons r l ih => exact ih (downM D r)
def drainM (D : Dk) (n : Nat) : Dk := { downsM D (D.rows.take n) with rows := D.rows.drop n }

theorem Dsk.rebuf {W W2 : World} {B p pb : Nat} {bv bv' : Value} {D : Dk} {S : List Nat} {R' : List Rw} (h : Dsk W B p pb bv D) (k : Kept S W W2) (hS : ∀ i ∈ S, i ≠ p ∧ i ≠ pb) (o : W2.ownsRow B 83 65 bv' R'.length (rcs R')) (ok : ({ D with rows := R' } : Dk).Ok) :
    Dsk (W2.setCell ⟨p, 1, none⟩ bv') B p pb bv' { D with rows := R' } := by
  have hc : Blk W2 p 75 (dcs pb bv D) := h.cells.kept k (fun hm => (hS p hm).1 rfl)
  have hp : Blk W2 pb 81 (pcs D.plate).toArray := h.plate.kept k (fun hm => (hS pb hm).2 rfl)
  refine ⟨?_, hp.far (p := ⟨p, 1, none⟩) h.ne.symm _, ?_, h.hp, h.hpb, ok⟩
  · have := hc.set 1 bv'
    have e : (dcs pb bv D).setIfInBounds 1 bv' = dcs pb bv' { D with rows := R' } := by simp [dcs]
    rw [e] at this
    exact this
  · refine o.kept (row := some p) ⟨rfl, rfl, rfl, by simp [World.setCell], fun i _ hi => Below.heap_setCell _ _ _ _ (fun e => hi (by rw [e]))⟩ ?_
    rcases o.2 with ⟨rfl, _⟩ | ⟨g, cap, cur, rfl, _, hg, _⟩
    · exact .inl rfl
    · refine .inr (fun e => ?_)
      obtain rfl : g = p := by simpa [Value.ownBlock] using e
      exact (show Blk W2 g _ cur from hg).ne hc (by decide) rfl
theorem ok_rows {D : Dk} (h : D.Ok) {R' : List Rw} (hs : R'.Sublist D.rows) : ({ D with rows := R' } : Dk).Ok :=
  ⟨h.pos, h.max, Nat.le_trans hs.length_le h.held, fun r hr => h.at_ r (hs.subset hr), h.once.sublist (hs.map _), h.fuse, h.flaw⟩
theorem downsM_ok {D : Dk} (h : D.Ok) (l : List Rw) : (downsM D l).Ok := by
  induction l generalizing D with
  | nil => exact h
  | cons r l ih => exact ih (downM_ok h r)

theorem Kept.of_drew {S : List Nat} {a b : World} (h : Kept S a.drew b) : Kept S a b := ⟨h.os, h.tape, h.output, h.size, h.block⟩
theorem delete_buf {w : World} {B : Nat} {bv : Value} {R : List Rw} {n : Nat} (h : w.ownsRow B 83 65 bv R.length (rcs R)) (hn : n ≤ R.length) (h8 : R.length ≤ 8) :
    Calls Try.prog 91 #[bv, .int .i64 0, .int .i64 (n : Int)] w fun e w' =>
      ∃ a c, e = .returned (.slice a (R.length - n) c) ∧ w'.ownsRow B 83 65 (.slice a (R.length - n) c) (R.length - n) (rcs (R.drop n)) ∧ Kept bv.ownBlock.toList w w' ∧ (Value.slice a (R.length - n) c).ownBlock = bv.ownBlock := by
  rcases Nat.eq_zero_or_pos n with rfl | h0
  · rcases h.2 with ⟨rfl, hl⟩ | ⟨g, cap, cur, rfl, _, _, hle, hm, _⟩
    · refine (delete_none none 0 0 (by omega) (by omega) w).mono ?_
      rintro e w' ⟨rfl, rfl⟩
      have e0 : R = [] := List.eq_nil_of_length_eq_zero hl
      subst e0
      exact ⟨none, 0, rfl, h, Kept.refl _ _, rfl⟩
    · refine (delete_none (some ⟨g, 0, none⟩) R.length cap hle (by unfold maxLen at hm; omega) w).mono ?_
      rintro e w' ⟨rfl, rfl⟩
      exact ⟨_, cap, rfl, h, Kept.refl _ _, rfl⟩
  · rcases h.2 with ⟨rfl, hl⟩ | ⟨g, cap, cur, rfl, _⟩
    · omega
    · refine (delete_head h rfl h0 hn h8).mono ?_
      rintro e w' ⟨rfl, ho, hk⟩
      exact ⟨_, cap, rfl, ho, hk, rfl⟩

theorem marks_end {fn : Func} {R : Ending → World → Prop} {tmps : Array Value} {w : World} {d : Nat} {v : Value} (hd : w.heap[d]? = some (.deferred (some []))) (hr : (results fn tmps).run Try.prog (w.putObj d (.deferred none)) = .ok v (w.putObj d (.deferred none))) (h : R (.returned v) (w.putObj d (.deferred none))) :
    bodyPostM Fence.wide 10 Try.prog fn R .normal { tmps := tmps, defers := [{ target := .collected d, args := #[] }] } w := marks_ret hd hr h
theorem dsk_put {w : World} {B p pb d : Nat} {bv : Value} {D : Dk} {o o' : Obj} (h : Dsk w B p pb bv D) (hd : w.heap[d]? = some o) (hc : o.isCells = false) : Dsk (w.putObj d o') B p pb bv D :=
  own_dsk (β := Unit) 0 B p pb bv (fun _ => D) () _ _ (some d) h (grownBy_putObj' w d o') (fun r e => by cases e; exact ⟨Nat.zero_le _, o, hd, hc⟩)

attribute [local go_sem] Oper.semAt_some
attribute [local go_sem ↓] load_blk_rule store_blk_rule load_row_rule store_row_rule

set_option maxRecDepth 100000 in
set_option maxHeartbeats 400000 in
theorem drain_any {w : World} {B p pb : Nat} {bv : Value} {D : Dk} (h : Dsk w B p pb bv D) (n : Nat) (hn : n ≤ D.rows.length) :
    Calls Try.prog 79 #[.pointer (some ⟨p, 0, none⟩), .int .i64 (n : Int), .func (.func 35) #[.pointer (some ⟨p, 0, none⟩)] #[]] w fun e w' =>
      e = .returned (.tuple #[]) ∧ ∃ bv', Dsk w' B p pb bv' (drainM D n) ∧ Goes w w' p pb bv bv' := by
  obtain ⟨f, hf⟩ : ∃ f, f = Value.func (.func 35) #[.pointer (some ⟨p, 0, none⟩)] #[] := ⟨_, rfl⟩
  have b1 := Blk.new w 3 #[.int .i64 (n : Int)]
  have b2 := Blk.new (w.alloc (.cells #[.int .i64 (n : Int)] 3)) 84 #[f]
  have hk := ((Kept.refl [pb] w).alloc (.cells #[.int .i64 (n : Int)] 3)).alloc (.cells #[f] 84)
  have h2 := (h.alloc (.cells #[.int .i64 (n : Int)] 3)).alloc (.cells #[f] 84)
  have hsz : ((w.alloc (.cells #[.int .i64 (n : Int)] 3)).alloc (.cells #[f] 84)).heap.size = w.heap.size + 2 := by simp
  have b1 := b1.alloc (.cells #[f] 84)
  rw [hf] at b1 b2 hk h2 hsz
  refine calls_of_wp_marks Try.func79 rfl ?_
  simp only [Try.ntmps79, List.size_toArray, List.length_cons, List.length_nil, Nat.reduceAdd, Nat.reduceSub, Array.replicate_succ, Array.replicate_zero, List.push_toArray, List.append_toArray, List.nil_append, List.cons_append]
  have HF := Lib.hid hf
  clear hf
  go_wp2_with fail
  refine (rows_some _ _).mono ?_
  rintro e W0 ⟨rfl, b3, hk3, hs3⟩
  rw [World.size_alloc] at b2
  rw [hsz] at b3 hs3
  have b1 := b1.kept hk3 (by simp)
  have b2 := b2.kept hk3 (by simp)
  have h3 := h2.apart hk3 (by simp)
  have hk0 := hk.trans (hk3.more (by simp))
  clear h2 hk hsz hk3
  have hlt := h.plate.lt
  have hlp := h.lt
  have hfar0 := h.far
  have HFar0 := Lib.hid hfar0
  clear hfar0
  rw [← HF.out] at b2
  go_wp2_with fail
  refine wp_range_rows h3 (b3.cell 0) rfl
    (fun pre W => ((∀ x ∈ pre, x.1.1 ≠ n) ∧ Blk W w.heap.size 3 #[.int .i64 (n : Int)] ∧ Blk W (w.heap.size + 1) 84 #[f] ∧ Dsk W B p pb bv (downsM D (pre.map (·.1.2)))) ∧ Kept [pb] w W)
    (fun c pre W => (c = .exit 0 ∧ ∃ ini x, pre = ini ++ [x] ∧ x.1.1 = n ∧ Blk W w.heap.size 3 #[.int .i64 (n : Int)] ∧ Dsk W B p pb bv (downsM D (ini.map (·.1.2)))) ∧ Kept [pb] w W)
    ?hI ?hIx ⟨⟨by simp, b1, b2, h3⟩, hk0⟩
    (fun x a' W => ∃ Bx, Blk W Bx 83 x.1.2.cs ∧ a' = { tmps := #[.pointer (some ⟨p, 0, none⟩), .int .i64 (n : Int), .func (.func 35) #[.pointer (some ⟨p, 0, none⟩)] #[], undef, .pointer (some ⟨w.heap.size, 0, none⟩), .pointer (some ⟨w.heap.size + 1, 0, none⟩), .int .i64 (x.1.1 : Int), .pointer (some ⟨Bx, 0, none⟩), .pointer (some ⟨p, 0, none⟩), .func (.func 53) #[] #[.pointer (some ⟨w.heap.size + 2, 0, none⟩)], .int .i64 (x.1.1 : Int), .agg x.1.2.cs, undef, undef, undef, undef, undef, undef, undef, undef, undef, undef, undef, undef, undef, undef, undef], defers := [] })
    ?hAx ?assign ?body ?done ?stop
  case hI => exact OwnFrom.and (OwnFrom.and (ownFrom_pure _ _) (OwnFrom.and (own_blk _ _ _ _) (OwnFrom.and (own_blk _ _ _ _) (own_dsk _ _ _ _ _ (fun (s : List (RowAt D.rows)) => downsM D (s.map (·.1.2))))))) (own_kept _ (by omega))
  case hIx => exact fun c => OwnFrom.and (fun s X Y row hs hg hr => by obtain ⟨hc, ini, x, e1, e2, e3, e4⟩ := hs; exact ⟨hc, ini, x, e1, e2, own_blk (β := Unit) _ _ _ (fun _ => #[.int .i64 (n : Int)]) () X Y row e3 hg hr, own_dsk (β := Unit) _ _ _ _ _ (fun _ => downsM D (ini.map (·.1.2))) () X Y row e4 hg hr⟩) (own_kept _ (by omega))
  case hAx => exact fun x a' s X Y row hs hg hr => by obtain ⟨Bx, e1, e2⟩ := hs; exact ⟨Bx, own_blk (β := Unit) _ _ _ (fun _ => x.1.2.cs) () X Y row e1 hg hr, e2⟩
  case assign =>
    intro l pre x W K hi2 hK
    have hz : Rw.zero.cs.size = x.1.2.cs.size := by rw [Rw.size, Rw.size]
    have HZ := Lib.hid hz
    clear hz
    gi_wp2_with (first | (with_reducible refine wpListIn_alloc_z rfl 83 rfl Rw.zero.cs 65 z_row ?_) | (with_reducible refine wpListIn_store_new rfl 83 (.tmp 7) (.tmp 11) rfl x.1.2.cs Rw.zero.cs _ rfl rfl HZ.out (s_row _) (Rw.one _) ?_))
    have hB : Below W.heap.size W (W.alloc (.cells x.1.2.cs 83)) := (Below.refl _ _).alloc (Nat.le_refl _) _
    exact hK _ _ ((KeepsOthers.alloc _ _).from _) (SameBuf.kept (Kept.of_below [] hB) (fun k hk => ⟨(hi2.1.2.2.2.far k hk).2.2.2, by simp⟩)) ⟨⟨hi2.1.1, hi2.1.2.1.alloc _, hi2.1.2.2.1.alloc _, hi2.1.2.2.2.alloc _⟩, hi2.2.alloc _⟩ ⟨_, Blk.new _ _ _, rfl⟩
  case body =>
    rintro l pre x a' W hl hr ⟨⟨hp, d1, d2, dD⟩, dk⟩ ⟨Bx, dx, rfl⟩ hlen
    have cn : W.cell? ⟨w.heap.size, 0, none⟩ = some (.int .i64 (n : Int)) := d1.cell 0
    have cf : W.cell? ⟨w.heap.size + 1, 0, none⟩ = some f := d2.cell 0
    rw [HF.out] at cf
    by_cases e : x.1.1 = n
    · have hb : ((x.1.1 : Int) == (n : Int)) = true := by simp [e]
      have E := Lib.hid e
      clear e hr
      gi_wp2
      exact ⟨KeepsFrom.refl _ _, ⟨rfl, pre, x, rfl, E.out, d1, dD⟩, dk⟩
    · have hb : ((x.1.1 : Int) == (n : Int)) = false := by rw [beq_eq_false_iff_ne]; omega
      have E := Lib.hid e
      have h00 : ∀ j, j < x.1.2.cs.size → x.1.2.cs[0 + j]? = x.1.2.cs[j]? := fun j _ => by rw [Nat.zero_add]
      have H0 := Lib.hid h00
      have hat : x.1.2.s < (downsM D (pre.map (·.1.2))).plate.length := by
        rw [downsM_len]
        exact h.ok.at_ _ (List.mem_of_getElem? x.2)
      clear e h00 hr
      gi_wp2_with (first | (with_reducible refine wpListIn_load_blk rfl 83 (.tmp 7) rfl Bx 0 rfl x.1.2.cs x.1.2.cs _ dx H0.out _ Try.underlying83 rfl (s_row _) ?_))
      refine ⟨trivial, ?_⟩
      refine (CallsIn.inRound l (callsIn_wide.2 (down_any dD x.1.2 hat))).mono ?_
      rintro e2 W3 ⟨rfl, hD3, hk3⟩
      have e4 : downsM D ((pre ++ [x]).map (·.1.2)) = downM (downsM D (pre.map (·.1.2))) x.1.2 := by rw [List.map_append]; exact downsM_snoc _ _ _
      have d1' := d1.kept hk3 (by simp; omega)
      have d2' := d2.kept hk3 (by simp; omega)
      have dk' := dk.trans hk3
      have hkf : KeepsFrom W0.heap.size W W3 := KeepsFrom.kept hk3 (by simp; omega)
      have hsb : SameBuf bv W W3 := SameBuf.kept hk3 (fun k hk => ⟨(dD.far k hk).2.2.2, by simpa using (dD.far k hk).2.1⟩)
      rw [← e4] at hD3
      clear e4 cn cf dD dk d1 d2 dx hk3
      gi_wp2
      exact ⟨hkf, hsb, ⟨fun y hy => (List.mem_append.1 hy).elim (hp y) (fun e2 => by simp at e2; subst e2; exact E.out), d1', d2', hD3⟩, dk'⟩
  case done =>
    rintro d W hd ⟨⟨hp, d1, d2, dD⟩, dk⟩ hdef
    have en : n = D.rows.length := by
      rcases Nat.lt_or_ge n D.rows.length with h9 | h9
      · exact absurd rfl (hp (rowAt D.rows ⟨n, h9⟩) (List.mem_map.2 ⟨⟨n, h9⟩, by rw [List.take_of_length_le (by simp)]; exact List.mem_finRange _, rfl⟩))
      · omega
    rw [upTo_rows (Nat.le_refl _), ← en] at dD
    clear hp d2 en
    have hrows : (downsM D (D.rows.take n)).rows = D.rows := downsM_rows _ _
    have hcs := dD.cells
    have c1 := dD.c1
    have cn : W.cell? ⟨w.heap.size, 0, none⟩ = some (.int .i64 (n : Int)) := d1.cell 0
    have hcall := delete_buf (w := W.drew) (R := D.rows) (n := n) (by have := dD.buf; rw [hrows] at this; exact this) hn h.ok.held
    have hfar := dD.far
    have HD := Lib.hid dD
    have HR := Lib.hid hrows
    have HFar := Lib.hid hfar
    have hbox : ¬ bv.ownBlock = some w.heap.size := fun e => by have := (h.far _ e).2.2.2; omega
    have HBox := Lib.hid hbox
    clear dD hrows h3 b1 b2 b3 h hfar hbox
    generalize hD1 : downsM D (D.rows.take n) = D1 at *
    have HD1 := Lib.hid hD1
    clear hD1
    go_wp2_with fail
    refine wp_region_noPanic ?_
    go_region_with (first | (go_at_call 91; refine hcall.mono ?_; rintro e W2 ⟨a2, c2, rfl, hown, hkd, hob⟩; have HO := Lib.hid hob; clear hob; have hb2 := hcs.kept (hkd.of_drew) (by intro hm; exact (HFar.out p (by simpa using hm)).1 rfl); have c12 : W2.cell? ⟨p, 1, none⟩ = some bv := hb2.cell 1; have f12 := hb2.free 1))
    all_goals
      have hfin := HD.out.rebuf hkd.of_drew (R' := D.rows.drop n) (fun i hi => ⟨(HFar.out i (by simpa using hi)).1, (HFar.out i (by simpa using hi)).2.1⟩) (by rw [List.length_drop]; exact hown) (ok_rows HD.out.ok (by rw [HR.out]; exact List.drop_sublist _ _))
      have hkk : Goes w (W2.setCell ⟨p, 1, none⟩ (.slice a2 (D.rows.length - n) c2)) p pb bv (.slice a2 (D.rows.length - n) c2) :=
        ⟨((dk.more (by simp [fp])).trans (hkd.of_drew.more (by simp [fp]; intro a ha; exact .inr (.inr ha)))).setCell (.inl (by simp [fp])) _, fun k hk => .inl (by rw [← hk, HO.out])⟩
      have hdef2 : (W2.setCell ⟨p, 1, none⟩ (.slice a2 (D.rows.length - n) c2)).heap[d]? = some (.deferred (some [])) :=
        (Below.heap_setCell _ _ _ _ (by show d ≠ p; omega)).trans (hkd.of_drew.blk hdef (by
          intro hm
          have := (HFar0.out d (by simpa using hm)).2.2.2
          omega))
      refine NoPanic.normal (marks_end hdef2 (results_none rfl _ _ _) ⟨rfl, .slice a2 (D.rows.length - n) c2, ?_, ?_⟩)
      · rw [show drainM D n = { D1 with rows := D.rows.drop n } from by rw [← HD1.out]; rfl]
        exact dsk_put hfin hdef2 rfl
      · exact ⟨put_kept hkk.kept hdef2 (by omega), hkk.new⟩
  case stop =>
    rintro d c k W hd hk2 ⟨⟨rfl, ini, x, e1, e2, d1, dD⟩, dk⟩ hdef
    have hx : x = rowAt D.rows ⟨k, hk2⟩ ∧ ini = upTo D.rows k := by
      rw [upTo_succ (k := k) (rowAt D.rows ⟨k, hk2⟩) rfl] at e1
      obtain ⟨h1, h2⟩ := List.append_inj' e1 rfl
      have h3 : rowAt D.rows ⟨k, hk2⟩ = x := by simpa using h2
      exact ⟨h3.symm, h1.symm⟩
    obtain ⟨rfl, rfl⟩ := hx
    have en : k = n := e2
    rw [upTo_rows (by omega), en] at dD
    clear e1 e2 en
    have hrows : (downsM D (D.rows.take n)).rows = D.rows := downsM_rows _ _
    have hcs := dD.cells
    have c1 := dD.c1
    have cn : W.cell? ⟨w.heap.size, 0, none⟩ = some (.int .i64 (n : Int)) := d1.cell 0
    have hcall := delete_buf (w := W.drew) (R := D.rows) (n := n) (by have := dD.buf; rw [hrows] at this; exact this) hn h.ok.held
    have hfar := dD.far
    have HD := Lib.hid dD
    have HR := Lib.hid hrows
    have HFar := Lib.hid hfar
    have hbox : ¬ bv.ownBlock = some w.heap.size := fun e => by have := (h.far _ e).2.2.2; omega
    have HBox := Lib.hid hbox
    clear dD hrows h3 b1 b2 b3 h hfar hbox
    generalize hD1 : downsM D (D.rows.take n) = D1 at *
    have HD1 := Lib.hid hD1
    clear hD1
    go_wp2_with fail
    refine wp_region_noPanic ?_
    go_region_with (first | (go_at_call 91; refine hcall.mono ?_; rintro e W2 ⟨a2, c2, rfl, hown, hkd, hob⟩; have HO := Lib.hid hob; clear hob; have hb2 := hcs.kept (hkd.of_drew) (by intro hm; exact (HFar.out p (by simpa using hm)).1 rfl); have c12 : W2.cell? ⟨p, 1, none⟩ = some bv := hb2.cell 1; have f12 := hb2.free 1))
    all_goals
      have hfin := HD.out.rebuf hkd.of_drew (R' := D.rows.drop n) (fun i hi => ⟨(HFar.out i (by simpa using hi)).1, (HFar.out i (by simpa using hi)).2.1⟩) (by rw [List.length_drop]; exact hown) (ok_rows HD.out.ok (by rw [HR.out]; exact List.drop_sublist _ _))
      have hkk : Goes w (W2.setCell ⟨p, 1, none⟩ (.slice a2 (D.rows.length - n) c2)) p pb bv (.slice a2 (D.rows.length - n) c2) :=
        ⟨((dk.more (by simp [fp])).trans (hkd.of_drew.more (by simp [fp]; intro a ha; exact .inr (.inr ha)))).setCell (.inl (by simp [fp])) _, fun k hk => .inl (by rw [← hk, HO.out])⟩
      have hdef2 : (W2.setCell ⟨p, 1, none⟩ (.slice a2 (D.rows.length - n) c2)).heap[d]? = some (.deferred (some [])) :=
        (Below.heap_setCell _ _ _ _ (by show d ≠ p; omega)).trans (hkd.of_drew.blk hdef (by
          intro hm
          have := (HFar0.out d (by simpa using hm)).2.2.2
          omega))
      refine NoPanic.normal (marks_end hdef2 (results_none rfl _ _ _) ⟨rfl, .slice a2 (D.rows.length - n) c2, ?_, ?_⟩)
      · rw [show drainM D n = { D1 with rows := D.rows.drop n } from by rw [← HD1.out]; rfl]
        exact dsk_put hfin hdef2 rfl
      · exact ⟨put_kept hkk.kept hdef2 (by omega), hkk.new⟩
end Go.Proofs.Ytelpihlifdfgoaa
namespace Go.Proofs.Ytelpihlifdfgoaa
open Go.RowKit Go.Shelf
set_option linter.unusedVariables false

/-- At this address these bools lie. -/
def Bools (w : World) (a : Option Addr) (ks : List Bool) : Prop := ks = [] ∨ ∃ b off, a = some ⟨b, off, none⟩ ∧ b < w.heap.size ∧ ∀ i, i < ks.length → w.cell? ⟨b, off + i, none⟩ = some (.bool (ks.getD i false))

def crashF (D : Dk) (ks : List Bool) (l : List (Nat × Rw)) : Dk := l.foldl (fun D x => if ks.getD x.1 false = true then downM D x.2 else D) D
theorem crashF_snoc (D : Dk) (ks : List Bool) (l : List (Nat × Rw)) (x : Nat × Rw) : crashF D ks (l ++ [x]) = if ks.getD x.1 false = true then downM (crashF D ks l) x.2 else crashF D ks l := by simp [crashF]
theorem crashF_len (D : Dk) (ks : List Bool) (l : List (Nat × Rw)) : (crashF D ks l).plate.length = D.plate.length := by
  induction l generalizing D with
  | nil => rfl
  | cons x l ih =>
    refine (ih _).trans ?_
    dsimp only
    split <;> simp [downM]
def resetM (D : Dk) : Dk := { D with rows := [], fuse := none, flaw := none, dead := false }
def crashM (D : Dk) (ks : List Bool) : Dk := resetM (crashF D ks ((upTo D.rows D.rows.length).map (·.1)))
theorem reset_ok {D : Dk} (h : D.Ok) : (resetM D).Ok := ⟨h.pos, h.max, by simp [resetM], by simp [resetM], by simp [resetM], by simp [resetM], by simp [resetM]⟩

theorem Dsk.reset {W W' : World} {B p pb : Nat} {bv : Value} {D : Dk} (h : Dsk W B p pb bv D) (hk : Kept [p] W W') (hc : Blk W' p 75 (dcs pb (.slice none 0 0) (resetM D))) : Dsk W' B p pb (.slice none 0 0) (resetM D) :=
  ⟨hc, h.plate.kept hk (by simpa using h.ne.symm), World.ownsRow_nil _ _ _ _, h.hp, h.hpb, reset_ok h.ok⟩

set_option maxHeartbeats 400000 in
theorem crash_nil (k : Value) (a : Option Addr) (len cap : Nat) (hk : k = .slice a len cap) (w : World) : Calls Try.prog 16 #[.pointer none, k] w fun e w' => e = .returned (.int .i64 1) ∧ Below w.heap.size w w' := by
  subst hk
  refine calls_of_wp_marks Try.func16 rfl ?_
  simp only [Try.ntmps16, List.size_toArray, List.length_cons, List.length_nil, Nat.reduceAdd, Nat.reduceSub, Array.replicate_succ, Array.replicate_zero, List.push_toArray, List.append_toArray, List.nil_append, List.cons_append]
  obtain ⟨W1, hW1⟩ : ∃ W1, (w.alloc (.cells #[.pointer none] 27)).alloc (.cells #[.slice a len cap] 33) = W1 := ⟨_, rfl⟩
  have hb : Below w.heap.size w W1 := by rw [← hW1]; exact ((Below.refl _ _).alloc (Nat.le_refl _) _).alloc (by simp) _
  have b0 : Blk W1 w.heap.size 27 #[.pointer none] := by rw [← hW1]; exact (Blk.new w _ _).alloc _
  have c0 := b0.cell 0
  clear b0
  go_wp2
  refine ⟨_, ?_, rfl, hb⟩
  simp [results, Try.results16, go_sem]

attribute [local go_sem] Oper.semAt_some

set_option maxRecDepth 100000 in
set_option maxHeartbeats 2000000 in
theorem crash_any2 {w : World} {B p pb : Nat} {bv : Value} {D : Dk} (h : Dsk w B p pb bv D) (a : Option Addr) (cap : Nat) (ks : List Bool) (hks : Bools w a ks) (hka : ks ≠ [] → ∀ b off, a = some ⟨b, off, none⟩ → b ∉ fp p pb bv) (hkl : ks.length ≤ 9223372036854775807) :
    Calls Try.prog 16 #[.pointer (some ⟨p, 0, none⟩), .slice a ks.length cap] w fun e w' => e = .returned (.int .i64 0) ∧ Dsk w' B p pb (.slice none 0 0) (crashM D ks) ∧ Goes w w' p pb bv (.slice none 0 0) := by
  obtain ⟨W1, hW1⟩ : ∃ W1, (w.alloc (.cells #[.pointer (some ⟨p, 0, none⟩)] 27)).alloc (.cells #[.slice a ks.length cap] 33) = W1 := ⟨_, rfl⟩
  have hb : Below w.heap.size w W1 := by rw [← hW1]; exact ((Below.refl _ _).alloc (Nat.le_refl _) _).alloc (by simp) _
  have b1 : Blk W1 w.heap.size 27 #[.pointer (some ⟨p, 0, none⟩)] := by rw [← hW1]; exact (Blk.new w _ _).alloc _
  have b2 : Blk W1 (w.heap.size + 1) 33 #[.slice a ks.length cap] := by
    rw [← hW1]
    have := Blk.new (w.alloc (.cells #[.pointer (some ⟨p, 0, none⟩)] 27)) 33 #[.slice a ks.length cap]
    rwa [World.size_alloc] at this
  have hs1 : W1.heap.size = w.heap.size + 2 := by rw [← hW1]; simp
  have h1 := h.later hb
  have hlp := h.lt
  have hlb := h.plate.lt
  have hfar0 := h.far
  have HFar0 := Lib.hid hfar0
  have HS1 := Lib.hid hs1
  have c0 := b1.cell 0
  have HKS := Lib.hid hks
  have HKA := Lib.hid hka
  generalize hnl : ks.length = len at *
  have HNL := Lib.hid hnl
  clear hfar0 hs1 hks hka hnl
  refine calls_of_wp_marks Try.func16 rfl ?_
  simp only [Try.ntmps16, List.size_toArray, List.length_cons, List.length_nil, Nat.reduceAdd, Nat.reduceSub, Array.replicate_succ, Array.replicate_zero, List.push_toArray, List.append_toArray, List.nil_append, List.cons_append]
  go_wp2_with fail
  clear hW1
  refine (rows_some _ _).mono ?_
  rintro e W0 ⟨rfl, b3, hk3, hs3⟩
  have b1' := b1.kept hk3 (by simp)
  have b2' := b2.kept hk3 (by simp)
  have h3 := h1.apart hk3 (by simp)
  have hk0 : Kept [pb] w W0 := ((Kept.of_below [] hb).trans hk3).more (by simp)
  have hsw : w.heap.size + 3 = W0.heap.size := by have := HS1.out; omega
  have HSW := Lib.hid hsw
  clear h1 hb hk3 b1 b2 hs3 hsw c0
  go_wp2_with fail
  refine wp_range_rows h3 (b3.cell 0) rfl
    (fun pre W => (Blk W w.heap.size 27 #[.pointer (some ⟨p, 0, none⟩)] ∧ Blk W (w.heap.size + 1) 33 #[.slice a len cap] ∧ Dsk W B p pb bv (crashF D ks (pre.map (·.1)))) ∧ Kept [pb] w W)
    (fun _ _ _ => False)
    ?hI ?hIx ⟨⟨b1', b2', h3⟩, hk0⟩
    (fun x a' W => ∃ Bx, Blk W Bx 83 x.1.2.cs ∧ a' = { tmps := #[.pointer (some ⟨p, 0, none⟩), .slice a len cap, .pointer (some ⟨w.heap.size, 0, none⟩), .pointer (some ⟨w.heap.size + 1, 0, none⟩), .int .i64 0, .int .i64 (x.1.1 : Int), .pointer (some ⟨Bx, 0, none⟩), .pointer (some ⟨p, 0, none⟩), .bool false, .pointer (some ⟨p, 0, none⟩), .func (.func 53) #[] #[.pointer (some ⟨W1.heap.size, 0, none⟩)], .int .i64 (x.1.1 : Int), .agg x.1.2.cs, undef, undef, undef, undef, undef, undef, undef, undef, undef, undef, undef, undef, undef, undef, undef, undef, undef, undef, undef, undef, undef, undef, undef, undef, undef, undef, undef], defers := [] })
    ?hAx ?assign ?body ?done ?stop
  case hI => exact OwnFrom.and (OwnFrom.and (own_blk _ _ _ _) (OwnFrom.and (own_blk _ _ _ _) (own_dsk _ _ _ _ _ (fun (s : List (RowAt D.rows)) => crashF D ks (s.map (·.1)))))) (own_kept _ (by have := HSW.out; omega))
  case hIx => exact fun c s X Y row hs hg hr => hs
  case hAx => exact fun x a' s X Y row hs hg hr => by obtain ⟨Bx, e1, e2⟩ := hs; exact ⟨Bx, own_blk (β := Unit) _ _ _ (fun _ => x.1.2.cs) () X Y row e1 hg hr, e2⟩
  case assign =>
    intro l pre x W K hi2 hK
    have hz : Rw.zero.cs.size = x.1.2.cs.size := by rw [Rw.size, Rw.size]
    have HZ := Lib.hid hz
    clear hz
    gi_wp2_with (first | (with_reducible refine wpListIn_alloc_z rfl 83 rfl Rw.zero.cs 65 z_row ?_) | (with_reducible refine wpListIn_store_new rfl 83 (.tmp 6) (.tmp 12) rfl x.1.2.cs Rw.zero.cs _ rfl rfl HZ.out (s_row _) (Rw.one _) ?_))
    have hB : Below W.heap.size W (W.alloc (.cells x.1.2.cs 83)) := (Below.refl _ _).alloc (Nat.le_refl _) _
    exact hK _ _ ((KeepsOthers.alloc _ _).from _) (SameBuf.kept (Kept.of_below [] hB) (fun k hk => ⟨(hi2.1.2.2.far k hk).2.2.2, by simp⟩)) ⟨⟨hi2.1.1.alloc _, hi2.1.2.1.alloc _, hi2.1.2.2.alloc _⟩, hi2.2.alloc _⟩ ⟨_, Blk.new _ _ _, rfl⟩
  case body =>
    rintro l pre x a' W hl hr ⟨⟨d1, d2, dD⟩, dk⟩ ⟨Bx, dx, rfl⟩ hlen
    have cp : W.cell? ⟨w.heap.size, 0, none⟩ = some (.pointer (some ⟨p, 0, none⟩)) := d1.cell 0
    have ck : W.cell? ⟨w.heap.size + 1, 0, none⟩ = some (.slice a len cap) := d2.cell 0
    have esn : crashF D ks ((pre ++ [x]).map (·.1)) = if ks.getD x.1.1 false = true then downM (crashF D ks (pre.map (·.1))) x.1.2 else crashF D ks (pre.map (·.1)) := by rw [List.map_append]; exact crashF_snoc _ _ _ _
    have skip : ¬ ks.getD x.1.1 false = true → crashF D ks (pre.map (·.1)) = crashF D ks ((pre ++ [x]).map (·.1)) := fun h9 => by rw [esn, if_neg h9]
    have ESN := Lib.hid esn
    have SK := Lib.hid skip
    clear esn skip hr
    by_cases hlt : x.1.1 < len
    · have hlt1 : decide ((x.1.1 : Int) < (len : Int)) = true := by simp; exact hlt
      have hlt2 : (x.1.1 : Int) < (len : Int) := by omega
      rcases HKS.out with h9 | ⟨b, off, ha, hbl, hcell⟩
      · have := HNL.out; rw [h9] at this; simp at this; omega
      · subst ha
        have hbn := HKA.out (fun h9 => by have := HNL.out; rw [h9] at this; simp at this; omega) b off rfl
        have cb : W.cell? ⟨b, off + x.1.1, none⟩ = some (.bool (ks.getD x.1.1 false)) := (World.cell?_of_block (dk.block b hbl (fun hm => hbn (by simp [fp]; exact .inr (.inl (by simpa using hm)))))).trans (hcell _ (by have := HNL.out; omega))
        by_cases hk9 : ks.getD x.1.1 false = true
        · rw [hk9] at cb
          have e4 := ESN.out
          rw [if_pos hk9] at e4
          have hat : x.1.2.s < (crashF D ks (pre.map (·.1))).plate.length := by
            rw [crashF_len]
            exact h.ok.at_ _ (List.mem_of_getElem? x.2)
          have h00 : ∀ j, j < x.1.2.cs.size → x.1.2.cs[0 + j]? = x.1.2.cs[j]? := fun j _ => by rw [Nat.zero_add]
          have H0 := Lib.hid h00
          have E4 := Lib.hid e4
          clear h00 e4 hk9 hcell
          gi_wp2_with (first | (with_reducible refine wpListIn_load_blk rfl 83 (.tmp 6) rfl Bx 0 rfl x.1.2.cs x.1.2.cs _ dx H0.out _ Try.underlying83 rfl (s_row _) ?_))
          refine ⟨trivial, ?_⟩
          refine (CallsIn.inRound l (callsIn_wide.2 (down_any dD x.1.2 hat))).mono ?_
          rintro e2 W3 ⟨rfl, hD3, hk3⟩
          have d1' := d1.kept hk3 (by simp; omega)
          have d2' := d2.kept hk3 (by simp; omega)
          have dk' := dk.trans hk3
          have hkf : KeepsFrom W0.heap.size W W3 := KeepsFrom.kept hk3 (by simp; have := HSW.out; omega)
          have hsb : SameBuf bv W W3 := SameBuf.kept hk3 (fun k hk => ⟨(dD.far k hk).2.2.2, by simpa using (dD.far k hk).2.1⟩)
          rw [← E4.out] at hD3
          clear cp ck cb dD dk d1 d2 dx hk3
          gi_wp2
          exact ⟨hkf, hsb, ⟨d1', d2', hD3⟩, dk'⟩
        · have hk8 : ks.getD x.1.1 false = false := by simpa using hk9
          rw [hk8] at cb
          have e4 := SK.out hk9
          have E4 := Lib.hid e4
          clear e4 hk9 hk8 hcell
          gi_wp2
          exact ⟨KeepsFrom.refl _ _, SameBuf.refl _ _, ⟨d1, d2, E4.out ▸ dD⟩, dk⟩
    · have hlt1 : decide ((x.1.1 : Int) < (len : Int)) = false := by simp; omega
      have hlt3 : ¬ (x.1.1 : Int) < (len : Int) := by omega
      have e4 := SK.out (by
        have := HNL.out
        simp [List.getElem?_eq_none (show ks.length ≤ x.1.1 by omega)])
      have E4 := Lib.hid e4
      clear e4
      gi_wp2
      exact ⟨KeepsFrom.refl _ _, SameBuf.refl _ _, ⟨d1, d2, E4.out ▸ dD⟩, dk⟩
  case done =>
    rintro d W hd ⟨⟨d1, d2, dD⟩, dk⟩ hdef
    have cp : W.cell? ⟨w.heap.size, 0, none⟩ = some (.pointer (some ⟨p, 0, none⟩)) := d1.cell 0
    have c1 := dD.c1
    have c2 := dD.c2
    have c3 := dD.c3
    have c4 := dD.c4
    have c5 := dD.c5
    have c6 := dD.c6
    have f1 := dD.cells.free 1
    have f2 := dD.cells.free 2
    have f3 := dD.cells.free 3
    have f4 := dD.cells.free 4
    have f5 := dD.cells.free 5
    have f6 := dD.cells.free 6
    obtain ⟨Wf, hWf⟩ : ∃ Wf, (((((W.setCell ⟨p, 1, none⟩ (.slice none 0 0)).setCell ⟨p, 2, none⟩ (.bool false)).setCell ⟨p, 3, none⟩ (.int .i64 0)).setCell ⟨p, 4, none⟩ (.bool false)).setCell ⟨p, 5, none⟩ (.int .i64 0)).setCell ⟨p, 6, none⟩ (.bool false) = Wf := ⟨_, rfl⟩
    have hkf : Kept [p] W Wf := by
      rw [← hWf]
      exact ((((((Kept.refl _ _).setCell (.inl (by simp)) _).setCell (.inl (by simp)) _).setCell (.inl (by simp)) _).setCell (.inl (by simp)) _).setCell (.inl (by simp)) _).setCell (.inl (by simp)) _
    have hbf : Blk Wf p 75 (dcs pb (.slice none 0 0) (crashM D ks)) := by
      have h9 := (((((dD.cells.set 1 (.slice none 0 0)).set 2 (.bool false)).set 3 (.int .i64 0)).set 4 (.bool false)).set 5 (.int .i64 0)).set 6 (.bool false)
      rw [hWf] at h9
      have e9 : ((((((dcs pb bv (crashF D ks (List.map (fun x => x.1) (upTo D.rows D.rows.length)))).setIfInBounds 1 (.slice none 0 0)).setIfInBounds 2 (.bool false)).setIfInBounds 3 (.int .i64 0)).setIfInBounds 4 (.bool false)).setIfInBounds 5 (.int .i64 0)).setIfInBounds 6 (.bool false) = dcs pb (.slice none 0 0) (crashM D ks) := by
        simp [dcs, crashM, resetM, cdB, cdI]
      rw [← e9]; exact h9
    have hfin := dD.reset hkf hbf
    have hgo : Goes w Wf p pb bv (.slice none 0 0) := ⟨(dk.more (by simp [fp])).trans (hkf.more (by simp [fp])), fun k hk => by simp [Value.ownBlock] at hk⟩
    have hdef2 : Wf.heap[d]? = some (.deferred (some [])) := hkf.blk hdef (by simp; have := HSW.out; omega)
    have hwd : w.heap.size ≤ d := by have := HSW.out; omega
    have HFin := Lib.hid hfin
    have HD2 := Lib.hid hdef2
    generalize hcf : crashF D ks (List.map (fun x => x.1) (upTo D.rows D.rows.length)) = DF at *
    have HWf := Lib.hid hWf
    have HCF := Lib.hid hcf
    clear dD d1 d2 h h3 b1' b2' b3 hkf hbf hfin hdef2 hdef dk hcf hWf
    go_wp2
    refine wp_region_noPanic ?_
    go_region
    refine NoPanic.normal ?_
    clear c1 c2 c3 c4 c5 c6 f1 f2 f3 f4 f5 f6
    rw [HWf.out]
    go_wp2
    refine marks_ret (show Wf.drew.heap[d]? = _ from HD2.out) (by simp [results, Try.results16, go_sem]) ⟨rfl, ?_, ?_⟩
    · rw [show crashM D ks = resetM DF from by rw [← HCF.out]; rfl]
      exact dsk_put HFin.out.drew (show Wf.drew.heap[d]? = _ from HD2.out) rfl
    · exact ⟨put_kept hgo.kept.drew (show Wf.drew.heap[d]? = _ from HD2.out) hwd, hgo.new⟩
  case stop => rintro d c k W hd hk2 hF hdef; exact hF.elim
theorem crash_any {w : World} {B p pb : Nat} {bv : Value} {D : Dk} (h : Dsk w B p pb bv D) (a : Option Addr) (cap : Nat) (ks : List Bool) (hks : Bools w a ks) (hka : ∀ b off, a = some ⟨b, off, none⟩ → b ∉ fp p pb bv) (hkl : ks.length ≤ 9223372036854775807) :
    Calls Try.prog 16 #[.pointer (some ⟨p, 0, none⟩), .slice a ks.length cap] w fun e w' => e = .returned (.int .i64 0) ∧ Dsk w' B p pb (.slice none 0 0) (crashM D ks) ∧ Goes w w' p pb bv (.slice none 0 0) :=
  crash_any2 h a cap ks hks (fun _ => hka) hkl
end Go.Proofs.Ytelpihlifdfgoaa
namespace Go.Proofs.Ytelpihlifdfgoaa
open Go.RowKit Go.Shelf
set_option linter.unusedVariables false

/-- It is no row of a disk's buffer. -/
def notRow : Obj → Bool
  | .cells _ t _ => decide (t ≠ 83)
  | _ => true
/-- All lies as it lay, but for these blocks and the rows of a disk's buffer. -/
structure KB (S : List Nat) (W W' : World) : Prop where
  size : W.heap.size ≤ W'.heap.size
  same : ∀ k o, k ∉ S → W.heap[k]? = some o → notRow o = true → W'.heap[k]? = some o
theorem KB.refl (S : List Nat) (W : World) : KB S W W := ⟨Nat.le_refl _, fun _ _ _ h _ => h⟩
theorem KB.trans {S : List Nat} {A B C : World} (h : KB S A B) (k : KB S B C) : KB S A C := ⟨Nat.le_trans h.size k.size, fun i o hi ho hn => k.same i o hi (h.same i o hi ho hn) hn⟩
theorem KB.more {S T : List Nat} {A B : World} (h : KB S A B) (hT : ∀ i ∈ S, i ∈ T) : KB T A B := ⟨h.size, fun i o hi ho hn => h.same i o (fun hm => hi (hT i hm)) ho hn⟩
theorem KB.kept {S : List Nat} {A B : World} (h : Kept S A B) : KB S A B := ⟨h.size, fun i o hi ho _ => (h.block i (Array.getElem?_eq_some_iff.1 ho).1 hi).trans ho⟩
theorem KB.below {S : List Nat} {A B : World} (h : Below A.heap.size A B) : KB S A B := ⟨h.size, fun i o hi ho _ => (h.block i (Array.getElem?_eq_some_iff.1 ho).1).trans ho⟩
theorem KB.put {S : List Nat} {W : World} {l : Nat} (hl : l ∈ S) (o' : Obj) : KB S W (W.putObj l o') :=
  ⟨by simp [World.putObj], fun i o hi ho _ => (World.putObj_heap_other (fun e => hi (by rw [e]; exact hl))).trans ho⟩
theorem KB.blk {S : List Nat} {W W' : World} {g : Nat} {t : TypeId} {cs : Array Value} (h : KB S W W') (b : Blk W g t cs) (hg : g ∉ S) (ht : t ≠ 83) : Blk W' g t cs := h.same g _ hg b (by simpa [notRow] using ht)
theorem KB.from {S : List Nat} {B : Nat} {W W' : World} (h : KB S W W') (hS : ∀ k ∈ S, k < B) : KeepsFrom B W W' :=
  ⟨h.size, fun k o hB hk ho => h.same k o (fun hm => by have := hS k hm; omega) hk (by cases o <;> first | rfl | cases ho)⟩

/-- The yields of a round serve at whatever depth. -/
theorem YieldAt.depth {m m' : Nat} {P : Program} {l : Nat} {args : Array Value} {W : World} {R : Ending → World → Prop} (h : YieldAt Fence.wide m P l args W R) : YieldAt Fence.wide m' P l args W R := by
  obtain ⟨fn, tmps, assign, body, hy, h1, h2⟩ := h
  exact ⟨fn, tmps, assign, body, hy, h1, fun c cs _ => h2 c cs (fun d hd => by cases hd)⟩

/-- Ranged over, this function yields so often, these values; it reads nothing that lies in S. -/
def Tells (gf : FuncId) (lb : Array Value) (S : List Nat) (N : Nat) (enc : Nat → Value × Value) (w : World) : Prop :=
  ∀ (l : Nat) (J Jx : Nat → World → Prop) (W : World), KB S w W → w.heap.size ≤ l → l < W.heap.size → OwnFrom W.heap.size J → OwnFrom W.heap.size Jx →
    (∀ k W1, k < N → J k W1 → YieldAt Fence.wide 8 Try.prog l #[(enc k).1, (enc k).2] W1 fun e W' =>
      KB (l :: S) W1 W' ∧ ((e = .returned (.bool true) ∧ J (k + 1) W') ∨ (e = .returned (.bool false) ∧ Jx k W'))) →
    J 0 W →
    CallsIn Fence.wide 9 Try.prog gf (#[.func (.yield l) #[] #[]] ++ lb) W fun e W' => (∃ v, e = .returned v) ∧ (J N W' ∨ ∃ k, k < N ∧ Jx k W')
theorem Tells.later {gf : FuncId} {lb : Array Value} {S : List Nat} {N : Nat} {enc : Nat → Value × Value} {w w' : World} (h : Tells gf lb S N enc w) (k : KB S w w') : Tells gf lb S N enc w' :=
  fun l J Jx W hW hl => h l J Jx W (k.trans hW) (Nat.le_trans k.size hl)

theorem own_mono {β : Type} {B B' : Nat} {I : β → World → Prop} (h : OwnFrom B I) (hB : B ≤ B') : OwnFrom B' I := fun s W W' row hs hg hr => h s W W' row hs hg (fun r e => ⟨Nat.le_trans hB (hr r e).1, (hr r e).2⟩)
/-- What lies at a block that is no cells', and lies lower, is not touched by what owns from above. -/
theorem own_obj {β : Type} {B k : Nat} {o : Obj} (hk : k < B) : OwnFrom B (fun (_ : β) W => W.heap[k]? = some o) := fun _ X Y row hs hg hr =>
  (hg.block k (Array.getElem?_eq_some_iff.1 hs).1 (fun e => by have := (hr k e.symm).1; omega)).trans hs

theorem not_row_of {o : Obj} (h : o.isCells = false) : notRow o = true := by cases o <;> first | rfl | cases h

/-- The record of such a range. -/
abbrev LpR (fn : FuncId) (tmps : Array Value) (p0 p1 : Tmp) (assign body : Code) (d : Nat) (s : LoopState) (j : Option Code) : Loop := { state := s, pending := j, fn, tmps := tmps, params := #[p0, p1], assign, body, defers := d }

/-- The ways out of a range: by a return, or by an exit. -/
def outC : Option Nat → Code
  | none => .ret
  | some id => .exit id
def outE : Option Nat → Exit
  | none => .ret
  | some id => .exit id
theorem roundPost_out (jump : Option Nat) (l : Nat) (R : Ending → World → Prop) (a : Act) (w : World) (h : ∃ v w', (Instr.endRound l (some (outC jump))).run Try.prog w = .ok v w' ∧ R (.returned v) w') : roundPost Try.prog l R (outE jump) a w := by
  cases jump <;> exact h
theorem wpIn_out (jump : Option Nat) {F : Fence} {n : Nat} {Q : Exit → Act → World → Prop} {a : Act} {w : World} (h : Q (outE jump) a w) : (outC jump).wpIn F n Try.prog Q a w := by
  cases jump
  · exact wpIn_ret h
  · exact wpIn_exit h

set_option maxHeartbeats 1000000 in
/-- A range over such a row, at the outermost; the body goes on, or leaves by one jump. -/
theorem wp_range_row {g : Operand} {p0 p1 : Tmp} {assign body : Code} {Q : Exit → Act → World → Prop} {a : Act} {w : World} {gf : FuncId} {lb : Array Value} {S : List Nat} {N : Nat} {enc : Nat → Value × Value} (jump : Option Nat)
    (hg : a.eval g = .func (.func gf) #[] lb) (eg : ∀ args w, (callFunc gf args).run Try.prog w = .ok (.enter gf args) w) (hseq : Tells gf lb S N enc w) (hS : ∀ k ∈ S, k < w.heap.size)
    (I Ix : Nat → World → Prop) (hI : OwnFrom w.heap.size I) (hIx : OwnFrom w.heap.size Ix) (h0 : I 0 w)
    (Ax : Nat → Act → World → Prop) (hAx : ∀ x a', OwnFrom w.heap.size (fun (_ : Unit) W => Ax x a' W))
    (hassign : ∀ (k : Nat) (W : World) (K : Act → World → Prop), k < N → w.heap.size + 2 ≤ W.heap.size → I k W → (∀ a' W', KB S W W' → I k W' → Ax k a' W' → K a' W') →
      assign.wpIn (Fence.wide.inRound (w.heap.size + 1)) 8 Try.prog (Exit.then K (fun _ _ _ => False)) { tmps := (a.tmps.setIfInBounds p0 (enc k).1).setIfInBounds p1 (enc k).2, defers := [] } W)
    (hbody : ∀ (k : Nat) (a' : Act) (W : World), I k W → Ax k a' W → k < N → w.heap.size + 2 ≤ W.heap.size →
      body.wpIn (Fence.wide.inRound (w.heap.size + 1)) 8 Try.prog (fun e _ W' => KB S W W' ∧ ((e = .normal ∧ I (k + 1) W') ∨ (e = outE jump ∧ Ix k W'))) a' W)
    (hdone : ∀ W, I N W → W.heap[w.heap.size]? = some (.deferred (some [])) → Q .normal { a with defers := { target := .collected w.heap.size, args := #[] } :: a.defers } W)
    (hstop : ∀ k W, k < N → Ix k W → W.heap[w.heap.size]? = some (.deferred (some [])) → Q (outE jump) { a with defers := { target := .collected w.heap.size, args := #[] } :: a.defers } W) :
    (Code.rangeFunc g #[p0, p1] assign body).wp Try.prog Q a w := by
  refine (wpIn_wide (n := 10)).1 (wpIn_rangeFunc fun fn _ => ?_)
  obtain ⟨X, hX⟩ : ∃ X, (w.alloc (.deferred (some []))).alloc (.loop (LpR fn a.tmps p0 p1 assign body w.heap.size .ready none)) = X := ⟨_, rfl⟩
  have hXs : X.heap.size = w.heap.size + 2 := by rw [← hX]; simp
  have hXl : X.heap[w.heap.size + 1]? = some (.loop (LpR fn a.tmps p0 p1 assign body w.heap.size .ready none)) := by
    rw [← hX]; have := World.alloc_heap_new (w.alloc (.deferred (some []))) (.loop (LpR fn a.tmps p0 p1 assign body w.heap.size .ready none)); rwa [World.size_alloc] at this
  have hXd : X.heap[w.heap.size]? = some (.deferred (some [])) := by
    rw [← hX]; exact (Below.heap_alloc _ _ _ (by simp)).trans (World.alloc_heap_new w _)
  have hXk : KB S w X := by rw [← hX]; exact KB.below (((Below.refl _ w).alloc (Nat.le_refl _) _).alloc (by simp) _)
  have hXi : I 0 X := by rw [← hX]; exact hI.alloc _ (hI.alloc _ h0)
  have hdS : w.heap.size ∉ S := fun hm => by have := hS _ hm; omega
  have hlS : w.heap.size + 1 ∉ S := fun hm => by have := hS _ hm; omega
  -- a round's record, turned
  have turn : ∀ (W : World) (s s' : LoopState) (j j' : Option Code), W.heap[w.heap.size + 1]? = some (.loop (LpR fn a.tmps p0 p1 assign body w.heap.size s j)) → W.heap[w.heap.size]? = some (.deferred (some [])) →
      (W.putObj (w.heap.size + 1) (.loop (LpR fn a.tmps p0 p1 assign body w.heap.size s' j'))).heap[w.heap.size + 1]? = some (.loop (LpR fn a.tmps p0 p1 assign body w.heap.size s' j')) ∧ (W.putObj (w.heap.size + 1) (.loop (LpR fn a.tmps p0 p1 assign body w.heap.size s' j'))).heap[w.heap.size]? = some (.deferred (some [])) :=
    fun W s s' j j' h1 h2 => ⟨World.putObj_heap_same (Array.getElem?_eq_some_iff.1 h1).1, (World.putObj_heap_other (by omega)).trans h2⟩
  refine ⟨w.heap.size + 1, [{ target := .collected w.heap.size, args := #[] }], X, { target := .fn (.func gf) lb, args := #[.func (.yield (w.heap.size + 1)) #[] #[]] }, X, gf, #[.func (.yield (w.heap.size + 1)) #[] #[]] ++ lb, X, ?_, ?_, fun _ _ => trivial, ?_, fun h => by simp [Fence.wide] at h, ?_⟩
  · rw [← hX]; exact run_enterLoop_outer _ _ _ _ _
  · simp only [resolve, hg]
    simp [go_sem]
  · simp [invoke, go_sem, eg]
  · refine (hseq (w.heap.size + 1)
      (fun k W => I k W ∧ W.heap[w.heap.size + 1]? = some (.loop (LpR fn a.tmps p0 p1 assign body w.heap.size .ready none)) ∧ W.heap[w.heap.size]? = some (.deferred (some [])))
      (fun k W => Ix k W ∧ W.heap[w.heap.size + 1]? = some (.loop (LpR fn a.tmps p0 p1 assign body w.heap.size .done (some (outC jump)))) ∧ W.heap[w.heap.size]? = some (.deferred (some [])))
      X hXk (by omega) (by omega) (OwnFrom.and (own_mono hI (by omega)) (OwnFrom.and (own_obj (by omega)) (own_obj (by omega)))) (OwnFrom.and (own_mono hIx (by omega)) (OwnFrom.and (own_obj (by omega)) (own_obj (by omega)))) ?_ ⟨hXi, hXl, hXd⟩).mono ?_
    · rintro k W hlen ⟨hi, hl, hd⟩
      have hy := run_yield (P := Try.prog) (args := #[(enc k).1, (enc k).2]) hl rfl
      refine ⟨(LpR fn a.tmps p0 p1 assign body w.heap.size .ready none).fn, _, (LpR fn a.tmps p0 p1 assign body w.heap.size .ready none).assign, (LpR fn a.tmps p0 p1 assign body w.heap.size .ready none).body, hy, roundIn_of_wpIn trivial ?_⟩
      have hz : ((#[p0, p1].zip #[(enc k).1, (enc k).2]).foldl (fun tmps (t, a) => tmps.setIfInBounds t a) a.tmps) = (a.tmps.setIfInBounds p0 (enc k).1).setIfInBounds p1 (enc k).2 := by simp
      rw [hz]
      refine hassign k W _ hlen (by have := (Array.getElem?_eq_some_iff.1 hl).1; omega) hi fun a' Wa hka hia hax => ?_
      have hl2 := hka.same _ _ hlS hl rfl
      have hd2 := hka.same _ _ hdS hd rfl
      have hbg := run_beginRound (P := Try.prog) hl2 rfl
      refine ⟨_, hbg, ?_⟩
      obtain ⟨hl3, hd3⟩ := turn Wa .ready .busy none none hl2 hd2
      have hs3 : w.heap.size + 2 ≤ (Wa.putObj (w.heap.size + 1) (.loop (LpR fn a.tmps p0 p1 assign body w.heap.size .busy none))).heap.size := by have := (Array.getElem?_eq_some_iff.1 hl3).1; omega
      have hk3 : KB ((w.heap.size + 1) :: S) W (Wa.putObj (w.heap.size + 1) (.loop (LpR fn a.tmps p0 p1 assign body w.heap.size .busy none))) := (hka.more (by simp; exact fun i hi => .inr hi)).trans (KB.put (by simp) _)
      refine wpIn_mono (hbody k a' _ (hI.putObj _ hia (by omega) hl2 rfl) ((hAx k a').putObj (s := ()) _ hax (by omega) hl2 rfl) hlen hs3) ?_
      rintro e a3 W3 ⟨hkb, hp⟩
      have hl4 := hkb.same _ _ hlS hl3 rfl
      have hd4 := hkb.same _ _ hdS hd3 rfl
      have hk4 : KB ((w.heap.size + 1) :: S) W W3 := hk3.trans (hkb.more (by simp; exact fun i hi => .inr hi))
      rcases hp with ⟨rfl, hi3⟩ | ⟨rfl, hi3⟩
      · have he := run_endRound (P := Try.prog) none hl4
        obtain ⟨h5, h6⟩ := turn W3 .busy .ready none none hl4 hd4
        refine ⟨_, _, he, hk4.trans (KB.put (by simp) _), .inl ⟨rfl, ?_⟩⟩
        exact ⟨hI.putObj _ hi3 (by omega) hl4 rfl, h5, h6⟩
      · have he := run_endRound (P := Try.prog) (some (outC jump)) hl4
        refine roundPost_out jump _ _ _ _ ⟨_, _, he, ?_⟩
        obtain ⟨h5, h6⟩ := turn W3 .busy .done none (some (outC jump)) hl4 hd4
        refine ⟨hk4.trans (KB.put (by simp) _), .inr ⟨rfl, ?_⟩⟩
        exact ⟨hIx.putObj _ hi3 (by omega) hl4 rfl, h5, h6⟩
    · rintro e W2 ⟨⟨v, rfl⟩, ⟨hi, hl, hd⟩ | ⟨k, hk, hi, hl, hd⟩⟩
      · exact ⟨none, _, run_endLoop (P := Try.prog) hl (by simp), hdone _ (hI.putObj _ hi (by omega) hl rfl) ((World.putObj_heap_other (by omega)).trans hd)⟩
      · exact ⟨some (outC jump), _, run_endLoop (P := Try.prog) hl (by simp), wpIn_out jump (hstop k _ hk (hIx.putObj _ hi (by omega) hl rfl) ((World.putObj_heap_other (by omega)).trans hd))⟩
end Go.Proofs.Ytelpihlifdfgoaa
