/-
  The contract of disk's drain. Nothing here is a statement of the document.
-/
import Derived.Test.YtkfpkolgikpcpaaDskE
import Derived.StillTailTactics
import Derived.Deep.RegionHeld3
namespace Go.Proofs.Ytkfpkolgikpcpaa
open Go.RowKit Go.Shelf
set_option linter.unusedVariables false

def downsM (D : Dk) (l : List Rw) : Dk := l.foldl downM D
theorem downsM_snoc (D : Dk) (l : List Rw) (r : Rw) : downsM D (l ++ [r]) = downM (downsM D l) r := by simp [downsM]
theorem downsM_len (D : Dk) (l : List Rw) : (downsM D l).plate.length = D.plate.length := by
  induction l generalizing D with
  | nil => rfl
  | cons r l ih => exact (ih (downM D r)).trans (by simp [downM])
theorem downsM_rows (D : Dk) (l : List Rw) : (downsM D l).rows = D.rows := by
  induction l generalizing D with
  | nil => rfl
  | cons r l ih => exact ih (downM D r)
def drainM (D : Dk) (n : Nat) : Dk := { downsM D (D.rows.take n) with rows := D.rows.drop n }

theorem Dsk.rebuf {W W2 : World} {B p pb : Nat} {bv bv' : Value} {D : Dk} {S : List Nat} {R' : List Rw} (h : Dsk W B p pb bv D) (k : Kept S W W2) (hS : ∀ i ∈ S, i ≠ p ∧ i ≠ pb) (o : W2.ownsRow B 108 65 bv' R'.length (rcs R')) (ok : ({ D with rows := R' } : Dk).Ok) :
    Dsk (W2.setCell ⟨p, 1, none⟩ bv') B p pb bv' { D with rows := R' } := by
  have hc : Blk W2 p 102 (dcs pb bv D) := h.cells.kept k (fun hm => (hS p hm).1 rfl)
  have hp : Blk W2 pb 77 (pcs D.plate).toArray := h.plate.kept k (fun hm => (hS pb hm).2 rfl)
  refine ⟨?_, hp.far (p := ⟨p, 1, none⟩) h.ne.symm _, ?_, h.hp, h.hpb, ok⟩
  · have := hc.set 1 bv'
    have e : (dcs pb bv D).setIfInBounds 1 bv' = dcs pb bv' { D with rows := R' } := by simp [dcs]
    rw [e] at this
    exact this
  · refine o.kept (row := some p) ⟨rfl, rfl, rfl, by simp [World.setCell], fun i _ hi => Below.heap_setCell _ _ _ _ (fun e => hi (by rw [e]))⟩ ?_
    rcases o.2 with ⟨rfl, _⟩ | ⟨g, cap, cur, rfl, _, hg, _⟩
    · exact .inl rfl
    · refine .inr (fun e => ?_)
      obtain rfl : g = p := by simpa [Value.ownBlock] using e
      exact (show Blk W2 g _ cur from hg).ne hc (by decide) rfl
theorem ok_rows {D : Dk} (h : D.Ok) {R' : List Rw} (hs : R'.Sublist D.rows) : ({ D with rows := R' } : Dk).Ok :=
  ⟨h.pos, h.max, Nat.le_trans hs.length_le h.held, fun r hr => h.at_ r (hs.subset hr), h.once.sublist (hs.map _), h.fuse, h.flaw⟩
theorem downsM_ok {D : Dk} (h : D.Ok) (l : List Rw) : (downsM D l).Ok := by
  induction l generalizing D with
  | nil => exact h
  | cons r l ih => exact ih (downM_ok h r)

theorem Kept.of_drew {S : List Nat} {a b : World} (h : Kept S a.drew b) : Kept S a b := ⟨h.os, h.tape, h.output, h.size, h.block⟩
theorem delete_buf {w : World} {B : Nat} {bv : Value} {R : List Rw} {n : Nat} (h : w.ownsRow B 108 65 bv R.length (rcs R)) (hn : n ≤ R.length) (h8 : R.length ≤ 8) :
    Calls Try.prog 90 #[bv, .int .i64 0, .int .i64 (n : Int)] w fun e w' =>
      ∃ a c, e = .returned (.slice a (R.length - n) c) ∧ w'.ownsRow B 108 65 (.slice a (R.length - n) c) (R.length - n) (rcs (R.drop n)) ∧ Kept bv.ownBlock.toList w w' ∧ (Value.slice a (R.length - n) c).ownBlock = bv.ownBlock := by
  rcases Nat.eq_zero_or_pos n with rfl | h0
  · rcases h.2 with ⟨rfl, hl⟩ | ⟨g, cap, cur, rfl, _, _, hle, hm, _⟩
    · refine (delete_none none 0 0 (by omega) (by omega) w).mono ?_
      rintro e w' ⟨rfl, rfl⟩
      have e0 : R = [] := List.eq_nil_of_length_eq_zero hl
      subst e0
      exact ⟨none, 0, rfl, h, Kept.refl _ _, rfl⟩
    · refine (delete_none (some ⟨g, 0, none⟩) R.length cap hle (by unfold maxLen at hm; omega) w).mono ?_
      rintro e w' ⟨rfl, rfl⟩
      exact ⟨_, cap, rfl, h, Kept.refl _ _, rfl⟩
  · rcases h.2 with ⟨rfl, hl⟩ | ⟨g, cap, cur, rfl, _⟩
    · omega
    · refine (delete_head h rfl h0 hn h8).mono ?_
      rintro e w' ⟨rfl, ho, hk⟩
      exact ⟨_, cap, rfl, ho, hk, rfl⟩

theorem marks_end {fn : Func} {R : Ending → World → Prop} {tmps : Array Value} {w : World} {d : Nat} {v : Value} (hd : w.heap[d]? = some (.deferred (some []))) (hr : (results fn tmps).run Try.prog (w.putObj d (.deferred none)) = .ok v (w.putObj d (.deferred none))) (h : R (.returned v) (w.putObj d (.deferred none))) :
    bodyPostM Fence.wide 10 Try.prog fn R .normal { tmps := tmps, defers := [{ target := .collected d, args := #[] }] } w := marks_ret hd hr h
theorem dsk_put {w : World} {B p pb d : Nat} {bv : Value} {D : Dk} {o o' : Obj} (h : Dsk w B p pb bv D) (hd : w.heap[d]? = some o) (hc : o.isCells = false) : Dsk (w.putObj d o') B p pb bv D :=
  own_dsk (β := Unit) 0 B p pb bv (fun _ => D) () _ _ (some d) h (grownBy_putObj' w d o') (fun r e => by cases e; exact ⟨Nat.zero_le _, o, hd, hc⟩)

attribute [local go_sem] Oper.semAt_some
attribute [local go_sem ↓] load_blk_rule store_blk_rule load_row_rule store_row_rule

set_option maxRecDepth 100000 in
set_option maxHeartbeats 400000 in
theorem drain_any {w : World} {B p pb : Nat} {bv : Value} {D : Dk} (h : Dsk w B p pb bv D) (n : Nat) (hn : n ≤ D.rows.length) :
    Calls Try.prog 76 #[.pointer (some ⟨p, 0, none⟩), .int .i64 (n : Int), .func (.func 53) #[.pointer (some ⟨p, 0, none⟩)] #[]] w fun e w' =>
      e = .returned (.tuple #[]) ∧ ∃ bv', Dsk w' B p pb bv' (drainM D n) ∧ Goes w w' p pb bv bv' := by
  obtain ⟨f, hf⟩ : ∃ f, f = Value.func (.func 53) #[.pointer (some ⟨p, 0, none⟩)] #[] := ⟨_, rfl⟩
  have b1 := Blk.new w 3 #[.int .i64 (n : Int)]
  have b2 := Blk.new (w.alloc (.cells #[.int .i64 (n : Int)] 3)) 109 #[f]
  have hk := ((Kept.refl [pb] w).alloc (.cells #[.int .i64 (n : Int)] 3)).alloc (.cells #[f] 109)
  have h2 := (h.alloc (.cells #[.int .i64 (n : Int)] 3)).alloc (.cells #[f] 109)
  have hsz : ((w.alloc (.cells #[.int .i64 (n : Int)] 3)).alloc (.cells #[f] 109)).heap.size = w.heap.size + 2 := by simp
  have b1 := b1.alloc (.cells #[f] 109)
  rw [hf] at b1 b2 hk h2 hsz
  refine calls_of_wp_marks Try.func76 rfl ?_
  simp only [Try.ntmps76, List.size_toArray, List.length_cons, List.length_nil, Nat.reduceAdd, Nat.reduceSub, Array.replicate_succ, Array.replicate_zero, List.push_toArray, List.append_toArray, List.nil_append, List.cons_append]
  have HF := Lib.hid hf
  clear hf
  go_wp2_with fail
  refine (rows_some _ _).mono ?_
  rintro e W0 ⟨rfl, b3, hk3, hs3⟩
  rw [World.size_alloc] at b2
  rw [hsz] at b3 hs3
  have b1 := b1.kept hk3 (by simp)
  have b2 := b2.kept hk3 (by simp)
  have h3 := h2.apart hk3 (by simp)
  have hk0 := hk.trans (hk3.more (by simp))
  clear h2 hk hsz hk3
  have hlt := h.plate.lt
  have hlp := h.lt
  have hfar0 := h.far
  have HFar0 := Lib.hid hfar0
  clear hfar0
  rw [← HF.out] at b2
  go_wp2_with fail
  refine wp_range_rows h3 (b3.cell 0) rfl
    (fun pre W => ((∀ x ∈ pre, x.1.1 ≠ n) ∧ Blk W w.heap.size 3 #[.int .i64 (n : Int)] ∧ Blk W (w.heap.size + 1) 109 #[f] ∧ Dsk W B p pb bv (downsM D (pre.map (·.1.2)))) ∧ Kept [pb] w W)
    (fun c pre W => (c = .exit 0 ∧ ∃ ini x, pre = ini ++ [x] ∧ x.1.1 = n ∧ Blk W w.heap.size 3 #[.int .i64 (n : Int)] ∧ Dsk W B p pb bv (downsM D (ini.map (·.1.2)))) ∧ Kept [pb] w W)
    ?hI ?hIx ⟨⟨by simp, b1, b2, h3⟩, hk0⟩
    (fun x a' W => ∃ Bx, Blk W Bx 108 x.1.2.cs ∧ a' = { tmps := #[.pointer (some ⟨p, 0, none⟩), .int .i64 (n : Int), .func (.func 53) #[.pointer (some ⟨p, 0, none⟩)] #[], undef, .pointer (some ⟨w.heap.size, 0, none⟩), .pointer (some ⟨w.heap.size + 1, 0, none⟩), .int .i64 (x.1.1 : Int), .pointer (some ⟨Bx, 0, none⟩), .pointer (some ⟨p, 0, none⟩), .func (.func 70) #[] #[.pointer (some ⟨w.heap.size + 2, 0, none⟩)], .int .i64 (x.1.1 : Int), .agg x.1.2.cs, undef, undef, undef, undef, undef, undef, undef, undef, undef, undef, undef, undef, undef, undef, undef], defers := [] })
    ?hAx ?assign ?body ?done ?stop
  case hI => exact OwnFrom.and (OwnFrom.and (ownFrom_pure _ _) (OwnFrom.and (own_blk _ _ _ _) (OwnFrom.and (own_blk _ _ _ _) (own_dsk _ _ _ _ _ (fun (s : List (RowAt D.rows)) => downsM D (s.map (·.1.2))))))) (own_kept _ (by omega))
  case hIx => exact fun c => OwnFrom.and (fun s X Y row hs hg hr => by obtain ⟨hc, ini, x, e1, e2, e3, e4⟩ := hs; exact ⟨hc, ini, x, e1, e2, own_blk (β := Unit) _ _ _ (fun _ => #[.int .i64 (n : Int)]) () X Y row e3 hg hr, own_dsk (β := Unit) _ _ _ _ _ (fun _ => downsM D (ini.map (·.1.2))) () X Y row e4 hg hr⟩) (own_kept _ (by omega))
  case hAx => exact fun x a' s X Y row hs hg hr => by obtain ⟨Bx, e1, e2⟩ := hs; exact ⟨Bx, own_blk (β := Unit) _ _ _ (fun _ => x.1.2.cs) () X Y row e1 hg hr, e2⟩
  case assign =>
    intro l pre x W K hi2 hK
    have hz : Rw.zero.cs.size = x.1.2.cs.size := by rw [Rw.size, Rw.size]
    have HZ := Lib.hid hz
    clear hz
    gi_wp2_with (first | (with_reducible refine wpListIn_alloc_z rfl 108 rfl Rw.zero.cs 65 z_row ?_) | (with_reducible refine wpListIn_store_new rfl 108 (.tmp 7) (.tmp 11) rfl x.1.2.cs Rw.zero.cs _ rfl rfl HZ.out (s_row _) (Rw.one _) ?_))
    have hB : Below W.heap.size W (W.alloc (.cells x.1.2.cs 108)) := (Below.refl _ _).alloc (Nat.le_refl _) _
    exact hK _ _ ((KeepsOthers.alloc _ _).from _) (SameBuf.kept (Kept.of_below [] hB) (fun k hk => ⟨(hi2.1.2.2.2.far k hk).2.2.2, by simp⟩)) ⟨⟨hi2.1.1, hi2.1.2.1.alloc _, hi2.1.2.2.1.alloc _, hi2.1.2.2.2.alloc _⟩, hi2.2.alloc _⟩ ⟨_, Blk.new _ _ _, rfl⟩
  case body =>
    rintro l pre x a' W hl hr ⟨⟨hp, d1, d2, dD⟩, dk⟩ ⟨Bx, dx, rfl⟩ hlen
    have cn : W.cell? ⟨w.heap.size, 0, none⟩ = some (.int .i64 (n : Int)) := d1.cell 0
    have cf : W.cell? ⟨w.heap.size + 1, 0, none⟩ = some f := d2.cell 0
    rw [HF.out] at cf
    by_cases e : x.1.1 = n
    · have hb : ((x.1.1 : Int) == (n : Int)) = true := by simp [e]
      have E := Lib.hid e
      clear e hr
      gi_wp2
      exact ⟨KeepsFrom.refl _ _, ⟨rfl, pre, x, rfl, E.out, d1, dD⟩, dk⟩
    · have hb : ((x.1.1 : Int) == (n : Int)) = false := by rw [beq_eq_false_iff_ne]; omega
      have E := Lib.hid e
      have h00 : ∀ j, j < x.1.2.cs.size → x.1.2.cs[0 + j]? = x.1.2.cs[j]? := fun j _ => by rw [Nat.zero_add]
      have H0 := Lib.hid h00
      have hat : x.1.2.s < (downsM D (pre.map (·.1.2))).plate.length := by
        rw [downsM_len]
        exact h.ok.at_ _ (List.mem_of_getElem? x.2)
      clear e h00 hr
      gi_wp2_with (first | (with_reducible refine wpListIn_load_blk rfl 108 (.tmp 7) rfl Bx 0 rfl x.1.2.cs x.1.2.cs _ dx H0.out _ Try.underlying108 rfl (s_row _) ?_))
      refine ⟨trivial, ?_⟩
      refine (CallsIn.inRound l (callsIn_wide.2 (down_any dD x.1.2 hat))).mono ?_
      rintro e2 W3 ⟨rfl, hD3, hk3⟩
      have e4 : downsM D ((pre ++ [x]).map (·.1.2)) = downM (downsM D (pre.map (·.1.2))) x.1.2 := by rw [List.map_append]; exact downsM_snoc _ _ _
      have d1' := d1.kept hk3 (by simp; omega)
      have d2' := d2.kept hk3 (by simp; omega)
      have dk' := dk.trans hk3
      have hkf : KeepsFrom W0.heap.size W W3 := KeepsFrom.kept hk3 (by simp; omega)
      have hsb : SameBuf bv W W3 := SameBuf.kept hk3 (fun k hk => ⟨(dD.far k hk).2.2.2, by simpa using (dD.far k hk).2.1⟩)
      rw [← e4] at hD3
      clear e4 cn cf dD dk d1 d2 dx hk3
      gi_wp2
      exact ⟨hkf, hsb, ⟨fun y hy => (List.mem_append.1 hy).elim (hp y) (fun e2 => by simp at e2; subst e2; exact E.out), d1', d2', hD3⟩, dk'⟩
  case done =>
    rintro d W hd ⟨⟨hp, d1, d2, dD⟩, dk⟩ hdef
    have en : n = D.rows.length := by
      rcases Nat.lt_or_ge n D.rows.length with h9 | h9
      · exact absurd rfl (hp (rowAt D.rows ⟨n, h9⟩) (List.mem_map.2 ⟨⟨n, h9⟩, by rw [List.take_of_length_le (by simp)]; exact List.mem_finRange _, rfl⟩))
      · omega
    rw [upTo_rows (Nat.le_refl _), ← en] at dD
    clear hp d2 en
    have hrows : (downsM D (D.rows.take n)).rows = D.rows := downsM_rows _ _
    have hcs := dD.cells
    have c1 := dD.c1
    have cn : W.cell? ⟨w.heap.size, 0, none⟩ = some (.int .i64 (n : Int)) := d1.cell 0
    have hcall := delete_buf (w := W.drew) (R := D.rows) (n := n) (by have := dD.buf; rw [hrows] at this; exact this) hn h.ok.held
    have hfar := dD.far
    have HD := Lib.hid dD
    have HR := Lib.hid hrows
    have HFar := Lib.hid hfar
    have hbox : ¬ bv.ownBlock = some w.heap.size := fun e => by have := (h.far _ e).2.2.2; omega
    have HBox := Lib.hid hbox
    clear dD hrows h3 b1 b2 b3 h hfar hbox
    generalize hD1 : downsM D (D.rows.take n) = D1 at *
    have HD1 := Lib.hid hD1
    clear hD1
    go_wp2_with fail
    refine wp_region_noPanic ?_
    go_region_with (first | (go_at_call 90; refine hcall.mono ?_; rintro e W2 ⟨a2, c2, rfl, hown, hkd, hob⟩; have HO := Lib.hid hob; clear hob; have hb2 := hcs.kept (hkd.of_drew) (by intro hm; exact (HFar.out p (by simpa using hm)).1 rfl); have c12 : W2.cell? ⟨p, 1, none⟩ = some bv := hb2.cell 1; have f12 := hb2.free 1))
    all_goals
      have hfin := HD.out.rebuf hkd.of_drew (R' := D.rows.drop n) (fun i hi => ⟨(HFar.out i (by simpa using hi)).1, (HFar.out i (by simpa using hi)).2.1⟩) (by rw [List.length_drop]; exact hown) (ok_rows HD.out.ok (by rw [HR.out]; exact List.drop_sublist _ _))
      have hkk : Goes w (W2.setCell ⟨p, 1, none⟩ (.slice a2 (D.rows.length - n) c2)) p pb bv (.slice a2 (D.rows.length - n) c2) :=
        ⟨((dk.more (by simp [fp])).trans (hkd.of_drew.more (by simp [fp]; intro a ha; exact .inr (.inr ha)))).setCell (.inl (by simp [fp])) _, fun k hk => .inl (by rw [← hk, HO.out])⟩
      have hdef2 : (W2.setCell ⟨p, 1, none⟩ (.slice a2 (D.rows.length - n) c2)).heap[d]? = some (.deferred (some [])) :=
        (Below.heap_setCell _ _ _ _ (by show d ≠ p; omega)).trans (hkd.of_drew.blk hdef (by
          intro hm
          have := (HFar0.out d (by simpa using hm)).2.2.2
          omega))
      refine NoPanic.normal (marks_end hdef2 (results_none rfl _ _ _) ⟨rfl, .slice a2 (D.rows.length - n) c2, ?_, ?_⟩)
      · rw [show drainM D n = { D1 with rows := D.rows.drop n } from by rw [← HD1.out]; rfl]
        exact dsk_put hfin hdef2 rfl
      · exact ⟨put_kept hkk.kept hdef2 (by omega), hkk.new⟩
  case stop =>
    rintro d c k W hd hk2 ⟨⟨rfl, ini, x, e1, e2, d1, dD⟩, dk⟩ hdef
    have hx : x = rowAt D.rows ⟨k, hk2⟩ ∧ ini = upTo D.rows k := by
      rw [upTo_succ (k := k) (rowAt D.rows ⟨k, hk2⟩) rfl] at e1
      obtain ⟨h1, h2⟩ := List.append_inj' e1 rfl
      have h3 : rowAt D.rows ⟨k, hk2⟩ = x := by simpa using h2
      exact ⟨h3.symm, h1.symm⟩
    obtain ⟨rfl, rfl⟩ := hx
    have en : k = n := e2
    rw [upTo_rows (by omega), en] at dD
    clear e1 e2 en
    have hrows : (downsM D (D.rows.take n)).rows = D.rows := downsM_rows _ _
    have hcs := dD.cells
    have c1 := dD.c1
    have cn : W.cell? ⟨w.heap.size, 0, none⟩ = some (.int .i64 (n : Int)) := d1.cell 0
    have hcall := delete_buf (w := W.drew) (R := D.rows) (n := n) (by have := dD.buf; rw [hrows] at this; exact this) hn h.ok.held
    have hfar := dD.far
    have HD := Lib.hid dD
    have HR := Lib.hid hrows
    have HFar := Lib.hid hfar
    have hbox : ¬ bv.ownBlock = some w.heap.size := fun e => by have := (h.far _ e).2.2.2; omega
    have HBox := Lib.hid hbox
    clear dD hrows h3 b1 b2 b3 h hfar hbox
    generalize hD1 : downsM D (D.rows.take n) = D1 at *
    have HD1 := Lib.hid hD1
    clear hD1
    go_wp2_with fail
    refine wp_region_noPanic ?_
    go_region_with (first | (go_at_call 90; refine hcall.mono ?_; rintro e W2 ⟨a2, c2, rfl, hown, hkd, hob⟩; have HO := Lib.hid hob; clear hob; have hb2 := hcs.kept (hkd.of_drew) (by intro hm; exact (HFar.out p (by simpa using hm)).1 rfl); have c12 : W2.cell? ⟨p, 1, none⟩ = some bv := hb2.cell 1; have f12 := hb2.free 1))
    all_goals
      have hfin := HD.out.rebuf hkd.of_drew (R' := D.rows.drop n) (fun i hi => ⟨(HFar.out i (by simpa using hi)).1, (HFar.out i (by simpa using hi)).2.1⟩) (by rw [List.length_drop]; exact hown) (ok_rows HD.out.ok (by rw [HR.out]; exact List.drop_sublist _ _))
      have hkk : Goes w (W2.setCell ⟨p, 1, none⟩ (.slice a2 (D.rows.length - n) c2)) p pb bv (.slice a2 (D.rows.length - n) c2) :=
        ⟨((dk.more (by simp [fp])).trans (hkd.of_drew.more (by simp [fp]; intro a ha; exact .inr (.inr ha)))).setCell (.inl (by simp [fp])) _, fun k hk => .inl (by rw [← hk, HO.out])⟩
      have hdef2 : (W2.setCell ⟨p, 1, none⟩ (.slice a2 (D.rows.length - n) c2)).heap[d]? = some (.deferred (some [])) :=
        (Below.heap_setCell _ _ _ _ (by show d ≠ p; omega)).trans (hkd.of_drew.blk hdef (by
          intro hm
          have := (HFar0.out d (by simpa using hm)).2.2.2
          omega))
      refine NoPanic.normal (marks_end hdef2 (results_none rfl _ _ _) ⟨rfl, .slice a2 (D.rows.length - n) c2, ?_, ?_⟩)
      · rw [show drainM D n = { D1 with rows := D.rows.drop n } from by rw [← HD1.out]; rfl]
        exact dsk_put hfin hdef2 rfl
      · exact ⟨put_kept hkk.kept hdef2 (by omega), hkk.new⟩
end Go.Proofs.Ytkfpkolgikpcpaa
