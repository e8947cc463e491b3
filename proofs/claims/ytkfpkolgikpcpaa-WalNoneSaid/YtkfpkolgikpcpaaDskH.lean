/-
  The contract of disk's hold. Nothing here is a statement of the document.
-/
import Derived.Test.YtkfpkolgikpcpaaDskF
import Derived.Test.YtkfpkolgikpcpaaDskG
namespace Go.Proofs.Ytkfpkolgikpcpaa
open Go.RowKit Go.Shelf
set_option linter.unusedVariables false

theorem own_mem {bv : Value} {k : Nat} (h : k ∈ bv.ownBlock.toList) : some k = bv.ownBlock := (show bv.ownBlock = some k by simpa using h).symm

def holdM (D : Dk) (r : Rw) : Dk :=
  match D.rows.findIdx? (fun y => y.s == r.s) with
  | some k => { D with rows := D.rows.set k r }
  | none => { (if D.rows.length = 8 then drainM D 1 else D) with rows := (if D.rows.length = 8 then drainM D 1 else D).rows ++ [r] }

theorem ok_set {D : Dk} (h : D.Ok) {k : Nat} (hk : k < D.rows.length) {r : Rw} (hr : r.s = D.rows[k].s) : ({ D with rows := D.rows.set k r } : Dk).Ok := by
  refine ⟨h.pos, h.max, by simpa using h.held, fun y hy => ?_, ?_, h.fuse, h.flaw⟩
  · rcases List.mem_or_eq_of_mem_set hy with h1 | h1
    · exact h.at_ y h1
    · subst h1; rw [hr]; exact h.at_ _ (List.getElem_mem hk)
  · have e : (D.rows.set k r).map (·.s) = D.rows.map (·.s) := by
      rw [List.map_set]
      apply List.ext_getElem?
      intro i
      by_cases hi : i = k
      · subst hi
        simp [hk, hr]
      · rw [List.getElem?_set_ne (by omega)]
    show ((D.rows.set k r).map (·.s)).Nodup
    rw [e]; exact h.once
theorem ok_more {D : Dk} (h : D.Ok) (hl : D.rows.length < 8) {r : Rw} (hr : r.s < D.plate.length) (hn : ∀ y ∈ D.rows, y.s ≠ r.s) : ({ D with rows := D.rows ++ [r] } : Dk).Ok := by
  refine ⟨h.pos, h.max, by simp; omega, fun y hy => ?_, ?_, h.fuse, h.flaw⟩
  · rcases List.mem_append.1 hy with h1 | h1
    · exact h.at_ y h1
    · obtain rfl : y = r := by simpa using h1
      exact hr
  · show ((D.rows ++ [r]).map (·.s)).Nodup
    rw [List.map_append, List.nodup_append]
    refine ⟨h.once, by simp, ?_⟩
    intro a ha b hb
    obtain ⟨y, hy, rfl⟩ := List.mem_map.1 ha
    obtain rfl : b = r.s := by simpa using hb
    exact hn y hy

theorem Dsk.rowed {w : World} {B p pb g len cap : Nat} {D : Dk} {C : Array Value} (h : Dsk w B p pb (.slice (some ⟨g, 0, none⟩) len cap) D) (hlen : D.rows.length = len) (hC : Blk w g 108 C) {k : Nat} (hk : k < D.rows.length) {r : Rw} (hr : r.s = D.rows[k].s) :
    Dsk (w.setRow g (over C (k * 65) r.cs)) B p pb (.slice (some ⟨g, 0, none⟩) len cap) { D with rows := D.rows.set k r } := by
  subst hlen
  obtain ⟨C', hC', hsz, hcap, hcm, hget⟩ := row_cells h.buf
  obtain rfl : C' = C := by
    unfold Blk at hC hC'
    rw [hC] at hC'
    injection hC' with hC'
    injection hC' with hC'
    exact hC'.symm
  have hfar := h.far g rfl
  have hkk : Kept [g] w (w.setRow g (over C' (k * 65) r.cs)) := (Kept.refl _ _).setRow (.inl (by simp)) _
  have hfit : k * 65 + r.cs.size ≤ C'.size := by rw [Rw.size]; omega
  refine ⟨h.cells.kept hkk (by simpa using hfar.1.symm), h.plate.kept hkk (by simpa using hfar.2.1.symm), ?_, h.hp, h.hpb, ok_set h.ok hk hr⟩
  refine ⟨by rw [rcs_length], .inr ⟨g, cap, _, by simp, hfar.2.2.1, hC.row _, by simpa using hcap, hcm, by rw [size_over hfit]; exact hsz, ?_⟩⟩
  apply List.ext_getElem?
  intro j
  have hl2 := rcs_length D.rows
  rw [List.getElem?_take]
  simp only [List.length_set]
  rw [← rcs_set r hk, splice_get (by have := r.size; simp; omega)]
  by_cases hj : j < D.rows.length * 65
  · rw [if_pos hj, Array.getElem?_toList, over_get hfit, hget j hj]
    simp
  · rw [if_neg hj, if_neg (by omega), if_neg (by have := r.size; simp; omega), List.getElem?_eq_none (by omega)]

attribute [local go_sem] Oper.semAt_some
attribute [local go_sem ↓] load_blk_rule store_blk_rule load_row_rule store_row_rule build_rule app_rule

set_option maxRecDepth 100000 in
set_option maxHeartbeats 1000000 in
theorem hold_any {w : World} {B p pb : Nat} {bv : Value} {D : Dk} (h : Dsk w B p pb bv D) (r : Rw) (hr : r.s < D.plate.length) (hB : B ≤ w.heap.size) :
    Calls Try.prog 74 #[.pointer (some ⟨p, 0, none⟩), .agg r.cs] w fun e w' =>
      e = .returned (.tuple #[]) ∧ ∃ bv', Dsk w' B p pb bv' (holdM D r) ∧ Goes w w' p pb bv bv' := by
  have b1 := Blk.new w 37 #[.pointer (some ⟨p, 0, none⟩)]
  have b2 := Blk.new (w.alloc (.cells #[.pointer (some ⟨p, 0, none⟩)] 37)) 108 r.cs
  have hk := ((Kept.refl [] w).alloc (.cells #[.pointer (some ⟨p, 0, none⟩)] 37)).alloc (.cells r.cs 108)
  have h2 := (h.alloc (.cells #[.pointer (some ⟨p, 0, none⟩)] 37)).alloc (.cells r.cs 108)
  have hsz : ((w.alloc (.cells #[.pointer (some ⟨p, 0, none⟩)] 37)).alloc (.cells r.cs 108)).heap.size = w.heap.size + 2 := by simp
  have b1 := b1.alloc (.cells r.cs 108)
  have hlp := h.lt
  have hlb := h.plate.lt
  have hfar0 := h.far
  have HFar0 := Lib.hid hfar0
  clear hfar0
  refine calls_of_wp_marks Try.func74 rfl ?_
  simp only [Try.ntmps74, List.size_toArray, List.length_cons, List.length_nil, Nat.reduceAdd, Nat.reduceSub, Array.replicate_succ, Array.replicate_zero, List.push_toArray, List.append_toArray, List.nil_append, List.cons_append]
  rw [World.size_alloc] at b2
  have c1 := b1.cell 0
  go_wp2_with fail
  refine (rows_some _ _).mono ?_
  rintro e W0 ⟨rfl, b3, hk3, hs3⟩
  rw [hsz] at b3 hs3
  have b1 := b1.kept hk3 (by simp)
  have b2 := b2.kept hk3 (by simp)
  have h3 := h2.apart hk3 (by simp)
  have hk0 := hk.trans hk3
  clear h2 hk hsz hk3 c1
  go_wp2_with fail
  refine wp_range_rows h3 (b3.cell 0) rfl
    (fun pre W => ((∀ x ∈ pre, x.1.2.s ≠ r.s) ∧ Blk W w.heap.size 37 #[.pointer (some ⟨p, 0, none⟩)] ∧ Blk W (w.heap.size + 1) 108 r.cs ∧ Dsk W B p pb bv D) ∧ Kept [] w W)
    (fun c pre W => (c = .ret ∧ ∃ ini x, pre = ini ++ [x] ∧ (∀ y ∈ ini, y.1.2.s ≠ r.s) ∧ x.1.2.s = r.s ∧ Dsk W B p pb bv { D with rows := D.rows.set x.1.1 r }) ∧ Kept bv.ownBlock.toList w W)
    ?hI ?hIx ⟨⟨by simp, b1, b2, h3⟩, hk0⟩
    (fun x a' W => ∃ Bx, Blk W Bx 108 x.1.2.cs ∧ a' = { tmps := #[.pointer (some ⟨p, 0, none⟩), .agg r.cs, .pointer (some ⟨w.heap.size, 0, none⟩), .pointer (some ⟨w.heap.size + 1, 0, none⟩), .int .i64 (x.1.1 : Int), .pointer (some ⟨Bx, 0, none⟩), .pointer (some ⟨p, 0, none⟩), .func (.func 70) #[] #[.pointer (some ⟨w.heap.size + 2, 0, none⟩)], .int .i64 (x.1.1 : Int), .agg x.1.2.cs, undef, undef, undef, undef, undef, undef, undef, undef, undef, undef, undef, undef, undef, undef, undef, undef, undef, undef, undef, undef, undef, undef, undef, undef, undef, undef, undef, undef, undef, undef, undef, undef], defers := [] })
    ?hAx ?assign ?body ?done ?stop
  case hI => exact OwnFrom.and (OwnFrom.and (ownFrom_pure _ _) (OwnFrom.and (own_blk _ _ _ _) (OwnFrom.and (own_blk _ _ _ _) (own_dsk _ _ _ _ _ (fun _ => D))))) (own_kept _ (by omega))
  case hIx => exact fun c => OwnFrom.and (fun s X Y row hs hg hr => by obtain ⟨hc, ini, x, e1, e2, e3, e4⟩ := hs; exact ⟨hc, ini, x, e1, e2, e3, own_dsk (β := Unit) _ _ _ _ _ (fun _ => { D with rows := D.rows.set x.1.1 r }) () X Y row e4 hg hr⟩) (own_kept _ (by omega))
  case hAx => exact fun x a' s X Y row hs hg hr => by obtain ⟨Bx, e1, e2⟩ := hs; exact ⟨Bx, own_blk (β := Unit) _ _ _ (fun _ => x.1.2.cs) () X Y row e1 hg hr, e2⟩
  case assign =>
    intro l pre x W K hi2 hK
    have hz : Rw.zero.cs.size = x.1.2.cs.size := by rw [Rw.size, Rw.size]
    have HZ := Lib.hid hz
    clear hz
    gi_wp2_with (first | (with_reducible refine wpListIn_alloc_z rfl 108 rfl Rw.zero.cs 65 z_row ?_) | (with_reducible refine wpListIn_store_new rfl 108 (.tmp 5) (.tmp 9) rfl x.1.2.cs Rw.zero.cs _ rfl rfl HZ.out (s_row _) (Rw.one _) ?_))
    have hB : Below W.heap.size W (W.alloc (.cells x.1.2.cs 108)) := (Below.refl _ _).alloc (Nat.le_refl _) _
    exact hK _ _ ((KeepsOthers.alloc _ _).from _) (SameBuf.kept (Kept.of_below [] hB) (fun k hk => ⟨(hi2.1.2.2.2.far k hk).2.2.2, by simp⟩)) ⟨⟨hi2.1.1, hi2.1.2.1.alloc _, hi2.1.2.2.1.alloc _, hi2.1.2.2.2.alloc _⟩, hi2.2.alloc _⟩ ⟨_, Blk.new _ _ _, rfl⟩
  case body =>
    rintro l pre x a' W hl hr2 ⟨⟨hp, d1, d2, dD⟩, dk⟩ ⟨Bx, dx, rfl⟩ hlen
    have cp : W.cell? ⟨w.heap.size, 0, none⟩ = some (.pointer (some ⟨p, 0, none⟩)) := d1.cell 0
    have cr : W.cell? ⟨w.heap.size + 1, 0, none⟩ = some (.int .i64 (r.s : Int)) := by rw [d2.cell]; exact r.cell0
    have cx : W.cell? ⟨Bx, 0, none⟩ = some (.int .i64 (x.1.2.s : Int)) := by rw [dx.cell]; exact x.1.2.cell0
    by_cases e : x.1.2.s = r.s
    · have hb : ((x.1.2.s : Int) == (r.s : Int)) = true := by simp [e]
      have hxl : x.1.1 < D.rows.length := (List.getElem?_eq_some_iff.1 x.2).1
      have hxe : D.rows[x.1.1] = x.1.2 := (List.getElem?_eq_some_iff.1 x.2).2
      rcases dD.buf.2 with ⟨_, h0⟩ | ⟨g, cap, cur, rfl, _⟩
      · omega
      obtain ⟨C, hC, hsz, hcap, hcm, hget⟩ := row_cells dD.buf
      have hfit : x.1.1 * 65 + r.cs.size ≤ C.size := by rw [Rw.size]; omega
      have hcp := dD.c1
      have L : (loadSem 108 (.pointer (some ⟨w.heap.size + 1, 0, none⟩))).run Try.prog W.drew = .ok (.agg r.cs) W.drew := loadRes_of (w := W.drew) d2 (fun j _ => by rw [Nat.zero_add]) _ Try.underlying108 rfl (s_row r)
      have S : (storeSem 108 (.pointer (some ⟨g, x.1.1 * 65, none⟩)) (.agg r.cs)).run Try.prog W.drew = .ok () (W.drew.setRow g (over C (x.1.1 * 65) r.cs)) := storeRes_of (w := W.drew) hC hfit (s_row r) r.one
      have hfin : Dsk (W.drew.setRow g (over C (x.1.1 * 65) r.cs)) B p pb (.slice (some ⟨g, 0, none⟩) D.rows.length cap) { D with rows := D.rows.set x.1.1 r } := dD.drew.rowed rfl hC hxl (by rw [hxe]; exact e.symm)
      have hgl : g < w.heap.size := (HFar0.out g rfl).2.2.2
      have hkf : KeepsFrom W0.heap.size W (W.drew.setRow g (over C (x.1.1 * 65) r.cs)) := KeepsFrom.kept (((Kept.refl [g] W).drew).setRow (.inl (by simp)) _) (by simp; omega)
      have hkw : Kept [g] w (W.drew.setRow g (over C (x.1.1 * 65) r.cs)) := (dk.more (T := [g]) (by simp)).drew.setRow (.inl (by simp)) _
      have hil : (x.1.1 : Int) < (D.rows.length : Int) := by omega
      have E := Lib.hid e
      generalize hOv : over C (x.1.1 * 65) r.cs = ov at *
      have HF := Lib.hid hfin
      clear e hr2 hOv hget hsz hfit hxe dD hC hcap hcm hfin h h3
      gi_wp2
      gi_region
      all_goals
        gi_wp2
        exact ⟨hkf, ⟨rfl, pre, x, rfl, hp, E.out, HF.out⟩, hkw⟩
    · have hb : ((x.1.2.s : Int) == (r.s : Int)) = false := by rw [beq_eq_false_iff_ne]; omega
      have E := Lib.hid e
      clear e hr2
      gi_wp2
      exact ⟨KeepsFrom.refl _ _, SameBuf.refl _ _, ⟨fun y hy => (List.mem_append.1 hy).elim (hp y) (fun e2 => by simp at e2; subst e2; exact E.out), d1, d2, dD⟩, dk⟩
  case done =>
    rintro d W0' hd ⟨⟨hp, d1, d2, dD⟩, dk⟩ hdef
    have hnone : ∀ y ∈ D.rows, y.s ≠ r.s := fun y hy => by
      obtain ⟨k, hk, rfl⟩ := List.mem_iff_getElem.1 hy
      exact hp (rowAt D.rows ⟨k, hk⟩) (List.mem_map.2 ⟨⟨k, hk⟩, by rw [List.take_of_length_le (by simp)]; exact List.mem_finRange _, rfl⟩)
    have hfi : D.rows.findIdx? (fun y => y.s == r.s) = none := List.findIdx?_eq_none_iff.2 (fun y hy => by have := hnone y hy; simpa using this)
    have cp := d1.cell 0
    obtain ⟨a0, cap0, hbv⟩ : ∃ a c, bv = .slice a D.rows.length c := by
      rcases dD.buf.2 with ⟨h9, h0⟩ | ⟨g, cap, cur, h9, _⟩
      · exact ⟨none, 0, by rw [h0]; exact h9⟩
      · exact ⟨_, _, h9⟩
    have c1 := dD.c1
    rw [hbv] at c1
    have HBV := Lib.hid hbv
    clear hbv hp
    by_cases h8 : D.rows.length = 8
    · have hb8 : ((D.rows.length : Int) == 8) = true := by simp [h8]
      have H8 := Lib.hid h8
      have hdr := drain_any dD 1 (by omega)
      have hmf : ∀ (fn : Fn) (first cap : Array Value) (w : World), (Instr.makeFunc fn first cap).run Try.prog w = .ok (.func fn first cap) w := fun _ _ _ _ => rfl
      clear h8
      go_wp2_with fail
      refine hdr.mono ?_
      rintro e9 W ⟨rfl, bv2, tD, tG0⟩
      clear hdr cp c1 hmf
      generalize hD2 : drainM D 1 = D2 at *
      have tm : holdM D r = { D2 with rows := D2.rows ++ [r] } := by
        unfold holdM; rw [hfi]; simp only [H8.out, if_true, hD2]
      have tr2 : D2.rows = D.rows.drop 1 := by rw [← hD2]; rfl
      have tl : D2.rows.length < 8 := by rw [tr2]; simp; have := H8.out; omega
      have tpl : D2.plate.length = D.plate.length := by rw [← hD2]; exact downsM_len _ _
      have tn : ∀ y ∈ D2.rows, y.s ≠ r.s := by rw [tr2]; exact fun y hy => hnone y (List.mem_of_mem_drop hy)
      have dnot : ∀ i, i ∈ fp p pb bv → i < w.heap.size := by
        intro i hi
        simp only [fp, List.mem_cons, Option.mem_toList] at hi
        rcases hi with rfl | rfl | hi
        · exact hlp
        · exact hlb
        · exact (HFar0.out i hi).2.2.2
      have t1 := d1.kept tG0.kept (fun hm => by have := dnot _ hm; omega)
      have t2 := d2.kept tG0.kept (fun hm => by have := dnot _ hm; omega)
      have tdef := tG0.kept.blk hdef (fun hm => by have := dnot _ hm; omega)
      have hdl := (Array.getElem?_eq_some_iff.1 hdef).1
      have hbl1 := d1.lt
      have hne2 : ¬ some w.heap.size = bv2.ownBlock := fun e => by
        rcases tG0.new _ e.symm with h9 | h9
        · have := (HFar0.out _ h9).2.2.2; omega
        · omega
      have hne3 : ¬ some d = bv2.ownBlock := fun e => by
        rcases tG0.new _ e.symm with h9 | h9
        · have := (HFar0.out _ h9).2.2.2; omega
        · omega
      have tG : Goes w W p pb bv bv2 := ⟨(dk.more (by simp)).trans tG0.kept, fun k hk => (tG0.new k hk).imp id (fun h9 => Nat.le_trans dk.size h9)⟩
      have dk := tG.kept
      clear hdef d1 d2 tG0 dD hD2 tr2 dnot hnone hfi
      have hcs := tD.cells
      have c1 : W.cell? ⟨p, 1, none⟩ = some bv2 := tD.c1
      have f1 : W.frozen? ⟨p, 1, none⟩ = false := tD.cells.free 1
      have cp : W.cell? ⟨w.heap.size, 0, none⟩ = some (.pointer (some ⟨p, 0, none⟩)) := t1.cell 0
      have L : (loadSem 108 (.pointer (some ⟨w.heap.size + 1, 0, none⟩))).run Try.prog W.drew = .ok (.agg r.cs) W.drew := loadRes_of (w := W.drew) t2 (fun j _ => by rw [Nat.zero_add]) _ Try.underlying108 rfl (s_row r)
      have Bd := buildSem_run r W.drew
      obtain ⟨WA, hWA⟩ : ∃ WA, W.drew.alloc (.cells r.cs 108) = WA := ⟨_, rfl⟩
      have hqA : Blk WA W.heap.size 108 r.cs := by rw [← hWA]; exact Blk.new W.drew _ _
      have hkA : Kept [] W WA := by rw [← hWA]; exact (Kept.refl [] W).drew.alloc _
      have cpA : WA.cell? ⟨w.heap.size, 0, none⟩ = some (.pointer (some ⟨p, 0, none⟩)) := (t1.kept hkA (by simp)).cell 0
      have c1A : WA.cell? ⟨p, 1, none⟩ = some bv2 := (hcs.kept hkA (by simp)).cell 1
      have LA : (loadSem 108 (.pointer (some ⟨w.heap.size + 1, 0, none⟩))).run Try.prog WA = .ok (.agg r.cs) WA := loadRes_of (w := WA) (t2.kept hkA (by simp)) (fun j _ => by rw [Nat.zero_add]) _ Try.underlying108 rfl (s_row r)
      have tDA := tD.apart hkA (by simp)
      obtain ⟨g, cap, W3, hap, hown, hgr, hgn⟩ := appSem_run (r := r) 100 tDA.buf tDA.ok.held hqA (by have := hkA.size; have := dk.size; omega)
      have hne1 : some p ≠ bv2.ownBlock := fun e => (tD.far p e.symm).1 rfl
      have hkd3 : Kept bv2.ownBlock.toList WA W3 := (Kept.refl _ _).grown hgr (fun k hk => .inl (by simpa using hk))
      have hk3' : Kept bv2.ownBlock.toList W W3 := (hkA.more (by simp)).trans hkd3
      have hb3 : Blk W3 p 102 (dcs pb bv2 D2) := hcs.kept hk3' (fun hm => hne1 (own_mem hm))
      have c13 : W3.cell? ⟨p, 1, none⟩ = some bv2 := hb3.cell 1
      have f13 : W3.frozen? ⟨p, 1, none⟩ = false := hb3.free 1
      have cp3 : W3.cell? ⟨w.heap.size, 0, none⟩ = some (.pointer (some ⟨p, 0, none⟩)) := (t1.kept hk3' (fun hm => hne2 (own_mem hm))).cell 0
      have hfin := tD.rebuf hk3' (R' := D2.rows ++ [r]) (fun i hi => ⟨(tD.far i (by simpa using hi)).1, (tD.far i (by simpa using hi)).2.1⟩) (by rw [List.length_append]; exact hown) (ok_more tD.ok tl (by rw [tpl]; exact hr) tn)
      have hgo : Goes W (W3.setCell ⟨p, 1, none⟩ (.slice (some ⟨g, 0, none⟩) (D2.rows.length + 1) cap)) p pb bv2 (.slice (some ⟨g, 0, none⟩) (D2.rows.length + 1) cap) :=
        ⟨(hk3'.more (by simp [fp]; intro a ha; exact .inr (.inr ha))).setCell (.inl (by simp [fp])) _, fun k hk => by
          obtain rfl : g = k := by simpa [Value.ownBlock] using hk
          rcases hgn with h9 | h9
          · exact .inl h9
          · exact .inr (Nat.le_trans hkA.size h9)⟩
      have hkk := tG.trans hgo
      have hdef2 : (W3.setCell ⟨p, 1, none⟩ (.slice (some ⟨g, 0, none⟩) (D2.rows.length + 1) cap)).heap[d]? = some (.deferred (some [])) :=
        (Below.heap_setCell _ _ _ _ (by show d ≠ p; omega)).trans (hk3'.blk tdef (fun hm => hne3 (own_mem hm)))
      have HFin := Lib.hid hfin
      have HKK := Lib.hid hkk
      have HDef := Lib.hid hdef2
      have HM := Lib.hid tm
      rw [hWA] at Bd
      have hsz9 : W.drew.heap.size = W.heap.size := rfl
      rw [hsz9] at Bd
      generalize hn9 : D2.rows.length = n9 at *
      have HN9 := Lib.hid hn9
      clear hn9 hsz9 hfin hkk hdef2 tm hown hgr hgn hne1 hne2 hne3 hk3' hkd3 hb3 tD tDA t1 t2 hqA hkA hcs tG hgo tdef tn tl tpl hWA dk h h3 b1 b2 b3
      go_wp2_with fail
      refine wp_region_noPanic ?_
      go_region
      all_goals
        refine NoPanic.normal (marks_end HDef.out (results_none rfl _ _ _) ⟨rfl, .slice (some ⟨g, 0, none⟩) (n9 + 1) cap, ?_, ?_⟩)
        · rw [HM.out]
          exact dsk_put HFin.out HDef.out rfl
        · exact ⟨put_kept HKK.out.kept HDef.out (by omega), HKK.out.new⟩
    · have hb8 : ((D.rows.length : Int) == 8) = false := by rw [beq_eq_false_iff_ne]; omega
      have tm0 : holdM D r = { D with rows := D.rows ++ [r] } := by
        unfold holdM; rw [hfi]; simp only [if_neg h8]
      have tl : D.rows.length < 8 := by have := dD.ok.held; omega
      clear h8
      go_wp2_with fail
      obtain ⟨D2, hD2⟩ : ∃ D2, D2 = D := ⟨_, rfl⟩
      obtain ⟨bv2, hbv2⟩ : ∃ bv2, bv2 = bv := ⟨_, rfl⟩
      obtain ⟨W, hW2⟩ : ∃ W, W = W0' := ⟨_, rfl⟩
      have tm : holdM D r = { D2 with rows := D2.rows ++ [r] } := by rw [hD2]; exact tm0
      clear tm0
      rw [← hD2] at tl
      have tD : Dsk W B p pb bv2 D2 := by rw [hD2, hbv2, hW2]; exact dD
      have tpl : D2.plate.length = D.plate.length := by rw [hD2]
      have tn : ∀ y ∈ D2.rows, y.s ≠ r.s := by rw [hD2]; exact hnone
      have t1 : Blk W w.heap.size 37 #[.pointer (some ⟨p, 0, none⟩)] := by rw [hW2]; exact d1
      have t2 : Blk W (w.heap.size + 1) 108 r.cs := by rw [hW2]; exact d2
      have tdef : W.heap[d]? = some (.deferred (some [])) := by rw [hW2]; exact hdef
      have hne2 : ¬ some w.heap.size = bv2.ownBlock := fun e => by
        rw [hbv2] at e
        have := (HFar0.out _ e.symm).2.2.2; omega
      have hne3 : ¬ some d = bv2.ownBlock := fun e => by
        rw [hbv2] at e
        have := (HFar0.out _ e.symm).2.2.2; omega
      have tG : Goes w W p pb bv bv2 := by rw [hW2, hbv2]; exact ⟨dk.more (by simp), fun k hk => .inl hk⟩
      have dk := tG.kept
      rw [← hW2]
      clear hdef d1 d2 dD hD2 hnone hfi hbv2 hW2 c1 cp
      have hcs := tD.cells
      have c1 : W.cell? ⟨p, 1, none⟩ = some bv2 := tD.c1
      have f1 : W.frozen? ⟨p, 1, none⟩ = false := tD.cells.free 1
      have cp : W.cell? ⟨w.heap.size, 0, none⟩ = some (.pointer (some ⟨p, 0, none⟩)) := t1.cell 0
      have L : (loadSem 108 (.pointer (some ⟨w.heap.size + 1, 0, none⟩))).run Try.prog W.drew = .ok (.agg r.cs) W.drew := loadRes_of (w := W.drew) t2 (fun j _ => by rw [Nat.zero_add]) _ Try.underlying108 rfl (s_row r)
      have Bd := buildSem_run r W.drew
      obtain ⟨WA, hWA⟩ : ∃ WA, W.drew.alloc (.cells r.cs 108) = WA := ⟨_, rfl⟩
      have hqA : Blk WA W.heap.size 108 r.cs := by rw [← hWA]; exact Blk.new W.drew _ _
      have hkA : Kept [] W WA := by rw [← hWA]; exact (Kept.refl [] W).drew.alloc _
      have cpA : WA.cell? ⟨w.heap.size, 0, none⟩ = some (.pointer (some ⟨p, 0, none⟩)) := (t1.kept hkA (by simp)).cell 0
      have c1A : WA.cell? ⟨p, 1, none⟩ = some bv2 := (hcs.kept hkA (by simp)).cell 1
      have LA : (loadSem 108 (.pointer (some ⟨w.heap.size + 1, 0, none⟩))).run Try.prog WA = .ok (.agg r.cs) WA := loadRes_of (w := WA) (t2.kept hkA (by simp)) (fun j _ => by rw [Nat.zero_add]) _ Try.underlying108 rfl (s_row r)
      have tDA := tD.apart hkA (by simp)
      obtain ⟨g, cap, W3, hap, hown, hgr, hgn⟩ := appSem_run (r := r) 100 tDA.buf tDA.ok.held hqA (by have := hkA.size; have := dk.size; omega)
      have hne1 : some p ≠ bv2.ownBlock := fun e => (tD.far p e.symm).1 rfl
      have hkd3 : Kept bv2.ownBlock.toList WA W3 := (Kept.refl _ _).grown hgr (fun k hk => .inl (by simpa using hk))
      have hk3' : Kept bv2.ownBlock.toList W W3 := (hkA.more (by simp)).trans hkd3
      have hb3 : Blk W3 p 102 (dcs pb bv2 D2) := hcs.kept hk3' (fun hm => hne1 (own_mem hm))
      have c13 : W3.cell? ⟨p, 1, none⟩ = some bv2 := hb3.cell 1
      have f13 : W3.frozen? ⟨p, 1, none⟩ = false := hb3.free 1
      have cp3 : W3.cell? ⟨w.heap.size, 0, none⟩ = some (.pointer (some ⟨p, 0, none⟩)) := (t1.kept hk3' (fun hm => hne2 (own_mem hm))).cell 0
      have hfin := tD.rebuf hk3' (R' := D2.rows ++ [r]) (fun i hi => ⟨(tD.far i (by simpa using hi)).1, (tD.far i (by simpa using hi)).2.1⟩) (by rw [List.length_append]; exact hown) (ok_more tD.ok tl (by rw [tpl]; exact hr) tn)
      have hgo : Goes W (W3.setCell ⟨p, 1, none⟩ (.slice (some ⟨g, 0, none⟩) (D2.rows.length + 1) cap)) p pb bv2 (.slice (some ⟨g, 0, none⟩) (D2.rows.length + 1) cap) :=
        ⟨(hk3'.more (by simp [fp]; intro a ha; exact .inr (.inr ha))).setCell (.inl (by simp [fp])) _, fun k hk => by
          obtain rfl : g = k := by simpa [Value.ownBlock] using hk
          rcases hgn with h9 | h9
          · exact .inl h9
          · exact .inr (Nat.le_trans hkA.size h9)⟩
      have hkk := tG.trans hgo
      have hdef2 : (W3.setCell ⟨p, 1, none⟩ (.slice (some ⟨g, 0, none⟩) (D2.rows.length + 1) cap)).heap[d]? = some (.deferred (some [])) :=
        (Below.heap_setCell _ _ _ _ (by show d ≠ p; omega)).trans (hk3'.blk tdef (fun hm => hne3 (own_mem hm)))
      have HFin := Lib.hid hfin
      have HKK := Lib.hid hkk
      have HDef := Lib.hid hdef2
      have HM := Lib.hid tm
      rw [hWA] at Bd
      have hsz9 : W.drew.heap.size = W.heap.size := rfl
      rw [hsz9] at Bd
      generalize hn9 : D2.rows.length = n9 at *
      have HN9 := Lib.hid hn9
      clear hn9 hsz9 hfin hkk hdef2 tm hown hgr hgn hne1 hne2 hne3 hk3' hkd3 hb3 tD tDA t1 t2 hqA hkA hcs tG hgo tdef tn tl tpl hWA dk h h3 b1 b2 b3
      go_wp2_with fail
      refine wp_region_noPanic ?_
      go_region
      all_goals
        refine NoPanic.normal (marks_end HDef.out (results_none rfl _ _ _) ⟨rfl, .slice (some ⟨g, 0, none⟩) (n9 + 1) cap, ?_, ?_⟩)
        · rw [HM.out]
          exact dsk_put HFin.out HDef.out rfl
        · exact ⟨put_kept HKK.out.kept HDef.out (by omega), HKK.out.new⟩
  case stop =>
    rintro d c k W hd hk2 ⟨⟨rfl, ini, x, e1, e2, e3, dD⟩, dk⟩ hdef
    have hx : x = rowAt D.rows ⟨k, hk2⟩ ∧ ini = upTo D.rows k := by
      rw [upTo_succ (k := k) (rowAt D.rows ⟨k, hk2⟩) rfl] at e1
      obtain ⟨h1, h2⟩ := List.append_inj' e1 rfl
      have h3 : rowAt D.rows ⟨k, hk2⟩ = x := by simpa using h2
      exact ⟨h3.symm, h1.symm⟩
    obtain ⟨rfl, rfl⟩ := hx
    have hm : holdM D r = { D with rows := D.rows.set k r } := by
      have e : D.rows.findIdx? (fun y => y.s == r.s) = some k := by
        rw [List.findIdx?_eq_some_iff_getElem]
        refine ⟨hk2, by simpa [rowAt] using e3, fun j hj => ?_⟩
        have hin : rowAt D.rows ⟨j, by omega⟩ ∈ upTo D.rows k := List.mem_map.2 ⟨⟨j, by omega⟩, by
          rw [List.mem_iff_getElem]
          exact ⟨j, by simp; omega, by simp⟩, rfl⟩
        have := e2 _ hin
        simpa [rowAt] using this
      unfold holdM
      rw [e]
    have HM := Lib.hid hm
    clear hm e1 e2 e3
    go_wp2
    refine marks_ret hdef (results_none rfl _ _ _) ⟨rfl, bv, ?_, ?_⟩
    · rw [HM.out]
      exact dsk_put dD hdef rfl
    · exact ⟨put_kept (dk.more (fun i hi => by simp only [fp, List.mem_cons]; exact .inr (.inr hi))) hdef (by omega), fun k hk => .inl hk⟩
end Go.Proofs.Ytkfpkolgikpcpaa
