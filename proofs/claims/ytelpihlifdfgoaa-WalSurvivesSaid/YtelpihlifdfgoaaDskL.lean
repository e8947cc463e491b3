/-
  The contracts of disk's Read. Nothing here is a statement of the document.
-/
import Derived.Test.YtelpihlifdfgoaaWalK
import Derived.Test.YtelpihlifdfgoaaDskG
import Derived.Test.YtelpihlifdfgoaaDskC
import Derived.Shelf.Abstract
import Derived.Laws.ResultCell
namespace Go.Proofs.Ytelpihlifdfgoaa
open Go.RowKit Go.Shelf
set_option linter.unusedVariables false

theorem own_mem {bv : Value} {k : Nat} (h : k ∈ bv.ownBlock.toList) : some k = bv.ownBlock := (show bv.ownBlock = some k by simpa using h).symm

def holdM (D : Dk) (r : Rw) : Dk :=
  match D.rows.findIdx? (fun y => y.s == r.s) with
  | some k => { D with rows := D.rows.set k r }
  | none => { (if D.rows.length = 8 then drainM D 1 else D) with rows := (if D.rows.length = 8 then drainM D 1 else D).rows ++ [r] }

theorem ok_set {D : Dk} (h : D.Ok) {k : Nat} (hk : k < D.rows.length) {r : Rw} (hr : r.s = D.rows[k].s) : ({ D with rows := D.rows.set k r } : Dk).Ok := by
  refine ⟨h.pos, h.max, by simpa using h.held, fun y hy => ?_, ?_, h.fuse, h.flaw⟩
  · rcases List.mem_or_eq_of_mem_set hy with h1 | h1
    · exact h.at_ y h1
    · subst h1; rw [hr]; exact h.at_ _ (List.getElem_mem hk)
  · have e : (D.rows.set k r).map (·.s) = D.rows.map (·.s) := by
      rw [List.map_set]
      apply List.ext_getElem?
      intro i
      by_cases hi : i = k
      · subst hi
        simp [hk, hr]
      · rw [List.getElem?_set_ne (by omega)]
    show ((D.rows.set k r).map (·.s)).Nodup
    rw [e]; exact h.once
theorem ok_more {D : Dk} (h : D.Ok) (hl : D.rows.length < 8) {r : Rw} (hr : r.s < D.plate.length) (hn : ∀ y ∈ D.rows, y.s ≠ r.s) : ({ D with rows := D.rows ++ [r] } : Dk).Ok := by
  refine ⟨h.pos, h.max, by simp; omega, fun y hy => ?_, ?_, h.fuse, h.flaw⟩
  · rcases List.mem_append.1 hy with h1 | h1
    · exact h.at_ y h1
    · obtain rfl : y = r := by simpa using h1
      exact hr
  · show ((D.rows ++ [r]).map (·.s)).Nodup
    rw [List.map_append, List.nodup_append]
    refine ⟨h.once, by simp, ?_⟩
    intro a ha b hb
    obtain ⟨y, hy, rfl⟩ := List.mem_map.1 ha
    obtain rfl : b = r.s := by simpa using hb
    exact hn y hy

theorem Dsk.rowed {w : World} {B p pb g len cap : Nat} {D : Dk} {C : Array Value} (h : Dsk w B p pb (.slice (some ⟨g, 0, none⟩) len cap) D) (hlen : D.rows.length = len) (hC : Blk w g 83 C) {k : Nat} (hk : k < D.rows.length) {r : Rw} (hr : r.s = D.rows[k].s) :
    Dsk (w.setRow g (over C (k * 65) r.cs)) B p pb (.slice (some ⟨g, 0, none⟩) len cap) { D with rows := D.rows.set k r } := by
  subst hlen
  obtain ⟨C', hC', hsz, hcap, hcm, hget⟩ := row_cells h.buf
  obtain rfl : C' = C := by
    unfold Blk at hC hC'
    rw [hC] at hC'
    injection hC' with hC'
    injection hC' with hC'
    exact hC'.symm
  have hfar := h.far g rfl
  have hkk : Kept [g] w (w.setRow g (over C' (k * 65) r.cs)) := (Kept.refl _ _).setRow (.inl (by simp)) _
  have hfit : k * 65 + r.cs.size ≤ C'.size := by rw [Rw.size]; omega
  refine ⟨h.cells.kept hkk (by simpa using hfar.1.symm), h.plate.kept hkk (by simpa using hfar.2.1.symm), ?_, h.hp, h.hpb, ok_set h.ok hk hr⟩
  refine ⟨by rw [rcs_length], .inr ⟨g, cap, _, by simp, hfar.2.2.1, hC.row _, by simpa using hcap, hcm, by rw [size_over hfit]; exact hsz, ?_⟩⟩
  apply List.ext_getElem?
  intro j
  have hl2 := rcs_length D.rows
  rw [List.getElem?_take]
  simp only [List.length_set]
  rw [← rcs_set r hk, splice_get (by have := r.size; simp; omega)]
  by_cases hj : j < D.rows.length * 65
  · rw [if_pos hj, Array.getElem?_toList, over_get hfit, hget j hj]
    simp
  · rw [if_neg hj, if_neg (by omega), if_neg (by have := r.size; simp; omega), List.getElem?_eq_none (by omega)]

attribute [local go_sem] Oper.semAt_some
attribute [local go_sem ↓] load_blk_rule store_blk_rule load_row_rule store_row_rule build_rule app_rule

set_option maxRecDepth 100000 in
set_option maxHeartbeats 1000000 in
theorem hold_any {w : World} {B p pb : Nat} {bv : Value} {D : Dk} (h : Dsk w B p pb bv D) (r : Rw) (hr : r.s < D.plate.length) (hB : B ≤ w.heap.size) :
    Calls Try.prog 77 #[.pointer (some ⟨p, 0, none⟩), .agg r.cs] w fun e w' =>
      e = .returned (.tuple #[]) ∧ ∃ bv', Dsk w' B p pb bv' (holdM D r) ∧ Goes w w' p pb bv bv' := by
  have b1 := Blk.new w 27 #[.pointer (some ⟨p, 0, none⟩)]
  have b2 := Blk.new (w.alloc (.cells #[.pointer (some ⟨p, 0, none⟩)] 27)) 83 r.cs
  have hk := ((Kept.refl [] w).alloc (.cells #[.pointer (some ⟨p, 0, none⟩)] 27)).alloc (.cells r.cs 83)
  have h2 := (h.alloc (.cells #[.pointer (some ⟨p, 0, none⟩)] 27)).alloc (.cells r.cs 83)
  have hsz : ((w.alloc (.cells #[.pointer (some ⟨p, 0, none⟩)] 27)).alloc (.cells r.cs 83)).heap.size = w.heap.size + 2 := by simp
  have b1 := b1.alloc (.cells r.cs 83)
  have hlp := h.lt
  have hlb := h.plate.lt
  have hfar0 := h.far
  have HFar0 := Lib.hid hfar0
  clear hfar0
  refine calls_of_wp_marks Try.func77 rfl ?_
  simp only [Try.ntmps77, List.size_toArray, List.length_cons, List.length_nil, Nat.reduceAdd, Nat.reduceSub, Array.replicate_succ, Array.replicate_zero, List.push_toArray, List.append_toArray, List.nil_append, List.cons_append]
  rw [World.size_alloc] at b2
  have c1 := b1.cell 0
  go_wp2_with fail
  refine (rows_some _ _).mono ?_
  rintro e W0 ⟨rfl, b3, hk3, hs3⟩
  rw [hsz] at b3 hs3
  have b1 := b1.kept hk3 (by simp)
  have b2 := b2.kept hk3 (by simp)
  have h3 := h2.apart hk3 (by simp)
  have hk0 := hk.trans hk3
  clear h2 hk hsz hk3 c1
  go_wp2_with fail
  refine wp_range_rows h3 (b3.cell 0) rfl
    (fun pre W => ((∀ x ∈ pre, x.1.2.s ≠ r.s) ∧ Blk W w.heap.size 27 #[.pointer (some ⟨p, 0, none⟩)] ∧ Blk W (w.heap.size + 1) 83 r.cs ∧ Dsk W B p pb bv D) ∧ Kept [] w W)
    (fun c pre W => (c = .ret ∧ ∃ ini x, pre = ini ++ [x] ∧ (∀ y ∈ ini, y.1.2.s ≠ r.s) ∧ x.1.2.s = r.s ∧ Dsk W B p pb bv { D with rows := D.rows.set x.1.1 r }) ∧ Kept bv.ownBlock.toList w W)
    ?hI ?hIx ⟨⟨by simp, b1, b2, h3⟩, hk0⟩
    (fun x a' W => ∃ Bx, Blk W Bx 83 x.1.2.cs ∧ a' = { tmps := #[.pointer (some ⟨p, 0, none⟩), .agg r.cs, .pointer (some ⟨w.heap.size, 0, none⟩), .pointer (some ⟨w.heap.size + 1, 0, none⟩), .int .i64 (x.1.1 : Int), .pointer (some ⟨Bx, 0, none⟩), .pointer (some ⟨p, 0, none⟩), .func (.func 53) #[] #[.pointer (some ⟨w.heap.size + 2, 0, none⟩)], .int .i64 (x.1.1 : Int), .agg x.1.2.cs, undef, undef, undef, undef, undef, undef, undef, undef, undef, undef, undef, undef, undef, undef, undef, undef, undef, undef, undef, undef, undef, undef, undef, undef, undef, undef, undef, undef, undef, undef, undef, undef], defers := [] })
    ?hAx ?assign ?body ?done ?stop
  case hI => exact OwnFrom.and (OwnFrom.and (ownFrom_pure _ _) (OwnFrom.and (own_blk _ _ _ _) (OwnFrom.and (own_blk _ _ _ _) (own_dsk _ _ _ _ _ (fun _ => D))))) (own_kept _ (by omega))
  case hIx => exact fun c => OwnFrom.and (fun s X Y row hs hg hr => by obtain ⟨hc, ini, x, e1, e2, e3, e4⟩ := hs; exact ⟨hc, ini, x, e1, e2, e3, own_dsk (β := Unit) _ _ _ _ _ (fun _ => { D with rows := D.rows.set x.1.1 r }) () X Y row e4 hg hr⟩) (own_kept _ (by omega))
  case hAx => exact fun x a' s X Y row hs hg hr => by obtain ⟨Bx, e1, e2⟩ := hs; exact ⟨Bx, own_blk (β := Unit) _ _ _ (fun _ => x.1.2.cs) () X Y row e1 hg hr, e2⟩
  case assign =>
    intro l pre x W K hi2 hK
    have hz : Rw.zero.cs.size = x.1.2.cs.size := by rw [Rw.size, Rw.size]
    have HZ := Lib.hid hz
    clear hz
    gi_wp2_with (first | (with_reducible refine wpListIn_alloc_z rfl 83 rfl Rw.zero.cs 65 z_row ?_) | (with_reducible refine wpListIn_store_new rfl 83 (.tmp 5) (.tmp 9) rfl x.1.2.cs Rw.zero.cs _ rfl rfl HZ.out (s_row _) (Rw.one _) ?_))
    have hB : Below W.heap.size W (W.alloc (.cells x.1.2.cs 83)) := (Below.refl _ _).alloc (Nat.le_refl _) _
    exact hK _ _ ((KeepsOthers.alloc _ _).from _) (SameBuf.kept (Kept.of_below [] hB) (fun k hk => ⟨(hi2.1.2.2.2.far k hk).2.2.2, by simp⟩)) ⟨⟨hi2.1.1, hi2.1.2.1.alloc _, hi2.1.2.2.1.alloc _, hi2.1.2.2.2.alloc _⟩, hi2.2.alloc _⟩ ⟨_, Blk.new _ _ _, rfl⟩
  case body =>
    rintro l pre x a' W hl hr2 ⟨⟨hp, d1, d2, dD⟩, dk⟩ ⟨Bx, dx, rfl⟩ hlen
    have cp : W.cell? ⟨w.heap.size, 0, none⟩ = some (.pointer (some ⟨p, 0, none⟩)) := d1.cell 0
    have cr : W.cell? ⟨w.heap.size + 1, 0, none⟩ = some (.int .i64 (r.s : Int)) := by rw [d2.cell]; exact r.cell0
    have cx : W.cell? ⟨Bx, 0, none⟩ = some (.int .i64 (x.1.2.s : Int)) := by rw [dx.cell]; exact x.1.2.cell0
    by_cases e : x.1.2.s = r.s
    · have hb : ((x.1.2.s : Int) == (r.s : Int)) = true := by simp [e]
      have hxl : x.1.1 < D.rows.length := (List.getElem?_eq_some_iff.1 x.2).1
      have hxe : D.rows[x.1.1] = x.1.2 := (List.getElem?_eq_some_iff.1 x.2).2
      rcases dD.buf.2 with ⟨_, h0⟩ | ⟨g, cap, cur, rfl, _⟩
      · omega
      obtain ⟨C, hC, hsz, hcap, hcm, hget⟩ := row_cells dD.buf
      have hfit : x.1.1 * 65 + r.cs.size ≤ C.size := by rw [Rw.size]; omega
      have hcp := dD.c1
      have L : (loadSem 83 (.pointer (some ⟨w.heap.size + 1, 0, none⟩))).run Try.prog W.drew = .ok (.agg r.cs) W.drew := loadRes_of (w := W.drew) d2 (fun j _ => by rw [Nat.zero_add]) _ Try.underlying83 rfl (s_row r)
      have S : (storeSem 83 (.pointer (some ⟨g, x.1.1 * 65, none⟩)) (.agg r.cs)).run Try.prog W.drew = .ok () (W.drew.setRow g (over C (x.1.1 * 65) r.cs)) := storeRes_of (w := W.drew) hC hfit (s_row r) r.one
      have hfin : Dsk (W.drew.setRow g (over C (x.1.1 * 65) r.cs)) B p pb (.slice (some ⟨g, 0, none⟩) D.rows.length cap) { D with rows := D.rows.set x.1.1 r } := dD.drew.rowed rfl hC hxl (by rw [hxe]; exact e.symm)
      have hgl : g < w.heap.size := (HFar0.out g rfl).2.2.2
      have hkf : KeepsFrom W0.heap.size W (W.drew.setRow g (over C (x.1.1 * 65) r.cs)) := KeepsFrom.kept (((Kept.refl [g] W).drew).setRow (.inl (by simp)) _) (by simp; omega)
      have hkw : Kept [g] w (W.drew.setRow g (over C (x.1.1 * 65) r.cs)) := (dk.more (T := [g]) (by simp)).drew.setRow (.inl (by simp)) _
      have hil : (x.1.1 : Int) < (D.rows.length : Int) := by omega
      have E := Lib.hid e
      generalize hOv : over C (x.1.1 * 65) r.cs = ov at *
      have HF := Lib.hid hfin
      clear e hr2 hOv hget hsz hfit hxe dD hC hcap hcm hfin h h3
      gi_wp2
      gi_region
      all_goals
        gi_wp2
        exact ⟨hkf, ⟨rfl, pre, x, rfl, hp, E.out, HF.out⟩, hkw⟩
    · have hb : ((x.1.2.s : Int) == (r.s : Int)) = false := by rw [beq_eq_false_iff_ne]; omega
      have E := Lib.hid e
      clear e hr2
      gi_wp2
      exact ⟨KeepsFrom.refl _ _, SameBuf.refl _ _, ⟨fun y hy => (List.mem_append.1 hy).elim (hp y) (fun e2 => by simp at e2; subst e2; exact E.out), d1, d2, dD⟩, dk⟩
  case done =>
    rintro d W0' hd ⟨⟨hp, d1, d2, dD⟩, dk⟩ hdef
    have hnone : ∀ y ∈ D.rows, y.s ≠ r.s := fun y hy => by
      obtain ⟨k, hk, rfl⟩ := List.mem_iff_getElem.1 hy
      exact hp (rowAt D.rows ⟨k, hk⟩) (List.mem_map.2 ⟨⟨k, hk⟩, by rw [List.take_of_length_le (by simp)]; exact List.mem_finRange _, rfl⟩)
    have hfi : D.rows.findIdx? (fun y => y.s == r.s) = none := List.findIdx?_eq_none_iff.2 (fun y hy => by have := hnone y hy; simpa using this)
    have cp := d1.cell 0
    obtain ⟨a0, cap0, hbv⟩ : ∃ a c, bv = .slice a D.rows.length c := by
      rcases dD.buf.2 with ⟨h9, h0⟩ | ⟨g, cap, cur, h9, _⟩
      · exact ⟨none, 0, by rw [h0]; exact h9⟩
      · exact ⟨_, _, h9⟩
    have c1 := dD.c1
    rw [hbv] at c1
    have HBV := Lib.hid hbv
    clear hbv hp
    by_cases h8 : D.rows.length = 8
    · have hb8 : ((D.rows.length : Int) == 8) = true := by simp [h8]
      have H8 := Lib.hid h8
      have hdr := drain_any dD 1 (by omega)
      have hmf : ∀ (fn : Fn) (first cap : Array Value) (w : World), (Instr.makeFunc fn first cap).run Try.prog w = .ok (.func fn first cap) w := fun _ _ _ _ => rfl
      clear h8
      go_wp2_with fail
      refine hdr.mono ?_
      rintro e9 W ⟨rfl, bv2, tD, tG0⟩
      clear hdr cp c1 hmf
      generalize hD2 : drainM D 1 = D2 at *
      have tm : holdM D r = { D2 with rows := D2.rows ++ [r] } := by
        unfold holdM; rw [hfi]; simp only [H8.out, if_true, hD2]
      have tr2 : D2.rows = D.rows.drop 1 := by rw [← hD2]; rfl
      have tl : D2.rows.length < 8 := by rw [tr2]; simp; have := H8.out; omega
      have tpl : D2.plate.length = D.plate.length := by rw [← hD2]; exact downsM_len _ _
      have tn : ∀ y ∈ D2.rows, y.s ≠ r.s := by rw [tr2]; exact fun y hy => hnone y (List.mem_of_mem_drop hy)
      have dnot : ∀ i, i ∈ fp p pb bv → i < w.heap.size := by
        intro i hi
        simp only [fp, List.mem_cons, Option.mem_toList] at hi
        rcases hi with rfl | rfl | hi
        · exact hlp
        · exact hlb
        · exact (HFar0.out i hi).2.2.2
      have t1 := d1.kept tG0.kept (fun hm => by have := dnot _ hm; omega)
      have t2 := d2.kept tG0.kept (fun hm => by have := dnot _ hm; omega)
      have tdef := tG0.kept.blk hdef (fun hm => by have := dnot _ hm; omega)
      have hdl := (Array.getElem?_eq_some_iff.1 hdef).1
      have hbl1 := d1.lt
      have hne2 : ¬ some w.heap.size = bv2.ownBlock := fun e => by
        rcases tG0.new _ e.symm with h9 | h9
        · have := (HFar0.out _ h9).2.2.2; omega
        · omega
      have hne3 : ¬ some d = bv2.ownBlock := fun e => by
        rcases tG0.new _ e.symm with h9 | h9
        · have := (HFar0.out _ h9).2.2.2; omega
        · omega
      have tG : Goes w W p pb bv bv2 := ⟨(dk.more (by simp)).trans tG0.kept, fun k hk => (tG0.new k hk).imp id (fun h9 => Nat.le_trans dk.size h9)⟩
      have dk := tG.kept
      clear hdef d1 d2 tG0 dD hD2 tr2 dnot hnone hfi
      have hcs := tD.cells
      have c1 : W.cell? ⟨p, 1, none⟩ = some bv2 := tD.c1
      have f1 : W.frozen? ⟨p, 1, none⟩ = false := tD.cells.free 1
      have cp : W.cell? ⟨w.heap.size, 0, none⟩ = some (.pointer (some ⟨p, 0, none⟩)) := t1.cell 0
      have L : (loadSem 83 (.pointer (some ⟨w.heap.size + 1, 0, none⟩))).run Try.prog W.drew = .ok (.agg r.cs) W.drew := loadRes_of (w := W.drew) t2 (fun j _ => by rw [Nat.zero_add]) _ Try.underlying83 rfl (s_row r)
      have Bd := buildSem_run r W.drew
      obtain ⟨WA, hWA⟩ : ∃ WA, W.drew.alloc (.cells r.cs 83) = WA := ⟨_, rfl⟩
      have hqA : Blk WA W.heap.size 83 r.cs := by rw [← hWA]; exact Blk.new W.drew _ _
      have hkA : Kept [] W WA := by rw [← hWA]; exact (Kept.refl [] W).drew.alloc _
      have cpA : WA.cell? ⟨w.heap.size, 0, none⟩ = some (.pointer (some ⟨p, 0, none⟩)) := (t1.kept hkA (by simp)).cell 0
      have c1A : WA.cell? ⟨p, 1, none⟩ = some bv2 := (hcs.kept hkA (by simp)).cell 1
      have LA : (loadSem 83 (.pointer (some ⟨w.heap.size + 1, 0, none⟩))).run Try.prog WA = .ok (.agg r.cs) WA := loadRes_of (w := WA) (t2.kept hkA (by simp)) (fun j _ => by rw [Nat.zero_add]) _ Try.underlying83 rfl (s_row r)
      have tDA := tD.apart hkA (by simp)
      obtain ⟨g, cap, W3, hap, hown, hgr, hgn⟩ := appSem_run (r := r) 73 tDA.buf tDA.ok.held hqA (by have := hkA.size; have := dk.size; omega)
      have hne1 : some p ≠ bv2.ownBlock := fun e => (tD.far p e.symm).1 rfl
      have hkd3 : Kept bv2.ownBlock.toList WA W3 := (Kept.refl _ _).grown hgr (fun k hk => .inl (by simpa using hk))
      have hk3' : Kept bv2.ownBlock.toList W W3 := (hkA.more (by simp)).trans hkd3
      have hb3 : Blk W3 p 75 (dcs pb bv2 D2) := hcs.kept hk3' (fun hm => hne1 (own_mem hm))
      have c13 : W3.cell? ⟨p, 1, none⟩ = some bv2 := hb3.cell 1
      have f13 : W3.frozen? ⟨p, 1, none⟩ = false := hb3.free 1
      have cp3 : W3.cell? ⟨w.heap.size, 0, none⟩ = some (.pointer (some ⟨p, 0, none⟩)) := (t1.kept hk3' (fun hm => hne2 (own_mem hm))).cell 0
      have hfin := tD.rebuf hk3' (R' := D2.rows ++ [r]) (fun i hi => ⟨(tD.far i (by simpa using hi)).1, (tD.far i (by simpa using hi)).2.1⟩) (by rw [List.length_append]; exact hown) (ok_more tD.ok tl (by rw [tpl]; exact hr) tn)
      have hgo : Goes W (W3.setCell ⟨p, 1, none⟩ (.slice (some ⟨g, 0, none⟩) (D2.rows.length + 1) cap)) p pb bv2 (.slice (some ⟨g, 0, none⟩) (D2.rows.length + 1) cap) :=
        ⟨(hk3'.more (by simp [fp]; intro a ha; exact .inr (.inr ha))).setCell (.inl (by simp [fp])) _, fun k hk => by
          obtain rfl : g = k := by simpa [Value.ownBlock] using hk
          rcases hgn with h9 | h9
          · exact .inl h9
          · exact .inr (Nat.le_trans hkA.size h9)⟩
      have hkk := tG.trans hgo
      have hdef2 : (W3.setCell ⟨p, 1, none⟩ (.slice (some ⟨g, 0, none⟩) (D2.rows.length + 1) cap)).heap[d]? = some (.deferred (some [])) :=
        (Below.heap_setCell _ _ _ _ (by show d ≠ p; omega)).trans (hk3'.blk tdef (fun hm => hne3 (own_mem hm)))
      have HFin := Lib.hid hfin
      have HKK := Lib.hid hkk
      have HDef := Lib.hid hdef2
      have HM := Lib.hid tm
      rw [hWA] at Bd
      have hsz9 : W.drew.heap.size = W.heap.size := rfl
      rw [hsz9] at Bd
      generalize hn9 : D2.rows.length = n9 at *
      have HN9 := Lib.hid hn9
      clear hn9 hsz9 hfin hkk hdef2 tm hown hgr hgn hne1 hne2 hne3 hk3' hkd3 hb3 tD tDA t1 t2 hqA hkA hcs tG hgo tdef tn tl tpl hWA dk h h3 b1 b2 b3
      go_wp2_with fail
      refine wp_region_noPanic ?_
      go_region
      all_goals
        refine NoPanic.normal (marks_end HDef.out (results_none rfl _ _ _) ⟨rfl, .slice (some ⟨g, 0, none⟩) (n9 + 1) cap, ?_, ?_⟩)
        · rw [HM.out]
          exact dsk_put HFin.out HDef.out rfl
        · exact ⟨put_kept HKK.out.kept HDef.out (by omega), HKK.out.new⟩
    · have hb8 : ((D.rows.length : Int) == 8) = false := by rw [beq_eq_false_iff_ne]; omega
      have tm0 : holdM D r = { D with rows := D.rows ++ [r] } := by
        unfold holdM; rw [hfi]; simp only [if_neg h8]
      have tl : D.rows.length < 8 := by have := dD.ok.held; omega
      clear h8
      go_wp2_with fail
      obtain ⟨D2, hD2⟩ : ∃ D2, D2 = D := ⟨_, rfl⟩
      obtain ⟨bv2, hbv2⟩ : ∃ bv2, bv2 = bv := ⟨_, rfl⟩
      obtain ⟨W, hW2⟩ : ∃ W, W = W0' := ⟨_, rfl⟩
      have tm : holdM D r = { D2 with rows := D2.rows ++ [r] } := by rw [hD2]; exact tm0
      clear tm0
      rw [← hD2] at tl
      have tD : Dsk W B p pb bv2 D2 := by rw [hD2, hbv2, hW2]; exact dD
      have tpl : D2.plate.length = D.plate.length := by rw [hD2]
      have tn : ∀ y ∈ D2.rows, y.s ≠ r.s := by rw [hD2]; exact hnone
      have t1 : Blk W w.heap.size 27 #[.pointer (some ⟨p, 0, none⟩)] := by rw [hW2]; exact d1
      have t2 : Blk W (w.heap.size + 1) 83 r.cs := by rw [hW2]; exact d2
      have tdef : W.heap[d]? = some (.deferred (some [])) := by rw [hW2]; exact hdef
      have hne2 : ¬ some w.heap.size = bv2.ownBlock := fun e => by
        rw [hbv2] at e
        have := (HFar0.out _ e.symm).2.2.2; omega
      have hne3 : ¬ some d = bv2.ownBlock := fun e => by
        rw [hbv2] at e
        have := (HFar0.out _ e.symm).2.2.2; omega
      have tG : Goes w W p pb bv bv2 := by rw [hW2, hbv2]; exact ⟨dk.more (by simp), fun k hk => .inl hk⟩
      have dk := tG.kept
      rw [← hW2]
      clear hdef d1 d2 dD hD2 hnone hfi hbv2 hW2 c1 cp
      have hcs := tD.cells
      have c1 : W.cell? ⟨p, 1, none⟩ = some bv2 := tD.c1
      have f1 : W.frozen? ⟨p, 1, none⟩ = false := tD.cells.free 1
      have cp : W.cell? ⟨w.heap.size, 0, none⟩ = some (.pointer (some ⟨p, 0, none⟩)) := t1.cell 0
      have L : (loadSem 83 (.pointer (some ⟨w.heap.size + 1, 0, none⟩))).run Try.prog W.drew = .ok (.agg r.cs) W.drew := loadRes_of (w := W.drew) t2 (fun j _ => by rw [Nat.zero_add]) _ Try.underlying83 rfl (s_row r)
      have Bd := buildSem_run r W.drew
      obtain ⟨WA, hWA⟩ : ∃ WA, W.drew.alloc (.cells r.cs 83) = WA := ⟨_, rfl⟩
      have hqA : Blk WA W.heap.size 83 r.cs := by rw [← hWA]; exact Blk.new W.drew _ _
      have hkA : Kept [] W WA := by rw [← hWA]; exact (Kept.refl [] W).drew.alloc _
      have cpA : WA.cell? ⟨w.heap.size, 0, none⟩ = some (.pointer (some ⟨p, 0, none⟩)) := (t1.kept hkA (by simp)).cell 0
      have c1A : WA.cell? ⟨p, 1, none⟩ = some bv2 := (hcs.kept hkA (by simp)).cell 1
      have LA : (loadSem 83 (.pointer (some ⟨w.heap.size + 1, 0, none⟩))).run Try.prog WA = .ok (.agg r.cs) WA := loadRes_of (w := WA) (t2.kept hkA (by simp)) (fun j _ => by rw [Nat.zero_add]) _ Try.underlying83 rfl (s_row r)
      have tDA := tD.apart hkA (by simp)
      obtain ⟨g, cap, W3, hap, hown, hgr, hgn⟩ := appSem_run (r := r) 73 tDA.buf tDA.ok.held hqA (by have := hkA.size; have := dk.size; omega)
      have hne1 : some p ≠ bv2.ownBlock := fun e => (tD.far p e.symm).1 rfl
      have hkd3 : Kept bv2.ownBlock.toList WA W3 := (Kept.refl _ _).grown hgr (fun k hk => .inl (by simpa using hk))
      have hk3' : Kept bv2.ownBlock.toList W W3 := (hkA.more (by simp)).trans hkd3
      have hb3 : Blk W3 p 75 (dcs pb bv2 D2) := hcs.kept hk3' (fun hm => hne1 (own_mem hm))
      have c13 : W3.cell? ⟨p, 1, none⟩ = some bv2 := hb3.cell 1
      have f13 : W3.frozen? ⟨p, 1, none⟩ = false := hb3.free 1
      have cp3 : W3.cell? ⟨w.heap.size, 0, none⟩ = some (.pointer (some ⟨p, 0, none⟩)) := (t1.kept hk3' (fun hm => hne2 (own_mem hm))).cell 0
      have hfin := tD.rebuf hk3' (R' := D2.rows ++ [r]) (fun i hi => ⟨(tD.far i (by simpa using hi)).1, (tD.far i (by simpa using hi)).2.1⟩) (by rw [List.length_append]; exact hown) (ok_more tD.ok tl (by rw [tpl]; exact hr) tn)
      have hgo : Goes W (W3.setCell ⟨p, 1, none⟩ (.slice (some ⟨g, 0, none⟩) (D2.rows.length + 1) cap)) p pb bv2 (.slice (some ⟨g, 0, none⟩) (D2.rows.length + 1) cap) :=
        ⟨(hk3'.more (by simp [fp]; intro a ha; exact .inr (.inr ha))).setCell (.inl (by simp [fp])) _, fun k hk => by
          obtain rfl : g = k := by simpa [Value.ownBlock] using hk
          rcases hgn with h9 | h9
          · exact .inl h9
          · exact .inr (Nat.le_trans hkA.size h9)⟩
      have hkk := tG.trans hgo
      have hdef2 : (W3.setCell ⟨p, 1, none⟩ (.slice (some ⟨g, 0, none⟩) (D2.rows.length + 1) cap)).heap[d]? = some (.deferred (some [])) :=
        (Below.heap_setCell _ _ _ _ (by show d ≠ p; omega)).trans (hk3'.blk tdef (fun hm => hne3 (own_mem hm)))
      have HFin := Lib.hid hfin
      have HKK := Lib.hid hkk
      have HDef := Lib.hid hdef2
      have HM := Lib.hid tm
      rw [hWA] at Bd
      have hsz9 : W.drew.heap.size = W.heap.size := rfl
      rw [hsz9] at Bd
      generalize hn9 : D2.rows.length = n9 at *
      have HN9 := Lib.hid hn9
      clear hn9 hsz9 hfin hkk hdef2 tm hown hgr hgn hne1 hne2 hne3 hk3' hkd3 hb3 tD tDA t1 t2 hqA hkA hcs tG hgo tdef tn tl tpl hWA dk h h3 b1 b2 b3
      go_wp2_with fail
      refine wp_region_noPanic ?_
      go_region
      all_goals
        refine NoPanic.normal (marks_end HDef.out (results_none rfl _ _ _) ⟨rfl, .slice (some ⟨g, 0, none⟩) (n9 + 1) cap, ?_, ?_⟩)
        · rw [HM.out]
          exact dsk_put HFin.out HDef.out rfl
        · exact ⟨put_kept HKK.out.kept HDef.out (by omega), HKK.out.new⟩
  case stop =>
    rintro d c k W hd hk2 ⟨⟨rfl, ini, x, e1, e2, e3, dD⟩, dk⟩ hdef
    have hx : x = rowAt D.rows ⟨k, hk2⟩ ∧ ini = upTo D.rows k := by
      rw [upTo_succ (k := k) (rowAt D.rows ⟨k, hk2⟩) rfl] at e1
      obtain ⟨h1, h2⟩ := List.append_inj' e1 rfl
      have h3 : rowAt D.rows ⟨k, hk2⟩ = x := by simpa using h2
      exact ⟨h3.symm, h1.symm⟩
    obtain ⟨rfl, rfl⟩ := hx
    have hm : holdM D r = { D with rows := D.rows.set k r } := by
      have e : D.rows.findIdx? (fun y => y.s == r.s) = some k := by
        rw [List.findIdx?_eq_some_iff_getElem]
        refine ⟨hk2, by simpa [rowAt] using e3, fun j hj => ?_⟩
        have hin : rowAt D.rows ⟨j, by omega⟩ ∈ upTo D.rows k := List.mem_map.2 ⟨⟨j, by omega⟩, by
          rw [List.mem_iff_getElem]
          exact ⟨j, by simp; omega, by simp⟩, rfl⟩
        have := e2 _ hin
        simpa [rowAt] using this
      unfold holdM
      rw [e]
    have HM := Lib.hid hm
    clear hm e1 e2 e3
    go_wp2
    refine marks_ret hdef (results_none rfl _ _ _) ⟨rfl, bv, ?_, ?_⟩
    · rw [HM.out]
      exact dsk_put dD hdef rfl
    · exact ⟨put_kept (dk.more (fun i hi => by simp only [fp, List.mem_cons]; exact .inr (.inr hi))) hdef (by omega), fun k hk => .inl hk⟩
end Go.Proofs.Ytelpihlifdfgoaa
namespace Go.Proofs.Ytelpihlifdfgoaa
open Go.RowKit Go.Shelf
set_option linter.unusedVariables false

def passO (o : Option Nat) : Option Nat := o.map (· - 1)
theorem ok_turn {D D' : Dk} (h : D.Ok) (h1 : D'.plate = D.plate) (h2 : D'.rows = D.rows) (h3 : ∀ n, D'.fuse = some n → n ≤ 9223372036854775807) (h4 : ∀ n, D'.flaw = some n → n ≤ 9223372036854775807) : D'.Ok :=
  ⟨by rw [h1]; exact h.pos, by rw [h1]; exact h.max, by rw [h2]; exact h.held, by rw [h1, h2]; exact h.at_, by rw [h2]; exact h.once, h3, h4⟩
theorem passO_le {o : Option Nat} (h : ∀ n, o = some n → n ≤ 9223372036854775807) : ∀ n, passO o = some n → n ≤ 9223372036854775807 := by
  intro n hn
  cases o with
  | none => simp [passO] at hn
  | some m =>
    have := h m rfl
    simp [passO] at hn
    omega

/-- What becomes of a disk whose flaw strikes, or goes by. -/
def failM (D : Dk) : Dk := { D with flaw := none }
def flawM (D : Dk) : Dk := { D with flaw := passO D.flaw }
def countM (D : Dk) : Dk := { D with ops := wrap64 (D.ops + 1) }

set_option maxHeartbeats 1000000 in
theorem act_fail {w : World} {B p pb : Nat} {bv : Value} {D : Dk} (h : Dsk w B p pb bv D) (hf : D.flaw = some 0) (f : Value) :
    Calls Try.prog 70 #[.pointer (some ⟨p, 0, none⟩), f] w fun e w' => e = .returned (.int .i64 8) ∧ Dsk w' B p pb bv (failM D) ∧ Goes w w' p pb bv bv := by
  have c4 := h.c4
  have c5 := h.c5
  have hcm := comes_any D.flaw w
  have hd : decide (D.flaw = some 0) = true := by simp [hf]
  rw [hd] at hcm
  have hA := h.alloc (.cells #[.bool (cdB D.flaw), .int .i64 (cdI D.flaw)] 70)
  have hG := (Goes.refl w p pb bv).alloc (.cells #[.bool (cdB D.flaw), .int .i64 (cdI D.flaw)] 70)
  have e0 : cdI D.flaw = 0 := by rw [hf]; rfl
  have ok : (failM D).Ok := ok_turn h.ok rfl rfl h.ok.fuse (by intro n hn; cases hn)
  obtain ⟨WA, hWA⟩ : ∃ WA, w.alloc (.cells #[.bool (cdB D.flaw), .int .i64 (cdI D.flaw)] 70) = WA := ⟨_, rfl⟩
  rw [hWA] at hcm hA hG
  have h1 : Dsk (WA.setCell ⟨p, 4, none⟩ (.bool false)) B p pb bv (failM D) := hA.turn 4 (.bool false) (failM D) (by
    simp [dcs, failM, hf, cdB, cdI]) rfl rfl ok
  have h2 := h1.turn 5 (.int .i64 0) (failM D) (by simp [dcs, failM, cdB, cdI]) rfl rfl ok
  have d4 := hA.c4
  have d5 := hA.c5
  have f4 := hA.cells.free 4
  have f5 := hA.cells.free 5
  have hG2 := (hG.setCell 4 (.bool false)).setCell 5 (.int .i64 0)
  clear hd hf hA h1 e0 hWA h
  go_enter Try.func70, Try.ntmps70
  go_wp2_with fail
  refine hcm.mono ?_
  rintro e w' ⟨rfl, rfl⟩
  go_wp2
  go_ret
  exact ⟨rfl, h2, hG2⟩

set_option maxHeartbeats 1000000 in
theorem act_ok' {w : World} {B p pb : Nat} {bv : Value} {D D2 : Dk} (h : Dsk w B p pb bv D) (hf : D.flaw ≠ some 0) (c : Nat) (caps : Array Value) (eg : ∀ args w, (callFunc c args).run Try.prog w = .ok (.enter c args) w) (Y : World → World → Value → Prop)
    (hcl : ∀ W1, Dsk W1 B p pb bv (flawM D) → Goes w W1 p pb bv bv → Calls Try.prog c caps W1 fun e w' => e = .returned (.tuple #[]) ∧ ∃ bv', Dsk w' B p pb bv' D2 ∧ Y W1 w' bv') :
    Calls Try.prog 70 #[.pointer (some ⟨p, 0, none⟩), .func (.func c) #[] caps] w fun e w' => e = .returned (.int .i64 0) ∧ ∃ bv' WB w3, Goes w WB p pb bv bv ∧ Dsk w3 B p pb bv' D2 ∧ Y WB w3 bv' ∧ w' = w3.setCell ⟨p, 7, none⟩ (.int .i64 (wrap64 (D2.ops + 1))) ∧ Dsk w' B p pb bv' (countM D2) := by
  have c4 := h.c4
  have c5 := h.c5
  have hcm := comes_any D.flaw w
  have hd : decide (D.flaw = some 0) = false := by simpa using hf
  rw [hd] at hcm
  have hA := h.alloc (.cells #[.bool (cdB D.flaw), .int .i64 (cdI D.flaw)] 70)
  have hG := (Goes.refl w p pb bv).alloc (.cells #[.bool (cdB D.flaw), .int .i64 (cdI D.flaw)] 70)
  have ok : (flawM D).Ok := ok_turn h.ok rfl rfl h.ok.fuse (passO_le h.ok.flaw)
  obtain ⟨WA, hWA⟩ : ∃ WA, w.alloc (.cells #[.bool (cdB D.flaw), .int .i64 (cdI D.flaw)] 70) = WA := ⟨_, rfl⟩
  rw [hWA] at hcm hA hG
  have hpass : ∃ WB, Calls Try.prog 86 #[.pointer (some ⟨p, 4, none⟩)] WA (fun e w' => e = .returned (.tuple #[]) ∧ WB = w') ∧ Dsk WB B p pb bv (flawM D) ∧ Goes w WB p pb bv bv := by
    cases hfl : D.flaw with
    | none =>
      have e : flawM D = D := by unfold flawM; rw [hfl]; simp [passO]; rw [← hfl]
      exact ⟨WA, pass_none (by have := hA.c4; rw [hfl] at this; exact this), by rw [e]; exact hA, hG⟩
    | some m =>
      obtain ⟨n, rfl⟩ : ∃ n, m = n + 1 := ⟨m - 1, by have : m ≠ 0 := fun e => hf (by rw [hfl, e]); omega⟩
      have hmax := h.ok.flaw _ hfl
      refine ⟨WA.setCell ⟨p, 5, none⟩ (.int .i64 (n : Int)), pass_some (i := 4) (n := n) (by have := hA.c4; rw [hfl] at this; exact this) (by have := hA.c5; rw [hfl] at this; exact this) (hA.cells.free 5) (by omega), ?_, hG.setCell 5 _⟩
      exact hA.turn 5 _ (flawM D) (by simp [dcs, flawM, passO, hfl, cdB, cdI]) rfl rfl ok
  obtain ⟨WB, hps, hB, hGB⟩ := hpass
  have hcall := hcl WB hB hGB
  clear hd hf hA hB h hcl hWA hG ok
  go_enter Try.func70, Try.ntmps70
  go_wp2_with fail
  refine hcm.mono ?_
  rintro e w' ⟨rfl, rfl⟩
  go_wp2_with fail
  refine hps.mono ?_
  rintro e w' ⟨rfl, rfl⟩
  go_wp2_with fail
  refine hcall.mono ?_
  rintro e W3 ⟨rfl, bv', hD3, hY3⟩
  have c7 := hD3.c7
  have f7 := hD3.cells.free 7
  have hfin := hD3.turn 7 (.int .i64 (wrap64 (D2.ops + 1))) (countM D2) (by simp [dcs, countM]) rfl rfl (ok_turn hD3.ok rfl rfl hD3.ok.fuse hD3.ok.flaw)
  have HD3 := Lib.hid hD3
  have HF := Lib.hid hfin
  clear hD3 hcm hps hcall hfin
  go_wp2
  go_ret
  exact ⟨rfl, bv', WB, W3, hGB, HD3.out, hY3, rfl, HF.out⟩
theorem act_ok {w : World} {B p pb : Nat} {bv : Value} {D D2 : Dk} (h : Dsk w B p pb bv D) (hf : D.flaw ≠ some 0) (c : Nat) (caps : Array Value) (eg : ∀ args w, (callFunc c args).run Try.prog w = .ok (.enter c args) w) (X : Value → World → Prop) (hX : ∀ b w' v, X b w' → X b (w'.setCell ⟨p, 7, none⟩ v))
    (hcl : ∀ W1, Dsk W1 B p pb bv (flawM D) → Goes w W1 p pb bv bv → Calls Try.prog c caps W1 fun e w' => e = .returned (.tuple #[]) ∧ ∃ bv', Dsk w' B p pb bv' D2 ∧ Goes W1 w' p pb bv bv' ∧ X bv' w') :
    Calls Try.prog 70 #[.pointer (some ⟨p, 0, none⟩), .func (.func c) #[] caps] w fun e w' => e = .returned (.int .i64 0) ∧ ∃ bv', Dsk w' B p pb bv' (countM D2) ∧ Goes w w' p pb bv bv' ∧ X bv' w' :=
  (act_ok' h hf c caps eg (fun W1 w' bv' => Goes W1 w' p pb bv bv' ∧ X bv' w') (fun W1 h1 h2 => (hcl W1 h1 h2).mono fun e w' ⟨he, bv', h3, h4, h5⟩ => ⟨he, bv', h3, h4, h5⟩)).mono
    fun e w' ⟨he, bv', WB, w3, hG, hD3, ⟨hG3, hX3⟩, hw, hD⟩ => ⟨he, bv', hD, by rw [hw]; exact (hG.trans hG3).setCell 7 _, by rw [hw]; exact hX _ _ _ hX3⟩

/-! ### change -/
def deadM (D : Dk) : Dk := { D with dead := true }
def fuseM (D : Dk) : Dk := { D with fuse := passO D.fuse }

set_option maxHeartbeats 1000000 in
theorem change_dead {w : World} {B p pb : Nat} {bv : Value} {D : Dk} (h : Dsk w B p pb bv D) (hf : D.fuse = some 0) (f : Fn) (xs ys : Array Value) :
    Calls Try.prog 75 #[.pointer (some ⟨p, 0, none⟩), .func f xs ys] w fun e w' => e = .returned (.int .i64 9) ∧ Dsk w' B p pb bv (deadM D) ∧ Goes w w' p pb bv bv := by
  obtain ⟨W1, hW1⟩ : ∃ W1, (w.alloc (.cells #[.pointer (some ⟨p, 0, none⟩)] 27)).alloc (.cells #[.func f xs ys] 1) = W1 := ⟨_, rfl⟩
  have hA : Dsk W1 B p pb bv D := by rw [← hW1]; exact (h.alloc _).alloc _
  have hG : Goes w W1 p pb bv bv := by rw [← hW1]; exact ((Goes.refl w p pb bv).alloc _).alloc _
  have b1 : Blk W1 w.heap.size 27 #[.pointer (some ⟨p, 0, none⟩)] := by rw [← hW1]; exact (Blk.new w _ _).alloc _
  have hcm := comes_any D.fuse W1
  have hd : decide (D.fuse = some 0) = true := by simp [hf]
  rw [hd] at hcm
  obtain ⟨WA, hWA⟩ : ∃ WA, W1.alloc (.cells #[.bool (cdB D.fuse), .int .i64 (cdI D.fuse)] 70) = WA := ⟨_, rfl⟩
  have hA2 : Dsk WA B p pb bv D := by rw [← hWA]; exact hA.alloc _
  have hG2 : Goes w WA p pb bv bv := by rw [← hWA]; exact hG.alloc _
  have b2 : Blk WA w.heap.size 27 #[.pointer (some ⟨p, 0, none⟩)] := by rw [← hWA]; exact b1.alloc _
  rw [hWA] at hcm
  have c0 := b1.cell 0
  have c2 := hA.c2
  have c3 := hA.c3
  have c0' := b2.cell 0
  have d6 := hA2.c6
  have f6 := hA2.cells.free 6
  have hfin := hA2.turn 6 (.bool true) (deadM D) (by simp [dcs, deadM]) rfl rfl (ok_turn h.ok rfl rfl h.ok.fuse h.ok.flaw)
  have hgo := hG2.setCell 6 (.bool true)
  clear hd hf hA hA2 hG hG2 b1 b2 hWA h
  go_enter Try.func75, Try.ntmps75
  go_wp2_with fail
  clear hW1
  refine hcm.mono ?_
  rintro e w' ⟨rfl, rfl⟩
  go_wp2
  go_ret
  exact ⟨rfl, hfin, hgo⟩

/-- change comes to act, with its own closure. -/
theorem change_acts {w : World} {B p pb : Nat} {bv : Value} {D : Dk} (h : Dsk w B p pb bv D) (hf : D.fuse ≠ some 0) (f : Fn) (xs ys : Array Value) (v : Value) (R : World → Prop)
    (hact : ∀ W q, Dsk W B p pb bv D → Goes w W p pb bv bv → w.heap.size ≤ q → Blk W q 27 #[.pointer (some ⟨p, 0, none⟩)] → Blk W (q + 1) 1 #[.func f xs ys] →
      Calls Try.prog 70 #[.pointer (some ⟨p, 0, none⟩), .func (.func 90) #[] #[.pointer (some ⟨q, 0, none⟩), .pointer (some ⟨q + 1, 0, none⟩)]] W fun e w' => e = .returned v ∧ R w')
    : Calls Try.prog 75 #[.pointer (some ⟨p, 0, none⟩), .func f xs ys] w fun e w' => e = .returned v ∧ R w' := by
  have hmf : ∀ (fn : Fn) (first cap : Array Value) (w : World), (Instr.makeFunc fn first cap).run Try.prog w = .ok (.func fn first cap) w := fun _ _ _ _ => rfl
  obtain ⟨W1, hW1⟩ : ∃ W1, (w.alloc (.cells #[.pointer (some ⟨p, 0, none⟩)] 27)).alloc (.cells #[.func f xs ys] 1) = W1 := ⟨_, rfl⟩
  have hA : Dsk W1 B p pb bv D := by rw [← hW1]; exact (h.alloc _).alloc _
  have hG : Goes w W1 p pb bv bv := by rw [← hW1]; exact ((Goes.refl w p pb bv).alloc _).alloc _
  have b1 : Blk W1 w.heap.size 27 #[.pointer (some ⟨p, 0, none⟩)] := by rw [← hW1]; exact (Blk.new w _ _).alloc _
  have b2 : Blk W1 (w.heap.size + 1) 1 #[.func f xs ys] := by
    rw [← hW1]
    have := Blk.new (w.alloc (.cells #[.pointer (some ⟨p, 0, none⟩)] 27)) 1 #[.func f xs ys]
    rwa [World.size_alloc] at this
  have hcm := comes_any D.fuse W1
  have hd : decide (D.fuse = some 0) = false := by simpa using hf
  rw [hd] at hcm
  obtain ⟨WA, hWA⟩ : ∃ WA, W1.alloc (.cells #[.bool (cdB D.fuse), .int .i64 (cdI D.fuse)] 70) = WA := ⟨_, rfl⟩
  have hA2 : Dsk WA B p pb bv D := by rw [← hWA]; exact hA.alloc _
  have hG2 : Goes w WA p pb bv bv := by rw [← hWA]; exact hG.alloc _
  have b1' : Blk WA w.heap.size 27 #[.pointer (some ⟨p, 0, none⟩)] := by rw [← hWA]; exact b1.alloc _
  have b2' : Blk WA (w.heap.size + 1) 1 #[.func f xs ys] := by rw [← hWA]; exact b2.alloc _
  rw [hWA] at hcm
  have c0 := b1.cell 0
  have c2 := hA.c2
  have c3 := hA.c3
  have c0' := b1'.cell 0
  have hcall := hact WA w.heap.size hA2 hG2 (Nat.le_refl _) b1' b2'
  clear hd hf hA hA2 hG hG2 b1 b2 b1' b2' hWA h hact
  go_enter Try.func75, Try.ntmps75
  go_wp2_with fail
  clear hW1
  refine hcm.mono ?_
  rintro e w' ⟨rfl, rfl⟩
  go_wp2_with fail
  refine hcall.mono ?_
  rintro e w' ⟨rfl, hR⟩
  go_wp2
  go_ret
  exact ⟨rfl, hR⟩

set_option maxHeartbeats 1000000 in
/-- change's own closure: the fuse goes by, and then what was handed in is done. -/
theorem change1_any {W : World} {B p pb q : Nat} {bv : Value} {D D2 : Dk} (hD : Dsk W B p pb bv D) (hf : D.fuse ≠ some 0) (b1 : Blk W q 27 #[.pointer (some ⟨p, 0, none⟩)]) (c : Nat) (caps : Array Value) (b2 : Blk W (q + 1) 1 #[.func (.func c) #[] caps]) (eg : ∀ args w, (callFunc c args).run Try.prog w = .ok (.enter c args) w)
    (X : Value → World → Prop)
    (hcl : ∀ W1, Dsk W1 B p pb bv (fuseM D) → Goes W W1 p pb bv bv → Calls Try.prog c caps W1 fun e w' => e = .returned (.tuple #[]) ∧ ∃ bv', Dsk w' B p pb bv' D2 ∧ Goes W1 w' p pb bv bv' ∧ X bv' w') :
    Calls Try.prog 90 #[.pointer (some ⟨q, 0, none⟩), .pointer (some ⟨q + 1, 0, none⟩)] W fun e w' => e = .returned (.tuple #[]) ∧ ∃ bv', Dsk w' B p pb bv' D2 ∧ Goes W w' p pb bv bv' ∧ X bv' w' := by
  have hne : ∀ {i : Nat} (v : Value), Blk (W.setCell ⟨p, i, none⟩ v) (q + 1) 1 #[.func (.func c) #[] caps] := fun v => b2.far (by exact b2.ne hD.cells (by decide)) v
  have ok : (fuseM D).Ok := ok_turn hD.ok rfl rfl (passO_le hD.ok.fuse) hD.ok.flaw
  have hpass : ∃ WB, Calls Try.prog 86 #[.pointer (some ⟨p, 2, none⟩)] W (fun e w' => e = .returned (.tuple #[]) ∧ WB = w') ∧ Dsk WB B p pb bv (fuseM D) ∧ Goes W WB p pb bv bv ∧ Blk WB (q + 1) 1 #[.func (.func c) #[] caps] := by
    cases hfl : D.fuse with
    | none =>
      have e : fuseM D = D := by unfold fuseM; rw [hfl]; simp [passO]; rw [← hfl]
      exact ⟨W, pass_none (by have := hD.c2; rw [hfl] at this; exact this), by rw [e]; exact hD, Goes.refl _ _ _ _, b2⟩
    | some m =>
      obtain ⟨n, rfl⟩ : ∃ n, m = n + 1 := ⟨m - 1, by have : m ≠ 0 := fun e => hf (by rw [hfl, e]); omega⟩
      have hmax := hD.ok.fuse _ hfl
      refine ⟨W.setCell ⟨p, 3, none⟩ (.int .i64 (n : Int)), pass_some (i := 2) (n := n) (by have := hD.c2; rw [hfl] at this; exact this) (by have := hD.c3; rw [hfl] at this; exact this) (hD.cells.free 3) (by omega), ?_, (Goes.refl _ _ _ _).setCell 3 _, hne _⟩
      exact hD.turn 3 _ (fuseM D) (by simp [dcs, fuseM, passO, hfl, cdB, cdI]) rfl rfl ok
  obtain ⟨WB, hps, hB, hGB, hb2⟩ := hpass
  have hcall := hcl WB hB hGB
  have c0 := b1.cell 0
  have c1 := hb2.cell 0
  clear hf hD hB b1 b2 hcl hne hb2 ok
  go_enter Try.func90, Try.ntmps90
  go_wp2_with fail
  refine hps.mono ?_
  rintro e w' ⟨rfl, rfl⟩
  go_wp2_with fail
  refine hcall.mono ?_
  rintro e W3 ⟨rfl, bv', hD3, hG3, hX3⟩
  clear hps hcall
  go_wp2
  go_end0
  exact ⟨rfl, bv', hD3, hGB.trans hG3, hX3⟩
end Go.Proofs.Ytelpihlifdfgoaa
namespace Go.Proofs.Ytelpihlifdfgoaa
open Go.RowKit Go.Shelf
set_option linter.unusedVariables false

theorem change_fail {w : World} {B p pb : Nat} {bv : Value} {D : Dk} (h : Dsk w B p pb bv D) (hf : D.fuse ≠ some 0) (hl : D.flaw = some 0) (f : Fn) (xs ys : Array Value) :
    Calls Try.prog 75 #[.pointer (some ⟨p, 0, none⟩), .func f xs ys] w fun e w' => e = .returned (.int .i64 8) ∧ (Dsk w' B p pb bv (failM D) ∧ Goes w w' p pb bv bv) :=
  change_acts h hf f xs ys _ _ fun W q hD hG hq b1 b2 => (act_fail hD hl _).mono fun e w' ⟨he, h1, h2⟩ => ⟨he, h1, hG.trans h2⟩

theorem Dsk.sep {w : World} {B p pb q : Nat} {bv : Value} {D : Dk} {t : TypeId} {cs : Array Value} (hD : Dsk w B p pb bv D) (b : Blk w q t cs) (h1 : t ≠ 75) (h2 : t ≠ 81) (h3 : t ≠ 83) : q ∉ fp p pb bv := by
  intro hm
  simp only [fp, List.mem_cons, Option.mem_toList] at hm
  rcases hm with h9 | h9 | h9
  · exact b.ne hD.cells h1 h9
  · exact b.ne hD.plate h2 h9
  · rcases hD.buf.2 with ⟨rfl, _⟩ | ⟨g, cap, cur, rfl, _, hg, _⟩
    · simp [Value.ownBlock] at h9
    · obtain rfl : g = q := by simpa [Value.ownBlock] using h9
      exact b.ne (show Blk w g _ cur from hg) h3 rfl

theorem change_ok {w : World} {B p pb : Nat} {bv : Value} {D D2 : Dk} (h : Dsk w B p pb bv D) (hf : D.fuse ≠ some 0) (hl : D.flaw ≠ some 0) (c : Nat) (caps : Array Value) (eg : ∀ args w, (callFunc c args).run Try.prog w = .ok (.enter c args) w) (X : Value → World → Prop) (hX : ∀ b w' v, X b w' → X b (w'.setCell ⟨p, 7, none⟩ v))
    (hcl : ∀ W1, Dsk W1 B p pb bv (fuseM (flawM D)) → Goes w W1 p pb bv bv → Calls Try.prog c caps W1 fun e w' => e = .returned (.tuple #[]) ∧ ∃ bv', Dsk w' B p pb bv' D2 ∧ Goes W1 w' p pb bv bv' ∧ X bv' w') :
    Calls Try.prog 75 #[.pointer (some ⟨p, 0, none⟩), .func (.func c) #[] caps] w fun e w' => e = .returned (.int .i64 0) ∧ ∃ bv', Dsk w' B p pb bv' (countM D2) ∧ Goes w w' p pb bv bv' ∧ X bv' w' :=
  change_acts h hf (.func c) #[] caps _ _ fun W q hD hG hq b1 b2 =>
    (act_ok hD hl 90 _ (enters_of Try.func90 (by kernel_rfl) rfl) X hX fun W1 hD1 hG1 =>
      change1_any hD1 hf (b1.kept hG1.kept (hD.sep b1 (by decide) (by decide) (by decide))) c caps (b2.kept hG1.kept (hD.sep b2 (by decide) (by decide) (by decide))) eg X fun W2 hD2 hG2 =>
        (hcl W2 hD2 ((hG.trans hG1).trans hG2)).mono fun e w' ⟨he, bv', h1, h2, h3⟩ => ⟨he, bv', h1, h2, h3⟩).mono fun e w' ⟨he, bv', h1, h2, h3⟩ => ⟨he, bv', h1, hG.trans h2, h3⟩

/-- Blocks that lie beside a disk. -/
theorem Goes.blk {w w' : World} {p pb g : Nat} {bv bv' : Value} {t : TypeId} {cs : Array Value} (h : Goes w w' p pb bv bv') (hb : Blk w g t cs) (hg : g ∉ fp p pb bv) : Blk w' g t cs := hb.kept h.kept hg
theorem Dsk.beside {w : World} {B p pb g : Nat} {bv : Value} {D : Dk} (h : Dsk w B p pb bv D) (hg : w.heap.size ≤ g) : g ∉ fp p pb bv := fun hm => by
  simp only [fp, List.mem_cons, Option.mem_toList] at hm
  rcases hm with h9 | h9 | h9
  · have := h.lt; omega
  · have := h.plate.lt; omega
  · have := (h.far g h9).2.2.2; omega

/-! ### Read -/
set_option maxHeartbeats 1000000 in
theorem read1_any {W : World} {B p pb q i qb : Nat} {bv : Value} {D : Dk} {C : Array Value} (hD : Dsk W B p pb bv D) (hi : i < D.plate.length) (b1 : Blk W q 27 #[.pointer (some ⟨p, 0, none⟩)]) (b2 : Blk W (q + 1) 3 #[.int .i64 (i : Int)]) (b3 : Blk W qb 81 C) (hC : C.size = 64) (hqb : qb ∉ fp p pb bv) :
    Calls Try.prog 71 #[.pointer (some ⟨q, 0, none⟩), .pointer (some ⟨q + 1, 0, none⟩), .pointer (some ⟨qb, 0, none⟩)] W fun e w' => e = .returned (.tuple #[]) ∧ Dsk w' B p pb bv D ∧ Kept [qb] W w' ∧ Blk w' qb 81 (showsM D i).cs := by
  have c0 := b1.cell 0
  have c1 := b2.cell 0
  have hs := shows_any hD i hi
  generalize showsM D i = b at *
  have hfit : 0 + b.cs.size ≤ C.size := by rw [b.size]; omega
  have ho := over_all (C := C) (vs := b.cs) (by rw [b.size]; exact hC)
  have HO := Lib.hid ho
  clear b1 b2 ho hC
  go_enter Try.func71, Try.ntmps71
  go_wp2_with fail
  refine hs.mono ?_
  rintro e W1 ⟨rfl, hb⟩
  have b3' : Blk W1 qb 81 C := b3.kept (Kept.of_below [] hb) (by simp)
  have hD1 := hD.later hb
  clear hs b3 hD
  go_wp2_with (with_reducible refine wpList_store_blk rfl 81 (.tmp 2) (.tmp 5) rfl qb 0 b.cs C _ rfl rfl b3' hfit (s_blk b) b.one ?_)
  go_end0
  rw [HO.out]
  exact ⟨rfl, hD1.apart ((Kept.refl [qb] W1).setRow (.inl (by simp)) _) (fun x hx => (show x = qb by simpa using hx) ▸ hqb), (Kept.of_below _ hb).setRow (.inl (by simp)) _, b3'.row _⟩

theorem results_blk {fn : Func} {p u : Tmp} {ty : TypeId} (h : fn.results = #[.cell p ty, .tmp u]) (tmps : Array Value) (w : World) (g : Nat) (vs : Array Value) (d : TypeDesc)
    (hp : tmps.getD p undef = .pointer (some ⟨g, 0, none⟩)) (hb : Blk w g ty vs) (hu : Try.prog.underlying ty = some d) (hd : d.isRow = true) (hi : (Try.prog.info? ty).map (·.size) = some vs.size) :
    (results fn tmps).run Try.prog w = .ok (.tuple #[.agg vs, tmps.getD u undef]) w := by
  have hl := run_loadVar_row (P := Try.prog) w g ty ty vs (0, 0) d hb hu (by cases d <;> simp_all) hi
  rw [results_cell_tmp h, hp]
  simp [asAddr, hl, Result.andThen]

def readM (D : Dk) (i : Int) : Dk × Bk × Int :=
  if reachE D i ≠ 0 then (D, Bk.zero, reachE D i) else if D.flaw = some 0 then (failM D, Bk.zero, 8) else (countM (flawM D), showsM D i.toNat, 0)

theorem zero_store : over Bk.zero.cs 0 Bk.zero.cs = Bk.zero.cs := over_all rfl

theorem build_blk_zero (w : World) : (Instr.build 81 #[]).run Try.prog w = .ok (.agg Bk.zero.cs) w := by
  have hz := (zero_of_info z_blk).1 w
  have hu := run_underlying (P := Try.prog) Try.underlying81 w
  unfold Instr.build
  simp only [Sem.run_bind, hz, hu, Result.andThen_ok]
  go_simp
theorem wpList_build_zero {ops : Array Oper} {rest : List Oper} {op : Oper} {a : Act} {w : World} {Q : Exit → Act → World → Prop} (hgd : op.guard = none) (ho : op.op = .build 81 #[])
    (hK : wpList Try.prog ops Q rest (a.put op.dst (.agg Bk.zero.cs)) w) : wpList Try.prog ops Q (op :: rest) a w := by
  refine wpList_plain hgd fun K hK' => ?_
  have hrun := build_blk_zero w
  unfold Oper.wp
  simp only [execOp, ho, List.map_toArray, List.map_nil, Sem.run_bind, hrun, Result.andThen_ok]
  exact hK' _ _ hK

set_option maxHeartbeats 1000000 in
theorem read_far (p : Option Addr) (i err : Int) (w : World) (he : err ≠ 0) (hr : ∀ W, Below w.heap.size w W → Calls Try.prog 69 #[.pointer p, .int .i64 i] W fun e w' => e = .returned (.int .i64 err) ∧ W = w') :
    Calls Try.prog 54 #[.pointer p, .int .i64 i] w fun e w' => e = .returned (.tuple #[.agg Bk.zero.cs, .int .i64 err]) ∧ Below w.heap.size w w' := by
  obtain ⟨W1, hW1⟩ : ∃ W1, ((w.alloc (.cells #[.pointer p] 27)).alloc (.cells #[.int .i64 i] 3)).alloc (.cells Bk.zero.cs 81) = W1 := ⟨_, rfl⟩
  have hb : Below w.heap.size w W1 := by rw [← hW1]; exact (((Below.refl _ _).alloc (Nat.le_refl _) _).alloc (by simp) _).alloc (by simp; omega) _
  have b0 : Blk W1 w.heap.size 27 #[.pointer p] := by rw [← hW1]; exact ((Blk.new w _ _).alloc _).alloc _
  have b1 : Blk W1 (w.heap.size + 1) 3 #[.int .i64 i] := by
    rw [← hW1]
    have := (Blk.new (w.alloc (.cells #[.pointer p] 27)) 3 #[.int .i64 i]).alloc (.cells Bk.zero.cs 81)
    rwa [World.size_alloc] at this
  have b2 : Blk W1 (w.heap.size + 2) 81 Bk.zero.cs := by
    rw [← hW1]
    have := Blk.new ((w.alloc (.cells #[.pointer p] 27)).alloc (.cells #[.int .i64 i] 3)) 81 Bk.zero.cs
    rwa [World.size_alloc, World.size_alloc] at this
  have c0 := b0.cell 0
  have c1 := b1.cell 0
  have hcall := hr W1 hb
  have heb : (err != 0) = true := by simpa using he
  have heb2 : (err == 0) = false := by simpa using he
  have b3 := b2.row Bk.zero.cs
  have hb3 : Below w.heap.size w (W1.setRow (w.heap.size + 2) Bk.zero.cs) := below_setRow hb (by omega) _
  have HZ := Lib.hid zero_store
  clear hr b0 b1 hb
  go_enter Try.func54, Try.ntmps54
  go_wp2_with (with_reducible refine wpList_alloc_z rfl 81 rfl Bk.zero.cs 64 z_blk ?_)
  clear hW1
  refine hcall.mono ?_
  rintro e w' ⟨rfl, rfl⟩
  go_wp2_with (first | (with_reducible refine wpList_build_zero rfl rfl ?_) | (with_reducible refine wpList_store_blk rfl 81 (.tmp 4) (.tmp 14) rfl (w.heap.size + 2) 0 Bk.zero.cs Bk.zero.cs _ rfl rfl b2 (by simp) (s_blk Bk.zero) Bk.zero.one ?_))
  rw [HZ.out]
  refine bodyPost_ret (results_blk rfl _ _ (w.heap.size + 2) Bk.zero.cs _ rfl b3 Try.underlying81 rfl (s_blk Bk.zero)) rfl ?_
  exact ⟨rfl, hb3⟩

set_option maxHeartbeats 1000000 in
theorem read_acts {w : World} {B p pb : Nat} {bv : Value} {D D' : Dk} (h : Dsk w B p pb bv D) (i : Nat) (hi : i < D.plate.length) (hdead : D.dead = false) (err : Int) (b : Bk)
    (hact : ∀ W q qb, Dsk W B p pb bv D → Blk W q 27 #[.pointer (some ⟨p, 0, none⟩)] → Blk W (q + 1) 3 #[.int .i64 (i : Int)] → Blk W qb 81 Bk.zero.cs → qb ∉ fp p pb bv → qb ≠ p →
      Calls Try.prog 70 #[.pointer (some ⟨p, 0, none⟩), .func (.func 71) #[] #[.pointer (some ⟨q, 0, none⟩), .pointer (some ⟨q + 1, 0, none⟩), .pointer (some ⟨qb, 0, none⟩)]] W fun e w' =>
        e = .returned (.int .i64 err) ∧ Dsk w' B p pb bv D' ∧ Kept (qb :: fp p pb bv) W w' ∧ Blk w' qb 81 b.cs) :
    Calls Try.prog 54 #[.pointer (some ⟨p, 0, none⟩), .int .i64 (i : Int)] w fun e w' => e = .returned (.tuple #[.agg b.cs, .int .i64 err]) ∧ Dsk w' B p pb bv D' ∧ Goes w w' p pb bv bv := by
  have hmf : ∀ (fn : Fn) (first cap : Array Value) (w : World), (Instr.makeFunc fn first cap).run Try.prog w = .ok (.func fn first cap) w := fun _ _ _ _ => rfl
  obtain ⟨W1, hW1⟩ : ∃ W1, ((w.alloc (.cells #[.pointer (some ⟨p, 0, none⟩)] 27)).alloc (.cells #[.int .i64 (i : Int)] 3)).alloc (.cells Bk.zero.cs 81) = W1 := ⟨_, rfl⟩
  have hsz1 : W1.heap.size = w.heap.size + 3 := by rw [← hW1]; simp
  have hb : Below w.heap.size w W1 := by rw [← hW1]; exact (((Below.refl _ _).alloc (Nat.le_refl _) _).alloc (by simp) _).alloc (by simp; omega) _
  have b0 : Blk W1 w.heap.size 27 #[.pointer (some ⟨p, 0, none⟩)] := by rw [← hW1]; exact ((Blk.new w _ _).alloc _).alloc _
  have b1 : Blk W1 (w.heap.size + 1) 3 #[.int .i64 (i : Int)] := by
    rw [← hW1]
    have := (Blk.new (w.alloc (.cells #[.pointer (some ⟨p, 0, none⟩)] 27)) 3 #[.int .i64 (i : Int)]).alloc (.cells Bk.zero.cs 81)
    rwa [World.size_alloc] at this
  have b2 : Blk W1 (w.heap.size + 2) 81 Bk.zero.cs := by
    rw [← hW1]
    have := Blk.new ((w.alloc (.cells #[.pointer (some ⟨p, 0, none⟩)] 27)).alloc (.cells #[.int .i64 (i : Int)] 3)) 81 Bk.zero.cs
    rwa [World.size_alloc, World.size_alloc] at this
  have hD1 := h.later hb
  obtain ⟨W2, hW2⟩ : ∃ W2, W1.alloc (.cells Bk.zero.cs 81) = W2 := ⟨_, rfl⟩
  have hD2 : Dsk W2 B p pb bv D := by rw [← hW2]; exact hD1.alloc _
  have d0 : Blk W2 w.heap.size 27 #[.pointer (some ⟨p, 0, none⟩)] := by rw [← hW2]; exact b0.alloc _
  have d1 : Blk W2 (w.heap.size + 1) 3 #[.int .i64 (i : Int)] := by rw [← hW2]; exact b1.alloc _
  have d2 : Blk W2 (w.heap.size + 2) 81 Bk.zero.cs := by rw [← hW2]; exact b2.alloc _
  have d3 : Blk W2 W1.heap.size 81 Bk.zero.cs := by rw [← hW2]; exact Blk.new _ _ _
  have hb2 : Below w.heap.size w W2 := by rw [← hW2]; exact hb.alloc (by omega) _
  have hreach := reach_any hD1 (i : Int)
  have hre : reachE D (i : Int) = 0 := by unfold reachE; rw [hdead, if_neg (by simp), if_pos (by omega)]
  rw [hre] at hreach
  have hlp := h.lt
  have hcall := hact W2 w.heap.size W1.heap.size hD2 d0 d1 d3 (h.beside (by omega)) (by omega)
  have hn2 : w.heap.size + 2 ∉ W1.heap.size :: fp p pb bv := by
    intro hm
    rcases List.mem_cons.1 hm with h9 | h9
    · omega
    · exact h.beside (by omega) h9
  have c0 := b0.cell 0
  have c1 := b1.cell 0
  have e0 := d0.cell 0
  have hb9 := h.beside (g := W1.heap.size) (by omega)
  have h00 : ∀ j, j < b.cs.size → b.cs[0 + j]? = b.cs[j]? := fun j _ => by rw [Nat.zero_add]
  have H0 := Lib.hid h00
  have ho := over_all (C := Bk.zero.cs) (vs := b.cs) (by rw [b.size]; rfl)
  have HO := Lib.hid ho
  have hfit : 0 + b.cs.size ≤ Bk.zero.cs.size := by rw [b.size, Bk.size]; omega
  have HSZ := Lib.hid hsz1
  clear hact b0 b1 b2 hb hD1 hD2 d0 d1 d3 hre hdead h00 ho h hsz1
  go_enter Try.func54, Try.ntmps54
  go_wp2_with (with_reducible refine wpList_alloc_z rfl 81 rfl Bk.zero.cs 64 z_blk ?_)
  clear hW1
  refine hreach.mono ?_
  rintro e w' ⟨rfl, rfl⟩
  go_wp2_with (with_reducible refine wpList_alloc_z rfl 81 rfl Bk.zero.cs 64 z_blk ?_)
  clear hW2
  refine hcall.mono ?_
  rintro e W3 ⟨rfl, hD3, hk3, bq⟩
  have d2' := d2.kept hk3 hn2
  have hkf : Kept (fp p pb bv) w (W3.setRow (w.heap.size + 2) b.cs) := ((Kept.of_below (fp p pb bv) hb2).trans2 hk3 (fun i hi => by
    rcases List.mem_cons.1 hi with rfl | h9
    · right; have := HSZ.out; omega
    · exact .inl h9)).setRow (.inr (by omega)) _
  have hn2' : w.heap.size + 2 ∉ fp p pb bv := fun hm => hn2 (List.mem_cons_of_mem _ hm)
  have hk9 : Kept [w.heap.size + 2] W3 (W3.setRow (w.heap.size + 2) b.cs) := (Kept.refl _ W3).setRow (.inl (by simp)) b.cs
  have hD4 := hD3.apart hk9 (fun x hx => (show x = w.heap.size + 2 by simpa using hx) ▸ hn2')
  have b5 := d2'.row b.cs
  clear hcall hreach hk3 hD3 d2 hb2 hk9 hn2' hn2
  go_wp2_with (first | (with_reducible refine wpList_load_blk rfl 81 (.tmp 7) rfl W1.heap.size 0 rfl b.cs b.cs _ bq H0.out _ Try.underlying81 rfl (s_blk b) ?_) | (with_reducible refine wpList_store_blk rfl 81 (.tmp 4) (.tmp 19) rfl (w.heap.size + 2) 0 b.cs Bk.zero.cs _ rfl rfl d2' hfit (s_blk b) b.one ?_))
  rw [HO.out]
  refine bodyPost_ret (results_blk rfl _ _ (w.heap.size + 2) b.cs _ rfl b5 Try.underlying81 rfl (s_blk b)) rfl ?_
  exact ⟨rfl, hD4, hkf, fun k hk => .inl hk⟩

/-- Read. -/
theorem dread_any {w : World} {B p pb : Nat} {bv : Value} {D : Dk} (h : Dsk w B p pb bv D) (i : Int) :
    Calls Try.prog 54 #[.pointer (some ⟨p, 0, none⟩), .int .i64 i] w fun e w' => e = .returned (.tuple #[.agg (readM D i).2.1.cs, .int .i64 (readM D i).2.2]) ∧ Dsk w' B p pb bv (readM D i).1 ∧ Goes w w' p pb bv bv := by
  unfold readM
  by_cases hr : reachE D i = 0
  · rw [if_neg (by simpa using hr)]
    have hdead : D.dead = false := by
      unfold reachE at hr
      cases hd : D.dead
      · rfl
      · rw [hd] at hr; simp at hr
    have hin : 0 ≤ i ∧ i < D.plate.length := by
      unfold reachE at hr
      rw [hdead, if_neg (by simp)] at hr
      split at hr
      · assumption
      · omega
    obtain ⟨n, rfl⟩ := Int.eq_ofNat_of_zero_le hin.1
    clear hr
    have hn : n < D.plate.length := by omega
    by_cases hf : D.flaw = some 0
    · rw [if_pos hf]
      exact read_acts h n hn hdead 8 Bk.zero (fun W q qb hD b0 b1 b2 hq hqp => (act_fail hD hf _).mono fun e w' ⟨he, h1, h2⟩ => ⟨he, h1, h2.kept.more (fun x hx => List.mem_cons_of_mem _ hx), b2.kept h2.kept hq⟩)
    · rw [if_neg hf]
      refine read_acts h n hn hdead 0 (showsM D n) (fun W q qb hD b0 b1 b2 hq hqp => ?_)
      refine (act_ok' (D2 := flawM D) hD hf 71 _ (enters_of Try.func71 (by kernel_rfl) rfl) (fun W1 w' bv' => bv' = bv ∧ Kept [qb] W1 w' ∧ Blk w' qb 81 (showsM D n).cs) (fun W1 hD1 hG1 => ?_)).mono ?_
      · refine (read1_any hD1 hn (b0.kept hG1.kept (hD.sep b0 (by decide) (by decide) (by decide))) (b1.kept hG1.kept (hD.sep b1 (by decide) (by decide) (by decide))) (b2.kept hG1.kept hq) (Bk.size _) hq).mono ?_
        rintro e w' ⟨rfl, h1, h2, h3⟩
        exact ⟨rfl, bv, h1, rfl, h2, h3⟩
      · rintro e w' ⟨rfl, bv', WB, w3, hG, hD3, ⟨rfl, hk, hb⟩, rfl, hD4⟩
        refine ⟨rfl, hD4, ?_, hb.far (p := ⟨p, 7, none⟩) hqp _⟩
        exact ((hG.kept.more (fun x hx => List.mem_cons_of_mem _ hx)).trans (hk.more (by simp))).setCell (.inl (by simp [fp])) _
  · rw [if_pos hr]
    refine (read_far (some ⟨p, 0, none⟩) i (reachE D i) w hr (fun W hb => reach_any (h.later hb) i)).mono ?_
    rintro e w' ⟨rfl, hb⟩
    exact ⟨rfl, h.later hb, Kept.of_below _ hb, fun k hk => .inl hk⟩
theorem read_nil (i : Int) (w : World) : Calls Try.prog 54 #[.pointer none, .int .i64 i] w fun e w' => e = .returned (.tuple #[.agg Bk.zero.cs, .int .i64 1]) ∧ Below w.heap.size w w' :=
  read_far none i 1 w (by decide) (fun W _ => reach_nil i W)
end Go.Proofs.Ytelpihlifdfgoaa
