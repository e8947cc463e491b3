/-
  The contract of disk's Pending. Nothing here is a statement of the document.
-/
import Derived.Test.YtaikgngigaohmaaDoorDskD
import Derived.Maps.AppendAt
namespace Go.Proofs.YtaikgngigaohmaaDoor
open Go.RowKit Go.Shelf
set_option linter.unusedVariables false

/-- Sectors as cells. -/
def secs (R : List Rw) : List Value := R.map fun r => .int .i64 (r.s : Int)
theorem i_int : (Tryd.prog.info? 3).map (fun i => (i.zero, i.size, i.bytes)) = some (some (.int .i64 0), 1, 8) := by kernel_rfl

set_option maxHeartbeats 400000 in
theorem pending_nil (w : World) : Calls Tryd.prog 16 #[.pointer none] w fun e w' => e = .returned (.slice none 0 0) ∧ w = w' := by
  go_enter Tryd.func16, Tryd.ntmps16
  go_wp2
  go_ret
  exact ⟨rfl, rfl⟩

theorem own_row {β : Type} (B n₀ : Nat) (e : TypeId) (size : Nat) (f : β → List Value) (k : β → Nat) (v : β → Value) : OwnFrom B (fun s W => W.ownsRow n₀ e size (v s) (k s) (f s)) := fun s X Y row hs hg hrow => by
  refine hs.kept hg ?_
  rcases hs.2 with ⟨h9, _⟩ | ⟨g, cap, cur, h9, _, hg', _⟩
  · exact .inl (by rw [h9]; rfl)
  · refine .inr (fun e2 => ?_)
    rw [h9] at e2
    obtain ⟨_, o, ho, hc⟩ := hrow g (by simpa [Value.ownBlock] using e2.symm)
    rw [hg'] at ho; cases ho; cases hc

/-- A disk whose blocks all lie below n. -/
theorem Dsk.under {W W' : World} {B p pb n : Nat} {bv : Value} {D : Dk} (h : Dsk W B p pb bv D) (hb : Below n W W') (hlt : ∀ k ∈ fp p pb bv, k < n) : Dsk W' B p pb bv D := by
  refine ⟨(hb.block p (hlt p (by simp [fp]))).trans h.cells, (hb.block pb (hlt pb (by simp [fp]))).trans h.plate, ?_, h.hp, h.hpb, h.ok⟩
  rcases h.buf.2 with ⟨rfl, h0⟩ | ⟨g, cap, cur, rfl, hB, hg, r⟩
  · exact ⟨h.buf.1, .inl ⟨rfl, h0⟩⟩
  · exact ⟨h.buf.1, .inr ⟨g, cap, cur, rfl, hB, (hb.block g (hlt g (by simp [fp, Value.ownBlock]))).trans hg, r⟩⟩
theorem Dsk.lts {W : World} {B p pb : Nat} {bv : Value} {D : Dk} (h : Dsk W B p pb bv D) : ∀ k ∈ fp p pb bv, k < W.heap.size := by
  intro k hk
  simp only [fp, List.mem_cons, Option.mem_toList] at hk
  rcases hk with rfl | rfl | hk
  · exact h.lt
  · exact h.plate.lt
  · exact (h.far k hk).2.2.2
theorem secs_snoc (l : List Rw) (r : Rw) : secs (l ++ [r]) = secs l ++ [.int .i64 (r.s : Int)] := by simp [secs]

attribute [local go_sem] Oper.semAt_some

set_option maxRecDepth 100000 in
set_option maxHeartbeats 1000000 in
theorem pending_any {w : World} {B p pb : Nat} {bv : Value} {D : Dk} (h : Dsk w B p pb bv D) :
    Calls Tryd.prog 16 #[.pointer (some ⟨p, 0, none⟩)] w fun e w' => ∃ v, e = .returned v ∧ w'.ownsRow w.heap.size 3 1 v D.rows.length (secs D.rows) ∧ Below w.heap.size w w' := by
  obtain ⟨i0, hi, hz0, hz1, hz2⟩ := info_parts i_int
  obtain ⟨W1, hW1⟩ : ∃ W1, w.alloc (.cells #[.slice none 0 0] 46) = W1 := ⟨_, rfl⟩
  have b1 : Blk W1 w.heap.size 46 #[.slice none 0 0] := by rw [← hW1]; exact Blk.new _ _ _
  have hb : Below w.heap.size w W1 := by rw [← hW1]; exact (Below.refl _ _).alloc (Nat.le_refl _) _
  have h1 := h.later hb
  have hs1 : W1.heap.size = w.heap.size + 1 := by rw [← hW1]; simp
  have h8 := h.ok.held
  have hlp := h.lt
  have HS1 := Lib.hid hs1
  have hlts := h.lts
  have HLt := Lib.hid hlts
  clear hlts
  refine calls_of_wp_marks Tryd.func16 rfl ?_
  simp only [Tryd.ntmps16, List.size_toArray, List.length_cons, List.length_nil, Nat.reduceAdd, Nat.reduceSub, Array.replicate_succ, Array.replicate_zero, List.push_toArray, List.append_toArray, List.nil_append, List.cons_append]
  clear hs1 h
  go_wp2_with fail
  clear hW1
  refine (rows_some _ _).mono ?_
  rintro e W0 ⟨rfl, b3, hk3, hs3⟩
  have b1' := b1.kept hk3 (by simp)
  have h3 := h1.apart hk3 (by simp)
  have hbw : Below w.heap.size w W0 := hb.trans ((hk3.below (B := W1.heap.size) (by simp) (Nat.le_refl _)).mono hb.size)
  have hsw : w.heap.size + 2 = W0.heap.size := by have := HS1.out; omega
  have HSW := Lib.hid hsw
  have HS3 := Lib.hid hs3
  clear h1 hb hk3 b1 hs3 hsw
  go_wp2_with fail
  refine wp_range_rows h3 (b3.cell 0) rfl
    (fun pre W => (∃ v, Blk W w.heap.size 46 #[v] ∧ W.ownsRow w.heap.size 3 1 v pre.length (secs (pre.map (·.1.2))) ∧ Dsk W B p pb bv D) ∧ Below w.heap.size w W)
    (fun _ _ _ => False)
    ?hI ?hIx ⟨⟨_, b1', World.ownsRow_nil _ _ _ _, h3⟩, hbw⟩
    (fun x a' W => ∃ Bx, Blk W Bx 61 x.1.2.cs ∧ a' = { tmps := #[.pointer (some ⟨p, 0, none⟩), undef, .slice none 0 0, .pointer (some ⟨w.heap.size, 0, none⟩), undef, .pointer (some ⟨Bx, 0, none⟩), .pointer (some ⟨p, 0, none⟩), .bool false, .pointer (some ⟨p, 0, none⟩), .func (.func 37) #[] #[.pointer (some ⟨W1.heap.size, 0, none⟩)], .int .i64 (x.1.1 : Int), .agg x.1.2.cs, undef, undef, undef, undef, undef, undef], defers := [] })
    ?hAx ?assign ?body ?done ?stop
  case hI => exact OwnFrom.and (fun s X Y row hs hg hr => by obtain ⟨v, e1, e2, e3⟩ := hs; exact ⟨v, own_blk (β := Unit) _ _ _ (fun _ => #[v]) () X Y row e1 hg hr, own_row (β := Unit) _ _ _ _ (fun _ => secs (s.map (·.1.2))) (fun _ => s.length) (fun _ => v) () X Y row e2 hg hr, own_dsk (β := Unit) _ _ _ _ _ (fun _ => D) () X Y row e3 hg hr⟩) (ownFrom_below (Nat.le_refl _) (by have := HSW.out; omega))
  case hIx => exact fun c s X Y row hs hg hr => hs
  case hAx => exact fun x a' s X Y row hs hg hr => by obtain ⟨Bx, e1, e2⟩ := hs; exact ⟨Bx, own_blk (β := Unit) _ _ _ (fun _ => x.1.2.cs) () X Y row e1 hg hr, e2⟩
  case assign =>
    rintro l pre x W K ⟨⟨v, e1, e2, e3⟩, e4⟩ hK
    have hz : Rw.zero.cs.size = x.1.2.cs.size := by rw [Rw.size, Rw.size]
    have HZ := Lib.hid hz
    clear hz
    gi_wp2_with (first | (with_reducible refine wpListIn_alloc_z rfl 61 rfl Rw.zero.cs 65 z_row ?_) | (with_reducible refine wpListIn_store_new rfl 61 (.tmp 5) (.tmp 11) rfl x.1.2.cs Rw.zero.cs _ rfl rfl HZ.out (s_row _) (Rw.one _) ?_))
    have hB : Below W.heap.size W (W.alloc (.cells x.1.2.cs 61)) := (Below.refl _ _).alloc (Nat.le_refl _) _
    exact hK _ _ ((KeepsOthers.alloc _ _).from _) (SameBuf.kept (Kept.of_below [] hB) (fun k hk => ⟨(e3.far k hk).2.2.2, by simp⟩)) ⟨⟨v, e1.alloc _, e2.alloc _, e3.alloc _⟩, e4.trans (hB.mono e4.size)⟩ ⟨_, Blk.new _ _ _, rfl⟩
  case body =>
    rintro l pre x a' W hl hr2 ⟨⟨v, d1, d2, dD⟩, dk⟩ ⟨Bx, dx, rfl⟩ hlen
    have cx : W.cell? ⟨Bx, 0, none⟩ = some (.int .i64 (x.1.2.s : Int)) := by rw [dx.cell]; exact x.1.2.cell0
    have cv : W.cell? ⟨w.heap.size, 0, none⟩ = some v := d1.cell 0
    have hv : Boxed W w.heap.size 46 v := d1
    have hle : pre.length ≤ 8 := by omega
    have hwsz := dk.size
    have hfar := dD.far
    have HFar := Lib.hid hfar
    clear hr2 hfar
    gi_wp2_with (gi_at_builtin; refine wpListIn_append_own _ rfl _ _ 46 rfl w.heap.size 3 i0 (.int .i64 0) 1 8 Tryd.underlying46 hi hz0 hz1 hz2 rfl (by decide) _ _ _ rfl (d2.alloc _) ⟨W.heap.size, 0, none⟩ 1 1 [.int .i64 (x.1.2.s : Int)] rfl rfl (cell_one_new _ _ _) (by simp [Value.oneCell']) (by unfold maxLen; omega) (by omega) (by simp; omega) ?_; intro v' w1 hown' hgrow _; obtain ⟨g', cap', rfl⟩ := ownsRow_succ hown'; obtain ⟨hv1, hv2, hr3, hk3, hb3⟩ := hv.appended (by decide) d2 hwsz (Nat.le_refl _) hown' hgrow; have hc1 := hv1.cell; have hf1 := hv1.frozen)
    rw [show pre.length + 1 = (pre ++ [x]).length from by simp, ← secs_snoc, show pre.map (·.1.2) ++ [x.1.2] = (pre ++ [x]).map (·.1.2) from by simp] at hr3
    refine ⟨hk3.from _, fun k hk => hb3.block k (HLt.out k (by simp only [fp, List.mem_cons, Option.mem_toList]; exact .inr (.inr hk))), ⟨_, hv2, ?_, dD.under hb3 HLt.out⟩, dk.trans hb3⟩
    simpa using hr3
  case done =>
    rintro d W hd ⟨⟨v, d1, d2, dD⟩, dk⟩ hdef
    have cv : W.cell? ⟨w.heap.size, 0, none⟩ = some v := d1.cell 0
    rw [upTo_rows (Nat.le_refl _), upTo_length (Nat.le_refl _), List.take_length] at d2
    have hown := ownsRow_putObj d2 (.deferred none) hdef rfl
    have hbf : Below w.heap.size w (W.putObj d (.deferred none)) := dk.trans (belowK_b (w := w) (Nat.le_refl _) W d _ _ (by have := HSW.out; omega) hdef rfl rfl)
    clear d1 d2 dD
    go_wp2
    exact marks_ret hdef (by simp [results, Tryd.results16, go_sem]) ⟨v, rfl, hown, hbf⟩
  case stop => rintro d c k W hd hk2 hF hdef; exact hF.elim
end Go.Proofs.YtaikgngigaohmaaDoor
