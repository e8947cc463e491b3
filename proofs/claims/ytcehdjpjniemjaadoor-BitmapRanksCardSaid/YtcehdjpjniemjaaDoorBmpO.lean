/-
  The contracts of bitmap.Bits and of the reference's Bits. Nothing here is a statement of the document.
-/
import Derived.Test.YtcehdjpjniemjaaDoorBmpN
namespace Go.Proofs.YtcehdjpjniemjaaDoor
open Go.RowKit Go.Shelf
set_option linter.unusedVariables false

theorem i_int : (Tryd.prog.info? 3).map (fun i => (i.zero, i.size, i.bytes)) = some (some (.int .i64 0), 1, 8) := by kernel_rfl
def i64 (n : Nat) : Value := .int .i64 (n : Int)
theorem ownsRow_lower {w : World} {B B' : Nat} {e : TypeId} {z : Nat} {v : Value} {n : Nat} {xs : List Value} (h : w.ownsRow B e z v n xs) (hB : B' ≤ B) : w.ownsRow B' e z v n xs :=
  ⟨h.1, h.2.imp id fun ⟨g, c, cur, e1, e2, r⟩ => ⟨g, c, cur, e1, Nat.le_trans hB e2, r⟩⟩
theorem own_from {w : World} {B : Nat} {e : TypeId} {z : Nat} {v : Value} {n : Nat} {xs : List Value} (h : w.ownsRow B e z v n xs) {k : Nat} (hk : v.ownBlock = some k) : B ≤ k := by
  rcases h.2 with ⟨rfl, _⟩ | ⟨g, cap, cur, rfl, hb, _⟩
  · cases hk
  · simp [Value.ownBlock] at hk; omega
theorem own_raise {w w2 : World} {B B' : Nat} {e : TypeId} {z : Nat} {v : Value} {n : Nat} {xs : List Value} (h : w.ownsRow B' e z v n xs) (h2 : w2.ownsRow B e z v n xs) : w.ownsRow B e z v n xs :=
  ⟨h.1, h.2.imp id fun ⟨g, c, cur, e1, e2, r⟩ => ⟨g, c, cur, e1, own_from h2 (by rw [e1]; rfl), r⟩⟩
theorem own_rowi {β : Type} (B n₀ : Nat) (e : TypeId) (size : Nat) (f : β → List Value) (k : β → Nat) (v : β → Value) : OwnFrom B (fun s W => W.ownsRow n₀ e size (v s) (k s) (f s)) := fun s X Y row hs hg hrow => by
  refine hs.kept hg ?_
  rcases hs.2 with ⟨h9, _⟩ | ⟨g, cap, cur, h9, _, hg', _⟩
  · exact .inl (by rw [h9]; rfl)
  · refine .inr (fun e2 => ?_)
    rw [h9] at e2
    obtain ⟨_, o, ho, hc⟩ := hrow g (by simpa [Value.ownBlock] using e2.symm)
    rw [hg'] at ho; cases ho; cases hc

attribute [local go_sem] Oper.semAt_some
set_option maxRecDepth 100000 in
set_option maxHeartbeats 1000000 in
theorem bits_any {s : Nat} (hs : s < 4294967296) (w : World) (hT : Tz w) :
    Calls Tryd.prog 14 #[.int .u32 s] w fun e w' => ∃ v, e = .returned v ∧ w'.ownsRow w.heap.size 3 1 v (bitsL s).length ((bitsL s).map i64) ∧ Below w.heap.size w w' := by
  obtain ⟨i0, hi, hz0, hz1, hz2⟩ := info_parts i_int
  obtain ⟨W1, hW1⟩ : ∃ W1, w.alloc (.cells #[.slice none 0 0] 29) = W1 := ⟨_, rfl⟩
  have hb1 : Below w.heap.size w W1 := by rw [← hW1]; exact (Below.refl _ _).alloc (Nat.le_refl _) _
  have b1 : Blk W1 w.heap.size 29 #[.slice none 0 0] := by rw [← hW1]; exact Blk.new _ _ _
  have hs1 : W1.heap.size = w.heap.size + 1 := by rw [← hW1]; simp
  obtain ⟨W2, hW2⟩ : ∃ W2, W1.alloc (.cells #[.int .u32 s] 22) = W2 := ⟨_, rfl⟩
  have hb12 : Below W1.heap.size W1 W2 := by rw [← hW2]; exact (Below.refl _ _).alloc (Nat.le_refl _) _
  have hb2 : Below w.heap.size w W2 := hb1.trans (hb12.mono hb1.size)
  have b2 : Blk W2 w.heap.size 29 #[.slice none 0 0] := (hb12.block _ b1.lt).trans b1
  have b3 : Blk W2 W1.heap.size 22 #[.int .u32 s] := by rw [← hW2]; exact Blk.new _ _ _
  have hs2 : W2.heap.size = w.heap.size + 2 := by rw [← hW2]; simp [hs1]
  have hT2 := hT.later hb2
  have h0 := hT.lt
  have hseq := members_tells hs (S := [w.heap.size]) hT2 b3 (by simp; omega) (by simp; omega)
  have hme := members_any s W1
  rw [hW2] at hme
  have hlen := bitsL_len s
  have H1 := Lib.hid (And.intro hb2 (And.intro b2 hs2))
  obtain ⟨L, hL⟩ : ∃ L, bitsL s = L := ⟨_, rfl⟩
  rw [hL] at hseq hlen ⊢
  clear hL
  clear hb1 b1 hb12 hb2 b2 b3 hT hT2 hs1 hs2 hW2
  refine calls_of_wp_marks Tryd.func14 rfl ?_
  simp only [Tryd.ntmps14, List.size_toArray, List.length_cons, List.length_nil, Nat.reduceAdd, Nat.reduceSub, Array.replicate_succ, Array.replicate_zero, List.push_toArray, List.append_toArray, List.nil_append, List.cons_append]
  go_wp2_with fail
  refine hme.mono ?_
  rintro e w2' ⟨rfl, h2'⟩
  have h2' := h2'.symm
  subst h2'
  clear hW1 hme
  go_wp2_with fail
  refine wp_range_low (S := [w.heap.size]) (N := L.length) (enc := encB L) none (fun _ => rfl) rfl (fun _ _ => by simp [go_sem, enters_of Tryd.func24 (by kernel_rfl) rfl]) hseq (fun k hk => by have := H1.out.2.2; simp at hk; omega)
    (fun k W => (∃ v, Blk W w.heap.size 29 #[v] ∧ W.ownsRow (W2.heap.size + 2) 3 1 v k ((L.take k).map i64)) ∧ Below w.heap.size w W)
    (fun _ _ => False) ?hI ?hIx ⟨⟨_, H1.out.2.1, World.ownsRow_nil _ _ _ _⟩, H1.out.1⟩
    (fun k a' W => a' = { tmps := #[.int .u32 s, undef, .slice none 0 0, .pointer (some ⟨w.heap.size, 0, none⟩), i64 (L.getD k 0), .int .u32 s, .func (.func 24) #[] #[.pointer (some ⟨W1.heap.size, 0, none⟩)], i64 (L.getD k 0), undef, undef, undef, undef, undef], defers := [] })
    ?hAx ?assign ?body ?done ?stop
  case hI => exact OwnFrom.and (fun s X Y row hs hg hr => by obtain ⟨v, e1, e2⟩ := hs; exact ⟨v, own_blk (β := Unit) _ _ _ (fun _ => #[v]) () X Y row e1 hg hr, own_rowi (β := Unit) _ _ _ _ (fun _ => (L.take s).map i64) (fun _ => s) (fun _ => v) () X Y row e2 hg hr⟩) (ownFrom_below (Nat.le_refl _) (by have := H1.out.2.2; omega))
  case hIx => exact fun s X Y row hs hg hr => hs
  case hAx => exact fun k a' s X Y row hs hg hr => hs
  case assign =>
    rintro k X K hk hX hI hK
    simp only [List.zip_toArray, List.zip_cons_cons, List.zip_nil_right, List.zip_nil_left, List.size_toArray, List.foldl_toArray', List.foldl_toArray, List.foldl_cons, List.foldl_nil, List.setIfInBounds_toArray, List.set_cons_zero, List.set_cons_succ, encB]
    gi_wp2
    exact hK _ _ (KL.refl _ _ _) hI rfl
  case body =>
    rintro k a' W ⟨⟨v, d1, d2⟩, dk⟩ rfl hk hWs
    have hpt : (L.take (k + 1)).map i64 = (L.take k).map i64 ++ [i64 (L.getD k 0)] := by
      rw [List.take_succ_eq_append_getElem hk, List.map_append]
      simp [hk]
    have cv : W.cell? ⟨w.heap.size, 0, none⟩ = some v := d1.cell 0
    have hv : Boxed W w.heap.size 29 v := d1
    have hwsz := dk.size
    have hS2 := H1.out.2.2
    have hgr : ∀ w1, (W.alloc (.cells #[i64 (L.getD k 0)] 3)).grownBy w1 v.ownBlock → ∀ v', KL (W2.heap.size + 2) [w.heap.size] W (w1.setCell ⟨w.heap.size, 0, none⟩ v') := fun w1 hg v' => by
      refine ⟨by have := hg.size; simp at this ⊢; omega, fun i hi hiS => ?_⟩
      have e1 : (w1.setCell ⟨w.heap.size, 0, none⟩ v').heap[i]? = w1.heap[i]? := Below.heap_setCell w1 ⟨w.heap.size, 0, none⟩ v' i (by simpa using hiS)
      have e2 : w1.heap[i]? = (W.alloc (.cells #[i64 (L.getD k 0)] 3)).heap[i]? := hg.block i (by simp; omega) (fun e => by have := own_from d2 e.symm; omega)
      exact e1.trans (e2.trans (Below.heap_alloc _ _ _ (by omega)))
    have HGR := Lib.hid hgr
    have HS2 := Lib.hid hS2
    clear hS2
    have HPT := Lib.hid hpt
    clear hgr hpt hseq
    unfold i64 at HGR HPT ⊢
    generalize L.getD k 0 = x at *
    gi_wp2_with (gi_at_builtin; refine wpListIn_append_own _ rfl _ _ 29 rfl (W2.heap.size + 2) 3 i0 (.int .i64 0) 1 8 Tryd.underlying29 hi hz0 hz1 hz2 rfl (by decide) _ _ _ rfl (d2.alloc _) ⟨W.heap.size, 0, none⟩ 1 1 [.int .i64 (x : Int)] rfl rfl (cell_one_new _ _ _) (by simp [Value.oneCell']) (by unfold maxLen; omega) (by omega) (by have := HS2.out; simp; omega) ?_; intro v' w1 hown' hgrow _; obtain ⟨g', cap', rfl⟩ := ownsRow_succ hown'; obtain ⟨hv1, hv2, hr3, hk3, hb3⟩ := hv.appended (by decide) (ownsRow_lower d2 (by have := HS2.out; omega)) hwsz (Nat.le_refl _) (ownsRow_lower hown' (by have := HS2.out; omega)) hgrow; have hc1 := hv1.cell; have hf1 := hv1.frozen)
    exact ⟨HGR.out w1 hgrow _, ⟨_, hv2, by have e := own_raise hr3 hown'; rw [← List.map_take, HPT.out]; exact e⟩, dk.trans hb3⟩
  case done =>
    rintro W ⟨⟨v, d1, d2⟩, dk⟩ hdef
    have cv : W.cell? ⟨w.heap.size, 0, none⟩ = some v := d1.cell 0
    rw [List.take_length] at d2
    have hown := ownsRow_lower (ownsRow_putObj d2 (.deferred none) hdef rfl) (show w.heap.size ≤ W2.heap.size + 2 by have := H1.out.2.2; omega)
    have hbf : Below w.heap.size w (W.putObj W2.heap.size (.deferred none)) := dk.trans (belowK_b (w := w) (Nat.le_refl _) W W2.heap.size _ _ (by have := H1.out.2.2; omega) hdef rfl rfl)
    clear d1 d2
    go_wp2
    exact marks_ret hdef (by simp [results, Tryd.results14, go_sem]) ⟨v, rfl, hown, hbf⟩
  case stop => rintro k W hk hF hdef; exact hF.elim
end Go.Proofs.YtcehdjpjniemjaaDoor
