/-
  Blocks and Spare: what the iterators tell, collected. Nothing here is a statement of the document.
-/
import Derived.Test.YtoidklkloagioaaArnI
import Derived.Maps.AppendAt
import Derived.Maps.OwnIn
import Derived.RangeFuncBox
namespace Go.Proofs.Ytoidklkloagioaa
open Go.RowKit Go.Shelf
set_option linter.unusedVariables false

theorem own_row {β : Type} (B n₀ : Nat) (e : TypeId) (size : Nat) (f : β → List Value) (k : β → Nat) (v : β → Value) : OwnFrom B (fun s W => W.ownsRow n₀ e size (v s) (k s) (f s)) := fun s X Y row hs hg hrow => by
  refine hs.kept hg ?_
  rcases hs.2 with ⟨h9, _⟩ | ⟨g, cap, cur, h9, _, hg', _⟩
  · exact .inl (by rw [h9]; rfl)
  · refine .inr (fun e2 => ?_)
    rw [h9] at e2
    obtain ⟨_, o, ho, hc⟩ := hrow g (by simpa [Value.ownBlock] using e2.symm)
    rw [hg'] at ho; cases ho; cases hc

/-- Pieces, one behind the other, as cells. -/
def pcl (L : List Bl) : List Value := L.flatMap fun b => (pccs b).toList
theorem pcl_snoc (L : List Bl) (b : Bl) : pcl (L ++ [b]) = pcl L ++ (pccs b).toList := by simp [pcl]
theorem pcl_take {L : List Bl} {k : Nat} (hk : k < L.length) : pcl (L.take (k + 1)) = pcl (L.take k) ++ (pccs (L.getD k Bl.zero)).toList := by
  rw [List.take_succ_eq_append_getElem hk, pcl_snoc]
  simp [hk]
theorem i_piece : (Try.prog.info? 86).map (fun i => (i.zero, i.size, i.bytes)) = some (some (.agg (pccs Bl.zero)), 2, 16) := by kernel_rfl
theorem z_piece : (Try.prog.info? 86).map (fun i => (i.zero, i.size)) = some (some (.agg (pccs Bl.zero)), 2) := by kernel_rfl
theorem s_piece (b : Bl) : (Try.prog.info? 86).map (·.size) = some (pccs b).size := by
  show _ = some 2
  kernel_rfl
theorem pc_one (b : Bl) : (pccs b).all (·.oneCell') = true := by simp [pccs, Value.oneCell']
theorem load_piece_rule (v : Value) : Instr.loadAt 86 v = loadSem 86 v := rfl
theorem ld_piece {w : World} {g : Nat} {b : Bl} (h : Blk w g 86 (pccs b)) : (loadSem 86 (.pointer (some ⟨g, 0, none⟩))).run Try.prog w = .ok (.agg (pccs b)) w :=
  loadRes_of (w := w) h (fun j _ => by rw [Nat.zero_add]) _ Try.underlying86 rfl (s_piece b)
def buildPcs (n : Nat) (parts : Array (Nat × Value)) : Sem Value := Instr.buildSlice 75 n parts
theorem build_pcs_rule (n : Nat) (parts : Array (Nat × Value)) : Instr.buildSlice 75 n parts = buildPcs n parts := rfl
theorem bs_piece (b : Bl) (w : World) : (buildPcs 1 #[(0, .agg (pccs b))]).run Try.prog w = .ok (.slice (some ⟨w.heap.size, 0, none⟩) 1 1) (w.alloc (.cells (pccs b) 86)) := by
  unfold pccs
  have hz := (zero_of_info z_piece).1 w
  unfold pccs at hz
  have hu := run_underlying (P := Try.prog) Try.underlying75 w
  unfold buildPcs Instr.buildSlice
  simp only [Sem.run_bind, hu, Result.andThen_ok]
  go_simp

attribute [local go_sem] Oper.semAt_some
attribute [local go_sem ↓] load_piece_rule build_pcs_rule

set_option maxRecDepth 100000 in
set_option maxHeartbeats 1000000 in
theorem appendseq_any {w : World} {gf : FuncId} {lb : Array Value} (L : List Bl) (hL : L.length ≤ 20000) (eg : ∀ args w, (callFunc gf args).run Try.prog w = .ok (.enter gf args) w)
    (hT : ∀ W1, Below w.heap.size w W1 → w.heap.size < W1.heap.size → Tells XP gf lb [w.heap.size] L.length (fun k => #[.agg (pccs (L.getD k Bl.zero))]) W1) :
    Calls Try.prog 76 #[.slice none 0 0, .func (.func gf) #[] lb] w fun e w' => ∃ v, e = .returned v ∧ w'.ownsRow w.heap.size 86 2 v L.length (pcl L) ∧ Below w.heap.size w w' := by
  obtain ⟨i0, hi, hz0, hz1, hz2⟩ := info_parts i_piece
  obtain ⟨W1, hW1⟩ : ∃ W1, w.alloc (.cells #[.slice none 0 0] 75) = W1 := ⟨_, rfl⟩
  have hb1 : Below w.heap.size w W1 := by rw [← hW1]; exact (Below.refl _ _).alloc (Nat.le_refl _) _
  have b1 : Blk W1 w.heap.size 75 #[.slice none 0 0] := by rw [← hW1]; exact Blk.new _ _ _
  have hs1 : W1.heap.size = w.heap.size + 1 := by rw [← hW1]; simp
  have hseq := hT W1 hb1 (by omega)
  have H1 := Lib.hid (And.intro hb1 (And.intro b1 hs1))
  clear hb1 b1 hs1 hT
  refine calls_of_wp_marks Try.func76 rfl ?_
  simp only [Try.ntmps76, List.size_toArray, List.length_cons, List.length_nil, Nat.reduceAdd, Nat.reduceSub, Array.replicate_succ, Array.replicate_zero, List.push_toArray, List.append_toArray, List.nil_append, List.cons_append]
  go_wp2_with fail
  clear hW1
  refine wp_range_row (S := [w.heap.size]) (N := L.length) (enc := fun k => #[.agg (pccs (L.getD k Bl.zero))]) none (fun _ => rfl) rfl eg hseq (fun k hk => by have := H1.out.2.2; simp at hk; omega)
    (fun k W => (∃ v, Blk W w.heap.size 75 #[v] ∧ W.ownsRow w.heap.size 86 2 v k (pcl (L.take k))) ∧ Below w.heap.size w W)
    (fun _ _ => False) ?hI ?hIx ⟨⟨_, H1.out.2.1, World.ownsRow_nil _ _ _ _⟩, H1.out.1⟩
    (fun k a' W => ∃ Bx, Blk W Bx 86 (pccs (L.getD k Bl.zero)) ∧ a' = { tmps := #[.slice none 0 0, .func (.func gf) #[] lb, .pointer (some ⟨w.heap.size, 0, none⟩), undef, .slice none 0 0, .pointer (some ⟨Bx, 0, none⟩), .func (.func gf) #[] lb, .agg (pccs (L.getD k Bl.zero)), undef, undef, undef, undef, undef], defers := [] })
    ?hAx ?assign ?body ?done ?stop
  case hI => exact OwnFrom.and (fun s X Y row hs hg hr => by obtain ⟨v, e1, e2⟩ := hs; exact ⟨v, own_blk (β := Unit) _ _ _ (fun _ => #[v]) () X Y row e1 hg hr, own_row (β := Unit) _ _ _ _ (fun _ => pcl (L.take s)) (fun _ => s) (fun _ => v) () X Y row e2 hg hr⟩) (ownFrom_below (Nat.le_refl _) (by have := H1.out.2.2; omega))
  case hIx => exact fun s X Y row hs hg hr => hs
  case hAx => exact fun k a' s X Y row hs hg hr => by obtain ⟨Bx, e1, e2⟩ := hs; exact ⟨Bx, own_blk (β := Unit) _ _ _ (fun _ => pccs (L.getD k Bl.zero)) () X Y row e1 hg hr, e2⟩
  case assign =>
    rintro k X K hk hX ⟨⟨v, e1, e2⟩, e4⟩ hK
    have hz : (pccs Bl.zero).size = (pccs (L.getD k Bl.zero)).size := rfl
    have HZ := Lib.hid hz
    clear hz
    have hsp := s_piece (L.getD k Bl.zero)
    have hop := pc_one (L.getD k Bl.zero)
    generalize L.getD k Bl.zero = bb at *
    have HS := Lib.hid (And.intro hsp hop)
    clear hsp hop
    simp only [List.zip_toArray, List.zip_cons_cons, List.zip_nil_right, List.zip_nil_left, List.size_toArray, List.foldl_toArray', List.foldl_toArray, List.foldl_cons, List.foldl_nil, List.setIfInBounds_toArray, List.set_cons_zero, List.set_cons_succ]
    generalize hpc : pccs bb = pc at *
    gi_wp2_with (first | (with_reducible refine wpListIn_alloc_z rfl 86 rfl (pccs Bl.zero) 2 z_piece ?_) | (with_reducible refine wpListIn_store_new rfl 86 (.tmp 5) (.tmp 7) rfl pc (pccs Bl.zero) _ rfl rfl HZ.out HS.out.1 HS.out.2 ?_))
    have hB : Below X.heap.size X (X.alloc (.cells pc 86)) := (Below.refl _ _).alloc (Nat.le_refl _) _
    exact hK _ _ (KX.below hB) ⟨⟨v, e1.alloc _, e2.alloc _⟩, e4.trans (hB.mono e4.size)⟩ ⟨_, Blk.new _ _ _, rfl⟩
  case body =>
    rintro k a' W ⟨⟨v, d1, d2⟩, dk⟩ ⟨Bx, dx, rfl⟩ hk hWs
    have hLP := ld_piece dx
    have hpt := pcl_take hk
    have hbs := bs_piece (L.getD k Bl.zero)
    have hone := pc_one (L.getD k Bl.zero)
    have hsz : (pccs (L.getD k Bl.zero)).toList.length = 1 * 2 := rfl
    generalize pccs (L.getD k Bl.zero) = pc at *
    have cv : W.cell? ⟨w.heap.size, 0, none⟩ = some v := d1.cell 0
    have hv : Boxed W w.heap.size 75 v := d1
    have hwsz := dk.size
    have hbW : ∀ v', KX XP [w.heap.size] W ((W.alloc (.cells pc 86)).setCell ⟨w.heap.size, 0, none⟩ v') := fun v' => (KX.below ((Below.refl _ _).alloc (Nat.le_refl _) _)).trans (KX.kept ((Kept.refl _ _).setCell (p := ⟨w.heap.size, 0, none⟩) (.inl (by simp)) v'))
    have hgr : ∀ w1, (W.alloc (.cells pc 86)).grownBy w1 v.ownBlock → ∀ v', KX XP [w.heap.size] W (w1.setCell ⟨w.heap.size, 0, none⟩ v') := fun w1 hg v' => by
      refine (KX.below ((Below.refl _ _).alloc (Nat.le_refl _) _)).trans (KX.trans (B := w1) ⟨hg.size, fun i o hi ho hn => ?_⟩ (KX.kept ((Kept.refl _ _).setCell (p := ⟨w.heap.size, 0, none⟩) (.inl (by simp)) v')))
      refine (hg.block i (Array.getElem?_eq_some_iff.1 ho).1 (fun e => ?_)).trans ho
      rcases (d2.alloc (.cells pc 86)).2 with ⟨rfl, _⟩ | ⟨g9, cap9, cur9, rfl, _, hgb, _⟩
      · simp [Value.ownBlock] at e
      · obtain rfl : g9 = i := by simpa [Value.ownBlock] using e.symm
        rw [hgb] at ho; cases ho; simp [notX, XP] at hn
    have HGR := Lib.hid hgr
    have HPT := Lib.hid hpt
    have HONE := Lib.hid hone
    clear hgr hbW hpt hone dx hseq
    gi_wp2_with (gi_at_builtin; refine wpListIn_append_own _ rfl _ _ 75 rfl w.heap.size 86 i0 (.agg (pccs Bl.zero)) 2 16 Try.underlying75 hi hz0 hz1 hz2 rfl (by decide) _ _ _ rfl (d2.alloc _) ⟨W.heap.size, 0, none⟩ 1 1 pc.toList rfl hsz (fun j u hj => by rw [Addr.add_lit, Nat.zero_add, (Blk.new W 86 pc).cell]; simpa using hj) (fun u hu => Array.all_eq_true_iff_forall_mem.1 HONE.out u (by simpa using hu)) (by unfold maxLen; omega) (by omega) (by simp; omega) ?_; intro v' w1 hown' hgrow _; obtain ⟨g', cap', rfl⟩ := ownsRow_succ hown'; obtain ⟨hv1, hv2, hr3, hk3, hb3⟩ := hv.appended (by decide) d2 hwsz (Nat.le_refl _) hown' hgrow; have hc1 := hv1.cell; have hf1 := hv1.frozen)
    exact ⟨HGR.out w1 hgrow _, ⟨_, hv2, by rw [HPT.out]; exact hr3⟩, dk.trans hb3⟩
  case done =>
    rintro W ⟨⟨v, d1, d2⟩, dk⟩ hdef
    have cv : W.cell? ⟨w.heap.size, 0, none⟩ = some v := d1.cell 0
    rw [List.take_length] at d2
    have hown := ownsRow_putObj d2 (.deferred none) hdef rfl
    have hbf : Below w.heap.size w (W.putObj W1.heap.size (.deferred none)) := dk.trans (belowK_b (w := w) (Nat.le_refl _) W W1.heap.size _ _ (by have := H1.out.2.2; omega) hdef rfl rfl)
    clear d1 d2
    go_wp2
    exact marks_ret hdef (by simp [results, Try.results76, go_sem]) ⟨v, rfl, hown, hbf⟩
  case stop => rintro k W hk hF hdef; exact hF.elim
end Go.Proofs.Ytoidklkloagioaa
