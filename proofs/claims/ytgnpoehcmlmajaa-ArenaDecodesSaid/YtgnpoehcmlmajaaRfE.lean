/-
  The document's arena: the walk of its copy. Nothing here is a statement of the document.
-/
import Derived.Test.YtgnpoehcmlmajaaRfC
import Derived.Maps.AppendAt
import Derived.Laws.AppendOwnNone
import Derived.Laws.ResultCell
namespace Go.Proofs.Ytgnpoehcmlmajaa
open Go.RowKit Go.Shelf
set_option linter.unusedVariables false

/-- Blocks in a row, each with words of its own. -/
structure Blks (w : World) (lo : Nat) (bv : Value) (vs : List Value) (R : List Rb) : Prop where
  row : w.ownsRow lo 84 4 bv R.length (rbs R vs)
  len : vs.length = R.length
  wds : ∀ (k : Nat) (b : Rb) (v : Value), R[k]? = some b → vs[k]? = some v → w.ownsRow lo 53 1 v (2 ^ b.c) (wvl b.ws)
  apart : ∀ (i j : Nat) (v v' : Value), vs[i]? = some v → vs[j]? = some v' → i ≠ j → v.ownBlock ≠ v'.ownBlock
theorem own_ne {w : World} {B B' : Nat} {e e' : TypeId} {z z' : Nat} {v v' : Value} {n n' : Nat} {xs xs' : List Value} (h : w.ownsRow B e z v n xs) (h' : w.ownsRow B' e' z' v' n' xs') (he : e ≠ e') : v.ownBlock = none ∨ v.ownBlock ≠ v'.ownBlock := by
  rcases h.2 with ⟨rfl, _⟩ | ⟨g, cap, cur, rfl, _, hg, _⟩
  · exact .inl rfl
  · refine .inr fun e9 => ?_
    rcases h'.2 with ⟨rfl, _⟩ | ⟨g', cap', cur', rfl, _, hg', _⟩
    · cases e9
    · have : g = g' := by simpa [Value.ownBlock] using e9
      subst this
      rw [hg] at hg'
      cases hg'
      exact he rfl
theorem own_ne_blk {w : World} {B : Nat} {e t : TypeId} {z : Nat} {v : Value} {n : Nat} {xs : List Value} {g : Nat} {C : Array Value} (h : w.ownsRow B e z v n xs) (hb : Blk w g t C) (he : e ≠ t) : some g ≠ v.ownBlock := by
  intro e9
  rcases h.2 with ⟨rfl, _⟩ | ⟨g', cap, cur, rfl, _, hg, _⟩
  · cases e9
  · have : g = g' := by simpa [Value.ownBlock] using e9
    subst this
    have hb' : w.heap[g]? = some (.cells C t (0, 0)) := hb
    rw [hg] at hb'
    cases hb'
    exact he rfl
theorem own_pos {w : World} {B : Nat} {e : TypeId} {z : Nat} {v : Value} {n : Nat} {xs : List Value} (h : w.ownsRow B e z v n xs) (hn : 0 < n) : ∃ g, v.ownBlock = some g ∧ B ≤ g ∧ g < w.heap.size := by
  obtain ⟨g, c, hv, _⟩ := owns_cell h hn
  have e9 : v.ownBlock = some g := by rw [hv]; rfl
  exact ⟨g, e9, h.lt g e9⟩
section
variable {w w' : World} {lo : Nat} {bv : Value} {vs : List Value} {R : List Rb}
theorem Rfa.blks {ls : Nat → Value} {M : Mo} (h : Rfa w lo bv ls vs M) : Blks w lo bv vs M.R := ⟨h.row, h.len, h.wds, h.apart⟩
theorem Blks.nil (w : World) (lo : Nat) : Blks w lo (.slice none 0 0) [] [] := ⟨World.ownsRow_nil _ _ _ _, rfl, fun k b v h => by simp at h, fun i j v v' h => by simp at h⟩
theorem Blks.later (h : Blks w lo bv vs R) (k : Below w.heap.size w w') : Blks w' lo bv vs R :=
  ⟨owns_later h.row k, h.len, fun i b v hb hv => owns_later (h.wds i b v hb hv) k, h.apart⟩
theorem Blks.kept (h : Blks w lo bv vs R) {S : List Nat} (k : Kept S w w') (hS : ∀ s ∈ S, s < lo) : Blks w' lo bv vs R :=
  ⟨ownk h.row k (fun j hj h9 => by have := (h.row.lt j hj).1; have := hS j h9; omega), h.len, fun i b v hb hv => ownk (h.wds i b v hb hv) k (fun j hj h9 => by have := ((h.wds i b v hb hv).lt j hj).1; have := hS j h9; omega), h.apart⟩
theorem Blks.snoc (h : Blks w lo bv vs R) {b : Rb} {wv bv' : Value} (hw : w.ownsRow lo 53 1 wv (2 ^ b.c) (wvl b.ws)) (hfr : ∀ v ∈ vs, v.ownBlock ≠ wv.ownBlock)
    (hr : w'.ownsRow lo 84 4 bv' (R.length + 1) (rbs R vs ++ (b.cs wv).toList)) (hg : w.grownBy w' bv.ownBlock) : Blks w' lo bv' (vs ++ [wv]) (R ++ [b]) := by
  have hl := h.len
  refine ⟨by rw [rbs_snoc hl, List.length_append]; exact hr, by simp [hl], fun k b' v hb hv => ?_, fun i j v v' hi hj hij => ?_⟩
  · rcases Nat.lt_or_ge k R.length with hk | hk
    · rw [List.getElem?_append_left hk] at hb
      rw [List.getElem?_append_left (by omega)] at hv
      exact (h.wds k b' v hb hv).kept hg (own_ne (h.wds k b' v hb hv) h.row (by decide))
    · have hlt := (List.getElem?_eq_some_iff.1 hb).1
      rw [List.length_append, List.length_singleton] at hlt
      obtain rfl : k = R.length := by omega
      rw [List.getElem?_append_right (Nat.le_refl _), Nat.sub_self] at hb
      rw [List.getElem?_append_right (by omega), hl, Nat.sub_self] at hv
      obtain rfl : b = b' := by simpa using hb
      obtain rfl : wv = v := by simpa using hv
      exact hw.kept hg (own_ne hw h.row (by decide))
  · have key : ∀ (i : Nat) (v : Value), (vs ++ [wv])[i]? = some v → (vs[i]? = some v ∧ i < vs.length) ∨ (i = vs.length ∧ v = wv) := fun i v hi => by
      rcases Nat.lt_or_ge i vs.length with hk | hk
      · rw [List.getElem?_append_left hk] at hi; exact .inl ⟨hi, hk⟩
      · have hlt := (List.getElem?_eq_some_iff.1 hi).1
        rw [List.length_append, List.length_singleton] at hlt
        obtain rfl : i = vs.length := by omega
        rw [List.getElem?_append_right (Nat.le_refl _), Nat.sub_self] at hi
        exact .inr ⟨rfl, by simpa using hi.symm⟩
    rcases key i v hi with ⟨h1, h1'⟩ | ⟨h1, rfl⟩ <;> rcases key j v' hj with ⟨h2, h2'⟩ | ⟨h2, rfl⟩
    · exact h.apart i j v v' h1 h2 hij
    · exact hfr v (List.mem_of_getElem? h1)
    · exact (hfr v' (List.mem_of_getElem? h2)).symm
    · omega
theorem Blks.far (h : Blks w lo bv vs R) {g : Nat} {C : Array Value} (hb : Blk w g 36 C) (i : Nat) (v : Value) : Blks (w.setCell ⟨g, i, none⟩ v) lo bv vs R :=
  ⟨ownk h.row ((Kept.refl [g] w).setCell (p := ⟨g, i, none⟩) (.inl (by simp)) v) (fun j hj h9 => by
    obtain rfl : j = g := by simpa using h9
    exact own_ne_blk h.row hb (by decide) hj.symm), h.len, fun i' b v' hb' hv' => ownk (h.wds i' b v' hb' hv') ((Kept.refl [g] w).setCell (p := ⟨g, i, none⟩) (.inl (by simp)) v) (fun j hj h9 => by
    obtain rfl : j = g := by simpa using h9
    exact own_ne_blk (h.wds i' b v' hb' hv') hb (by decide) hj.symm), h.apart⟩
theorem Blks.farR (h : Blks w lo bv vs R) {g : Nat} {C : Array Value} (hb : Blk w g 36 C) (V : Array Value) : Blks (w.setRow g V) lo bv vs R :=
  ⟨ownk h.row ((Kept.refl [g] w).setRow (.inl (by simp)) V) (fun j hj h9 => by
    obtain rfl : j = g := by simpa using h9
    exact own_ne_blk h.row hb (by decide) hj.symm), h.len, fun i' b v' hb' hv' => ownk (h.wds i' b v' hb' hv') ((Kept.refl [g] w).setRow (.inl (by simp)) V) (fun j hj h9 => by
    obtain rfl : j = g := by simpa using h9
    exact own_ne_blk (h.wds i' b v' hb' hv') hb (by decide) hj.symm), h.apart⟩
theorem below_setRow {B : Nat} {a w : World} (h : Below B a w) {g : Nat} (hg : B ≤ g) (V : Array Value) : Below B a (w.setRow g V) :=
  ⟨h.os, h.tape, h.output, by simpa using h.size, fun k hk => (setRow_other w g k V (by omega)).trans (h.block k hk)⟩
end
theorem results_ra {fn : Func} {p : Tmp} (h : fn.results = #[.cell p 36]) (tmps : Array Value) (w : World) (g : Nat) (V : Array Value)
    (hp : tmps.getD p undef = .pointer (some ⟨g, 0, none⟩)) (hb : Blk w g 36 V) (hV : V.size = 13) : (results fn tmps).run Try.prog w = .ok (.agg V) w :=
  results_cell_row h _ _ g 36 V (0, 0) _ hp hb Try.underlying36 rfl (by rw [hV]; exact s_ra)
theorem results_ra2 {fn : Func} {p u : Tmp} (h : fn.results = #[.cell p 36, .tmp u]) (tmps : Array Value) (w : World) (g : Nat) (V : Array Value)
    (hp : tmps.getD p undef = .pointer (some ⟨g, 0, none⟩)) (hb : Blk w g 36 V) (hV : V.size = 13) : (results fn tmps).run Try.prog w = .ok (.tuple #[.agg V, tmps.getD u undef]) w := by
  have hl := run_loadVar_row (P := Try.prog) w g 36 36 V (0, 0) _ hb Try.underlying36 (by simp) (by rw [hV]; exact s_ra)
  rw [results_cell_tmp h, hp]
  simp [asAddr, hl, Result.andThen]
theorem results_ra3 {fn : Func} {p u v : Tmp} (h : fn.results = #[.cell p 36, .tmp u, .tmp v]) (tmps : Array Value) (w : World) (g : Nat) (V : Array Value)
    (hp : tmps.getD p undef = .pointer (some ⟨g, 0, none⟩)) (hb : Blk w g 36 V) (hV : V.size = 13) : (results fn tmps).run Try.prog w = .ok (.tuple #[.agg V, tmps.getD u undef, tmps.getD v undef]) w := by
  have hl := run_loadVar_row (P := Try.prog) w g 36 36 V (0, 0) _ hb Try.underlying36 (by simp) (by rw [hV]; exact s_ra)
  have hp' : tmps[p]?.getD undef = .pointer (some ⟨g, 0, none⟩) := by simpa using hp
  simp only [results, h]
  simp [Sem.run_bind, hp', asAddr, hl, Result.andThen]
theorem own_empty (w : World) (e : TypeId) (z : Nat) : (w.alloc (.cells #[] e)).ownsRow w.heap.size e z (.slice (some ⟨w.heap.size, 0, none⟩) 0 0) 0 [] :=
  ⟨by simp, .inr ⟨_, 0, #[], rfl, Nat.le_refl _, heap_alloc_new w _, Nat.le_refl _, Nat.zero_le _, by simp, by simp⟩⟩
theorem i_rbk : (Try.prog.info? 84).map (fun i => (i.zero, i.size, i.bytes)) = some (some (.agg zeroRb), 4, 48) := by kernel_rfl
theorem i_w32 : (Try.prog.info? 53).map (fun i => (i.zero, i.size, i.bytes)) = some (some (.int .u32 0), 1, 4) := by kernel_rfl
theorem i_int8 : (Try.prog.info? 3).map (fun i => (i.zero, i.size, i.bytes)) = some (some (.int .i64 0), 1, 8) := by kernel_rfl
theorem z_rbk : (Try.prog.info? 84).map (fun i => (i.zero, i.size)) = some (some (.agg zeroRb), 4) := by kernel_rfl
def buildRbs (n : Nat) (parts : Array (Nat × Value)) : Sem Value := Instr.buildSlice 29 n parts
theorem build_rbs_rule (n : Nat) (parts : Array (Nat × Value)) : Instr.buildSlice 29 n parts = buildRbs n parts := rfl
theorem bs_rb (V : Array Value) (hV : V.size = 4) (w : World) : (buildRbs 1 #[(0, .agg V)]).run Try.prog w = .ok (.slice (some ⟨w.heap.size, 0, none⟩) 1 1) (w.alloc (.cells V 84)) := by
  obtain ⟨a, b, c, d, rfl⟩ : ∃ a b c d, V = #[a, b, c, d] := by
    rcases V with ⟨l⟩
    match l, hV with
    | [a, b, c, d], _ => exact ⟨a, b, c, d, rfl⟩
  have hz := (zero_of_info z_rbk).1 w
  unfold zeroRb at hz
  have hu := run_underlying (P := Try.prog) Try.underlying29 w
  unfold buildRbs Instr.buildSlice
  simp only [Sem.run_bind, hu, Result.andThen_ok]
  go_simp
/-- Append of a row of places. -/
theorem wpList_append_ints {w : World} {ops : Array Oper} {rest : List Oper} {o : Oper} {a : Act} {Q : Exit → Act → World → Prop} (hgd : o.guard = none) (s x : Operand)
    (ho : o.op = .call { callee := .builtin .append, args := #[s, x], argTypes := #[30, 30] })
    (base : Nat) (v : Value) (n : Nat) (xs : List Value) (hs : a.eval s = v) (hown : w.ownsRow base 3 1 v n xs) (lo : Nat) (l : List Nat) (y : Value) (hx : a.eval x = y) (hI : Ints w lo y l) (hlen : n + l.length ≤ 140737488) (hbase : base ≤ w.heap.size)
    (h : ∀ v' w', w'.ownsRow base 3 1 v' (n + l.length) (xs ++ ivl l) → w.grownBy w' v.ownBlock → wpList Try.prog ops Q rest (a.put o.dst v') w') : wpList Try.prog ops Q (o :: rest) a w := by
  obtain ⟨i0, hi, hz0, hz1, hz2⟩ := info_parts i_int8
  obtain ⟨ao, c, hy, hc, hn, hL⟩ := hI
  rw [hy] at hx
  cases ao with
  | none =>
    have hc0 := hn rfl
    subst hc0
    obtain rfl : l = [] := List.eq_nil_of_length_eq_zero (by omega)
    exact wpList_append_own_none hgd s x 30 ho base 3 i0 1 Try.underlying30 hi v n xs hs hown hx (h v w (by simpa [ivl] using hown) (World.grownBy.refl _ _))
  | some ad =>
    refine wpList_append_own w hgd s x 30 ho base 3 i0 (.int .i64 0) 1 8 Try.underlying30 hi hz0 hz1 hz2 rfl (by decide) v n xs hs hown ad l.length c (ivl l) hx (by simp [ivl]) ?_ (ivl_one l) (by unfold maxLen; omega) (by omega) hbase (fun v' w' h1 h2 _ => h v' w' h1 h2)
    intro j u hj
    rcases hL with h0 | ⟨b, off, C, h9, hb, hb2, hc⟩
    · subst h0; simp [ivl] at hj
    · obtain rfl : ad = ⟨b, off, none⟩ := by injection h9
      rw [Addr.add_lit]
      exact (hb2.cell _).trans (hc j u hj)
end Go.Proofs.Ytgnpoehcmlmajaa
namespace Go.Proofs.Ytgnpoehcmlmajaa
open Go.RowKit Go.Shelf
set_option linter.unusedVariables false
attribute [local go_sem ↓] load_ra_rule store_ra_rule load_rb_rule store_rb_rule build_rbs_rule
section
variable {w W W' : World} {g lo : Nat} {bv : Value} {ls : Nat → Value} {vs : List Value} {M : Mo}
theorem take_snoc {R : List Rb} {k : Nat} {b : Rb} (hb : R[k]? = some b) : R.take (k + 1) = R.take k ++ [b] := by
  obtain ⟨hk, rfl⟩ := List.getElem?_eq_some_iff.1 hb
  exact List.take_succ_eq_append_getElem hk
set_option maxRecDepth 100000 in
set_option maxHeartbeats 2000000 in
theorem rcopy_any (h : Rfa w lo bv ls vs M) : Calls Try.prog 60 #[.agg (M.vals bv ls)] w fun e w' => ∃ bv' ls' vs', e = .returned (.agg (M.vals bv' ls')) ∧ Rfa w' w.heap.size bv' ls' vs' M ∧ Below w.heap.size w w' := by
  have hB := bx_new h
  obtain ⟨i0, hi, hz0, hz1, hz2⟩ := info_parts i_rbk
  obtain ⟨j0, ji, jz0, jz1, jz2⟩ := info_parts i_w32
  obtain ⟨W1, hW1⟩ : ∃ W1, w.alloc (.cells (M.vals bv ls) 36) = W1 := ⟨_, rfl⟩
  rw [hW1] at hB
  obtain ⟨a, c, hbv⟩ := owns_sl h.row
  have hs1 : W1.heap.size = w.heap.size + 1 := by rw [← hW1]; simp
  have hfew := h.few
  obtain ⟨n, hn⟩ : ∃ n, M.R.length = n := ⟨_, rfl⟩
  rw [hn] at hfew
  obtain ⟨W2, hW2⟩ : ∃ W2, W1.alloc (.cells zeroRa 36) = W2 := ⟨_, rfl⟩
  have hB2 : Bx w W2 w.heap.size lo bv ls vs M := by rw [← hW2]; exact hB.later ((Below.refl _ _).alloc (Nat.le_refl _) _)
  have b2 : Blk W2 (w.heap.size + 1) 36 zeroRa := by rw [← hW2, ← hs1]; exact Blk.new _ _ _
  have hs2 : W2.heap.size = w.heap.size + 2 := by rw [← hW2]; simp [hs1]
  have c1 := hB2.c1
  rw [hbv, hn] at c1
  have HB := Lib.hid (And.intro hB2 (And.intro hbv (And.intro hn (And.intro b2 (And.intro hs1 (And.intro hs2 h))))))
  clear hB h hbv hn b2 hB2 hs2
  have hMv : ∀ b l, (M.vals b l).size = 13 := fun _ _ => rfl
  obtain ⟨V, hV⟩ : ∃ V, M.vals bv ls = V := ⟨_, rfl⟩
  rw [hV] at hW1 ⊢
  unfold zeroRa at hW2
  go_enter Try.func60, Try.ntmps60
  go_wp2_with fail
  clear hW1 hW2 c1 hs1
  go_loopw [3, 10] (fun o i wr => ∃ (k : Nat) (vk : List Value), k ≤ n ∧ i = .int .i64 k ∧ Blks wr w.heap.size o vk (M.R.take k) ∧ Bx w wr w.heap.size lo bv ls vs M ∧ Blk wr (w.heap.size + 1) 36 zeroRa) (fun _ i _ => n - (intOf i).toNat)
  case atStart => exact ⟨0, [], Nat.zero_le _, rfl, Blks.nil _ _, HB.out.1, HB.out.2.2.2.1⟩
  case round =>
    obtain ⟨k, vk, hk, rfl, hbl, hBk, hz⟩ := hrel
    by_cases hlt : k < n
    · obtain ⟨b, hb⟩ : ∃ b, M.R[k]? = some b := ⟨_, List.getElem?_eq_getElem (by rw [HB.out.2.2.1]; exact hlt)⟩
      obtain ⟨v, hv⟩ := hBk.rf.v_get hb
      obtain ⟨gb, c', hbv', _⟩ := owns_cell hBk.rf.row (by rw [HB.out.2.2.1]; omega)
      rw [HB.out.2.1, HB.out.2.2.1] at hbv'
      cases hbv'
      have hrow := hBk.rf.row
      rw [HB.out.2.1] at hrow
      obtain ⟨_, hl⟩ := lrow hrow hb hv (by rw [HB.out.2.2.1]; exact hlt)
      have hki : (k : Int) < (n : Int) := by omega
      have hcs : (b.cs v).size = 4 := rfl
      have hst := srb_new wr hcs (hBk.rf.cs_one hb hv)
      have hok := hBk.rf.ok b (List.mem_of_getElem? hb)
      have hp := pow5 hok.1
      have hwd := hBk.rf.wds k b v hb hv
      obtain ⟨gw, cw, hvw, hzc, hcm, hcl⟩ := owns_cell hwd (by omega)
      have hgw := hwd.lt gw (by rw [hvw]; rfl)
      have hbk2 : Below wr.heap.size wr ((wr.alloc (.cells (b.cs v) 84)).alloc (.cells #[] 53)) := ((Below.refl _ _).alloc (Nat.le_refl _) _).alloc (by simp) _
      have b3 : Blk ((wr.alloc (.cells (b.cs v) 84)).alloc (.cells #[] 53)) wr.heap.size 84 (b.cs v) := (Blk.new _ _ _).alloc _
      have hown0 : ((wr.alloc (.cells (b.cs v) 84)).alloc (.cells #[] 53)).ownsRow (wr.heap.size + 1) 53 1 (.slice (some ⟨wr.heap.size + 1, 0, none⟩) 0 0) 0 [] := by
        have := own_empty (wr.alloc (.cells (b.cs v) 84)) 53 1
        simpa using this
      have e3 : ((wr.alloc (.cells (b.cs v) 84)).alloc (.cells #[] 53)).cell? ⟨wr.heap.size, 3, none⟩ = some v := b3.cell 3
      have hnews : ∀ j u, (wvl b.ws)[j]? = some u → ((wr.alloc (.cells (b.cs v) 84)).alloc (.cells #[] 53)).cell? ((⟨gw, 0, none⟩ : Addr).add j) = some u := fun j u hj => by
        rw [Addr.add_lit, Nat.zero_add]
        exact (World.cell?_of_block (hbk2.block gw hgw.2)).trans (hcl j u hj)
      rw [hvw] at e3
      have HX := Lib.hid (And.intro hb (And.intro hbl (And.intro hBk (And.intro hz (And.intro hbk2 (And.intro b3 (And.intro hvw hok)))))))
      clear hbl hBk hb hv hrow hz hbk2 b3 hwd hcl
      subst hvw
      unfold Rb.cs at hl hst hown0 e3 hnews
      generalize hz9 : 2 ^ b.c = z at *
      go_wp2_with (at_builtin; refine wpList_append_own_at _ rfl _ _ 62 rfl (wr.heap.size + 1) 53 j0 (.int .u32 0) 1 4 Try.underlying62 ji jz0 jz1 jz2 rfl (by decide) _ _ _ rfl hown0 ⟨gw, 0, none⟩ z cw (wvl b.ws) rfl ?q1 hnews (wvl_one _) ?q4 ?q5 ?q6 ?_)
      case q1 => rw [wvl_len, hok.2.1]
      case q4 => unfold maxLen; omega
      case q5 => omega
      intro wv w3 how hgr _ hat
      obtain ⟨aw, cw2, rfl⟩ := owns_sl how
      have b33 : Blk w3 wr.heap.size 84 #[.int .i64 (b.x : Int), .int .i64 (b.c : Int), .bool b.t, .slice (some ⟨gw, 0, none⟩) z cw] := (hgr.block wr.heap.size (by simp; omega) (by simp [Value.ownBlock])).trans HX.out.2.2.2.2.2.1
      have c33 := b33.cell 3
      have f33 := b33.free 3
      have b34 := b33.set 3 (.slice aw z cw2)
      have hwv := own_one how
      simp only [List.setIfInBounds_toArray, List.set_cons_zero, List.set_cons_succ] at b34
      have hl34 := lrb b34 rfl
      obtain ⟨V9, hV9, hV9s⟩ : ∃ V9 : Array Value, #[Value.int .i64 (b.x : Int), .int .i64 (b.c : Int), .bool b.t, (.slice aw z cw2)] = V9 ∧ V9.size = 4 := ⟨_, rfl, rfl⟩
      rw [hV9] at b34 hl34
      have hb3 : Below wr.heap.size wr (w3.setCell ⟨wr.heap.size, 3, none⟩ (.slice aw z cw2)) := (HX.out.2.2.2.2.1.grown hgr (by simp; omega) (fun j hj => by simp [Value.ownBlock] at hj; omega)).setCell (Nat.le_refl _) _
      have hsz4 : (w3.setCell ⟨wr.heap.size, 3, none⟩ (.slice aw z cw2)).heap.size = w3.heap.size := by simp
      have how4 : (w3.setCell ⟨wr.heap.size, 3, none⟩ (.slice aw z cw2)).ownsRow (wr.heap.size + 1) 53 1 (.slice aw z cw2) z (wvl b.ws) := ownk how ((Kept.refl [wr.heap.size] w3).setCell (p := ⟨wr.heap.size, 3, none⟩) (.inl (by simp)) (.slice aw z cw2)) (fun j hj h9 => by
        have := (how.lt j hj).1
        simp at h9; omega)
      have hge : w.heap.size ≤ wr.heap.size := HX.out.2.2.1.hb.size
      have hfr : ∀ v ∈ vk, v.ownBlock ≠ (Value.slice aw z cw2).ownBlock := fun v hv => by
        obtain ⟨i, hi, rfl⟩ := List.mem_iff_getElem.1 hv
        have hbl := HX.out.2.1
        have hil : i < (M.R.take k).length := by have := hbl.len; omega
        have hwi := hbl.wds i _ _ (List.getElem?_eq_getElem hil) (List.getElem?_eq_getElem hi)
        obtain ⟨g, e9, _, hlt9⟩ := own_pos hwi (by have := Nat.pos_of_ne_zero (show 2 ^ ((M.R.take k)[i]).c ≠ 0 by simp); omega)
        obtain ⟨g', e9', hge9, _⟩ := own_pos how (by omega)
        rw [e9, e9']
        intro e; injection e with e; omega
      have hlk : (M.R.take k).length = k := by have := HB.out.2.2.1; simp; omega
      obtain ⟨W4, hW4⟩ : ∃ W4, w3.setCell ⟨wr.heap.size, 3, none⟩ (.slice aw z cw2) = W4 := ⟨_, rfl⟩
      rw [hW4] at hsz4 b34 hl34 hb3 how4
      have hrow5 := (HX.out.2.1.later hb3).row.alloc (.cells V9 84)
      rw [hlk] at hrow5
      obtain ⟨xs5, hxs5⟩ : ∃ xs5, rbs (M.R.take k) vk = xs5 := ⟨_, rfl⟩
      rw [hxs5] at hrow5
      have hone5 : ∀ u ∈ V9.toList, u.oneCell' = true := by rw [← hV9]; simp [Value.oneCell']
      have hbs := bs_rb V9 hV9s W4
      have HY := Lib.hid (And.intro how4 (And.intro hfr (And.intro hb3 (And.intro hxs5 (And.intro hge (And.intro hlk hV9))))))
      have hn5 : ∀ j u, V9.toList[j]? = some u → (W4.alloc (.cells V9 84)).cell? ((⟨W4.heap.size, 0, none⟩ : Addr).add j) = some u := fun j u hj => by
        rw [Addr.add_lit, Nat.zero_add, (Blk.new W4 84 _).cell]
        simpa using hj
      have hba5 : w.heap.size ≤ (W4.alloc (.cells V9 84)).heap.size := by have := hb3.size; simp; omega
      clear hsz4 hV9 how how4 hfr hb3 hgr hat hxs5 hwv
      go_wp2_with (at_builtin; refine wpList_append_own _ rfl _ _ 29 rfl w.heap.size 84 i0 (.agg zeroRb) 4 48 Try.underlying29 hi hz0 hz1 hz2 rfl (by decide) _ _ _ rfl hrow5 ⟨W4.heap.size, 0, none⟩ 1 1 V9.toList rfl (by simp [hV9s]) hn5 hone5 (by unfold maxLen; omega) (by omega) hba5 ?_)
      intro ov w6 how6 hgr6 _
      go_wp2_with fail
      go_roundw
      case rel =>
        have hW5 := HY.out.2.2.1.alloc (by have := HY.out.2.2.1.size; omega) (.cells V9 84)
        have hbl5 := HX.out.2.1.later hW5
        have hB5 := HX.out.2.2.1.later hW5
        have z5 := HX.out.2.2.2.1.kept (Kept.of_below [] hW5) (by simp)
        have hb6 : Below w.heap.size w w6 := hB5.hb.grown hgr6 hB5.hb.size (fun j hj => (hbl5.row.lt j hj).1)
        have hlk := HY.out.2.2.2.2.2.1
        have hsn := hbl5.snoc (b := b) (wv := .slice aw z cw2) (bv' := ov) (w' := w6) (by rw [hz9]; exact (ownsRow_le HY.out.1 (by have := HY.out.2.2.2.2.1; omega)).alloc _) HY.out.2.1 (by
          rw [hlk, HY.out.2.2.2.1, show (b.cs (.slice aw z cw2)).toList = V9.toList by rw [← HY.out.2.2.2.2.2.2]; rfl]
          exact how6) hgr6
        rw [← take_snoc HX.out.1] at hsn
        exact ⟨k + 1, _, by omega, by go_num, hsn, ⟨hb6, (hgr6.block _ hB5.bx.lt (own_ne_blk hbl5.row hB5.bx (by decide))).trans hB5.bx, HB.out.2.2.2.2.2.2.later hb6⟩, (hgr6.block _ z5.lt (own_ne_blk hbl5.row z5 (by decide))).trans z5⟩
      case measure => simp [intOf]; omega
    · obtain rfl : k = n := by omega
      have hall : M.R.take k = M.R := List.take_of_length_le (by have := HB.out.2.2.1; omega)
      rw [hall] at hbl
      obtain ⟨a3, c3, hu3⟩ := owns_sl hbl.row
      rw [HB.out.2.2.1] at hu3
      subst hu3
      have c10 := hBk.c1
      have f10 := hBk.bx.free 1
      have b10 := hBk.bx.set 1 (.slice a3 k c3)
      have e10 : (M.vals bv ls).setIfInBounds 1 (.slice a3 k c3) = M.vals (.slice a3 k c3) ls := by simp [Mo.vals]
      rw [e10] at b10
      have B10 : Below w.heap.size w (wr.setCell ⟨w.heap.size, 1, none⟩ (.slice a3 k c3)) := hBk.hb.setCell (Nat.le_refl _) _
      have bl10 := hbl.far hBk.bx 1 (.slice a3 k c3)
      have z10 := hz.far (p := ⟨w.heap.size, 1, none⟩) (by simp) (.slice a3 k c3)
      obtain ⟨W10, hW10⟩ : ∃ W10, wr.setCell ⟨w.heap.size, 1, none⟩ (.slice a3 k c3) = W10 := ⟨_, rfl⟩
      rw [hW10] at b10 B10 bl10 z10
      have HZ := Lib.hid (And.intro b10 (And.intro bl10 (And.intro z10 (And.intro B10 HB.out.2.2.2.2.2.2))))
      clear hbl hBk hz b10 B10 bl10 z10 hall
      go_wp2_with fail
      clear hW10 c10 f10
      clear HB
      generalize Value.slice a3 k c3 = u3 at *
      go_loopw [26] (fun i wr => ∃ (k : Nat) (l : Nat → Value), k ≤ 6 ∧ i = .int .i64 k ∧ Blk wr w.heap.size 36 (M.vals u3 l) ∧ Blks wr w.heap.size u3 vk M.R ∧ (∀ c, c < k → Ints wr (w.heap.size + 2) (l c) (M.L c)) ∧ (∀ c, k ≤ c → l c = ls c) ∧ Blk wr (w.heap.size + 1) 36 zeroRa ∧ Below w.heap.size w wr) (fun i _ => 6 - (intOf i).toNat)
      case atStart => exact ⟨0, ls, by omega, rfl, HZ.out.1, HZ.out.2.1, fun c hc => by omega, fun c _ => rfl, HZ.out.2.2.1, HZ.out.2.2.2.1⟩
      case round =>
        obtain ⟨m, l, hm, rfl, hb, hbl, hL, hls, hz, hB⟩ := hrel
        by_cases hlt : m < 6
        · have hbx7 := hb.alloc (.cells #[] 3)
          have hk7 : Below wr.heap.size wr (wr.alloc (.cells #[] 3)) := (Below.refl _ _).alloc (Nat.le_refl _) _
          have hge : w.heap.size + 1 < wr.heap.size := hz.lt
          have c7 : (wr.alloc (.cells #[] 3)).cell? ⟨w.heap.size, 2 + m, none⟩ = some (ls m) := (hbx7.cell _).trans (by rw [← hls m (Nat.le_refl _)]; exact M.vals_l _ _ (by omega))
          have hI7 : Ints (wr.alloc (.cells #[] 3)) lo (ls m) (M.L m) := (HZ.out.2.2.2.2.lst m (by omega)).later (hB.alloc (by omega) _)
          have hfl := HZ.out.2.2.2.2.fewl m (by omega)
          have how7 := own_empty wr 3 1
          have hmi : (m : Int) < 6 := by omega
          have HX := Lib.hid (And.intro hb (And.intro hbl (And.intro hL (And.intro hls (And.intro hz hB)))))
          clear hb hbl hL hls hz hB hbx7
          obtain ⟨lm, hlm⟩ : ∃ lm, ls m = lm := ⟨_, rfl⟩
          rw [hlm] at c7 hI7
          obtain ⟨al, cl, hIl, _⟩ := id hI7
          rw [hIl] at c7 hI7
          go_wp2_with (at_builtin; refine wpList_append_ints rfl _ _ rfl wr.heap.size _ _ _ rfl how7 lo (M.L m) (.slice al (M.L m).length cl) rfl hI7 (by omega) (by simp) ?_)
          intro lv w8 how8 hgr8
          obtain ⟨a8, c8, hlv⟩ := owns_sl how8
          subst hlv
          have hk8 : Below wr.heap.size wr w8 := hk7.grown hgr8 (by simp) (fun j hj => by simp [Value.ownBlock] at hj; omega)
          have hb8 := HX.out.1.kept (Kept.of_below [] hk8) (by simp)
          have c88 : w8.cell? ⟨w.heap.size, 2 + m, none⟩ = some (.slice al (M.L m).length cl) := (hb8.cell _).trans (by rw [M.vals_l _ _ (by omega), HX.out.2.2.2.1 m (Nat.le_refl _), hlm, hIl])
          have f88 := hb8.free (2 + m)
          have HY := Lib.hid (And.intro how8 (And.intro hk8 hb8))
          clear how8 hk8 hb8 hgr8 hI7 c7 how7 hk7
          go_wp2_with fail
          go_roundw
          case rel =>
            have hB8 := bel_later HX.out.2.2.2.2.2 HY.out.2.1
            have hb9 := HY.out.2.2.set (2 + m) (.slice a8 (M.L m).length c8)
            rw [M.vals_setL u3 l (by omega) M.L] at hb9
            refine ⟨m + 1, upd l m (.slice a8 (M.L m).length c8), by omega, by go_num, hb9, (HX.out.2.1.later HY.out.2.1).far HY.out.2.2 _ _, fun c hc => ?_, fun c hc => ?_, (HX.out.2.2.2.2.1.kept (Kept.of_below [] HY.out.2.1) (by simp)).far (p := ⟨w.heap.size, 2 + m, none⟩) (by simp) _, hB8.setCell (Nat.le_refl _) _⟩
            · have hKs : Kept [w.heap.size] w8 (w8.setCell ⟨w.heap.size, 2 + m, none⟩ (.slice a8 (M.L m).length c8)) := (Kept.refl _ _).setCell (p := ⟨w.heap.size, 2 + m, none⟩) (.inl (by simp)) _
              unfold upd
              split
              · rename_i hcm
                subst hcm
                exact ((Ints.of_own HY.out.1).mono (by omega)).kept hKs (by simp)
              · exact ((HX.out.2.2.1 c (by omega)).later HY.out.2.1).kept hKs (by simp)
            · unfold upd
              rw [if_neg (by omega)]
              exact HX.out.2.2.2.1 c (by omega)
          case measure => simp [intOf]; omega
        · obtain rfl : m = 6 := by omega
          have h0 := HZ.out.2.2.2.2
          have hR : Rfa wr w.heap.size u3 l vk M := ⟨hbl.row, hbl.len, hbl.wds, hbl.apart, h0.ok, h0.uq, fun c hc => (hL c (by omega)).mono (by omega), h0.few, h0.fewl, h0.small⟩
          have hl6 := lra hb rfl
          have hs6 := sra hz rfl (M.vals_size u3 l) hR.vals_one
          have hl7 := lra (hz.row (M.vals u3 l)) rfl
          have hB7 : Below w.heap.size w (wr.setRow (w.heap.size + 1) (M.vals u3 l)) := below_setRow hB (by omega) _
          have hR7 : Rfa (wr.setRow (w.heap.size + 1) (M.vals u3 l)) w.heap.size u3 l vk M := by
            have hbl7 := hbl.farR hz (M.vals u3 l)
            exact ⟨hbl7.row, hbl7.len, hbl7.wds, hbl7.apart, h0.ok, h0.uq, fun c hc => ((hL c (by omega)).kept (S := [w.heap.size + 1]) ((Kept.refl _ _).setRow (.inl (by simp)) _) (by simp)).mono (by omega), h0.few, h0.fewl, h0.small⟩
          have b77 := hz.row (M.vals u3 l)
          have h13 := M.vals_size u3 l
          have HX := Lib.hid (And.intro hR7 (And.intro hB7 (And.intro b77 h13)))
          clear hb hbl hL hls hz hB h0 hR hB7 hR7 b77 h13
          obtain ⟨V6, hV6⟩ : ∃ V6, M.vals u3 l = V6 := ⟨_, rfl⟩
          rw [hV6] at hl6 hs6 hl7
          go_wp2_with fail
          refine bodyPost_ret (results_ra rfl _ _ (w.heap.size + 1) V6 rfl (by rw [← hV6]; exact HX.out.2.2.1) (by rw [← hV6]; exact HX.out.2.2.2)) rfl ?_
          exact ⟨u3, l, vk, by rw [hV6], by rw [← hV6]; exact HX.out.1, by rw [← hV6]; exact HX.out.2.1⟩
end
end Go.Proofs.Ytgnpoehcmlmajaa
