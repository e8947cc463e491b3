/-
  A region that draws its order within a round, by what holds at whatever of its operations are done; the region of rows. Nothing here is a statement of the document.
-/
import Derived.Test.YtkfpkolgikpcpaaWalD
namespace Go.Proofs.Ytkfpkolgikpcpaa
open Go.RowKit Go.Shelf
set_option linter.unusedVariables false

def cntF (l : Array Bool) : Nat := l.toList.countP (fun b => !b)

theorem anyIn_inv {F : Fence} {n : Nat} {P : Program} {ops : Array Oper} {Q : Exit → Act → World → Prop} (Inv : Array Bool → Act → World → Prop)
    (hz : ∀ l a w, Inv l a w → cntF l = 0 → Region.ready .any ops l = [])
    (hstep : ∀ l a w i, Inv l a w → i ∈ Region.ready .any ops l → cntF (l.setIfInBounds i true) < cntF l ∧ wpOpIn F n P ops Q i (Inv (l.setIfInBounds i true)) a w)
    (hend : ∀ l a w, Inv l a w → Region.ready .any ops l = [] → Q .normal a w) :
    ∀ (fuel : Nat) (l : Array Bool) (a : Act) (w : World), cntF l ≤ fuel → Inv l a w → wpAnyIn F n P .any ops Q fuel l a w := by
  intro fuel
  induction fuel with
  | zero => exact fun l a w hc hi => ⟨hz l a w hi (by omega), hend l a w hi (hz l a w hi (by omega))⟩
  | succ fuel ih =>
    intro l a w hc hi
    refine ⟨fun h => hend l a w hi h, fun i hm => ?_⟩
    obtain ⟨h1, h2⟩ := hstep l a w i hi hm
    exact wpOpIn_mono (fun a' w' h => ih _ a' w' (by omega) h) h2

attribute [local go_sem] Oper.semAt_some
attribute [local go_sem ↓] load_part_rule store_part_rule load_frame_rule

set_option maxRecDepth 100000 in
set_option maxHeartbeats 1000000 in
theorem rows_tells {w : World} {S : List Nat} {fb ib first t n : Nat} {a : Option Addr} {len cap : Nat} {l : List Nat} (hl : l.length = len) (hlm : len ≤ 40000) (hc : len ≤ cap) (hB : Bys l) (ht : t ≤ 4294967295) (hn : n ≤ 4294967295)
    (hb : Blk w fb 79 (fcs t n a len cap)) (hi : Blk w ib 3 #[.int .i64 (first : Int)]) (hL : Lies w a l) (hfS : fb ∉ S) (hiS : ib ∉ S) (haS : ∀ x, a = some x → x.block ∉ S ∧ ∃ o, w.heap[x.block]? = some o ∧ notRow o = true) (hS : ∀ k ∈ S, k < w.heap.size) (hm : first + 834 ≤ 9223372036854775807) :
    Tells 59 #[.pointer (some ⟨fb, 0, none⟩), .pointer (some ⟨ib, 0, none⟩)] S (secN len) (rowE first t n l) w := by
  intro lo J Jx W hWk hlw hlo hJ hJx hY h0
  have hfl : fb ≠ lo := by have := hb.lt; omega
  have hil : ib ≠ lo := by have := hi.lt; omega
  have hWs := hWk.size
  have hb1 := hWk.blk hb hfS (by decide)
  have hi1 := hWk.blk hi hiS (by decide)
  have haS2 : ∀ x, a = some x → x.block ∉ lo :: S ∧ ∃ o, W.heap[x.block]? = some o ∧ notRow o = true := fun x hx => by
    obtain ⟨h1, o, h2, h3⟩ := haS x hx
    refine ⟨?_, o, hWk.same _ _ h1 h2 h3, h3⟩
    have := (Array.getElem?_eq_some_iff.1 h2).1
    simp only [List.mem_cons, not_or]
    exact ⟨by omega, h1⟩
  have hL1 : Lies W a l := by
    rcases hL with h9 | ⟨b, off, rfl, hb9, hc9⟩
    · exact .inl h9
    · obtain ⟨h1, o, h2, h3⟩ := haS _ rfl
      have hs9 : W.heap[b]? = w.heap[b]? := (hWk.same _ _ h1 h2 h3).trans h2.symm
      refine .inr ⟨b, off, rfl, (cell_block_lt hs9 hb9), fun i hi => ?_⟩
      rw [← hc9 i hi]
      simp only [World.cell?, hs9]
  have hsS : ∀ k ∈ lo :: S, k < W.heap.size := by
    intro k hk
    rcases List.mem_cons.1 hk with rfl | hk
    · exact hlo
    · have := hS k hk; omega
  have hs834 := secN_le len
  generalize hN : secN len = N at *
  have HN := Lib.hid hN
  clear hN
  -- the box of yield
  obtain ⟨W1, hW1⟩ : ∃ W1, W.alloc (.cells #[.func (.yield lo) #[] #[]] 113) = W1 := ⟨_, rfl⟩
  have bq : Blk W1 W.heap.size 113 #[.func (.yield lo) #[] #[]] := by rw [← hW1]; exact Blk.new _ _ _
  have hk1 : Below W.heap.size W W1 := by rw [← hW1]; exact (Below.refl _ _).alloc (Nat.le_refl _) _
  have hs1 : W1.heap.size = W.heap.size + 1 := by rw [← hW1]; simp
  have bf1 := hb1.kept (Kept.of_below [] hk1) (by simp)
  have LF := lframe bf1
  have hcall := parts_any t n a len cap W1
  have H1 := Lib.hid (And.intro bq (And.intro hk1 (And.intro hs1 (And.intro hb1 (And.intro hi1 (And.intro hL1 haS2))))))
  clear bq hk1 hs1 hb1 hi1 hL1 haS2 bf1 hL haS hb hi
  generalize hcs : fcs t n a len cap = cs at *
  have HCS := Lib.hid hcs
  clear hcs
  refine callsIn_wide.2 (calls_of_wp_marks Try.func59 rfl ?_)
  simp only [Try.ntmps59, List.size_toArray, List.length_cons, List.length_nil, Nat.reduceAdd, Nat.reduceSub, Array.replicate_succ, Array.replicate_zero, List.push_toArray, List.append_toArray, List.nil_append, List.cons_append]
  go_wp2_with fail
  refine hcall.mono ?_
  rintro e W2 ⟨rfl, bp, hk2, hs2⟩
  clear hcall LF
  go_wp2_with fail
  have hW2b : Below W.heap.size W W2 := H1.out.2.1.trans (hk2.mono H1.out.2.1.size)
  have hq2 : W2.heap.size = W.heap.size + 2 := by rw [hs2, H1.out.2.2.1]
  have bq2 : Blk W2 W.heap.size 113 #[.func (.yield lo) #[] #[]] := H1.out.1.kept (Kept.of_below [] hk2) (by simp)
  have bi2 : Blk W2 ib 3 #[.int .i64 (first : Int)] := H1.out.2.2.2.2.1.kept (Kept.of_below [] hW2b) (by simp)
  have hJ2 : J 0 W2 := hJ _ _ _ none h0 (grown_of_below hW2b) (fun r h => by cases h)
  have hqS : W.heap.size ∉ lo :: S := fun hm => by have := hsS _ hm; omega
  have hibS : ib ∉ lo :: S := by simp only [List.mem_cons, not_or]; exact ⟨hil, hiS⟩
  have hseq : Tells 77 #[.pointer (some ⟨W1.heap.size, 0, none⟩)] (lo :: S) N (encP t n l) W2 := by
    rw [← HN.out]
    refine parts_tells hl hlm hc hB ht hn (by rw [HCS.out]; exact bp) (H1.out.2.2.2.2.2.1.kept hW2b) (fun hm => by have := hsS _ hm; have := H1.out.2.2.1; omega) (fun x hx => ?_)
    obtain ⟨h1, o, h2, h3⟩ := H1.out.2.2.2.2.2.2 x hx
    exact ⟨h1, o, (hW2b.block _ (Array.getElem?_eq_some_iff.1 h2).1).trans h2, h3⟩
  refine wp_range_row (S := lo :: S) (N := N) (enc := encP t n l) none rfl (enters_of Try.func77 (by kernel_rfl) rfl) hseq (fun k hk => by have := hsS k hk; omega)
    (fun k X => J k X ∧ Blk X W.heap.size 113 #[.func (.yield lo) #[] #[]] ∧ Blk X ib 3 #[.int .i64 (first : Int)])
    (fun k X => Jx k X) (OwnFrom.and (own_mono hJ (by omega)) (OwnFrom.and (own_blk _ _ _ _) (own_blk _ _ _ _))) (own_mono hJx (by omega)) ⟨hJ2, bq2, bi2⟩
    (fun k a' X => ∃ Bx, Blk X Bx 120 (partAt t n l k).cs ∧ a' = { tmps := #[.func (.yield lo) #[] #[], .pointer (some ⟨fb, 0, none⟩), .pointer (some ⟨ib, 0, none⟩), .pointer (some ⟨W.heap.size, 0, none⟩), .int .i64 (k : Int), .pointer (some ⟨Bx, 0, none⟩), .agg cs, .func (.func 77) #[] #[.pointer (some ⟨W1.heap.size, 0, none⟩)], .int .i64 (k : Int), .agg (partAt t n l k).cs, undef, undef, undef, undef, undef, undef, undef, undef], defers := [] })
    ?hAx ?assign ?body ?done ?stop
  case hAx => exact fun k a' s X Y row hs hg hr => by obtain ⟨Bx, e1, e2⟩ := hs; exact ⟨Bx, own_blk (β := Unit) _ _ _ (fun _ => (partAt t n l k).cs) () X Y row e1 hg hr, e2⟩
  case assign =>
    intro k X K hk hX hI hK
    have hok : (partAt t n l k).l.length = 48 := (partAt_ok ht hn hB k).len
    have hz : Pt.zero.cs.size = (partAt t n l k).cs.size := by rw [Pt.size rfl, Pt.size hok]
    have HZ := Lib.hid hz
    clear hz
    show Code.wpIn _ _ _ _ _ { tmps := #[.func (.yield lo) #[] #[], .pointer (some ⟨fb, 0, none⟩), .pointer (some ⟨ib, 0, none⟩), .pointer (some ⟨W.heap.size, 0, none⟩), undef, undef, .agg cs, .func (.func 77) #[] #[.pointer (some ⟨W1.heap.size, 0, none⟩)], .int .i64 (k : Int), .agg (partAt t n l k).cs, undef, undef, undef, undef, undef, undef, undef, undef], defers := [] } _
    gi_wp2_with (first | (with_reducible refine wpListIn_alloc_z rfl 120 rfl Pt.zero.cs 52 z_part ?_) | (with_reducible refine wpListIn_store_new rfl 120 (.tmp 5) (.tmp 9) rfl (partAt t n l k).cs Pt.zero.cs _ rfl rfl HZ.out (s_part hok) (Pt.one _) ?_))
    have hB1 : Below X.heap.size X (X.alloc (.cells (partAt t n l k).cs 120)) := (Below.refl _ _).alloc (Nat.le_refl _) _
    exact hK _ _ (KB.below hB1) ⟨hJ _ _ _ none hI.1 (grown_of_below hB1) (fun r h => by cases h), hI.2.1.alloc _, hI.2.2.alloc _⟩ ⟨_, Blk.new _ _ _, rfl⟩
  case body =>
    rintro k a' X ⟨hJk, bq, bi⟩ ⟨Bx, bx, rfl⟩ hk hX
    have hpok := partAt_ok ht hn hB k
    have cq : X.cell? ⟨W.heap.size, 0, none⟩ = some (.func (.yield lo) #[] #[]) := bq.cell 0
    have ci : X.cell? ⟨ib, 0, none⟩ = some (.int .i64 (first : Int)) := bi.cell 0
    have cqf : ∀ w', Below X.heap.size X w' → w'.cell? ⟨W.heap.size, 0, none⟩ = some (.func (.yield lo) #[] #[]) := fun w' hb => (hb.cell (p := ⟨W.heap.size, 0, none⟩) (by exact bq.lt)).trans cq
    have cif : ∀ w', Below X.heap.size X w' → w'.cell? ⟨ib, 0, none⟩ = some (.int .i64 (first : Int)) := fun w' hb => (hb.cell (p := ⟨ib, 0, none⟩) (by exact bi.lt)).trans ci
    have lpf : ∀ w', Below X.heap.size X w' → (loadSem 120 (.pointer (some ⟨Bx, 0, none⟩))).run Try.prog w' = .ok (.agg (partAt t n l k).cs) w' := fun w' hb => lpart (bx.kept (Kept.of_below [] hb) (by simp)) hpok.len
    have blf := pblock_any (partAt t n l k) hpok
    have hyf : ∀ X5, Below X.heap.size X X5 → YieldAt Fence.wide 8 Try.prog lo #[.int .i64 ((first : Int) + (k : Int)), .agg (partAt t n l k).blk.cs] X5 fun e W' => KB (lo :: S) X5 W' ∧ ∃ b, e = .returned (.bool b) ∧ (b = true → J (k + 1) W') ∧ (b = false → Jx k W') := fun X5 hb => by
      have h9 := hY k X5 hk (hJ _ _ _ none hJk (grown_of_below hb) (fun r h => by cases h))
      unfold rowE at h9
      rw [show ((first + k : Nat) : Int) = (first : Int) + (k : Int) from by omega] at h9
      exact YieldAt.mono h9 (two_ways _ _ _ _)
    have hwr : IntKind.i64.wrap ((first : Int) + (k : Int)) = (first : Int) + (k : Int) := by rw [IntKind.wrap_i64]; omega
    have hbr : Below X.heap.size X X.drew := (Below.refl _ _).drew
    have hkX : ∀ X5 X6, Below X.heap.size X X5 → KB (lo :: S) X5 X6 → KB (lo :: S) X X6 ∧ Blk X6 W.heap.size 113 #[.func (.yield lo) #[] #[]] ∧ Blk X6 ib 3 #[.int .i64 (first : Int)] := fun X5 X6 hb hkb =>
      ⟨(KB.below hb).trans hkb, hkb.blk (bq.kept (Kept.of_below [] hb) (by simp)) hqS (by decide), hkb.blk (bi.kept (Kept.of_below [] hb) (by simp)) hibS (by decide)⟩
    have HF := Lib.hid (And.intro cqf (And.intro cif (And.intro lpf (And.intro blf (And.intro hyf hkX)))))
    clear cqf cif lpf blf hyf hkX cq ci bq bi bx hpok hX hJk hseq bq2 bi2 hJ2 hW2b h0 hWk hlw bp hk2 hs2 hW1 hsS hfl hil hWs H1 HCS hq2 hY hJ hqS hibS hJx hlo hS hfS hiS hl hlm hc hB ht hn hk
    generalize (partAt t n l k).blk.cs = bc at *
    generalize (partAt t n l k).cs = pc at *
    gi_wp2_with fail
    refine wpIn_region_any (by kernel_rfl) ?_
    refine anyIn_inv (fun ls a w => ∃ b0 b1 b2 b3 b4 b5 b6 b7 : Bool, ∃ x10 x11 x12 x13 x14 x15 x16 x17 : Value, ls = #[b0, b1, b2, b3, b4, b5, b6, b7] ∧
      a = { tmps := #[.func (.yield lo) #[] #[], .pointer (some ⟨fb, 0, none⟩), .pointer (some ⟨ib, 0, none⟩), .pointer (some ⟨W.heap.size, 0, none⟩), .int .i64 (k : Int), .pointer (some ⟨Bx, 0, none⟩), .agg cs, .func (.func 77) #[] #[.pointer (some ⟨W1.heap.size, 0, none⟩)], .int .i64 (k : Int), .agg pc, x10, x11, x12, x13, x14, x15, x16, x17], defers := [] } ∧
      (b0 = true → x10 = .func (.yield lo) #[] #[]) ∧ (b1 = true → x11 = .int .i64 (first : Int)) ∧ (b2 = true → x12 = .int .i64 (k : Int)) ∧ (b3 = true → (b1 = true ∧ b2 = true) ∧ x13 = .int .i64 ((first : Int) + (k : Int))) ∧ (b4 = true → x14 = .agg pc) ∧ (b5 = true → b4 = true ∧ x15 = .agg bc) ∧
      (b6 = false → Below X.heap.size X w) ∧ (b6 = true → (b0 = true ∧ b1 = true ∧ b2 = true ∧ b3 = true ∧ b4 = true ∧ b5 = true) ∧ ∃ X5 b, Below X.heap.size X X5 ∧ KB (lo :: S) X5 w ∧ x16 = .bool b ∧ ((b = true → J (k + 1) w) ∧ (b = false → Jx k w)) ∧ (b7 = true → x17 = .bool (!b))) ∧ (b7 = true → b6 = true)) ?_ ?_ ?_ _ _ _ _ (by decide +kernel) ?_
    · rintro ls a w ⟨b0, b1, b2, b3, b4, b5, b6, b7, x10, x11, x12, x13, x14, x15, x16, x17, rfl, -⟩
      revert b0 b1 b2 b3 b4 b5 b6 b7
      decide +kernel
    · rintro ls a w i ⟨b0, b1, b2, b3, b4, b5, b6, b7, x10, x11, x12, x13, x14, x15, x16, x17, rfl, rfl, h0, h1, h2, h3, h4, h5, h6f, h6, h7⟩ hi
      obtain ⟨hi8, hcnt, e0, e1, e2, e3, e4, e5, e6, e7⟩ : (i < 8 ∧ cntF (#[b0, b1, b2, b3, b4, b5, b6, b7].setIfInBounds i true) < cntF #[b0, b1, b2, b3, b4, b5, b6, b7] ∧ (i = 0 → b0 = false) ∧ (i = 1 → b1 = false) ∧ (i = 2 → b2 = false) ∧ (i = 3 → b1 = true ∧ b2 = true ∧ b3 = false) ∧ (i = 4 → b4 = false) ∧ (i = 5 → b4 = true ∧ b5 = false) ∧ (i = 6 → (b0 = true ∧ b3 = true ∧ b5 = true) ∧ b6 = false) ∧ (i = 7 → b6 = true ∧ b7 = false)) := by
        clear h0 h1 h2 h3 h4 h5 h6f h6 h7
        refine of_decide_eq_true (List.all_eq_true.1 (?_ : List.all _ (fun x => decide (x < 8 ∧ cntF (#[b0, b1, b2, b3, b4, b5, b6, b7].setIfInBounds x true) < cntF #[b0, b1, b2, b3, b4, b5, b6, b7] ∧ (x = 0 → b0 = false) ∧ (x = 1 → b1 = false) ∧ (x = 2 → b2 = false) ∧ (x = 3 → b1 = true ∧ b2 = true ∧ b3 = false) ∧ (x = 4 → b4 = false) ∧ (x = 5 → b4 = true ∧ b5 = false) ∧ (x = 6 → (b0 = true ∧ b3 = true ∧ b5 = true) ∧ b6 = false) ∧ (x = 7 → b6 = true ∧ b7 = false))) = true) i hi)
        clear hi
        revert b0 b1 b2 b3 b4 b5 b6 b7
        decide +kernel
      refine ⟨hcnt, ?_⟩
      have h6b : b6 = true → ¬ (b0 = false ∨ b1 = false ∨ b2 = false ∨ b3 = false ∨ b4 = false ∨ b5 = false) := fun e => by
        obtain ⟨⟨u0, u1, u2, u3, u4, u5⟩, _⟩ := h6 e
        simp [u0, u1, u2, u3, u4, u5]
      clear hcnt hi
      have HH := Lib.hid (And.intro h0 (And.intro h1 (And.intro h2 (And.intro h3 (And.intro h4 (And.intro h5 (And.intro h6f (And.intro h6 h7))))))))
      have H6b := Lib.hid h6b
      obtain ⟨g0, g1, g2, g3, g4, g5, g6f, g6, g7⟩ := HH.out
      clear h0 h1 h2 h3 h4 h5 h6f h6 h7 h6b
      rcases i with _ | _ | _ | _ | _ | _ | _ | _ | i
      · have hb6 : b6 = false := by cases hb : b6 with | false => rfl | true => exact absurd (.inl (e0 rfl)) (H6b.out hb)
        have hb := g6f hb6
        have c9 := HF.out.1 w hb
        clear e0 e1 e2 e3 e4 e5 e6 e7 g0 g1 g2 g3 g4 g5 g6f g6 g7
        refine wpOpIn_step rfl (fun K' hK' => ?_)
        go_simp
        refine hK' _ _ ⟨true, b1, b2, b3, b4, b5, b6, b7, _, x11, x12, x13, x14, x15, x16, x17, rfl, rfl, fun _ => rfl, HH.out.2.1, HH.out.2.2.1, HH.out.2.2.2.1, HH.out.2.2.2.2.1, HH.out.2.2.2.2.2.1, HH.out.2.2.2.2.2.2.1, (fun h => (by rw [hb6] at h; cases h)), HH.out.2.2.2.2.2.2.2.2⟩
      · have hb6 : b6 = false := by cases hb : b6 with | false => rfl | true => exact absurd (.inr (.inl (e1 rfl))) (H6b.out hb)
        have hb := g6f hb6
        have c9 := HF.out.2.1 w hb
        clear e0 e1 e2 e3 e4 e5 e6 e7 g0 g1 g2 g3 g4 g5 g6f g6 g7
        refine wpOpIn_step rfl (fun K' hK' => ?_)
        go_simp
        refine hK' _ _ ⟨b0, true, b2, b3, b4, b5, b6, b7, x10, _, x12, x13, x14, x15, x16, x17, rfl, rfl, HH.out.1, fun _ => rfl, HH.out.2.2.1, fun h => ⟨⟨rfl, (HH.out.2.2.2.1 h).1.2⟩, (HH.out.2.2.2.1 h).2⟩, HH.out.2.2.2.2.1, HH.out.2.2.2.2.2.1, HH.out.2.2.2.2.2.2.1, (fun h => (by rw [hb6] at h; cases h)), HH.out.2.2.2.2.2.2.2.2⟩
      · have hb6 : b6 = false := by cases hb : b6 with | false => rfl | true => exact absurd (.inr (.inr (.inl (e2 rfl)))) (H6b.out hb)
        have hb := g6f hb6
        clear e0 e1 e2 e3 e4 e5 e6 e7 g0 g1 g2 g3 g4 g5 g6f g6 g7
        refine wpOpIn_step rfl (fun K' hK' => ?_)
        go_simp
        refine hK' _ _ ⟨b0, b1, true, b3, b4, b5, b6, b7, x10, x11, _, x13, x14, x15, x16, x17, rfl, rfl, HH.out.1, HH.out.2.1, fun _ => rfl, fun h => ⟨⟨(HH.out.2.2.2.1 h).1.1, rfl⟩, (HH.out.2.2.2.1 h).2⟩, HH.out.2.2.2.2.1, HH.out.2.2.2.2.2.1, HH.out.2.2.2.2.2.2.1, (fun h => (by rw [hb6] at h; cases h)), HH.out.2.2.2.2.2.2.2.2⟩
      · have hb6 : b6 = false := by cases hb : b6 with | false => rfl | true => exact absurd (.inr (.inr (.inr (.inl (e3 rfl).2.2)))) (H6b.out hb)
        have hb := g6f hb6
        obtain ⟨u1, u2, u3⟩ := e3 rfl
        obtain rfl := g1 u1
        obtain rfl := g2 u2
        clear e0 e1 e2 e3 e4 e5 e6 e7 g0 g1 g2 g3 g4 g5 g6f g6 g7
        refine wpOpIn_step rfl (fun K' hK' => ?_)
        go_simp
        refine hK' _ _ ⟨b0, b1, b2, true, b4, b5, b6, b7, x10, _, _, _, x14, x15, x16, x17, rfl, rfl, HH.out.1, HH.out.2.1, HH.out.2.2.1, fun _ => ⟨⟨u1, u2⟩, rfl⟩, HH.out.2.2.2.2.1, HH.out.2.2.2.2.2.1, HH.out.2.2.2.2.2.2.1, (fun h => (by rw [hb6] at h; cases h)), HH.out.2.2.2.2.2.2.2.2⟩
      · have hb6 : b6 = false := by cases hb : b6 with | false => rfl | true => exact absurd (.inr (.inr (.inr (.inr (.inl (e4 rfl)))))) (H6b.out hb)
        have hb := g6f hb6
        have c9 := HF.out.2.2.1 w hb
        clear e0 e1 e2 e3 e4 e5 e6 e7 g0 g1 g2 g3 g4 g5 g6f g6 g7
        refine wpOpIn_step rfl (fun K' hK' => ?_)
        go_simp
        refine hK' _ _ ⟨b0, b1, b2, b3, true, b5, b6, b7, x10, x11, x12, x13, _, x15, x16, x17, rfl, rfl, HH.out.1, HH.out.2.1, HH.out.2.2.1, HH.out.2.2.2.1, fun _ => rfl, fun h => ⟨rfl, (HH.out.2.2.2.2.2.1 h).2⟩, HH.out.2.2.2.2.2.2.1, (fun h => (by rw [hb6] at h; cases h)), HH.out.2.2.2.2.2.2.2.2⟩
      · have hb6 : b6 = false := by cases hb : b6 with | false => rfl | true => exact absurd (.inr (.inr (.inr (.inr (.inr (e5 rfl).2))))) (H6b.out hb)
        have hb := g6f hb6
        obtain ⟨u4, u5⟩ := e5 rfl
        obtain rfl := g4 u4
        have c9 := HF.out.2.2.2.1 w
        clear e0 e1 e2 e3 e4 e5 e6 e7 g0 g1 g2 g3 g4 g5 g6f g6 g7
        refine wpOpIn_step rfl (fun K' hK' => ?_)
        go_simp
        refine ⟨trivial, ?_⟩
        refine (CallsIn.inRound _ (callsIn_wide.2 c9)).mono ?_
        rintro e w5 ⟨rfl, hb5⟩
        refine hK' _ _ ⟨b0, b1, b2, b3, b4, true, b6, b7, x10, x11, x12, x13, _, _, x16, x17, rfl, rfl, HH.out.1, HH.out.2.1, HH.out.2.2.1, HH.out.2.2.2.1, HH.out.2.2.2.2.1, fun _ => ⟨u4, rfl⟩, fun _ => hb.trans (hb5.mono hb.size), (fun h => (by rw [hb6] at h; cases h)), HH.out.2.2.2.2.2.2.2.2⟩
      · obtain ⟨⟨u0, u3, u5⟩, hb6⟩ := e6 rfl
        have hb := g6f hb6
        obtain rfl := g0 u0
        obtain ⟨⟨u1, u2⟩, rfl⟩ := g3 u3
        obtain ⟨u4, rfl⟩ := g5 u5
        obtain ⟨yfn, ytm, yas, ybo, hy, hR⟩ := HF.out.2.2.2.2.1 w hb
        clear e0 e1 e2 e3 e4 e5 e6 e7 g0 g1 g2 g3 g4 g5 g6f g6 g7
        refine wpOpIn_step rfl (fun K' hK' => ?_)
        go_simp
        refine (RoundIn.wide hR).mono ?_
        rintro e w6 ⟨hkb6, yb, rfl, hyb⟩
        refine hK' _ _ ⟨b0, b1, b2, b3, b4, b5, true, b7, _, x11, x12, _, x14, _, _, x17, rfl, rfl, HH.out.1, HH.out.2.1, HH.out.2.2.1, HH.out.2.2.2.1, HH.out.2.2.2.2.1, HH.out.2.2.2.2.2.1, (fun h => by cases h), fun _ => ⟨⟨u0, u1, u2, u3, u4, u5⟩, w, yb, hb, hkb6, rfl, hyb, fun h => by rw [HH.out.2.2.2.2.2.2.2.2 h] at hb6; cases hb6⟩, fun _ => rfl⟩
      · obtain ⟨u6, u7⟩ := e7 rfl
        obtain ⟨uu, X5, yb, hb, hkb, rfl, hJb, h17⟩ := g6 u6
        clear e0 e1 e2 e3 e4 e5 e6 e7 g0 g1 g2 g3 g4 g5 g6f g6 g7 h17
        refine wpOpIn_step rfl (fun K' hK' => ?_)
        go_simp
        refine hK' _ _ ⟨b0, b1, b2, b3, b4, b5, b6, true, x10, x11, x12, x13, x14, x15, _, _, rfl, rfl, HH.out.1, HH.out.2.1, HH.out.2.2.1, HH.out.2.2.2.1, HH.out.2.2.2.2.1, HH.out.2.2.2.2.2.1, (fun h => by rw [u6] at h; cases h), fun _ => ⟨uu, X5, yb, hb, hkb, rfl, hJb, fun _ => rfl⟩, fun _ => u6⟩
      · omega
    · rintro ls a w ⟨b0, b1, b2, b3, b4, b5, b6, b7, x10, x11, x12, x13, x14, x15, x16, x17, rfl, rfl, h0, h1, h2, h3, h4, h5, h6f, h6, h7⟩ hi
      obtain ⟨hb6, hb7⟩ : b6 = true ∧ b7 = true := by
        clear h0 h1 h2 h3 h4 h5 h6f h6 h7
        revert b0 b1 b2 b3 b4 b5 b6 b7
        decide +kernel
      obtain ⟨⟨u0, u1, u2, u3, u4, u5⟩, X5, b, hb, hkb, rfl, hJb, h17⟩ := h6 hb6
      obtain rfl := h17 hb7
      obtain ⟨hk1, hk2, hk3⟩ := HF.out.2.2.2.2.2 X5 w hb hkb
      clear h0 h1 h2 h3 h4 h5 h6f h6 h7 hi
      cases b
      · gi_wp2
        all_goals rfl
      · gi_wp2
    · exact ⟨false, false, false, false, false, false, false, false, _, _, _, _, _, _, _, _, rfl, rfl, (fun h => by cases h), (fun h => by cases h), (fun h => by cases h), (fun h => by cases h), (fun h => by cases h), (fun h => by cases h), fun _ => hbr, (fun h => by cases h), (fun h => by cases h)⟩
  case done =>
    rintro X ⟨hJn, _, _⟩ hd
    have hlt := (Array.getElem?_eq_some_iff.1 hd).1
    exact marks_end hd (results_none rfl _ _ _) ⟨⟨_, rfl⟩, .inl (hJ.putObj _ hJn (by omega) hd rfl)⟩
  case stop =>
    rintro k X hk hJk hd
    exact marks_ret hd (results_none rfl _ _ _) ⟨⟨_, rfl⟩, .inr ⟨k, hk, hJx.putObj _ hJk (by omega) hd rfl⟩⟩
end Go.Proofs.Ytkfpkolgikpcpaa
