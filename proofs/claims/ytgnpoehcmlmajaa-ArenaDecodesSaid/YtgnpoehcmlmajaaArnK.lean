/-
  Blocks and Spare of an arena, and of nil. Nothing here is a statement of the document.
-/
import Derived.Test.YtgnpoehcmlmajaaRgC
import Derived.Maps.AppendAt
import Derived.Maps.OwnIn
import Derived.RangeFuncBox
namespace Go.Proofs.Ytgnpoehcmlmajaa
open Go.RowKit Go.Shelf
set_option linter.unusedVariables false

/-- Those that are taken, or free. -/
def ofT (t : Bool) (B : List Bl) : List Bl := B.filter fun b => b.t == t
theorem ofT_take_succ {t : Bool} {B : List Bl} {k : Nat} (hk : k < B.length) : ofT t (B.take (k + 1)) = ofT t (B.take k) ++ (if B[k].t == t then [B[k]] else []) := by
  unfold ofT
  rw [List.take_succ_eq_append_getElem hk, List.filter_append]
  congr 1
  by_cases h : B[k].t = t
  · rw [if_pos (by simp [h])]; simp [h]
  · rw [if_neg (by simpa using h)]; simp [h]
theorem ofT_get {t : Bool} {B : List Bl} {k : Nat} (hk : k < B.length) (ht : B[k].t = t) : (ofT t (B.take k)).length < (ofT t B).length ∧ (ofT t B).getD (ofT t (B.take k)).length Bl.zero = B[k] := by
  have h1 := ofT_take_succ (t := t) hk
  rw [if_pos (by simp [ht])] at h1
  have h2 : ofT t B = ofT t (B.take (k + 1)) ++ ofT t (B.drop (k + 1)) := by
    unfold ofT; rw [← List.filter_append, List.take_append_drop]
  rw [h2, h1]
  constructor
  · simp
  · simp [List.getElem?_append]

/-- A piece, as cells. -/
def pccs (b : Bl) : Array Value := #[.int .i64 (b.x : Int), .int .i64 (b.c : Int)]
/-- What such an iterator tells. -/
def encP (t : Bool) (B : List Bl) (k : Nat) : Array Value := #[.agg (pccs ((ofT t B).getD k Bl.zero))]

section
variable {w : World} {g p q : Nat} {ws : List Nat} {bs : List Bool}
set_option maxHeartbeats 400000 in
theorem pieces_any (a : Option Addr) (t : Bool) (w : World) : Calls Try.prog 63 #[.pointer a, .bool t] w fun e w' =>
    e = .returned (.func (.func 77) #[] #[.pointer (some ⟨w.heap.size, 0, none⟩), .pointer (some ⟨w.heap.size + 1, 0, none⟩)]) ∧ Blk w' w.heap.size 25 #[.pointer a] ∧ Blk w' (w.heap.size + 1) 4 #[.bool t] ∧ Below w.heap.size w w' ∧ w'.heap.size = w.heap.size + 2 := by
  have hmf : ∀ (fn : Fn) (first cap : Array Value) (w : World), (Instr.makeFunc fn first cap).run Try.prog w = .ok (.func fn first cap) w := fun _ _ _ _ => rfl
  have b2 := Blk.new (w.alloc (.cells #[.pointer a] 25)) 4 #[.bool t]
  rw [World.size_alloc] at b2
  have HB := Lib.hid (And.intro ((Blk.new w 25 #[.pointer a]).alloc (.cells #[.bool t] 4)) (And.intro b2 (((Below.refl w.heap.size w).alloc (Nat.le_refl _) (.cells #[.pointer a] 25)).alloc (by simp) (.cells #[.bool t] 4))))
  clear b2
  go_enter Try.func63, Try.ntmps63
  go_wp2
  go_ret
  exact ⟨rfl, HB.out.1, HB.out.2.1, HB.out.2.2, by simp⟩

theorem build_piece (x c : Nat) (w : World) : (Instr.build 86 #[(0, .int .i64 (x : Int)), (1, .int .i64 (c : Int))]).run Try.prog w = .ok (.agg #[.int .i64 (x : Int), .int .i64 (c : Int)]) w := by kernel_rfl

attribute [local go_sem] Oper.semAt_some
set_option maxRecDepth 100000 in
set_option maxHeartbeats 1000000 in
theorem pieces_nil {S : List Nat} {box box2 : Nat} {N : Nat} {enc : Nat → Array Value} (hN : N = 0) (hb : Blk w box 25 #[.pointer none]) (hbS : box ∉ S) :
    Tells XP 77 #[.pointer (some ⟨box, 0, none⟩), .pointer (some ⟨box2, 0, none⟩)] S N enc w := by
  subst hN
  intro lo J Jx W hWk hlw hlo hJ hJx hY h0
  have cb : (W.alloc (.cells #[.func (.yield lo) #[] #[]] 134)).cell? ⟨box, 0, none⟩ = some (.pointer none) := ((hWk.blk hb hbS (by decide)).alloc _).cell 0
  have hJ1 : J 0 (W.alloc (.cells #[.func (.yield lo) #[] #[]] 134)) := hJ.alloc _ h0
  have HJ := Lib.hid hJ1
  clear hb hWk hJ1 hJ hJx hY h0
  refine callsIn_of_wp Try.func77 rfl trivial ?_ rfl
  simp only [Try.ntmps77, List.size_toArray, List.length_cons, List.length_nil, Nat.reduceAdd, Nat.reduceSub, Array.replicate_succ, Array.replicate_zero, List.push_toArray, List.append_toArray, List.nil_append, List.cons_append]
  gi_wp2
  first | (go_end0; exact ⟨⟨_, rfl⟩, .inl HJ.out⟩) | (refine bodyPost_ret (results_none rfl _ _ _) rfl ?_; exact ⟨⟨_, rfl⟩, .inl HJ.out⟩)

set_option maxRecDepth 100000 in
set_option maxHeartbeats 2000000 in
theorem pieces_tells {S : List Nat} {box box2 : Nat} {B : List Bl} (t : Bool) (h : Ar w g p q ws bs) (hC : Chain ws 16 B) (he : ws.getD 15 0 ≤ ws.length) (hb : Blk w box 25 #[.pointer (some ⟨g, 0, none⟩)]) (hb2 : Blk w box2 4 #[.bool t])
    (hgS : g ∉ S) (hpS : p ∉ S) (hqS : q ∉ S) (hbS : box ∉ S) (hbS2 : box2 ∉ S) (hSw : ∀ k ∈ S, k < w.heap.size) :
    Tells XP 77 #[.pointer (some ⟨box, 0, none⟩), .pointer (some ⟨box2, 0, none⟩)] S (ofT t B).length (encP t B) w := by
  intro lo J Jx W hWk hlw hlo hJ hJx hY h0
  have n1 : g ≠ lo := by have := h.box.lt; omega
  have n2 : p ≠ lo := by have := h.wds.lt; omega
  have n3 : q ≠ lo := by have := h.bgs.lt; omega
  have n4 : box ≠ lo := by have := hb.lt; omega
  have n5 : box2 ≠ lo := by have := hb2.lt; omega
  have hsS : ∀ k ∈ lo :: S, k < W.heap.size := by
    intro k hk
    rcases List.mem_cons.1 hk with rfl | hk
    · exact hlo
    · have := hSw k hk; omega
  replace h := h.kx hWk hgS hpS hqS
  replace hb := hWk.blk hb hbS (by decide)
  replace hb2 := hWk.blk hb2 hbS2 (by decide)
  have hCg := fun (k : Nat) (b : Bl) (hb : B[k]? = some b) => chain_get hC (Nat.le_refl _) hb
  clear hlw hWk hSw
  -- the box of yield
  obtain ⟨W1, hW1⟩ : ∃ W1, W.alloc (.cells #[.func (.yield lo) #[] #[]] 134) = W1 := ⟨_, rfl⟩
  have bq : Blk W1 W.heap.size 134 #[.func (.yield lo) #[] #[]] := by rw [← hW1]; exact Blk.new _ _ _
  have hk1 : Below W.heap.size W W1 := by rw [← hW1]; exact (Below.refl _ _).alloc (Nat.le_refl _) _
  have hs1 : W1.heap.size = W.heap.size + 1 := by rw [← hW1]; simp
  have h1 := h.later hk1
  have hb1 := hb.kept (Kept.of_below [] hk1) (by simp)
  have hb21 := hb2.kept (Kept.of_below [] hk1) (by simp)
  have cb : W1.cell? ⟨box, 0, none⟩ = some (.pointer (some ⟨g, 0, none⟩)) := hb1.cell 0
  have hcall := blocks_any (some ⟨g, 0, none⟩) W1
  have H1 := Lib.hid (And.intro bq (And.intro hk1 (And.intro hs1 (And.intro h1 (And.intro hb1 hb21)))))
  clear bq hk1 hs1 h1 hb1 hb21
  refine callsIn_wide.2 (calls_of_wp_marks Try.func77 rfl ?_)
  simp only [Try.ntmps77, List.size_toArray, List.length_cons, List.length_nil, Nat.reduceAdd, Nat.reduceSub, Array.replicate_succ, Array.replicate_zero, List.push_toArray, List.append_toArray, List.nil_append, List.cons_append]
  go_wp2_with fail
  refine hcall.mono ?_
  rintro e W2 ⟨rfl, bp, hk2, hs2⟩
  clear hcall cb
  go_wp2_with fail
  have hW2b : Below W.heap.size W W2 := H1.out.2.1.trans (hk2.mono H1.out.2.1.size)
  have hq2 : W2.heap.size = W.heap.size + 2 := by rw [hs2, H1.out.2.2.1]
  have bq2 : Blk W2 W.heap.size 134 #[.func (.yield lo) #[] #[]] := H1.out.1.kept (Kept.of_below [] hk2) (by simp)
  have bt2 : Blk W2 box2 4 #[.bool t] := H1.out.2.2.2.2.2.kept (Kept.of_below [] hk2) (by simp)
  have hA2 := H1.out.2.2.2.1.later hk2
  have hJ2 : J 0 W2 := hJ _ _ _ none h0 (grown_of_below hW2b) (fun r h => by cases h)
  have hqS2 : W.heap.size ∉ lo :: S := fun hm => by have := hsS _ hm; omega
  have hpS2 : W1.heap.size ∉ lo :: S := fun hm => by have := hsS _ hm; have := H1.out.2.2.1; omega
  have hseq := blocks_tells (S := lo :: S) hA2 hC he bp (by simp [n1, hgS]) (by simp [n2, hpS]) (by simp [n3, hqS]) hpS2
  have hbS3 : box2 ∉ lo :: S := by simp [n5, hbS2]
  refine wp_range_row (S := lo :: S) (N := B.length) (enc := encB B) none (fun _ => rfl) rfl (enters_of Try.func82 (by kernel_rfl) rfl) hseq (fun k hk => by have := hsS k hk; omega)
    (fun k X => J (ofT t (B.take k)).length X ∧ Blk X W.heap.size 134 #[.func (.yield lo) #[] #[]] ∧ Blk X box2 4 #[.bool t])
    (fun k X => (ofT t (B.take k)).length < (ofT t B).length ∧ Jx (ofT t (B.take k)).length X) ?hI ?hIx ⟨hJ2, bq2, bt2⟩
    (fun k a' X => a' = { tmps := #[.func (.yield lo) #[] #[], .pointer (some ⟨box, 0, none⟩), .pointer (some ⟨box2, 0, none⟩), .pointer (some ⟨W.heap.size, 0, none⟩), .int .i64 ((B.getD k Bl.zero).x : Int), .int .u32 ((hdN (B.getD k Bl.zero).c (B.getD k Bl.zero).t : Nat) : Int), .pointer (some ⟨g, 0, none⟩), .bool false, .pointer (some ⟨g, 0, none⟩), .func (.func 82) #[] #[.pointer (some ⟨W1.heap.size, 0, none⟩)], .int .i64 ((B.getD k Bl.zero).x : Int), .int .u32 ((hdN (B.getD k Bl.zero).c (B.getD k Bl.zero).t : Nat) : Int), undef, undef, undef, undef, undef, undef, undef, undef, undef, undef, undef, undef, undef], defers := [] })
    ?hAx ?assign ?body ?done ?stop
  case hI => exact OwnFrom.and (fun k X Y row hs hg hr => own_mono hJ (by omega) _ X Y row hs hg hr) (OwnFrom.and (own_blk _ _ _ (fun _ => #[.func (.yield lo) #[] #[]])) (own_blk _ _ _ (fun _ => #[.bool t])))
  case hIx => exact fun k X Y row hs hg hr => ⟨hs.1, own_mono hJx (by omega) _ X Y row hs.2 hg hr⟩
  case hAx => exact fun k a' => ownFrom_pure _ _
  case assign =>
    intro k X K hk hX hI hK
    generalize hbd : B.getD k Bl.zero = bb at *
    unfold encB
    rw [hbd]
    generalize hdN bb.c bb.t = hv at *
    generalize bb.x = x at *
    gi_wp2
    exact hK _ _ (KX.refl _ _ _) hI rfl
  case body =>
    rintro k a' X ⟨hJk, bq, bt⟩ rfl hk hX
    have hbk : B.getD k Bl.zero = B[k] := by simp [hk]
    obtain ⟨g1, g2, g3, g4, g5⟩ := hCg k B[k] (List.getElem?_eq_getElem hk)
    have hsu := ofT_take_succ (t := t) hk
    have hgt := fun h => ofT_get (t := t) hk h
    rw [hbk]
    generalize B[k] = b at *
    have hbelow : ∀ n, Below X.heap.size X (X.drew.drewN n) := fun n => ⟨rfl, rfl, rfl, Nat.le_refl _, fun _ _ => rfl⟩
    obtain ⟨T, hT⟩ : ∃ T : World → Prop, T = fun w' => Blk w' W.heap.size 134 #[.func (.yield lo) #[] #[]] ∧ Blk w' box2 4 #[.bool t] := ⟨_, rfl⟩
    have hTd : ∀ w' n, T w' → T (w'.drewN n) := by rw [hT]; exact fun w' n h => h
    have hT0 : T X.drew := by rw [hT]; exact ⟨bq, bt⟩
    have q0 : ∀ w', T w' → w'.cell? ⟨W.heap.size, 0, none⟩ = some (.func (.yield lo) #[] #[]) := by rw [hT]; exact fun w' h' => h'.1.cell 0
    have t0 : ∀ w', T w' → w'.cell? ⟨box2, 0, none⟩ = some (.bool t) := by rw [hT]; exact fun w' h' => h'.2.cell 0
    have htk := fun w' (h' : T w') => (htaken_any b.c b.t g1 w').mono (R' := fun e w2 => e = .returned (.bool b.t) ∧ ∃ n, w2 = w'.drewN n) fun e w2 h => ⟨h.1, 0, h.2.symm⟩
    have hcl := fun w' (h' : T w') => (hclass_any b.c b.t g1 w').mono (R' := fun e w2 => e = .returned (.int .i64 (b.c : Int)) ∧ ∃ n, w2 = w'.drewN n) fun e w2 h => ⟨h.1, 0, h.2.symm⟩
    have hkT : ∀ V W4, T V → KX XP (lo :: S) V W4 → T W4 := by
      rw [hT]
      exact fun V W4 h hk4 => ⟨hk4.blk h.1 hqS2 (by decide), hk4.blk h.2 hbS3 (by decide)⟩
    have hTT : ∀ V, T V → Blk V W.heap.size 134 #[.func (.yield lo) #[] #[]] ∧ Blk V box2 4 #[.bool t] := by rw [hT]; exact fun V h => h
    have hJd : ∀ m n (V : World), J m V → J m (V.drewN n) := fun m n V hj => hJ _ _ _ none hj (grown_of_below ⟨rfl, rfl, rfl, Nat.le_refl _, fun _ _ => rfl⟩) (fun r h => by cases h)
    have hJxd : ∀ m n (V : World), Jx m V → Jx m (V.drewN n) := fun m n V hj => hJx _ _ _ none hj (grown_of_below ⟨rfl, rfl, rfl, Nat.le_refl _, fun _ _ => rfl⟩) (fun r h => by cases h)
    have hJX : ∀ n, J (ofT t (B.take k)).length (X.drew.drewN n) := fun n => hJ _ _ _ none hJk (grown_of_below (hbelow n)) (fun r h => by cases h)
    clear hT bq bt hJk bq2 bt2 hJ2 hA2 hW2b hseq hCg h hb hb2 h0 hk2 hs2 bp H1 hW1
    by_cases ht : b.t = t
    · obtain ⟨hlk, hget⟩ := hgt ht
      rw [if_pos (by simp [ht])] at hsu
      have hy := fun n => hY _ (X.drew.drewN n) hlk (hJX n)
      unfold encP pccs at hy
      rw [hget] at hy
      have hyy := fun n => (hy n).mono (two_ways _ _ _ _ _)
      have HY := Lib.hid hyy
      have hsl : (ofT t (B.take (k + 1))).length = (ofT t (B.take k)).length + 1 := by rw [hsu]; simp
      have HF := Lib.hid (And.intro hsl (And.intro hlk (And.intro hkT (And.intro hJd (And.intro hJxd hTT)))))
      have hbp := build_piece b.x b.c
      have hTT_ := hTT
      clear hy hyy hgt hget hsl hlk hsu hJX hY hkT hJd hJxd hTT
      obtain ⟨bx, bc, bt⟩ := b
      dsimp only at *
      subst ht
      generalize hdN bc bt = hv at *
      cases bt
      all_goals
        gi_wp2_with fail
        refine wp_region_linI T [10] [0, 1, 2, 3, 4, 5, 6, 7, 8, 9, 10, 11, 12] (by kernel_rfl) (by kernel_rfl) (by kernel_rfl) hTd hT0 ?_
        (repeat (first | (refine linI_off rfl rfl (by rfl) ?_; (try simp only [Act.put, List.getElem_toArray, List.getElem_cons_zero, List.getElem_cons_succ, List.setIfInBounds_toArray, List.set_cons_zero, List.set_cons_succ])) | (refine linI_op (v := ?_) rfl rfl (by rfl) (fun w9 hS9 => ?_) ?_; rotate_left; (focus ((have k0 := q0 w9 hS9; have k1 := t0 w9 hS9; (try dsimp only at hS9); go_simp; (try go_bits)) <;> with_reducible rfl)); (try simp only [Act.put, List.getElem_toArray, List.getElem_cons_zero, List.getElem_cons_succ, List.setIfInBounds_toArray, List.set_cons_zero, List.set_cons_succ])) | (refine linI_fn (f := 75) rfl rfl (by rfl) rfl rfl (enters_of Try.func75 (by kernel_rfl) rfl) (fun w9 hS9 => htk w9 hS9) ?_ ?_; (focus (simp [Act.eval]; done)); (try simp only [Act.put, List.getElem_toArray, List.getElem_cons_zero, List.getElem_cons_succ, List.setIfInBounds_toArray, List.set_cons_zero, List.set_cons_succ])) | (refine linI_fn (f := 58) rfl rfl (by rfl) rfl rfl (enters_of Try.func58 (by kernel_rfl) rfl) (fun w9 hS9 => hcl w9 hS9) ?_ ?_; (focus (simp [Act.eval]; done)); (try simp only [Act.put, List.getElem_toArray, List.getElem_cons_zero, List.getElem_cons_succ, List.setIfInBounds_toArray, List.set_cons_zero, List.set_cons_succ]))))
        refine linI_yield (l' := lo) rfl rfl (by rfl) (fun n => ?_)
        obtain ⟨fn, tmps, assign, body, hy, hR⟩ := HY.out n
        generalize hV : X.drew.drewN n = V at *
        have HV := Lib.hid hV
        clear hV
        refine ⟨fn, tmps, assign, body, V, ?_, ?_⟩
        · go_simp
        refine hR.mono ?_
        rintro e W4 ⟨hk4, yb, rfl, hyb⟩
        have hTV : T V := by rw [← HV.out]; exact hTd _ n hT0
        have hT4 := HF.out.2.2.1 V W4 hTV hk4
        have HG := Lib.hid (And.intro hk4 hyb)
        refine ⟨_, rfl, hT4, ?_⟩
        clear hk4 hyb hR hy
        (try simp only [Act.put, List.getElem_toArray, List.getElem_cons_zero, List.getElem_cons_succ, List.setIfInBounds_toArray, List.set_cons_zero, List.set_cons_succ])
        have hkk : ∀ n2, KX XP (lo :: S) X (W4.drewN n2) := fun n2 => (KX.below (by rw [← HV.out]; exact hbelow n)).trans (HG.out.1.trans (KX.kept ((Kept.refl _ _).drewN n2)))
        have HK := Lib.hid (And.intro hkk (hTT_ W4 hT4))
        clear hkk
        cases yb
        · (repeat (first | (refine linI_off rfl rfl (by rfl) ?_; (try simp only [Act.put, List.getElem_toArray, List.getElem_cons_zero, List.getElem_cons_succ, List.setIfInBounds_toArray, List.set_cons_zero, List.set_cons_succ])) | (refine linI_op (v := ?_) rfl rfl (by rfl) (fun w9 hS9 => ?_) ?_; rotate_left; (focus (((try dsimp only at hS9); go_simp; (try go_bits)) <;> with_reducible rfl)); (try simp only [Act.put, List.getElem_toArray, List.getElem_cons_zero, List.getElem_cons_succ, List.setIfInBounds_toArray, List.set_cons_zero, List.set_cons_succ])) ))
          refine linI_nil (fun n2 => ?_)
          gi_wp2
          exact ⟨HK.out.1 n2, rfl, HF.out.2.1, HF.out.2.2.2.2.1 _ n2 _ (HG.out.2.2 (by simp))⟩
        · (repeat (first | (refine linI_off rfl rfl (by rfl) ?_; (try simp only [Act.put, List.getElem_toArray, List.getElem_cons_zero, List.getElem_cons_succ, List.setIfInBounds_toArray, List.set_cons_zero, List.set_cons_succ])) | (refine linI_op (v := ?_) rfl rfl (by rfl) (fun w9 hS9 => ?_) ?_; rotate_left; (focus (((try dsimp only at hS9); go_simp; (try go_bits)) <;> with_reducible rfl)); (try simp only [Act.put, List.getElem_toArray, List.getElem_cons_zero, List.getElem_cons_succ, List.setIfInBounds_toArray, List.set_cons_zero, List.set_cons_succ])) ))
          refine linI_nil (fun n2 => ?_)
          gi_wp2
          exact ⟨HK.out.1 n2, .inl ⟨by rw [HF.out.1]; exact HF.out.2.2.2.1 _ n2 _ (HG.out.2.1 (by simp)), HK.out.2.1, HK.out.2.2⟩⟩
    · rw [if_neg (by simpa using ht), List.append_nil] at hsu
      have HF := Lib.hid (And.intro hsu (And.intro hJd hJX))
      have hTT_ := hTT
      have hkk : ∀ n n2, KX XP (lo :: S) X ((X.drew.drewN n).drewN n2) := fun n n2 => (KX.below (hbelow n)).trans (KX.kept ((Kept.refl _ _).drewN n2))
      have HK := Lib.hid (And.intro hkk (fun n => hTT_ _ (hTd _ n hT0)))
      clear hgt hsu hJX hY hkT hJd hJxd hTT hTT_ hkk
      obtain ⟨bx, bc, bt⟩ := b
      dsimp only at *
      generalize hdN bc bt = hv at *
      cases bt <;> cases t
      case neg.false.false => exact absurd rfl ht
      case neg.true.true => exact absurd rfl ht
      all_goals
        gi_wp2_with fail
        refine wp_region_linI T [] [0, 1, 2, 3, 4, 5, 6, 7, 8, 9, 10, 11, 12] (by kernel_rfl) (by kernel_rfl) (by kernel_rfl) hTd hT0 ?_
        (repeat (first | (refine linI_off rfl rfl (by rfl) ?_; (try simp only [Act.put, List.getElem_toArray, List.getElem_cons_zero, List.getElem_cons_succ, List.setIfInBounds_toArray, List.set_cons_zero, List.set_cons_succ])) | (refine linI_op (v := ?_) rfl rfl (by rfl) (fun w9 hS9 => ?_) ?_; rotate_left; (focus ((have k0 := q0 w9 hS9; have k1 := t0 w9 hS9; (try dsimp only at hS9); go_simp; (try go_bits)) <;> with_reducible rfl)); (try simp only [Act.put, List.getElem_toArray, List.getElem_cons_zero, List.getElem_cons_succ, List.setIfInBounds_toArray, List.set_cons_zero, List.set_cons_succ])) | (refine linI_fn (f := 75) rfl rfl (by rfl) rfl rfl (enters_of Try.func75 (by kernel_rfl) rfl) (fun w9 hS9 => htk w9 hS9) ?_ ?_; (focus (simp [Act.eval]; done)); (try simp only [Act.put, List.getElem_toArray, List.getElem_cons_zero, List.getElem_cons_succ, List.setIfInBounds_toArray, List.set_cons_zero, List.set_cons_succ])) | (refine linI_fn (f := 58) rfl rfl (by rfl) rfl rfl (enters_of Try.func58 (by kernel_rfl) rfl) (fun w9 hS9 => hcl w9 hS9) ?_ ?_; (focus (simp [Act.eval]; done)); (try simp only [Act.put, List.getElem_toArray, List.getElem_cons_zero, List.getElem_cons_succ, List.setIfInBounds_toArray, List.set_cons_zero, List.set_cons_succ]))))
        refine linI_nil (fun n2 => ?_)
        gi_wp2
        rw [show X.drewN (1 + n2) = X.drew.drewN n2 from (World.drewN_drewN (w := X) (n := 1) (m := n2)).symm]
        exact ⟨HK.out.1 n2 0, .inl ⟨by rw [HF.out.1]; exact HF.out.2.2 n2, (HK.out.2 n2).1, (HK.out.2 n2).2⟩⟩
  case done =>
    rintro X ⟨hJn, _, _⟩ hd
    have hlt := (Array.getElem?_eq_some_iff.1 hd).1
    rw [List.take_length] at hJn
    exact marks_end hd (results_none rfl _ _ _) ⟨⟨_, rfl⟩, .inl (hJ.putObj _ hJn (by omega) hd rfl)⟩
  case stop =>
    rintro k X hk ⟨hlk, hJk⟩ hd
    exact marks_ret hd (results_none rfl _ _ _) ⟨⟨_, rfl⟩, .inr ⟨_, hlk, hJx.putObj _ hJk (by omega) hd rfl⟩⟩
end
end Go.Proofs.Ytgnpoehcmlmajaa
namespace Go.Proofs.Ytgnpoehcmlmajaa
open Go.RowKit Go.Shelf
set_option linter.unusedVariables false

theorem own_row {β : Type} (B n₀ : Nat) (e : TypeId) (size : Nat) (f : β → List Value) (k : β → Nat) (v : β → Value) : OwnFrom B (fun s W => W.ownsRow n₀ e size (v s) (k s) (f s)) := fun s X Y row hs hg hrow => by
  refine hs.kept hg ?_
  rcases hs.2 with ⟨h9, _⟩ | ⟨g, cap, cur, h9, _, hg', _⟩
  · exact .inl (by rw [h9]; rfl)
  · refine .inr (fun e2 => ?_)
    rw [h9] at e2
    obtain ⟨_, o, ho, hc⟩ := hrow g (by simpa [Value.ownBlock] using e2.symm)
    rw [hg'] at ho; cases ho; cases hc

/-- Pieces, one behind the other, as cells. -/
def pcl (L : List Bl) : List Value := L.flatMap fun b => (pccs b).toList
theorem pcl_snoc (L : List Bl) (b : Bl) : pcl (L ++ [b]) = pcl L ++ (pccs b).toList := by simp [pcl]
theorem pcl_take {L : List Bl} {k : Nat} (hk : k < L.length) : pcl (L.take (k + 1)) = pcl (L.take k) ++ (pccs (L.getD k Bl.zero)).toList := by
  rw [List.take_succ_eq_append_getElem hk, pcl_snoc]
  simp [hk]
theorem i_piece : (Try.prog.info? 86).map (fun i => (i.zero, i.size, i.bytes)) = some (some (.agg (pccs Bl.zero)), 2, 16) := by kernel_rfl
theorem z_piece : (Try.prog.info? 86).map (fun i => (i.zero, i.size)) = some (some (.agg (pccs Bl.zero)), 2) := by kernel_rfl
theorem s_piece (b : Bl) : (Try.prog.info? 86).map (·.size) = some (pccs b).size := by
  show _ = some 2
  kernel_rfl
theorem pc_one (b : Bl) : (pccs b).all (·.oneCell') = true := by simp [pccs, Value.oneCell']
theorem load_piece_rule (v : Value) : Instr.loadAt 86 v = loadSem 86 v := rfl
theorem ld_piece {w : World} {g : Nat} {b : Bl} (h : Blk w g 86 (pccs b)) : (loadSem 86 (.pointer (some ⟨g, 0, none⟩))).run Try.prog w = .ok (.agg (pccs b)) w :=
  loadRes_of (w := w) h (fun j _ => by rw [Nat.zero_add]) _ Try.underlying86 rfl (s_piece b)
def buildPcs (n : Nat) (parts : Array (Nat × Value)) : Sem Value := Instr.buildSlice 75 n parts
theorem build_pcs_rule (n : Nat) (parts : Array (Nat × Value)) : Instr.buildSlice 75 n parts = buildPcs n parts := rfl
theorem bs_piece (b : Bl) (w : World) : (buildPcs 1 #[(0, .agg (pccs b))]).run Try.prog w = .ok (.slice (some ⟨w.heap.size, 0, none⟩) 1 1) (w.alloc (.cells (pccs b) 86)) := by
  unfold pccs
  have hz := (zero_of_info z_piece).1 w
  unfold pccs at hz
  have hu := run_underlying (P := Try.prog) Try.underlying75 w
  unfold buildPcs Instr.buildSlice
  simp only [Sem.run_bind, hu, Result.andThen_ok]
  go_simp

attribute [local go_sem] Oper.semAt_some
attribute [local go_sem ↓] load_piece_rule build_pcs_rule

set_option maxRecDepth 100000 in
set_option maxHeartbeats 1000000 in
theorem appendseq_any {w : World} {gf : FuncId} {lb : Array Value} (L : List Bl) (hL : L.length ≤ 20000) (eg : ∀ args w, (callFunc gf args).run Try.prog w = .ok (.enter gf args) w)
    (hT : ∀ W1, Below w.heap.size w W1 → w.heap.size < W1.heap.size → Tells XP gf lb [w.heap.size] L.length (fun k => #[.agg (pccs (L.getD k Bl.zero))]) W1) :
    Calls Try.prog 76 #[.slice none 0 0, .func (.func gf) #[] lb] w fun e w' => ∃ v, e = .returned v ∧ w'.ownsRow w.heap.size 86 2 v L.length (pcl L) ∧ Below w.heap.size w w' := by
  obtain ⟨i0, hi, hz0, hz1, hz2⟩ := info_parts i_piece
  obtain ⟨W1, hW1⟩ : ∃ W1, w.alloc (.cells #[.slice none 0 0] 75) = W1 := ⟨_, rfl⟩
  have hb1 : Below w.heap.size w W1 := by rw [← hW1]; exact (Below.refl _ _).alloc (Nat.le_refl _) _
  have b1 : Blk W1 w.heap.size 75 #[.slice none 0 0] := by rw [← hW1]; exact Blk.new _ _ _
  have hs1 : W1.heap.size = w.heap.size + 1 := by rw [← hW1]; simp
  have hseq := hT W1 hb1 (by omega)
  have H1 := Lib.hid (And.intro hb1 (And.intro b1 hs1))
  clear hb1 b1 hs1 hT
  refine calls_of_wp_marks Try.func76 rfl ?_
  simp only [Try.ntmps76, List.size_toArray, List.length_cons, List.length_nil, Nat.reduceAdd, Nat.reduceSub, Array.replicate_succ, Array.replicate_zero, List.push_toArray, List.append_toArray, List.nil_append, List.cons_append]
  go_wp2_with fail
  clear hW1
  refine wp_range_row (S := [w.heap.size]) (N := L.length) (enc := fun k => #[.agg (pccs (L.getD k Bl.zero))]) none (fun _ => rfl) rfl eg hseq (fun k hk => by have := H1.out.2.2; simp at hk; omega)
    (fun k W => (∃ v, Blk W w.heap.size 75 #[v] ∧ W.ownsRow w.heap.size 86 2 v k (pcl (L.take k))) ∧ Below w.heap.size w W)
    (fun _ _ => False) ?hI ?hIx ⟨⟨_, H1.out.2.1, World.ownsRow_nil _ _ _ _⟩, H1.out.1⟩
    (fun k a' W => ∃ Bx, Blk W Bx 86 (pccs (L.getD k Bl.zero)) ∧ a' = { tmps := #[.slice none 0 0, .func (.func gf) #[] lb, .pointer (some ⟨w.heap.size, 0, none⟩), undef, .slice none 0 0, .pointer (some ⟨Bx, 0, none⟩), .func (.func gf) #[] lb, .agg (pccs (L.getD k Bl.zero)), undef, undef, undef, undef, undef], defers := [] })
    ?hAx ?assign ?body ?done ?stop
  case hI => exact OwnFrom.and (fun s X Y row hs hg hr => by obtain ⟨v, e1, e2⟩ := hs; exact ⟨v, own_blk (β := Unit) _ _ _ (fun _ => #[v]) () X Y row e1 hg hr, own_row (β := Unit) _ _ _ _ (fun _ => pcl (L.take s)) (fun _ => s) (fun _ => v) () X Y row e2 hg hr⟩) (ownFrom_below (Nat.le_refl _) (by have := H1.out.2.2; omega))
  case hIx => exact fun s X Y row hs hg hr => hs
  case hAx => exact fun k a' s X Y row hs hg hr => by obtain ⟨Bx, e1, e2⟩ := hs; exact ⟨Bx, own_blk (β := Unit) _ _ _ (fun _ => pccs (L.getD k Bl.zero)) () X Y row e1 hg hr, e2⟩
  case assign =>
    rintro k X K hk hX ⟨⟨v, e1, e2⟩, e4⟩ hK
    have hz : (pccs Bl.zero).size = (pccs (L.getD k Bl.zero)).size := rfl
    have HZ := Lib.hid hz
    clear hz
    have hsp := s_piece (L.getD k Bl.zero)
    have hop := pc_one (L.getD k Bl.zero)
    generalize L.getD k Bl.zero = bb at *
    have HS := Lib.hid (And.intro hsp hop)
    clear hsp hop
    simp only [List.zip_toArray, List.zip_cons_cons, List.zip_nil_right, List.zip_nil_left, List.size_toArray, List.foldl_toArray', List.foldl_toArray, List.foldl_cons, List.foldl_nil, List.setIfInBounds_toArray, List.set_cons_zero, List.set_cons_succ]
    generalize hpc : pccs bb = pc at *
    gi_wp2_with (first | (with_reducible refine wpListIn_alloc_z rfl 86 rfl (pccs Bl.zero) 2 z_piece ?_) | (with_reducible refine wpListIn_store_new rfl 86 (.tmp 5) (.tmp 7) rfl pc (pccs Bl.zero) _ rfl rfl HZ.out HS.out.1 HS.out.2 ?_))
    have hB : Below X.heap.size X (X.alloc (.cells pc 86)) := (Below.refl _ _).alloc (Nat.le_refl _) _
    exact hK _ _ (KX.below hB) ⟨⟨v, e1.alloc _, e2.alloc _⟩, e4.trans (hB.mono e4.size)⟩ ⟨_, Blk.new _ _ _, rfl⟩
  case body =>
    rintro k a' W ⟨⟨v, d1, d2⟩, dk⟩ ⟨Bx, dx, rfl⟩ hk hWs
    have hLP := ld_piece dx
    have hpt := pcl_take hk
    have hbs := bs_piece (L.getD k Bl.zero)
    have hone := pc_one (L.getD k Bl.zero)
    have hsz : (pccs (L.getD k Bl.zero)).toList.length = 1 * 2 := rfl
    generalize pccs (L.getD k Bl.zero) = pc at *
    have cv : W.cell? ⟨w.heap.size, 0, none⟩ = some v := d1.cell 0
    have hv : Boxed W w.heap.size 75 v := d1
    have hwsz := dk.size
    have hbW : ∀ v', KX XP [w.heap.size] W ((W.alloc (.cells pc 86)).setCell ⟨w.heap.size, 0, none⟩ v') := fun v' => (KX.below ((Below.refl _ _).alloc (Nat.le_refl _) _)).trans (KX.kept ((Kept.refl _ _).setCell (p := ⟨w.heap.size, 0, none⟩) (.inl (by simp)) v'))
    have hgr : ∀ w1, (W.alloc (.cells pc 86)).grownBy w1 v.ownBlock → ∀ v', KX XP [w.heap.size] W (w1.setCell ⟨w.heap.size, 0, none⟩ v') := fun w1 hg v' => by
      refine (KX.below ((Below.refl _ _).alloc (Nat.le_refl _) _)).trans (KX.trans (B := w1) ⟨hg.size, fun i o hi ho hn => ?_⟩ (KX.kept ((Kept.refl _ _).setCell (p := ⟨w.heap.size, 0, none⟩) (.inl (by simp)) v')))
      refine (hg.block i (Array.getElem?_eq_some_iff.1 ho).1 (fun e => ?_)).trans ho
      rcases (d2.alloc (.cells pc 86)).2 with ⟨rfl, _⟩ | ⟨g9, cap9, cur9, rfl, _, hgb, _⟩
      · simp [Value.ownBlock] at e
      · obtain rfl : g9 = i := by simpa [Value.ownBlock] using e.symm
        rw [hgb] at ho; cases ho; simp [notX, XP] at hn
    have HGR := Lib.hid hgr
    have HPT := Lib.hid hpt
    have HONE := Lib.hid hone
    clear hgr hbW hpt hone dx hseq
    gi_wp2_with (gi_at_builtin; refine wpListIn_append_own _ rfl _ _ 75 rfl w.heap.size 86 i0 (.agg (pccs Bl.zero)) 2 16 Try.underlying75 hi hz0 hz1 hz2 rfl (by decide) _ _ _ rfl (d2.alloc _) ⟨W.heap.size, 0, none⟩ 1 1 pc.toList rfl hsz (fun j u hj => by rw [Addr.add_lit, Nat.zero_add, (Blk.new W 86 pc).cell]; simpa using hj) (fun u hu => Array.all_eq_true_iff_forall_mem.1 HONE.out u (by simpa using hu)) (by unfold maxLen; omega) (by omega) (by simp; omega) ?_; intro v' w1 hown' hgrow _; obtain ⟨g', cap', rfl⟩ := ownsRow_succ hown'; obtain ⟨hv1, hv2, hr3, hk3, hb3⟩ := hv.appended (by decide) d2 hwsz (Nat.le_refl _) hown' hgrow; have hc1 := hv1.cell; have hf1 := hv1.frozen)
    exact ⟨HGR.out w1 hgrow _, ⟨_, hv2, by rw [HPT.out]; exact hr3⟩, dk.trans hb3⟩
  case done =>
    rintro W ⟨⟨v, d1, d2⟩, dk⟩ hdef
    have cv : W.cell? ⟨w.heap.size, 0, none⟩ = some v := d1.cell 0
    rw [List.take_length] at d2
    have hown := ownsRow_putObj d2 (.deferred none) hdef rfl
    have hbf : Below w.heap.size w (W.putObj W1.heap.size (.deferred none)) := dk.trans (belowK_b (w := w) (Nat.le_refl _) W W1.heap.size _ _ (by have := H1.out.2.2; omega) hdef rfl rfl)
    clear d1 d2
    go_wp2
    exact marks_ret hdef (by simp [results, Try.results76, go_sem]) ⟨v, rfl, hown, hbf⟩
  case stop => rintro k W hk hF hdef; exact hF.elim
end Go.Proofs.Ytgnpoehcmlmajaa
namespace Go.Proofs.Ytgnpoehcmlmajaa
open Go.RowKit Go.Shelf
set_option linter.unusedVariables false

theorem ownsRow_le {w : World} {B B' : Nat} {e : TypeId} {z : Nat} {v : Value} {n : Nat} {xs : List Value} (h : w.ownsRow B e z v n xs) (hB : B' ≤ B) : w.ownsRow B' e z v n xs :=
  ⟨h.1, by rcases h.2 with h9 | ⟨g, cap, cur, h1, h2, rest⟩; exact .inl h9; exact .inr ⟨g, cap, cur, h1, Nat.le_trans hB h2, rest⟩⟩
theorem chain_len {ws : List Nat} : ∀ {B : List Bl} {a0 : Nat}, Chain ws a0 B → a0 + B.length ≤ ws.getD 15 0
  | [], a0, h => by have h1 : a0 = ws.getD 15 0 := h; exact Nat.le_of_eq (by rw [← h1]; rfl)
  | b :: r, a0, h => by
    have h1 := chain_len h.2.2.2.2
    have := Nat.zero_le (2 ^ b.c)
    generalize 2 ^ b.c = z at *
    simp only [List.length_cons]
    omega
theorem ofT_len (t : Bool) (B : List Bl) : (ofT t B).length ≤ B.length := List.length_filter_le _ _

set_option maxHeartbeats 1000000 in
theorem collect_any {w : World} {gf : FuncId} {lb : Array Value} (L : List Bl) (hL : L.length ≤ 20000) (eg : ∀ args w, (callFunc gf args).run Try.prog w = .ok (.enter gf args) w)
    (hT : ∀ W1, Below w.heap.size w W1 → w.heap.size < W1.heap.size → Tells XP gf lb [w.heap.size] L.length (fun k => #[.agg (pccs (L.getD k Bl.zero))]) W1) :
    Calls Try.prog 62 #[.func (.func gf) #[] lb] w fun e w' => ∃ v, e = .returned v ∧ w'.ownsRow w.heap.size 86 2 v L.length (pcl L) ∧ Below w.heap.size w w' := by
  have ha := appendseq_any L hL eg hT
  clear hT eg
  go_enter Try.func62, Try.ntmps62
  go_wp2_with fail
  refine ha.mono ?_
  rintro e w' ⟨v, rfl, ho, hb⟩
  have HQ := Lib.hid (And.intro ho hb)
  clear ha ho hb
  go_wp2
  go_ret
  exact ⟨v, rfl, HQ.out⟩

section
variable {w : World} {g p q : Nat} {ws : List Nat} {bs : List Bool}
/-- Pieces, collected. -/
theorem pieces_all (t : Bool) {B : List Bl} (h : Ar w g p q ws bs) (hC : Chain ws 16 B) (he : ws.getD 15 0 ≤ ws.length) {W2 : World} (hb : Blk W2 w.heap.size 25 #[.pointer (some ⟨g, 0, none⟩)]) (hb2 : Blk W2 (w.heap.size + 1) 4 #[.bool t]) (hB : Below w.heap.size w W2) (hs : W2.heap.size = w.heap.size + 2) :
    Calls Try.prog 62 #[.func (.func 77) #[] #[.pointer (some ⟨w.heap.size, 0, none⟩), .pointer (some ⟨w.heap.size + 1, 0, none⟩)]] W2 fun e w' => ∃ v, e = .returned v ∧ w'.ownsRow w.heap.size 86 2 v (ofT t B).length (pcl (ofT t B)) ∧ Below w.heap.size w w' := by
  have hA := h.later hB
  have hl := chain_len hC
  have hl2 := ofT_len t B
  have hhi := h.hi
  refine (collect_any (ofT t B) (by omega) (enters_of Try.func77 (by kernel_rfl) rfl) (fun W1 hW1 hW2 => ?_)).mono ?_
  · have hlt := h.box.lt
    have hltp := h.wds.lt
    have hltq := h.bgs.lt
    exact pieces_tells (S := [W2.heap.size]) t (hA.later hW1) hC he (hb.kept (Kept.of_below [] hW1) (by simp)) (hb2.kept (Kept.of_below [] hW1) (by simp)) (by simp; omega) (by simp; omega) (by simp; omega) (by simp; omega) (by simp; omega) (fun k hk => by simp at hk; omega)
  · rintro e w' ⟨v, rfl, ho, hb'⟩
    exact ⟨v, rfl, ownsRow_le ho (by omega), hB.trans (hb'.mono (by omega))⟩
theorem pieces_none (t : Bool) {W2 : World} (hb : Blk W2 w.heap.size 25 #[.pointer none]) (hB : Below w.heap.size w W2) (hs : W2.heap.size = w.heap.size + 2) :
    Calls Try.prog 62 #[.func (.func 77) #[] #[.pointer (some ⟨w.heap.size, 0, none⟩), .pointer (some ⟨w.heap.size + 1, 0, none⟩)]] W2 fun e w' => ∃ v, e = .returned v ∧ w'.ownsRow w.heap.size 86 2 v 0 [] ∧ Below w.heap.size w w' := by
  refine (collect_any [] (by simp) (enters_of Try.func77 (by kernel_rfl) rfl) (fun W1 hW1 hW2 => ?_)).mono ?_
  · exact pieces_nil (S := [W2.heap.size]) rfl (hb.kept (Kept.of_below [] hW1) (by simp)) (by simp; omega)
  · rintro e w' ⟨v, rfl, ho, hb'⟩
    exact ⟨v, rfl, ownsRow_le ho (by omega), hB.trans (hb'.mono (by omega))⟩
set_option maxHeartbeats 1000000 in
theorem taken_all {B : List Bl} (h : Ar w g p q ws bs) (hC : Chain ws 16 B) (he : ws.getD 15 0 ≤ ws.length) : Calls Try.prog 29 #[.pointer (some ⟨g, 0, none⟩)] w fun e w' => ∃ v, e = .returned v ∧ w'.ownsRow w.heap.size 86 2 v (ofT true B).length (pcl (ofT true B)) ∧ Below w.heap.size w w' := by
  have hp := pieces_any (some ⟨g, 0, none⟩) true w
  have hc := fun W2 h1 h2 h3 h4 => pieces_all true h hC he (W2 := W2) h1 h2 h3 h4
  clear h hC he
  go_enter Try.func29, Try.ntmps29
  go_wp2_with fail
  refine hp.mono ?_
  rintro e W2 ⟨rfl, h1, h2, h3, h4⟩
  have hc2 := hc W2 h1 h2 h3 h4
  clear hp hc h1 h2 h3 h4
  go_wp2_with fail
  refine hc2.mono ?_
  rintro e w' ⟨v, rfl, ho, hb⟩
  have HQ := Lib.hid (And.intro ho hb)
  clear hc2 ho hb
  go_wp2
  go_ret
  exact ⟨v, rfl, HQ.out⟩
set_option maxHeartbeats 1000000 in
theorem taken_all_nil (w : World) : Calls Try.prog 29 #[.pointer none] w fun e w' => ∃ v, e = .returned v ∧ w'.ownsRow w.heap.size 86 2 v 0 [] ∧ Below w.heap.size w w' := by
  have hp := pieces_any none true w
  have hc := fun W2 h1 h3 h4 => pieces_none (w := w) true (W2 := W2) h1 h3 h4
  go_enter Try.func29, Try.ntmps29
  go_wp2_with fail
  refine hp.mono ?_
  rintro e W2 ⟨rfl, h1, h2, h3, h4⟩
  have hc2 := hc W2 h1 h3 h4
  clear hp hc h1 h2 h3 h4
  go_wp2_with fail
  refine hc2.mono ?_
  rintro e w' ⟨v, rfl, ho, hb⟩
  have HQ := Lib.hid (And.intro ho hb)
  clear hc2 ho hb
  go_wp2
  go_ret
  exact ⟨v, rfl, HQ.out⟩
set_option maxHeartbeats 1000000 in
theorem spare_all {B : List Bl} (h : Ar w g p q ws bs) (hC : Chain ws 16 B) (he : ws.getD 15 0 ≤ ws.length) : Calls Try.prog 34 #[.pointer (some ⟨g, 0, none⟩)] w fun e w' => ∃ v, e = .returned v ∧ w'.ownsRow w.heap.size 86 2 v (ofT false B).length (pcl (ofT false B)) ∧ Below w.heap.size w w' := by
  have hp := pieces_any (some ⟨g, 0, none⟩) false w
  have hc := fun W2 h1 h2 h3 h4 => pieces_all false h hC he (W2 := W2) h1 h2 h3 h4
  clear h hC he
  go_enter Try.func34, Try.ntmps34
  go_wp2_with fail
  refine hp.mono ?_
  rintro e W2 ⟨rfl, h1, h2, h3, h4⟩
  have hc2 := hc W2 h1 h2 h3 h4
  clear hp hc h1 h2 h3 h4
  go_wp2_with fail
  refine hc2.mono ?_
  rintro e w' ⟨v, rfl, ho, hb⟩
  have HQ := Lib.hid (And.intro ho hb)
  clear hc2 ho hb
  go_wp2
  go_ret
  exact ⟨v, rfl, HQ.out⟩
set_option maxHeartbeats 1000000 in
theorem spare_all_nil (w : World) : Calls Try.prog 34 #[.pointer none] w fun e w' => ∃ v, e = .returned v ∧ w'.ownsRow w.heap.size 86 2 v 0 [] ∧ Below w.heap.size w w' := by
  have hp := pieces_any none false w
  have hc := fun W2 h1 h3 h4 => pieces_none (w := w) false (W2 := W2) h1 h3 h4
  go_enter Try.func34, Try.ntmps34
  go_wp2_with fail
  refine hp.mono ?_
  rintro e W2 ⟨rfl, h1, h2, h3, h4⟩
  have hc2 := hc W2 h1 h3 h4
  clear hp hc h1 h2 h3 h4
  go_wp2_with fail
  refine hc2.mono ?_
  rintro e w' ⟨v, rfl, ho, hb⟩
  have HQ := Lib.hid (And.intro ho hb)
  clear hc2 ho hb
  go_wp2
  go_ret
  exact ⟨v, rfl, HQ.out⟩
end
end Go.Proofs.Ytgnpoehcmlmajaa
