/-
  Decode, in parts: the iterator over a list of free blocks, where it comes to what may not be in it. Nothing here is a statement of the document.
-/
import Derived.Test.YtgnpoehcmlmajaaArpD
import Derived.Sort.LoopGhostIn
namespace Go.Proofs.Ytgnpoehcmlmajaa
open Go.RowKit Go.Shelf
set_option linter.unusedVariables false

/-- Ranged over, this function yields so often, these values, if it is left at the last of them at the latest. -/
def TellsS (gf : FuncId) (lb : Array Value) (S : List Nat) (N : Nat) (enc : Nat → Array Value) (w : World) : Prop :=
  ∀ (l : Nat) (J Jx : Nat → World → Prop) (W : World), KL w.heap.size S w W → w.heap.size ≤ l → l < W.heap.size → OwnFrom W.heap.size J → OwnFrom W.heap.size Jx → (∀ W, ¬ J N W) →
    (∀ k W1, k < N → J k W1 → YieldAt Fence.wide 8 Try.prog l (enc k) W1 fun e W' =>
      KL (l + 1) (l :: S) W1 W' ∧ ((e = .returned (.bool true) ∧ J (k + 1) W') ∨ (e = .returned (.bool false) ∧ Jx k W'))) →
    J 0 W →
    CallsIn Fence.wide 9 Try.prog gf (#[.func (.yield l) #[] #[]] ++ lb) W fun e W' => (∃ v, e = .returned v) ∧ ∃ k, k < N ∧ Jx k W'

set_option maxHeartbeats 1000000 in
/-- A range over such a row, whose last round leaves. -/
theorem wp_range_stop {g : Operand} {ps : Array Tmp} {assign body : Code} {Q : Exit → Act → World → Prop} {a : Act} {w : World} {gf : FuncId} {lb : Array Value} {S : List Nat} {N : Nat} {enc : Nat → Array Value} (jump : Option Nat) (hps : ∀ k, (enc k).size = ps.size)
    (hg : a.eval g = .func (.func gf) #[] lb) (eg : ∀ args w, (callFunc gf args).run Try.prog w = .ok (.enter gf args) w) (hseq : TellsS gf lb S N enc w) (hS : ∀ k ∈ S, k < w.heap.size)
    (I Ix : Nat → World → Prop) (hI : OwnFrom w.heap.size I) (hIx : OwnFrom w.heap.size Ix) (h0 : I 0 w)
    (Ax : Nat → Act → World → Prop) (hAx : ∀ x a', OwnFrom w.heap.size (fun (_ : Unit) W => Ax x a' W))
    (hassign : ∀ (k : Nat) (W : World) (K : Act → World → Prop), k < N → w.heap.size + 2 ≤ W.heap.size → I k W → (∀ a' W', KL (w.heap.size + 2) S W W' → I k W' → Ax k a' W' → K a' W') →
      assign.wpIn (Fence.wide.inRound (w.heap.size + 1)) 8 Try.prog (Exit.then K (fun _ _ _ => False)) { tmps := (ps.zip (enc k)).foldl (fun tmps (t, a) => tmps.setIfInBounds t a) a.tmps, defers := [] } W)
    (hbody : ∀ (k : Nat) (a' : Act) (W : World), I k W → Ax k a' W → k < N → w.heap.size + 2 ≤ W.heap.size →
      body.wpIn (Fence.wide.inRound (w.heap.size + 1)) 8 Try.prog (fun e _ W' => KL (w.heap.size + 2) S W W' ∧ ((e = .normal ∧ I (k + 1) W') ∨ (e = outE jump ∧ Ix k W'))) a' W)
    (hno : ∀ W, ¬ I N W)
    (hstop : ∀ k W, k < N → Ix k W → W.heap[w.heap.size]? = some (.deferred (some [])) → Q (outE jump) { a with defers := { target := .collected w.heap.size, args := #[] } :: a.defers } W) :
    (Code.rangeFunc g ps assign body).wp Try.prog Q a w := by
  refine (wpIn_wide (n := 10)).1 (wpIn_rangeFunc fun fn _ => ?_)
  obtain ⟨Z, hZ⟩ : ∃ Z, (w.alloc (.deferred (some []))).alloc (.loop (LpR fn a.tmps ps assign body w.heap.size .ready none)) = Z := ⟨_, rfl⟩
  have hZs : Z.heap.size = w.heap.size + 2 := by rw [← hZ]; simp
  have hZl : Z.heap[w.heap.size + 1]? = some (.loop (LpR fn a.tmps ps assign body w.heap.size .ready none)) := by
    rw [← hZ]; have := World.alloc_heap_new (w.alloc (.deferred (some []))) (.loop (LpR fn a.tmps ps assign body w.heap.size .ready none)); rwa [World.size_alloc] at this
  have hZd : Z.heap[w.heap.size]? = some (.deferred (some [])) := by
    rw [← hZ]; exact (Below.heap_alloc _ _ _ (by simp)).trans (World.alloc_heap_new w _)
  have hZk : KL w.heap.size S w Z := by rw [← hZ]; exact KL.below (((Below.refl _ w).alloc (Nat.le_refl _) _).alloc (by simp) _) (Nat.le_refl _)
  have hZi : I 0 Z := by rw [← hZ]; exact hI.alloc _ (hI.alloc _ h0)
  have hdS : w.heap.size ∉ S := fun hm => by have := hS _ hm; omega
  have hlS : w.heap.size + 1 ∉ S := fun hm => by have := hS _ hm; omega
  -- a round's record, turned
  have turn : ∀ (W : World) (s s' : LoopState) (j j' : Option Code), W.heap[w.heap.size + 1]? = some (.loop (LpR fn a.tmps ps assign body w.heap.size s j)) → W.heap[w.heap.size]? = some (.deferred (some [])) →
      (W.putObj (w.heap.size + 1) (.loop (LpR fn a.tmps ps assign body w.heap.size s' j'))).heap[w.heap.size + 1]? = some (.loop (LpR fn a.tmps ps assign body w.heap.size s' j')) ∧ (W.putObj (w.heap.size + 1) (.loop (LpR fn a.tmps ps assign body w.heap.size s' j'))).heap[w.heap.size]? = some (.deferred (some [])) :=
    fun W s s' j j' h1 h2 => ⟨World.putObj_heap_same (Array.getElem?_eq_some_iff.1 h1).1, (World.putObj_heap_other (by omega)).trans h2⟩
  refine ⟨w.heap.size + 1, [{ target := .collected w.heap.size, args := #[] }], Z, { target := .fn (.func gf) lb, args := #[.func (.yield (w.heap.size + 1)) #[] #[]] }, Z, gf, #[.func (.yield (w.heap.size + 1)) #[] #[]] ++ lb, Z, ?_, ?_, fun _ _ => trivial, ?_, fun h => by simp [Fence.wide] at h, ?_⟩
  · rw [← hZ]; exact run_enterLoop_outer _ _ _ _ _
  · simp only [resolve, hg]
    simp [go_sem]
  · simp [invoke, go_sem, eg]
  · refine (hseq (w.heap.size + 1)
      (fun k W => I k W ∧ W.heap[w.heap.size + 1]? = some (.loop (LpR fn a.tmps ps assign body w.heap.size .ready none)) ∧ W.heap[w.heap.size]? = some (.deferred (some [])))
      (fun k W => Ix k W ∧ W.heap[w.heap.size + 1]? = some (.loop (LpR fn a.tmps ps assign body w.heap.size .done (some (outC jump)))) ∧ W.heap[w.heap.size]? = some (.deferred (some [])))
      Z hZk (by omega) (by omega) (OwnFrom.and (own_mono hI (by omega)) (OwnFrom.and (own_obj (by omega)) (own_obj (by omega)))) (OwnFrom.and (own_mono hIx (by omega)) (OwnFrom.and (own_obj (by omega)) (own_obj (by omega)))) (fun W h => hno W h.1) ?_ ⟨hZi, hZl, hZd⟩).mono ?_
    · rintro k W hlen ⟨hi, hl, hd⟩
      have hy := run_yield (P := Try.prog) (args := (enc k)) hl (hps k)
      refine ⟨(LpR fn a.tmps ps assign body w.heap.size .ready none).fn, _, (LpR fn a.tmps ps assign body w.heap.size .ready none).assign, (LpR fn a.tmps ps assign body w.heap.size .ready none).body, hy, roundIn_of_wpIn trivial ?_⟩
      refine hassign k W _ hlen (by have := (Array.getElem?_eq_some_iff.1 hl).1; omega) hi fun a' Wa hka hia hax => ?_
      have hl2 := (hka.same _ (by omega) hlS).trans hl
      have hd2 := (hka.same _ (by omega) hdS).trans hd
      have hbg := run_beginRound (P := Try.prog) hl2 rfl
      refine ⟨_, hbg, ?_⟩
      obtain ⟨hl3, hd3⟩ := turn Wa .ready .busy none none hl2 hd2
      have hs3 : w.heap.size + 2 ≤ (Wa.putObj (w.heap.size + 1) (.loop (LpR fn a.tmps ps assign body w.heap.size .busy none))).heap.size := by have := (Array.getElem?_eq_some_iff.1 hl3).1; omega
      have hk3 : KL (w.heap.size + 2) ((w.heap.size + 1) :: S) W (Wa.putObj (w.heap.size + 1) (.loop (LpR fn a.tmps ps assign body w.heap.size .busy none))) := (hka.more (by simp; exact fun i hi => .inr hi)).trans (KL.put (by simp) _)
      refine wpIn_mono (hbody k a' _ (hI.putObj _ hia (by omega) hl2 rfl) ((hAx k a').putObj (s := ()) _ hax (by omega) hl2 rfl) hlen hs3) ?_
      rintro e a3 W3 ⟨hkb, hp⟩
      have hl4 := (hkb.same _ (by omega) hlS).trans hl3
      have hd4 := (hkb.same _ (by omega) hdS).trans hd3
      have hk4 : KL (w.heap.size + 2) ((w.heap.size + 1) :: S) W W3 := hk3.trans (hkb.more (by simp; exact fun i hi => .inr hi))
      rcases hp with ⟨rfl, hi3⟩ | ⟨rfl, hi3⟩
      · have he := run_endRound (P := Try.prog) none hl4
        obtain ⟨h5, h6⟩ := turn W3 .busy .ready none none hl4 hd4
        refine ⟨_, _, he, hk4.trans (KL.put (by simp) _), .inl ⟨rfl, ?_⟩⟩
        exact ⟨hI.putObj _ hi3 (by omega) hl4 rfl, h5, h6⟩
      · have he := run_endRound (P := Try.prog) (some (outC jump)) hl4
        refine roundPost_out jump _ _ _ _ ⟨_, _, he, ?_⟩
        obtain ⟨h5, h6⟩ := turn W3 .busy .done none (some (outC jump)) hl4 hd4
        refine ⟨hk4.trans (KL.put (by simp) _), .inr ⟨rfl, ?_⟩⟩
        exact ⟨hIx.putObj _ hi3 (by omega) hl4 rfl, h5, h6⟩
    · rintro e W2 ⟨⟨v, rfl⟩, k, hk, hi, hl, hd⟩
      exact ⟨some (outC jump), _, run_endLoop (P := Try.prog) hl (by simp), wpIn_out jump (hstop k _ hk (hIx.putObj _ hi (by omega) hl rfl) ((World.putObj_heap_other (by omega)).trans hd))⟩
end Go.Proofs.Ytgnpoehcmlmajaa
namespace Go.Proofs.Ytgnpoehcmlmajaa
open Go.RowKit Go.Shelf
set_option linter.unusedVariables false
/-- A list, from this place on, comes to that one. -/
def LstX (ws : List Nat) : Nat → List Nat → Nat → Prop
  | s, [], x => s = x
  | s, y :: r, x => s = y ∧ 17 ≤ y ∧ LstX ws (ws.getD y 0) r x
theorem lstx_get {ws : List Nat} : ∀ {L : List Nat} {s x : Nat}, LstX ws s L x → s = (L ++ [x]).getD 0 0 ∧ ∀ k, k < L.length → ws.getD ((L ++ [x]).getD k 0) 0 = (L ++ [x]).getD (k + 1) 0 ∧ 17 ≤ (L ++ [x]).getD k 0
  | [], s, x, h => ⟨h, fun k hk => by simp at hk⟩
  | y :: r, s, x, h => by
    obtain ⟨h1, h2, h3⟩ := h
    obtain ⟨g1, g2⟩ := lstx_get h3
    refine ⟨h1, fun k hk => ?_⟩
    rcases k with _ | k
    · exact ⟨g1, h2⟩
    · have := g2 k (by simpa using hk)
      simpa using this

attribute [local go_sem] Oper.semAt_some
set_option maxRecDepth 100000 in
set_option maxHeartbeats 2000000 in
theorem list_stop {w : World} {g p : Nat} {qv : Value} {ws : List Nat} {S : List Nat} {box box2 c : Nat} {L : List Nat} {x : Nat} (h : Aw w g p qv ws) (hc : c ≤ 5) (hL : LstX ws (ws.getD (9 + c) 0) L x) (hx : x ≠ 0) (hxs : x < 4294967296) (hlt : ∀ k, k < L.length → L.getD k 0 < ws.length) (hb : Blk w box 25 #[.pointer (some ⟨g, 0, none⟩)]) (hb2 : Blk w box2 3 #[.int .i64 (c : Int)])
    (hgS : g ∉ S) (hpS : p ∉ S) (hbS : box ∉ S) (hbS2 : box2 ∉ S) :
    TellsS 85 #[.pointer (some ⟨box, 0, none⟩), .pointer (some ⟨box2, 0, none⟩)] S (L.length + 1) (encL (L ++ [x])) w := by
  intro lo J Jx W hWk hlw hlo hJ hJx hno hY h0
  have n1 : g < lo := by have := h.box.lt; omega
  have n2 : p < lo := by have := h.wds.lt; omega
  have n4 : box < lo := by have := hb.lt; omega
  replace h := h.low hWk hgS hpS h.box.lt h.wds.lt
  replace hb := hWk.blk hb hbS hb.lt
  replace hb2 := hWk.blk hb2 hbS2 hb2.lt
  obtain ⟨hL0, hLk⟩ := lstx_get hL
  have cb : W.cell? ⟨box, 0, none⟩ = some (.pointer (some ⟨g, 0, none⟩)) := hb.cell 0
  have cb2 : W.cell? ⟨box2, 0, none⟩ = some (.int .i64 (c : Int)) := hb2.cell 0
  have cg := h.c0
  have cw := h.word (i := 9 + c) (by have := h.lo; omega)
  rw [hL0] at cw
  have hPe : (L ++ [x]).getD L.length 0 = x := by simp
  have hlt : ∀ k, k < L.length → (L ++ [x]).getD k 0 < ws.length := fun k hk => by
    have := hlt k hk
    simp only [List.getD_eq_getElem?_getD] at this ⊢
    rw [List.getElem?_append_left hk]; exact this
  obtain ⟨P, hP⟩ : ∃ P : Nat → Nat, ∀ k, (L ++ [x]).getD k 0 = P k := ⟨fun k => (L ++ [x]).getD k 0, fun _ => rfl⟩
  simp only [hP] at hLk cw hlt hPe
  have hJ0 : J 0 W.drew := hJ _ _ _ none h0 (grown_of_below ⟨rfl, rfl, rfl, Nat.le_refl _, fun _ _ => rfl⟩) (fun r h => by cases h)
  have hYY : ∀ k W1, k < L.length + 1 → J k W1 → YieldAt Fence.wide 8 Try.prog lo #[.int .i64 ((P k : Nat) : Int)] W1 fun e W' => KL (lo + 1) (lo :: S) W1 W' ∧ ((e = .returned (.bool true) ∧ J (k + 1) W') ∨ (e = .returned (.bool false) ∧ Jx k W')) := fun k W1 hk hj => by
    have := hY k W1 hk hj
    unfold encL at this
    rwa [hP] at this
  have hsmP : ∀ k, P k < 4294967296 := fun k => by
    by_cases hk : k < L.length
    · have := hlt k hk; have := h.hi; omega
    · by_cases hk2 : k = L.length
      · rw [hk2, hPe]; exact hxs
      · have e : (L ++ [x]).getD k 0 = 0 := by simp [List.getElem?_eq_none (by simp; omega : (L ++ [x]).length ≤ k)]
        rw [← hP, e]; omega
  have hlo64 := h.lo
  have dlt : 9 + c < ws.length := by omega
  have dlt2 : ((9 + c : Nat) : Int) < (ws.length : Int) := by omega
  have h9 : (9 : Int) + (c : Int) = ((9 + c : Nat) : Int) := by omega
  have H := Lib.hid (And.intro h (And.intro hb (And.intro hLk (And.intro (And.intro hno hx) (And.intro hlt (And.intro hYY (And.intro hsmP hPe)))))))
  clear hlw hWk hb2 hL hlt hL0 hLk h hb hY hYY hP hsmP hPe h0 hno hx
  generalize 9 + c = c9 at *
  refine callsIn_of_wp Try.func85 rfl trivial ?_ rfl
  simp only [Try.ntmps85, List.size_toArray, List.length_cons, List.length_nil, Nat.reduceAdd, Nat.reduceSub, Array.replicate_succ, Array.replicate_zero, List.push_toArray, List.append_toArray, List.nil_append, List.cons_append]
  gi_wp2
  have f0 : ∀ w9, w9 = W.drew → w9.cell? ⟨box, 0, none⟩ = some (.pointer (some ⟨g, 0, none⟩)) := fun w9 h => by subst h; exact cb
  have f1 : ∀ w9, w9 = W.drew → w9.cell? ⟨box2, 0, none⟩ = some (.int .i64 (c : Int)) := fun w9 h => by subst h; exact cb2
  have f2 : ∀ w9, w9 = W.drew → w9.cell? ⟨g, 0, none⟩ = some (.slice (some ⟨p, 0, none⟩) ws.length ws.length) := fun w9 h => by subst h; exact cg
  have f3 : ∀ w9, w9 = W.drew → w9.cell? ⟨p, c9, none⟩ = some (.int .u32 ((P 0 : Nat) : Int)) := fun w9 h => by subst h; exact cw
  refine wpIn_wide.2 (wp_region_lin (fun w' => w' = W.drew) (by kernel_rfl) (by kernel_rfl) rfl ?_)
  (repeat (first | (refine lin_off (by rfl) ?_; (try simp only [Act.put, List.setIfInBounds_toArray, List.set_cons_zero, List.set_cons_succ])) | (refine lin_op (v := ?_) (by rfl) (fun w9 hS9 => ?_) ?_; rotate_left; (focus ((have k0 := f0 w9 hS9; have k1 := f1 w9 hS9; have k2 := f2 w9 hS9; have k3 := f3 w9 hS9; (try dsimp only at hS9); go_simp; (try go_bits)) <;> with_reducible rfl)); (try simp only [Act.put, List.setIfInBounds_toArray, List.set_cons_zero, List.set_cons_succ])) ))
  refine lin_nil (fun w8 hS8 => ?_)
  subst hS8
  clear f0 f1 f2 f3 cb cb2 cg cw
  gi_wp2
  gi_loopg [4] L.length (fun m i wr => ∃ k : Nat, m + k = L.length ∧ i = .int .u32 ((P k : Nat) : Int) ∧ J k wr ∧ Aw wr g p qv ws ∧ Blk wr box 25 #[.pointer (some ⟨g, 0, none⟩)])
  case atStart => exact ⟨0, rfl, rfl, hJ0, ⟨H.out.1.box, H.out.1.wds, H.out.1.lo, H.out.1.hi, H.out.1.sml⟩, H.out.2.1⟩
  case round =>
    obtain ⟨k, hmk, rfl, hJs, hA, hbw⟩ := hrel
    have hk : k ≤ L.length := by omega
    obtain ⟨fn, tmps, assign, body, hy, hR⟩ := H.out.2.2.2.2.2.1 k wr (by omega) hJs
    have q4 := H.out.2.2.2.2.2.2.1 k
    by_cases hlt : k < L.length
    · obtain ⟨q1, q2⟩ := H.out.2.2.1 k hlt
      have q3 := H.out.2.2.2.2.1 k hlt
      have d1 : ((P k : Int) != 0) = true := by simp; omega
      have HJ := Lib.hid (And.intro hA (And.intro hbw q1))
      generalize hnx : P (k + 1) = nx at *
      have HNX := Lib.hid hnx
      clear hnx
      generalize hpk : P k = pk at *
      have HPK := Lib.hid hpk
      clear hJs hA hbw q1 hpk hJ0
      gi_wp2
      refine hR.mono ?_
      rintro e2 W4 ⟨hk4, ⟨rfl, hJ4⟩ | ⟨rfl, hJx4⟩⟩
      · have hA4 := HJ.out.1.low hk4 (by simp [hgS]; omega) (by simp [hpS]; omega) (by omega) (by omega)
        have hb4 := hk4.blk HJ.out.2.1 (by simp [hbS]; omega) (by omega)
        have cb4 : W4.cell? ⟨box, 0, none⟩ = some (.pointer (some ⟨g, 0, none⟩)) := hb4.cell 0
        have cg4 := hA4.c0
        have cw4 := hA4.word q3
        rw [HJ.out.2.2] at cw4
        have H4 := Lib.hid (And.intro hA4 (And.intro hb4 hJ4))
        clear hy hA4 hb4 hJ4
        gi_wp2
        gi_roundg (L.length - (k + 1))
        case measure => omega
        case rel => exact ⟨k + 1, by omega, by rw [HNX.out], H4.out.2.2, H4.out.1, H4.out.2.1⟩
      · gi_wp2
        refine bodyPost_ret (results_none rfl _ _ _) rfl ?_
        exact ⟨⟨_, rfl⟩, k, by omega, hJx4⟩
    · obtain rfl : k = L.length := by omega
      have hpx := H.out.2.2.2.2.2.2.2
      have hx := H.out.2.2.2.1.2
      have d1 : ((P L.length : Int) != 0) = true := by rw [hpx]; simp; omega
      clear hpx hx
      generalize P L.length = pk at *
      clear hA hbw hJ0
      gi_wp2
      refine hR.mono ?_
      rintro e2 W4 ⟨hk4, ⟨rfl, hJ4⟩ | ⟨rfl, hJx4⟩⟩
      · exact absurd hJ4 (H.out.2.2.2.1.1 _)
      · gi_wp2
        refine bodyPost_ret (results_none rfl _ _ _) rfl ?_
        exact ⟨⟨_, rfl⟩, L.length, by omega, hJx4⟩

end Go.Proofs.Ytgnpoehcmlmajaa
