/-
  What ship.along tells. Nothing here is a statement of the document.
-/
import Derived.Test.YtkoenconjldojaaItB
import Derived.Test.YtkoenconjldojaaShK
import Derived.Test.YtkoenconjldojaaLinJ
namespace Go.Proofs.Ytkoenconjldojaa
open Go.RowKit Go.Shelf
set_option linter.unusedVariables false
/-- Ranged over, this function yields so often, these values; it reads nothing that lies in S, and nothing that lies above. -/
def TellsC (gf : FuncId) (lb : Array Value) (S : List Nat) (N : Nat) (enc : Nat → Array Value) (w : World) : Prop :=
  ∀ (l : Nat) (J Jx : Nat → World → Prop) (W : World), KL w.heap.size S w W → w.heap.size ≤ l → l < W.heap.size → OwnFrom W.heap.size J → OwnFrom W.heap.size Jx →
    (∀ k W1, k < N → J k W1 → YieldAt Fence.wide 8 Try.prog l (enc k) W1 fun e W' =>
      KL W1.heap.size (l :: S) W1 W' ∧ ((e = .returned (.bool true) ∧ J (k + 1) W') ∨ (e = .returned (.bool false) ∧ Jx k W'))) →
    J 0 W →
    CallsIn Fence.wide 9 Try.prog gf (#[.func (.yield l) #[] #[]] ++ lb) W fun e W' => (∃ v, e = .returned v) ∧ (J N W' ∨ ∃ k, k < N ∧ Jx k W')

set_option maxHeartbeats 1000000 in
/-- A range over such a row, at the outermost; the body goes on, or leaves by one jump. -/
theorem wp_range_all {g : Operand} {ps : Array Tmp} {assign body : Code} {Q : Exit → Act → World → Prop} {a : Act} {w : World} {gf : FuncId} {lb : Array Value} {S : List Nat} {N : Nat} {enc : Nat → Array Value} (jump : Option Nat) (hps : ∀ k, (enc k).size = ps.size)
    (hg : a.eval g = .func (.func gf) #[] lb) (eg : ∀ args w, (callFunc gf args).run Try.prog w = .ok (.enter gf args) w) (hseq : TellsC gf lb S N enc w) (hS : ∀ k ∈ S, k < w.heap.size)
    (I Ix : Nat → World → Prop) (hI : OwnFrom w.heap.size I) (hIx : OwnFrom w.heap.size Ix) (h0 : I 0 w)
    (Ax : Nat → Act → World → Prop) (hAx : ∀ x a', OwnFrom w.heap.size (fun (_ : Unit) W => Ax x a' W))
    (hassign : ∀ (k : Nat) (W : World) (K : Act → World → Prop), k < N → w.heap.size + 2 ≤ W.heap.size → I k W → (∀ a' W', KL W.heap.size S W W' → I k W' → Ax k a' W' → K a' W') →
      assign.wpIn (Fence.wide.inRound (w.heap.size + 1)) 8 Try.prog (Exit.then K (fun _ _ _ => False)) { tmps := (ps.zip (enc k)).foldl (fun tmps (t, a) => tmps.setIfInBounds t a) a.tmps, defers := [] } W)
    (hbody : ∀ (k : Nat) (a' : Act) (W : World), I k W → Ax k a' W → k < N → w.heap.size + 2 ≤ W.heap.size →
      body.wpIn (Fence.wide.inRound (w.heap.size + 1)) 8 Try.prog (fun e _ W' => KL W.heap.size S W W' ∧ ((e = .normal ∧ I (k + 1) W') ∨ (e = outE jump ∧ Ix k W'))) a' W)
    (hdone : ∀ W, I N W → W.heap[w.heap.size]? = some (.deferred (some [])) → Q .normal { a with defers := { target := .collected w.heap.size, args := #[] } :: a.defers } W)
    (hstop : ∀ k W, k < N → Ix k W → W.heap[w.heap.size]? = some (.deferred (some [])) → Q (outE jump) { a with defers := { target := .collected w.heap.size, args := #[] } :: a.defers } W) :
    (Code.rangeFunc g ps assign body).wp Try.prog Q a w := by
  refine (wpIn_wide (n := 10)).1 (wpIn_rangeFunc fun fn _ => ?_)
  obtain ⟨Z, hZ⟩ : ∃ Z, (w.alloc (.deferred (some []))).alloc (.loop (LpR fn a.tmps ps assign body w.heap.size .ready none)) = Z := ⟨_, rfl⟩
  have hZs : Z.heap.size = w.heap.size + 2 := by rw [← hZ]; simp
  have hZl : Z.heap[w.heap.size + 1]? = some (.loop (LpR fn a.tmps ps assign body w.heap.size .ready none)) := by
    rw [← hZ]; have := World.alloc_heap_new (w.alloc (.deferred (some []))) (.loop (LpR fn a.tmps ps assign body w.heap.size .ready none)); rwa [World.size_alloc] at this
  have hZd : Z.heap[w.heap.size]? = some (.deferred (some [])) := by
    rw [← hZ]; exact (Below.heap_alloc _ _ _ (by simp)).trans (World.alloc_heap_new w _)
  have hZk : KL w.heap.size S w Z := by rw [← hZ]; exact KL.below (((Below.refl _ w).alloc (Nat.le_refl _) _).alloc (by simp) _) (Nat.le_refl _)
  have hZi : I 0 Z := by rw [← hZ]; exact hI.alloc _ (hI.alloc _ h0)
  have hdS : w.heap.size ∉ S := fun hm => by have := hS _ hm; omega
  have hlS : w.heap.size + 1 ∉ S := fun hm => by have := hS _ hm; omega
  -- a round's record, turned
  have turn : ∀ (W : World) (s s' : LoopState) (j j' : Option Code), W.heap[w.heap.size + 1]? = some (.loop (LpR fn a.tmps ps assign body w.heap.size s j)) → W.heap[w.heap.size]? = some (.deferred (some [])) →
      (W.putObj (w.heap.size + 1) (.loop (LpR fn a.tmps ps assign body w.heap.size s' j'))).heap[w.heap.size + 1]? = some (.loop (LpR fn a.tmps ps assign body w.heap.size s' j')) ∧ (W.putObj (w.heap.size + 1) (.loop (LpR fn a.tmps ps assign body w.heap.size s' j'))).heap[w.heap.size]? = some (.deferred (some [])) :=
    fun W s s' j j' h1 h2 => ⟨World.putObj_heap_same (Array.getElem?_eq_some_iff.1 h1).1, (World.putObj_heap_other (by omega)).trans h2⟩
  refine ⟨w.heap.size + 1, [{ target := .collected w.heap.size, args := #[] }], Z, { target := .fn (.func gf) lb, args := #[.func (.yield (w.heap.size + 1)) #[] #[]] }, Z, gf, #[.func (.yield (w.heap.size + 1)) #[] #[]] ++ lb, Z, ?_, ?_, fun _ _ => trivial, ?_, fun h => by simp [Fence.wide] at h, ?_⟩
  · rw [← hZ]; exact run_enterLoop_outer _ _ _ _ _
  · simp only [resolve, hg]
    simp [go_sem]
  · simp [invoke, go_sem, eg]
  · refine (hseq (w.heap.size + 1)
      (fun k W => I k W ∧ W.heap[w.heap.size + 1]? = some (.loop (LpR fn a.tmps ps assign body w.heap.size .ready none)) ∧ W.heap[w.heap.size]? = some (.deferred (some [])))
      (fun k W => Ix k W ∧ W.heap[w.heap.size + 1]? = some (.loop (LpR fn a.tmps ps assign body w.heap.size .done (some (outC jump)))) ∧ W.heap[w.heap.size]? = some (.deferred (some [])))
      Z hZk (by omega) (by omega) (OwnFrom.and (own_mono hI (by omega)) (OwnFrom.and (own_obj (by omega)) (own_obj (by omega)))) (OwnFrom.and (own_mono hIx (by omega)) (OwnFrom.and (own_obj (by omega)) (own_obj (by omega)))) ?_ ⟨hZi, hZl, hZd⟩).mono ?_
    · rintro k W hlen ⟨hi, hl, hd⟩
      have hWs : w.heap.size + 2 ≤ W.heap.size := by have := (Array.getElem?_eq_some_iff.1 hl).1; omega
      have hy := run_yield (P := Try.prog) (args := (enc k)) hl (hps k)
      refine ⟨(LpR fn a.tmps ps assign body w.heap.size .ready none).fn, _, (LpR fn a.tmps ps assign body w.heap.size .ready none).assign, (LpR fn a.tmps ps assign body w.heap.size .ready none).body, hy, roundIn_of_wpIn trivial ?_⟩
      refine hassign k W _ hlen (by have := (Array.getElem?_eq_some_iff.1 hl).1; omega) hi fun a' Wa hka hia hax => ?_
      have hl2 := (hka.same _ (by omega) hlS).trans hl
      have hd2 := (hka.same _ (by omega) hdS).trans hd
      have hbg := run_beginRound (P := Try.prog) hl2 rfl
      refine ⟨_, hbg, ?_⟩
      obtain ⟨hl3, hd3⟩ := turn Wa .ready .busy none none hl2 hd2
      have hs3 : w.heap.size + 2 ≤ (Wa.putObj (w.heap.size + 1) (.loop (LpR fn a.tmps ps assign body w.heap.size .busy none))).heap.size := by have := (Array.getElem?_eq_some_iff.1 hl3).1; omega
      have hk3 : KL W.heap.size ((w.heap.size + 1) :: S) W (Wa.putObj (w.heap.size + 1) (.loop (LpR fn a.tmps ps assign body w.heap.size .busy none))) := (hka.more (by simp; exact fun i hi => .inr hi)).trans (KL.put (by simp) _)
      refine wpIn_mono (hbody k a' _ (hI.putObj _ hia (by omega) hl2 rfl) ((hAx k a').putObj (s := ()) _ hax (by omega) hl2 rfl) hlen hs3) ?_
      rintro e a3 W3 ⟨hkb, hp⟩
      have hl4 := (hkb.same _ (Nat.lt_of_lt_of_le (show w.heap.size + 1 < w.heap.size + 2 by omega) hs3) hlS).trans hl3
      have hd4 := (hkb.same _ (Nat.lt_of_lt_of_le (show w.heap.size < w.heap.size + 2 by omega) hs3) hdS).trans hd3
      have hk4 : KL W.heap.size ((w.heap.size + 1) :: S) W W3 := hk3.trans ((hkb.more (by simp; exact fun i hi => .inr hi)).low hk3.size)
      rcases hp with ⟨rfl, hi3⟩ | ⟨rfl, hi3⟩
      · have he := run_endRound (P := Try.prog) none hl4
        obtain ⟨h5, h6⟩ := turn W3 .busy .ready none none hl4 hd4
        refine ⟨_, _, he, hk4.trans (KL.put (by simp) _), .inl ⟨rfl, ?_⟩⟩
        exact ⟨hI.putObj _ hi3 (by omega) hl4 rfl, h5, h6⟩
      · have he := run_endRound (P := Try.prog) (some (outC jump)) hl4
        refine roundPost_out jump _ _ _ _ ⟨_, _, he, ?_⟩
        obtain ⟨h5, h6⟩ := turn W3 .busy .done none (some (outC jump)) hl4 hd4
        refine ⟨hk4.trans (KL.put (by simp) _), .inr ⟨rfl, ?_⟩⟩
        exact ⟨hIx.putObj _ hi3 (by omega) hl4 rfl, h5, h6⟩
    · rintro e W2 ⟨⟨v, rfl⟩, ⟨hi, hl, hd⟩ | ⟨k, hk, hi, hl, hd⟩⟩
      · exact ⟨none, _, run_endLoop (P := Try.prog) hl (by simp), hdone _ (hI.putObj _ hi (by omega) hl rfl) ((World.putObj_heap_other (by omega)).trans hd)⟩
      · exact ⟨some (outC jump), _, run_endLoop (P := Try.prog) hl (by simp), wpIn_out jump (hstop k _ hk (hIx.putObj _ hi (by omega) hl rfl) ((World.putObj_heap_other (by omega)).trans hd))⟩


end Go.Proofs.Ytkoenconjldojaa
namespace Go.Proofs.Ytkoenconjldojaa
open Go.RowKit Go.Shelf
set_option linter.unusedVariables false
set_option linter.unusedSimpArgs false
set_option maxRecDepth 100000
attribute [local go_sem 10000] gtU_rule leU_rule ltU_rule geU_rule adU_rule sbU_rule mxU_rule mnU_rule mnI_rule
attribute [local go_sem ↓] load_at_rule store_at_rule load_la_rule store_la_rule load_bs_rule store_bs_rule load_vw_rule store_vw_rule load_jo_rule store_jo_rule load_ms_rule store_ms_rule load_ch_rule store_ch_rule load_hd_rule store_hd_rule load_rb_rule store_rb_rule load_en_rule store_en_rule
attribute [local go_sem ↓] build_hd_rule build_rb_rule build_en_rule build_at_rule build_jo_rule upbuild_rule upapp_rule robuild_rule roapp_rule enbuild_rule enapp_rule build_vw_rule eq_at_rule eq_la_rule
attribute [local go_sem] Oper.semAt_some

/-- What lay in w lies in W as it lay. -/
structure Low (w W : World) : Prop where
  size : w.heap.size ≤ W.heap.size
  same : ∀ k, k < w.heap.size → W.heap[k]? = w.heap[k]?
theorem Low.of {w W : World} (h : Below w.heap.size w W) : Low w W := ⟨h.size, fun k hk => h.block k hk⟩
theorem Low.trans {a b c : World} (h : Low a b) (k : Below b.heap.size b c) : Low a c := ⟨Nat.le_trans h.size k.size, fun i hi => (k.block i (Nat.lt_of_lt_of_le hi h.size)).trans (h.same i hi)⟩
theorem Low.kl {a b c : World} {B : Nat} {S : List Nat} (h : Low a b) (k : KL B S b c) (hB : a.heap.size ≤ B) (hS : ∀ s ∈ S, a.heap.size ≤ s) : Low a c :=
  ⟨Nat.le_trans h.size k.size, fun i hi => (k.same i (by omega) (fun hm => by have := hS i hm; omega)).trans (h.same i hi)⟩
theorem UpIn.low {w W : World} {B : Nat} {a : Option Addr} {n c : Nat} {R : List Up} (h : UpIn w B a n c R) (k : Low w W) : UpIn W B a n c R := by
  obtain ⟨h1, h2, h3⟩ := h
  refine ⟨h1, ?_, h3⟩
  rcases h2 with rfl | ⟨g, o, e, hr⟩
  · exact .inl rfl
  · exact .inr ⟨g, o, e, Nat.lt_of_lt_of_le hr.lt k.size, fun i hi j hj => (World.cell?_of_block (k.same g hr.lt)).trans (hr.row i hi j hj)⟩
theorem EnIn.low {w W : World} {B : Nat} {a : Option Addr} {n c : Nat} {R : List En} (h : EnIn w B a n c R) (k : Low w W) : EnIn W B a n c R := by
  obtain ⟨h1, h2, h3, h4, h5, h6, h7⟩ := h
  refine ⟨h1, ?_, h3, h4, h5, h6, fun x hx => (h7 x hx).low k⟩
  rcases h2 with rfl | ⟨g, o, e, hr⟩
  · exact .inl rfl
  · exact .inr ⟨g, o, e, Nat.lt_of_lt_of_le hr.lt k.size, fun i hi j hj => (World.cell?_of_block (k.same g hr.lt)).trans (hr.row i hi j hj)⟩
theorem OwnFrom.low14 {β : Type} {B : Nat} {I : β → World → Prop} (h : OwnFrom B I) {s : β} {W W' : World} (hs : I s W) (k : Below W.heap.size W W') : I s W' :=
  h s W W' none hs ⟨k.os, k.tape, k.output, k.size, fun i hi _ => k.block i hi⟩ (fun r e => by cases e)
/-- Does the view have the offered entry of this number at its index? -/
noncomputable def there (v : Vw) (m : Ms) (q : Nat) : Bool := decide (m.pi + q + 1 ≤ v.z ∧ con (eng v.L (m.pi + q - v.b.i)) = con (eng m.L q))
noncomputable def encA (v : Vw) (m : Ms) (k : Nat) : Array Value := #[.int .u64 ((m.pi + (v.b.i - m.pi + k) + 1 : Nat) : Int), .bool (there v m (v.b.i - m.pi + k))]
set_option maxRecDepth 100000 in
set_option maxHeartbeats 1600000 in
theorem along_any (v : Vw) (m : Ms) (w : World) : Calls Try.prog 62 #[.agg v.cs, .agg m.cs] w fun e w' =>
    e = .returned (.func (.func 63) #[] #[.pointer (some ⟨w.heap.size, 0, none⟩), .pointer (some ⟨w.heap.size + 1, 0, none⟩)]) ∧ w' = (w.alloc (.cells v.cs 36)).alloc (.cells m.cs 47) := by
  have hmf : ∀ (fn : Fn) (first cap : Array Value) (w : World), (Instr.makeFunc fn first cap).run Try.prog w = .ok (.func fn first cap) w := fun _ _ _ _ => rfl
  go_enter Try.func62, Try.ntmps62
  go_wp2
  go_ret
  exact ⟨rfl, rfl⟩

set_option maxHeartbeats 4000000 in
theorem along_tells {w0 w : World} {v : Vw} {m : Ms} {bv bm : Nat} {S : List Nat} (hv : v.ok = true) (hmi : m.pi ≤ 4611686018427387904) (hmn : m.n ≤ 8) (hL : EnIn w0 0 v.a v.n v.c v.L) (hM : EnIn w0 0 m.a m.n m.c m.L)
    (hS : ∀ s ∈ S, w0.heap.size ≤ s) (hS2 : ∀ s ∈ S, s < w.heap.size) (hlow : Low w0 w) (hb : Blk w bv 36 v.cs) (hbS : bv ∉ S) (hb2 : Blk w bm 47 m.cs) (hbS2 : bm ∉ S) :
    TellsC 63 #[.pointer (some ⟨bv, 0, none⟩), .pointer (some ⟨bm, 0, none⟩)] S (m.n - (v.b.i - m.pi)) (encA v m) w := by
  intro lo J Jx W hWk hlw hlo hJ hJx hY h0
  have n4 : bv < lo := by have := hb.lt; omega
  have n5 : bm < lo := by have := hb2.lt; omega
  replace hb := hWk.blk hb hbS hb.lt
  replace hb2 := hWk.blk hb2 hbS2 hb2.lt
  have hlW : Low w0 W := hlow.kl hWk hlow.size hS
  have hzz := Vw.ok_of hv
  have HEND := end_any v W (by omega)
  have LV := ld_vw hb
  have H := Lib.hid (And.intro hY (And.intro hJ (And.intro hJx (And.intro hL hM))))
  have HB := Lib.hid (And.intro hb (And.intro hb2 hlW))
  have HS := Lib.hid (And.intro hS (And.intro hS2 (And.intro hlw (And.intro hbS hbS2))))
  have H0 := Lib.hid h0
  have hml := hM.1
  have hmc := hM.2.2.1
  have hn0 : w0.heap.size ≤ w.heap.size := hlow.size
  have HN := Lib.hid (And.intro hn0 (And.intro hmi hmc))
  clear hWk hb hb2 hY hJ hJx hL hM hS hS2 hlow hlW h0 hlw hbS hbS2 hmc hn0 hmi
  refine callsIn_of_wp Try.func63 rfl trivial ?_ rfl
  simp only [Try.ntmps63, List.size_toArray, List.length_cons, List.length_nil, Nat.reduceAdd, Nat.reduceSub, Array.replicate_succ, Array.replicate_zero, List.push_toArray, List.append_toArray, List.nil_append, List.cons_append]
  gi_wp2_with fail
  refine ⟨trivial, (callsIn_wide.2 HEND).mono ?_⟩
  rintro e W1 ⟨rfl, hb1⟩
  have m1 : W1.cell? ⟨bm, 6, none⟩ = some (.slice m.a m.n m.c) := (HB.out.2.1.later hb1).cell 6
  have H1 := Lib.hid hb1
  clear hb1 HEND
  gi_wp2_with fail
  gi_loopw [13] (fun i wr => ∃ q : Nat, q ≤ m.n ∧ i = .int .i64 (q : Int) ∧ J (q - (v.b.i - m.pi)) wr ∧ Low w0 wr ∧ Blk wr bv 36 v.cs ∧ Blk wr bm 47 m.cs ∧ W.heap.size ≤ wr.heap.size) (fun i _ => m.n - (intOf i).toNat)
  case atStart => exact ⟨0, Nat.zero_le _, rfl, (by rw [Nat.zero_sub]; exact OwnFrom.low14 H.out.2.1 H0.out H1.out), HB.out.2.2.trans H1.out, HB.out.1.later H1.out, HB.out.2.1.later H1.out, H1.out.size⟩
  case round =>
    obtain ⟨q, hq, rfl, hJq, hlr, hbv, hbm, hsz⟩ := hrel
    by_cases hlt : q < m.n
    · have hql : q < m.L.length := by omega
      obtain ⟨g, o, ha, hrow⟩ := (H.out.2.2.2.2.low hlr).2.1.spot hql
      rw [ha]
      have LE : (loadSem 92 (.pointer (some ⟨g, o + q * 4, none⟩))).run Try.prog wr = .ok (.agg (eng m.L q).cs) wr := hrow.load hql
      have LE2 : (loadSem 92 (.pointer (some ⟨g, o + q * 4, none⟩))).run Try.prog (wr.alloc (.cells En.zero.cs 92)) = .ok (.agg (eng m.L q).cs) (wr.alloc (.cells En.zero.cs 92)) := (hrow.later (below_alloc wr (.cells En.zero.cs 92))).load hql
      have hUx : UpIn wr 0 (eng m.L q).a (eng m.L q).n (eng m.L q).c (eng m.L q).U := (H.out.2.2.2.2.low hlr).2.2.2.2.2.2 _ (eng_mem hql)
      obtain ⟨x, hx⟩ : ∃ x, eng m.L q = x := ⟨_, rfl⟩
      rw [hx] at LE LE2 hUx
      have SE := st_en (q := x) (Blk.new wr 92 En.zero.cs)
      rw [World.setRow_alloc_new] at SE
      obtain ⟨Wx, hWx⟩ : ∃ Wx, wr.alloc (.cells x.cs 92) = Wx := ⟨_, rfl⟩
      rw [hWx] at SE
      have hbx : Below wr.heap.size wr Wx := by rw [← hWx]; exact below_alloc wr _
      have bx : Blk Wx wr.heap.size 92 x.cs := by rw [← hWx]; exact Blk.new wr _ _
      obtain ⟨s, hs⟩ : ∃ s, m.pi + q = s := ⟨_, rfl⟩
      obtain ⟨ix, hix⟩ : ∃ ix, s + 1 = ix := ⟨_, rfl⟩
      have d0 : adU (m.pi : Int) (q : Int) = (s : Int) := by rw [← hs]; exact adU_nat (by have := HN.out.2.1; omega)
      have d1 : adU (s : Int) 1 = (ix : Int) := by rw [← hix]; exact adU_nat (a := s) (b := 1) (by have := HN.out.2.1; omega)
      have d2 : IntKind.u64.wrap (q : Int) = (q : Int) := by rw [IntKind.wrap_u64]; omega
      have d3 := leU_nat ix v.b.i
      have k0 : Wx.cell? ⟨bm, 4, none⟩ = some (.int .u64 (m.pi : Int)) := (hbm.later hbx).cell 4
      have k1 : Wx.cell? ⟨bv, 1, none⟩ = some (.int .u64 (v.b.i : Int)) := (hbv.later hbx).cell 1
      by_cases hsk : ix ≤ v.b.i
      · rw [decide_eq_true hsk] at d3
        have hJ2 : J (q + 1 - (v.b.i - m.pi)) Wx := by
          rw [show q + 1 - (v.b.i - m.pi) = q - (v.b.i - m.pi) by omega]
          exact OwnFrom.low14 H.out.2.1 hJq hbx
        have HX := Lib.hid (And.intro hJ2 (And.intro (hlr.trans hbx) (And.intro (hbv.later hbx) (And.intro (hbm.later hbx) (Nat.le_trans hsz hbx.size)))))
        have hmcc := HN.out.2.2
        clear hJ2 hJq hlr hbv hbm hsz hbx bx hUx hrow hx ha hsk hql hs hix
        gi_wp2_with (with_reducible refine wpListIn_alloc_z rfl 92 rfl En.zero.cs 4 z_en ?_)
        refine ⟨⟨q + 1, by omega, by go_num, HX.out⟩, ?_⟩
        (simp [intOf]; try omega)
      · rw [decide_eq_false hsk] at d3
        have hskk : v.b.i ≤ s := by omega
        obtain ⟨k, hk⟩ : ∃ k, q - (v.b.i - m.pi) = k := ⟨_, rfl⟩
        have hqk : v.b.i - m.pi + k = q := by omega
        have hkN : k < m.n - (v.b.i - m.pi) := by omega
        rw [hk] at hJq
        have hYk : ∀ W9, J k W9 → YieldAt Fence.wide 8 Try.prog lo #[.int .u64 (ix : Int), .bool (there v m q)] W9 fun e W' => KL W9.heap.size (lo :: S) W9 W' ∧ ((e = .returned (.bool true) ∧ J (k + 1) W') ∨ (e = .returned (.bool false) ∧ Jx k W')) := fun W9 hj => by
          have h9 := H.out.1 k W9 hkN hj
          unfold encA at h9
          rw [hqk, hs, hix] at h9
          exact h9
        have d4 := leU_nat ix v.z
        have d5 : sbU (ix : Int) 1 = (s : Int) := by rw [show s = ix - 1 by omega]; exact sbU_nat (a := ix) (b := 1) (by omega) (by have := HN.out.2.1; omega)
        obtain ⟨T, hT⟩ : ∃ T : World → Prop, T = fun w' => Blk w' bv 36 v.cs ∧ Blk w' bm 47 m.cs ∧ Blk w' wr.heap.size 92 x.cs ∧ Low w0 w' ∧ wr.heap.size ≤ w'.heap.size := ⟨_, rfl⟩
        have hT0 : T Wx := by rw [hT]; exact ⟨hbv.later hbx, hbm.later hbx, bx, hlr.trans hbx, hbx.size⟩
        have hTd : ∀ w n, T w → T (w.drewN n) := by rw [hT]; exact fun w n h => ⟨h.1, h.2.1, h.2.2.1, ⟨h.2.2.2.1.size, h.2.2.2.1.same⟩, h.2.2.2.2⟩
        have hTb : ∀ w w', T w → Below w.heap.size w w' → T w' := by rw [hT]; exact fun w w' h k => ⟨h.1.later k, h.2.1.later k, h.2.2.1.later k, h.2.2.2.1.trans k, Nat.le_trans h.2.2.2.2 k.size⟩
        have hTy : ∀ w w', T w → KL w.heap.size (lo :: S) w w' → T w' := by
          rw [hT]
          intro w9 w' h k9
          have s1 := HS.out.1
          have s2 := HS.out.2.1
          have s3 := HS.out.2.2.1
          have s0 := HN.out.1
          refine ⟨k9.blk h.1 (by simp only [List.mem_cons, not_or]; exact ⟨by omega, HS.out.2.2.2.1⟩) h.1.lt, k9.blk h.2.1 (by simp only [List.mem_cons, not_or]; exact ⟨by omega, HS.out.2.2.2.2⟩) h.2.1.lt, k9.blk h.2.2.1 (by
            simp only [List.mem_cons, not_or]
            exact ⟨by omega, fun hm => by have := s2 _ hm; omega⟩) h.2.2.1.lt, h.2.2.2.1.kl k9 h.2.2.2.1.size (fun s hs => by
            rcases List.mem_cons.1 hs with rfl | hs
            · omega
            · exact s1 s hs), Nat.le_trans h.2.2.2.2 k9.size⟩
        have hTf : ∀ w', T w' → (loadSem 36 (.pointer (some ⟨bv, 0, none⟩))).run Try.prog w' = .ok (.agg v.cs) w' ∧ (loadSem 92 (.pointer (some ⟨wr.heap.size, 0, none⟩))).run Try.prog w' = .ok (.agg x.cs) w' ∧ Low w0 w' := by
          rw [hT]
          exact fun w' h => ⟨ld_vw h.1, en_r h.2.2.1 w' (Below.refl _ _), h.2.2.2.1⟩
        have hTn : ∀ w', T w' → Blk w' bv 36 v.cs ∧ Blk w' bm 47 m.cs ∧ wr.heap.size ≤ w'.heap.size := by rw [hT]; exact fun w' h => ⟨h.1, h.2.1, h.2.2.2.2⟩
        have hmcc := HN.out.2.2
        have hJX : ∀ w', Below wr.heap.size wr w' → J k w' := fun w' h => OwnFrom.low14 H.out.2.1 hJq h
        have HX := Lib.hid (And.intro hT0 (And.intro hTd (And.intro hTb (And.intro hTy (And.intro hTf (And.intro hTn (And.intro hJX (And.intro hYk (And.intro hbx hUx)))))))))
        have HK := Lib.hid (And.intro hk (And.intro hkN (And.intro hskk (And.intro hsz (And.intro hx (And.intro hs hix))))))
        have HLr := Lib.hid (And.intro hlr hrow)
        clear hT0 hTd hTb hTy hTn hJX hYk hbx hUx hk hkN hskk hsz hx hT hlr hrow hbv hbm bx hJq hqk hsk hql ha hs hix
        by_cases hz : ix ≤ v.z
        · -- the view has the index
          obtain ⟨k0, hk0⟩ : ∃ k0, s - v.b.i = k0 := ⟨_, rfl⟩
          have hk0n : k0 < v.n := by have := HK.out.2.2.1; have := HK.out.2.2.2.2.2.2; unfold Vw.z at hz; omega
          have hk0l : k0 < v.L.length := by have := H.out.2.2.2.1.1; omega
          have hth : there v m q = decide (con (eng v.L k0) = con x) := by
            unfold there
            rw [decide_eq_decide, HK.out.2.2.2.2.2.1, HK.out.2.2.2.2.2.2, HK.out.2.2.2.2.1, hk0]
            exact ⟨fun h => h.2, fun h => ⟨hz, h⟩⟩
          rw [decide_eq_true hz] at d4
          have hbe : ∀ w9, Low w0 w9 → Calls Try.prog 37 #[.agg v.cs, .int .u64 (s : Int)] w9 fun e w' => e = .returned (.slice (if v.c = k0 then v.a else v.a.map (fun p => p.add (k0 * 4))) (v.n - k0) (v.c - k0)) ∧ Below w9.heap.size w9 w' := fun w9 h9 => by
            have h8 := behind_any v s w9 (H.out.2.2.2.1.low h9) HK.out.2.2.1 (by have := HK.out.2.2.2.2.2.2; omega) (by have := HK.out.2.2.2.2.2.1; have := HN.out.2.1; omega)
            rwa [hk0] at h8
          obtain ⟨g2, o2, ha2, hrow2⟩ := H.out.2.2.2.1.2.1.spot hk0l
          have hcn : ¬ v.c = k0 := by have := H.out.2.2.2.1.2.2.1; omega
          rw [if_neg hcn, ha2] at hbe
          simp only [Option.map_some, Addr.add_lit] at hbe
          have hUy : UpIn w0 0 (eng v.L k0).a (eng v.L k0).n (eng v.L k0).c (eng v.L k0).U := H.out.2.2.2.1.2.2.2.2.2.2 _ (eng_mem hk0l)
          have hld : ∀ w9, Low w0 w9 → (loadSem 92 (.pointer (some ⟨g2, o2 + k0 * 4, none⟩))).run Try.prog w9 = .ok (.agg (eng v.L k0).cs) w9 := fun w9 h9 => by
            have hr9 : Ens w9 g2 o2 v.L := ⟨Nat.lt_of_lt_of_le hrow2.lt h9.size, fun i hi j hj => (World.cell?_of_block (h9.same g2 hrow2.lt)).trans (hrow2.row i hi j hj)⟩
            exact hr9.load hk0l
          obtain ⟨y, hy0⟩ : ∃ y, eng v.L k0 = y := ⟨_, rfl⟩
          rw [hy0] at hth hUy hld
          have hnn : 0 < v.n - k0 := by omega
          have hnc : v.n - k0 ≤ v.c - k0 := by have := H.out.2.2.2.1.2.2.1; omega
          obtain ⟨nn, hnne⟩ : ∃ nn, v.n - k0 = nn := ⟨_, rfl⟩
          obtain ⟨nc, hnce⟩ : ∃ nc, v.c - k0 = nc := ⟨_, rfl⟩
          rw [hnne, hnce] at hbe hnc
          rw [hnne] at hnn
          have HUY := Lib.hid (And.intro hUy hth)
          clear hz hk0 hk0n hk0l hth hcn ha2 hrow2 hUy hy0 hnne hnce
          gi_wp2_with (with_reducible refine wpListIn_alloc_z rfl 92 rfl En.zero.cs 4 z_en ?_)
          refine wp_region_linJ T [9, 13, 15] [0, 1, 2, 3, 4, 5, 6, 7, 8, 12, 9, 10, 11, 13, 14, 15, 16] (by kernel_rfl) (by kernel_rfl) (by kernel_rfl) HX.out.2.1 (HX.out.2.1 _ 1 HX.out.1) ?_
          (repeat (first | (refine linJ_off rfl rfl (by rfl) ?_; (try simp only [Act.put, List.getElem_toArray, List.getElem_cons_zero, List.getElem_cons_succ, List.setIfInBounds_toArray, List.set_cons_zero, List.set_cons_succ])) | (refine linJ_op (v := ?_) rfl rfl (by rfl) (fun w9 hS9 => ?_) ?_; rotate_left; (focus (((try dsimp only at hS9); obtain ⟨z1, z2, z3⟩ := hTf w9 hS9; go_simp; (try go_bits)) <;> with_reducible rfl)); (try simp only [Act.put, List.getElem_toArray, List.getElem_cons_zero, List.getElem_cons_succ, List.setIfInBounds_toArray, List.set_cons_zero, List.set_cons_succ]))))
          refine linJ_call (f := 37) (args := #[.agg v.cs, .int .u64 (s : Int)]) rfl rfl (by rfl) rfl rfl (enters_of Try.func37 (by kernel_rfl) rfl) (by simp [Act.eval]) (fun n1 => ?_)
          have hT1 : T (Wx.drew.drewN n1) := HX.out.2.1 _ n1 (HX.out.2.1 _ 1 HX.out.1)
          refine (hbe _ (hTf _ hT1).2.2).mono ?_
          rintro e W2 ⟨rfl, hb2⟩
          have hT2 := HX.out.2.2.1 _ _ hT1 hb2
          have hb02 : Below wr.heap.size wr W2 := by
            have h9 := HX.out.2.2.2.2.2.2.2.2.1
            exact (show Below wr.heap.size wr (Wx.drew.drewN n1) from ⟨h9.os, h9.tape, h9.output, h9.size, h9.block⟩).trans (hb2.mono h9.size)
          refine ⟨_, rfl, hT2, ?_⟩
          (try simp only [Act.put, List.getElem_toArray, List.getElem_cons_zero, List.getElem_cons_succ, List.setIfInBounds_toArray, List.set_cons_zero, List.set_cons_succ])
          (repeat (first | (refine linJ_off rfl rfl (by rfl) ?_; (try simp only [Act.put, List.getElem_toArray, List.getElem_cons_zero, List.getElem_cons_succ, List.setIfInBounds_toArray, List.set_cons_zero, List.set_cons_succ])) | (refine linJ_op (v := ?_) rfl rfl (by rfl) (fun w9 hS9 => ?_) ?_; rotate_left; (focus (((try dsimp only at hS9); obtain ⟨z1, z2, z3⟩ := hTf w9 hS9; have z4 := hld w9 z3; go_simp; (try go_bits)) <;> with_reducible rfl)); (try simp only [Act.put, List.getElem_toArray, List.getElem_cons_zero, List.getElem_cons_succ, List.setIfInBounds_toArray, List.set_cons_zero, List.set_cons_succ]))))
          refine linJ_call (f := 64) (args := #[.agg y.cs, .agg x.cs]) rfl rfl (by rfl) rfl rfl (enters_of Try.func64 (by kernel_rfl) rfl) (by simp [Act.eval]) (fun n2 => ?_)
          have hT3 : T (W2.drewN n2) := HX.out.2.1 _ n2 hT2
          have hl3 := (hTf _ hT3).2.2
          have hb03 : Below wr.heap.size wr (W2.drewN n2) := ⟨hb02.os, hb02.tape, hb02.output, hb02.size, hb02.block⟩
          refine (ssame_any y x _ (HUY.out.1.low hl3) (HX.out.2.2.2.2.2.2.2.2.2.later hb03)).mono ?_
          rintro e W3 ⟨rfl, hb3⟩
          have hT33 := HX.out.2.2.1 _ _ hT3 hb3
          have hb33 : Below wr.heap.size wr W3 := hb03.trans (hb3.mono hb02.size)
          refine ⟨_, rfl, hT33, ?_⟩
          (try simp only [Act.put, List.getElem_toArray, List.getElem_cons_zero, List.getElem_cons_succ, List.setIfInBounds_toArray, List.set_cons_zero, List.set_cons_succ])
          rw [← HUY.out.2]
          obtain ⟨th, hth⟩ : ∃ th, there v m q = th := ⟨_, rfl⟩
          rw [hth]
          (repeat (first | (refine linJ_off rfl rfl (by rfl) ?_; (try simp only [Act.put, List.getElem_toArray, List.getElem_cons_zero, List.getElem_cons_succ, List.setIfInBounds_toArray, List.set_cons_zero, List.set_cons_succ])) | (refine linJ_op (v := ?_) rfl rfl (by rfl) (fun w9 hS9 => ?_) ?_; rotate_left; (focus (((try dsimp only at hS9); obtain ⟨z1, z2, z3⟩ := hTf w9 hS9; have z4 := hld w9 z3; go_simp; (try go_bits)) <;> with_reducible rfl)); (try simp only [Act.put, List.getElem_toArray, List.getElem_cons_zero, List.getElem_cons_succ, List.setIfInBounds_toArray, List.set_cons_zero, List.set_cons_succ]))))
          refine linJ_yield (l' := lo) rfl rfl (by rfl) (fun n => ?_)
          have hb9 : Below wr.heap.size wr (W3.drewN n) := ⟨hb33.os, hb33.tape, hb33.output, hb33.size, hb33.block⟩
          obtain ⟨fn, tmps, assign, body, hy, hR⟩ := HX.out.2.2.2.2.2.2.2.1 _ (HX.out.2.2.2.2.2.2.1 _ hb9)
          rw [hth] at hy
          have hT9 : T (W3.drewN n) := HX.out.2.1 _ n hT33
          generalize hV : W3.drewN n = V at *
          have HV := Lib.hid hV
          clear hV hb9 hb33 hb03 hb02 hb3 hb2 hT33 hT3 hT2 hT1 hth hl3 hbe hld
          refine ⟨fn, tmps, assign, body, V, ?_, ?_⟩
          · go_simp
          refine RoundIn.mono (RoundIn.deeperJ hR) ?_
          rintro e W4 ⟨hk4, he4⟩
          have hT4 := HX.out.2.2.2.1 V W4 hT9 hk4
          obtain ⟨t1, t2, t3⟩ := HX.out.2.2.2.2.2.1 W4 hT4
          obtain ⟨_, _, t4⟩ := hTf W4 hT4
          have HG := Lib.hid (And.intro t1 (And.intro t2 (And.intro t3 t4)))
          clear hk4 hR hy t1 t2 t3 t4
          rcases he4 with ⟨rfl, hJ4⟩ | ⟨rfl, hJ4⟩
          · refine ⟨_, rfl, hT4, ?_⟩
            (try simp only [Act.put, List.getElem_toArray, List.getElem_cons_zero, List.getElem_cons_succ, List.setIfInBounds_toArray, List.set_cons_zero, List.set_cons_succ])
            (repeat (first | (refine linJ_off rfl rfl (by rfl) ?_; (try simp only [Act.put, List.getElem_toArray, List.getElem_cons_zero, List.getElem_cons_succ, List.setIfInBounds_toArray, List.set_cons_zero, List.set_cons_succ])) | (refine linJ_op (v := ?_) rfl rfl (by rfl) (fun w9 hS9 => ?_) ?_; rotate_left; (focus (((try dsimp only at hS9); obtain ⟨z1, z2, z3⟩ := hTf w9 hS9; go_simp; (try go_bits)) <;> with_reducible rfl)); (try simp only [Act.put, List.getElem_toArray, List.getElem_cons_zero, List.getElem_cons_succ, List.setIfInBounds_toArray, List.set_cons_zero, List.set_cons_succ]))))
            refine linJ_nil (fun n2 => ?_)
            have HJ4 := Lib.hid (OwnFrom.low14 H.out.2.1 hJ4 (show Below W4.heap.size W4 (W4.drewN n2) from ⟨rfl, rfl, rfl, Nat.le_refl _, fun _ _ => rfl⟩))
            clear hJ4
            gi_wp2
            refine ⟨⟨q + 1, by omega, by go_num, ?_, ?_⟩, ?_⟩
            · rw [show q + 1 - (v.b.i - m.pi) = k + 1 by have := HK.out; omega]
              exact HJ4.out
            · exact ⟨⟨HG.out.2.2.2.size, HG.out.2.2.2.same⟩, HG.out.1, HG.out.2.1, Nat.le_trans HK.out.2.2.2.1 HG.out.2.2.1⟩
            · (simp [intOf]; try omega)
          · refine ⟨_, rfl, hT4, ?_⟩
            (try simp only [Act.put, List.getElem_toArray, List.getElem_cons_zero, List.getElem_cons_succ, List.setIfInBounds_toArray, List.set_cons_zero, List.set_cons_succ])
            (repeat (first | (refine linJ_off rfl rfl (by rfl) ?_; (try simp only [Act.put, List.getElem_toArray, List.getElem_cons_zero, List.getElem_cons_succ, List.setIfInBounds_toArray, List.set_cons_zero, List.set_cons_succ])) | (refine linJ_op (v := ?_) rfl rfl (by rfl) (fun w9 hS9 => ?_) ?_; rotate_left; (focus (((try dsimp only at hS9); obtain ⟨z1, z2, z3⟩ := hTf w9 hS9; go_simp; (try go_bits)) <;> with_reducible rfl)); (try simp only [Act.put, List.getElem_toArray, List.getElem_cons_zero, List.getElem_cons_succ, List.setIfInBounds_toArray, List.set_cons_zero, List.set_cons_succ]))))
            refine linJ_nil (fun n2 => ?_)
            have HJ4 := Lib.hid (OwnFrom.low14 H.out.2.2.1 hJ4 (show Below W4.heap.size W4 (W4.drewN n2) from ⟨rfl, rfl, rfl, Nat.le_refl _, fun _ _ => rfl⟩))
            clear hJ4
            gi_wp2
            refine bodyPost_ret (results_none rfl _ _ _) rfl ?_
            exact ⟨⟨_, rfl⟩, .inr ⟨k, HK.out.2.1, HJ4.out⟩⟩
        · -- the view has no such index
          have hth : there v m q = false := by
            unfold there
            rw [decide_eq_false_iff_not, HK.out.2.2.2.2.2.1, HK.out.2.2.2.2.2.2]
            exact fun h => hz h.1
          rw [decide_eq_false hz] at d4
          clear hz
          gi_wp2_with (with_reducible refine wpListIn_alloc_z rfl 92 rfl En.zero.cs 4 z_en ?_)
          refine wp_region_linJ T [15] [0, 1, 2, 3, 4, 5, 6, 7, 8, 9, 10, 11, 12, 13, 14, 15, 16] (by kernel_rfl) (by kernel_rfl) (by kernel_rfl) HX.out.2.1 (HX.out.2.1 _ 1 HX.out.1) ?_
          (repeat (first | (refine linJ_off rfl rfl (by rfl) ?_; (try simp only [Act.put, List.getElem_toArray, List.getElem_cons_zero, List.getElem_cons_succ, List.setIfInBounds_toArray, List.set_cons_zero, List.set_cons_succ])) | (refine linJ_op (v := ?_) rfl rfl (by rfl) (fun w9 hS9 => ?_) ?_; rotate_left; (focus (((try dsimp only at hS9); obtain ⟨z1, z2, z3⟩ := hTf w9 hS9; go_simp; (try go_bits)) <;> with_reducible rfl)); (try simp only [Act.put, List.getElem_toArray, List.getElem_cons_zero, List.getElem_cons_succ, List.setIfInBounds_toArray, List.set_cons_zero, List.set_cons_succ]))))
          refine linJ_yield (l' := lo) rfl rfl (by rfl) (fun n => ?_)
          have hb9 : Below wr.heap.size wr (Wx.drew.drewN n) := by
            have h9 := HX.out.2.2.2.2.2.2.2.2.1
            exact ⟨h9.os, h9.tape, h9.output, h9.size, h9.block⟩
          obtain ⟨fn, tmps, assign, body, hy, hR⟩ := HX.out.2.2.2.2.2.2.2.1 _ (HX.out.2.2.2.2.2.2.1 _ hb9)
          rw [hth] at hy
          have hT9 : T (Wx.drew.drewN n) := HX.out.2.1 _ n (HX.out.2.1 _ 1 HX.out.1)
          generalize hV : Wx.drew.drewN n = V at *
          have HV := Lib.hid hV
          clear hV hb9
          refine ⟨fn, tmps, assign, body, V, ?_, ?_⟩
          · go_simp
          refine RoundIn.mono (RoundIn.deeperJ hR) ?_
          rintro e W4 ⟨hk4, he4⟩
          have hT4 := HX.out.2.2.2.1 V W4 hT9 hk4
          obtain ⟨t1, t2, t3⟩ := HX.out.2.2.2.2.2.1 W4 hT4
          obtain ⟨_, _, t4⟩ := hTf W4 hT4
          have HG := Lib.hid (And.intro t1 (And.intro t2 (And.intro t3 t4)))
          clear hk4 hR hy t1 t2 t3 t4
          rcases he4 with ⟨rfl, hJ4⟩ | ⟨rfl, hJ4⟩
          · refine ⟨_, rfl, hT4, ?_⟩
            (try simp only [Act.put, List.getElem_toArray, List.getElem_cons_zero, List.getElem_cons_succ, List.setIfInBounds_toArray, List.set_cons_zero, List.set_cons_succ])
            (repeat (first | (refine linJ_off rfl rfl (by rfl) ?_; (try simp only [Act.put, List.getElem_toArray, List.getElem_cons_zero, List.getElem_cons_succ, List.setIfInBounds_toArray, List.set_cons_zero, List.set_cons_succ])) | (refine linJ_op (v := ?_) rfl rfl (by rfl) (fun w9 hS9 => ?_) ?_; rotate_left; (focus (((try dsimp only at hS9); obtain ⟨z1, z2, z3⟩ := hTf w9 hS9; go_simp; (try go_bits)) <;> with_reducible rfl)); (try simp only [Act.put, List.getElem_toArray, List.getElem_cons_zero, List.getElem_cons_succ, List.setIfInBounds_toArray, List.set_cons_zero, List.set_cons_succ]))))
            refine linJ_nil (fun n2 => ?_)
            have HJ4 := Lib.hid (OwnFrom.low14 H.out.2.1 hJ4 (show Below W4.heap.size W4 (W4.drewN n2) from ⟨rfl, rfl, rfl, Nat.le_refl _, fun _ _ => rfl⟩))
            clear hJ4
            gi_wp2
            refine ⟨⟨q + 1, by omega, by go_num, ?_, ?_⟩, ?_⟩
            · rw [show q + 1 - (v.b.i - m.pi) = k + 1 by have := HK.out; omega]
              exact HJ4.out
            · exact ⟨⟨HG.out.2.2.2.size, HG.out.2.2.2.same⟩, HG.out.1, HG.out.2.1, Nat.le_trans HK.out.2.2.2.1 HG.out.2.2.1⟩
            · (simp [intOf]; try omega)
          · refine ⟨_, rfl, hT4, ?_⟩
            (try simp only [Act.put, List.getElem_toArray, List.getElem_cons_zero, List.getElem_cons_succ, List.setIfInBounds_toArray, List.set_cons_zero, List.set_cons_succ])
            (repeat (first | (refine linJ_off rfl rfl (by rfl) ?_; (try simp only [Act.put, List.getElem_toArray, List.getElem_cons_zero, List.getElem_cons_succ, List.setIfInBounds_toArray, List.set_cons_zero, List.set_cons_succ])) | (refine linJ_op (v := ?_) rfl rfl (by rfl) (fun w9 hS9 => ?_) ?_; rotate_left; (focus (((try dsimp only at hS9); obtain ⟨z1, z2, z3⟩ := hTf w9 hS9; go_simp; (try go_bits)) <;> with_reducible rfl)); (try simp only [Act.put, List.getElem_toArray, List.getElem_cons_zero, List.getElem_cons_succ, List.setIfInBounds_toArray, List.set_cons_zero, List.set_cons_succ]))))
            refine linJ_nil (fun n2 => ?_)
            have HJ4 := Lib.hid (OwnFrom.low14 H.out.2.2.1 hJ4 (show Below W4.heap.size W4 (W4.drewN n2) from ⟨rfl, rfl, rfl, Nat.le_refl _, fun _ _ => rfl⟩))
            clear hJ4
            gi_wp2
            refine bodyPost_ret (results_none rfl _ _ _) rfl ?_
            exact ⟨⟨_, rfl⟩, .inr ⟨k, HK.out.2.1, HJ4.out⟩⟩
    · have hqn : q = m.n := by omega
      have i1 : ¬ ((q : Int) < (m.n : Int)) := by omega
      rw [hqn] at hJq
      have HJq := Lib.hid hJq
      clear hJq hlr hbv hbm hsz
      gi_wp2
      go_end0
      exact ⟨⟨_, rfl⟩, .inl HJq.out⟩

end Go.Proofs.Ytkoenconjldojaa
