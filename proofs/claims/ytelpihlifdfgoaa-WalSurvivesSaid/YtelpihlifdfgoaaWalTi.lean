/-
  The things that a log is to tell, with one more. Nothing here is a statement of the document.
-/
import Derived.Test.YtelpihlifdfgoaaWalTf
import Derived.Test.YtelpihlifdfgoaaWalU
namespace Go.Proofs.Ytelpihlifdfgoaa
open Go.RowKit Go.Shelf
set_option linter.unusedVariables false
/-- All that lies below B lies as it lay, but for these blocks. -/
structure KL (B : Nat) (S : List Nat) (W W' : World) : Prop where
  size : W.heap.size ≤ W'.heap.size
  same : ∀ k, k < B → k ∉ S → W'.heap[k]? = W.heap[k]?
theorem KL.refl (B : Nat) (S : List Nat) (W : World) : KL B S W W := ⟨Nat.le_refl _, fun _ _ _ => rfl⟩
theorem KL.trans {B : Nat} {S : List Nat} {a b c : World} (h : KL B S a b) (k : KL B S b c) : KL B S a c := ⟨Nat.le_trans h.size k.size, fun i hi hS => (k.same i hi hS).trans (h.same i hi hS)⟩
theorem KL.more {B : Nat} {S T : List Nat} {a b : World} (h : KL B S a b) (hT : ∀ i ∈ S, i ∈ T) : KL B T a b := ⟨h.size, fun i hi hS => h.same i hi (fun hm => hS (hT i hm))⟩
theorem KL.low {B B' : Nat} {S : List Nat} {a b : World} (h : KL B S a b) (hB : B' ≤ B) : KL B' S a b := ⟨h.size, fun i hi hS => h.same i (by omega) hS⟩
theorem KL.below {B B' : Nat} {S : List Nat} {a b : World} (h : Below B' a b) (hB : B ≤ B') : KL B S a b := ⟨h.size, fun i hi _ => h.block i (by omega)⟩
theorem KL.kept {B : Nat} {S : List Nat} {a b : World} (h : Kept S a b) (hB : B ≤ a.heap.size) : KL B S a b := ⟨h.size, fun i hi hS => h.block i (by omega) hS⟩
theorem KL.put {B : Nat} {S : List Nat} {W : World} {l : Nat} (hl : l ∈ S) (o' : Obj) : KL B S W (W.putObj l o') :=
  ⟨by simp [World.putObj], fun i _ hi => World.putObj_heap_other (fun e => hi (by rw [e]; exact hl))⟩
theorem KL.blk {B : Nat} {S : List Nat} {W W' : World} {g : Nat} {t : TypeId} {cs : Array Value} (h : KL B S W W') (b : Blk W g t cs) (hg : g ∉ S) (hB : g < B) : Blk W' g t cs := (h.same g hB hg).trans b

/-- Ranged over, this function yields so often, values of which so much holds; it reads nothing that lies in S, and nothing that lies above. -/
def TellsM (gf : FuncId) (lb : Array Value) (S : List Nat) (N : Nat) (En : Nat → Array Value → World → Prop) (w : World) : Prop :=
  ∀ (l : Nat) (J Jx : Nat → World → Prop) (W : World), KL w.heap.size S w W → w.heap.size ≤ l → l < W.heap.size → OwnFrom W.heap.size J → OwnFrom W.heap.size Jx →
    (∀ k x W1, k < N → J k W1 → En k x W1 → YieldAt Fence.wide 8 Try.prog l x W1 fun e W' =>
      KL (l + 1) (l :: S) W1 W' ∧ ((e = .returned (.bool true) ∧ J (k + 1) W') ∨ (e = .returned (.bool false) ∧ Jx k W'))) →
    J 0 W →
    CallsIn Fence.wide 9 Try.prog gf (#[.func (.yield l) #[] #[]] ++ lb) W fun e W' => (∃ v, e = .returned v) ∧ (J N W' ∨ ∃ k, k < N ∧ Jx k W')
/-- The record of such a range. -/
abbrev LpA (fn : FuncId) (tmps : Array Value) (ps : Array Tmp) (assign body : Code) (d : Nat) (s : LoopState) (j : Option Code) : Loop := { state := s, pending := j, fn, tmps := tmps, params := ps, assign, body, defers := d }
theorem own_roww {β : Type} (B n₀ : Nat) (e : TypeId) (size : Nat) (f : β → List Value) (k : β → Nat) (v : β → Value) : OwnFrom B (fun s W => W.ownsRow n₀ e size (v s) (k s) (f s)) := fun s X Y row hs hg hrow => by
  refine hs.kept hg ?_
  rcases hs.2 with ⟨h9, _⟩ | ⟨g, cap, cur, h9, _, hg', _⟩
  · exact .inl (by rw [h9]; rfl)
  · refine .inr (fun e2 => ?_)
    rw [h9] at e2
    obtain ⟨_, o, ho, hc⟩ := hrow g (by simpa [Value.ownBlock] using e2.symm)
    rw [hg'] at ho; cases ho; cases hc
theorem own_low {w w' : World} {B n m : Nat} {S : List Nat} {e : TypeId} {v : Value} {xs : List Value} (h : w.ownsRow B e 1 v n xs) (k : KL m S w w') (hS : ∀ i, v.ownBlock = some i → i < m ∧ i ∉ S) : w'.ownsRow B e 1 v n xs := by
  rcases h.2 with h9 | ⟨q, cap, cur, h1, h2, h3, h4⟩
  · exact ⟨h.1, .inl h9⟩
  · have h5 := hS q (by rw [h1]; rfl)
    exact ⟨h.1, .inr ⟨q, cap, cur, h1, h2, (k.same q h5.1 h5.2).trans h3, h4⟩⟩
theorem own_lt {w : World} {B m : Nat} {e : TypeId} {v : Value} {xs : List Value} (h : w.ownsRow B e 1 v m xs) : ∀ i, v.ownBlock = some i → i < w.heap.size := by
  intro i hi
  rcases h.2 with h9 | ⟨q, cap, cur, h1, h2, h3, h4⟩
  · rw [h9.1] at hi; cases hi
  · rw [h1] at hi
    obtain rfl : q = i := by simpa [Value.ownBlock] using hi
    exact (Array.getElem?_eq_some_iff.1 h3).1
set_option maxHeartbeats 1000000 in
/-- A range over such a row, at the outermost; the body goes on, or leaves by one jump. -/
theorem wp_range_made {g : Operand} {ps : Array Tmp} {assign body : Code} {Q : Exit → Act → World → Prop} {a : Act} {w : World} {gf : FuncId} {lb : Array Value} {S : List Nat} {N : Nat} {En : Nat → Array Value → World → Prop} (jump : Option Nat) (hps : ∀ k x W, En k x W → x.size = ps.size)
    (hg : a.eval g = .func (.func gf) #[] lb) (eg : ∀ args w, (callFunc gf args).run Try.prog w = .ok (.enter gf args) w) (hseq : TellsM gf lb S N En w) (hS : ∀ k ∈ S, k < w.heap.size)
    (I Ix : Nat → World → Prop) (hI : OwnFrom w.heap.size I) (hIx : OwnFrom w.heap.size Ix) (h0 : I 0 w)
    (Ax : Nat → Act → World → Prop) (hAx : ∀ x a', OwnFrom w.heap.size (fun (_ : Unit) W => Ax x a' W))
    (hassign : ∀ (k : Nat) (x : Array Value) (W : World) (K : Act → World → Prop), k < N → w.heap.size + 2 ≤ W.heap.size → I k W → En k x W → (∀ a' W', KL (w.heap.size + 2) S W W' → I k W' → Ax k a' W' → K a' W') →
      assign.wpIn (Fence.wide.inRound (w.heap.size + 1)) 8 Try.prog (Exit.then K (fun _ _ _ => False)) { tmps := (ps.zip x).foldl (fun tmps (t, a) => tmps.setIfInBounds t a) a.tmps, defers := [] } W)
    (hbody : ∀ (k : Nat) (a' : Act) (W : World), I k W → Ax k a' W → k < N → w.heap.size + 2 ≤ W.heap.size →
      body.wpIn (Fence.wide.inRound (w.heap.size + 1)) 8 Try.prog (fun e _ W' => KL (w.heap.size + 2) S W W' ∧ ((e = .normal ∧ I (k + 1) W') ∨ (e = outE jump ∧ Ix k W'))) a' W)
    (hdone : ∀ W, I N W → W.heap[w.heap.size]? = some (.deferred (some [])) → Q .normal { a with defers := { target := .collected w.heap.size, args := #[] } :: a.defers } W)
    (hstop : ∀ k W, k < N → Ix k W → W.heap[w.heap.size]? = some (.deferred (some [])) → Q (outE jump) { a with defers := { target := .collected w.heap.size, args := #[] } :: a.defers } W) :
    (Code.rangeFunc g ps assign body).wp Try.prog Q a w := by
  refine (wpIn_wide (n := 10)).1 (wpIn_rangeFunc fun fn _ => ?_)
  obtain ⟨Z, hZ⟩ : ∃ Z, (w.alloc (.deferred (some []))).alloc (.loop (LpA fn a.tmps ps assign body w.heap.size .ready none)) = Z := ⟨_, rfl⟩
  have hZs : Z.heap.size = w.heap.size + 2 := by rw [← hZ]; simp
  have hZl : Z.heap[w.heap.size + 1]? = some (.loop (LpA fn a.tmps ps assign body w.heap.size .ready none)) := by
    rw [← hZ]; have := World.alloc_heap_new (w.alloc (.deferred (some []))) (.loop (LpA fn a.tmps ps assign body w.heap.size .ready none)); rwa [World.size_alloc] at this
  have hZd : Z.heap[w.heap.size]? = some (.deferred (some [])) := by
    rw [← hZ]; exact (Below.heap_alloc _ _ _ (by simp)).trans (World.alloc_heap_new w _)
  have hZk : KL w.heap.size S w Z := by rw [← hZ]; exact KL.below (((Below.refl _ w).alloc (Nat.le_refl _) _).alloc (by simp) _) (Nat.le_refl _)
  have hZi : I 0 Z := by rw [← hZ]; exact hI.alloc _ (hI.alloc _ h0)
  have hdS : w.heap.size ∉ S := fun hm => by have := hS _ hm; omega
  have hlS : w.heap.size + 1 ∉ S := fun hm => by have := hS _ hm; omega
  -- a round's record, turned
  have turn : ∀ (W : World) (s s' : LoopState) (j j' : Option Code), W.heap[w.heap.size + 1]? = some (.loop (LpA fn a.tmps ps assign body w.heap.size s j)) → W.heap[w.heap.size]? = some (.deferred (some [])) →
      (W.putObj (w.heap.size + 1) (.loop (LpA fn a.tmps ps assign body w.heap.size s' j'))).heap[w.heap.size + 1]? = some (.loop (LpA fn a.tmps ps assign body w.heap.size s' j')) ∧ (W.putObj (w.heap.size + 1) (.loop (LpA fn a.tmps ps assign body w.heap.size s' j'))).heap[w.heap.size]? = some (.deferred (some [])) :=
    fun W s s' j j' h1 h2 => ⟨World.putObj_heap_same (Array.getElem?_eq_some_iff.1 h1).1, (World.putObj_heap_other (by omega)).trans h2⟩
  refine ⟨w.heap.size + 1, [{ target := .collected w.heap.size, args := #[] }], Z, { target := .fn (.func gf) lb, args := #[.func (.yield (w.heap.size + 1)) #[] #[]] }, Z, gf, #[.func (.yield (w.heap.size + 1)) #[] #[]] ++ lb, Z, ?_, ?_, fun _ _ => trivial, ?_, fun h => by simp [Fence.wide] at h, ?_⟩
  · rw [← hZ]; exact run_enterLoop_outer _ _ _ _ _
  · simp only [resolve, hg]
    simp [go_sem]
  · simp [invoke, go_sem, eg]
  · refine (hseq (w.heap.size + 1)
      (fun k W => I k W ∧ W.heap[w.heap.size + 1]? = some (.loop (LpA fn a.tmps ps assign body w.heap.size .ready none)) ∧ W.heap[w.heap.size]? = some (.deferred (some [])))
      (fun k W => Ix k W ∧ W.heap[w.heap.size + 1]? = some (.loop (LpA fn a.tmps ps assign body w.heap.size .done (some (outC jump)))) ∧ W.heap[w.heap.size]? = some (.deferred (some [])))
      Z hZk (by omega) (by omega) (OwnFrom.and (own_mono hI (by omega)) (OwnFrom.and (own_obj (by omega)) (own_obj (by omega)))) (OwnFrom.and (own_mono hIx (by omega)) (OwnFrom.and (own_obj (by omega)) (own_obj (by omega)))) ?_ ⟨hZi, hZl, hZd⟩).mono ?_
    · rintro k x W hlen ⟨hi, hl, hd⟩ hEn
      have hy := run_yield (P := Try.prog) (args := x) hl (hps k x W hEn)
      refine ⟨(LpA fn a.tmps ps assign body w.heap.size .ready none).fn, _, (LpA fn a.tmps ps assign body w.heap.size .ready none).assign, (LpA fn a.tmps ps assign body w.heap.size .ready none).body, hy, roundIn_of_wpIn trivial ?_⟩
      refine hassign k x W _ hlen (by have := (Array.getElem?_eq_some_iff.1 hl).1; omega) hi hEn fun a' Wa hka hia hax => ?_
      have hl2 := (hka.same _ (by omega) hlS).trans hl
      have hd2 := (hka.same _ (by omega) hdS).trans hd
      have hbg := run_beginRound (P := Try.prog) hl2 rfl
      refine ⟨_, hbg, ?_⟩
      obtain ⟨hl3, hd3⟩ := turn Wa .ready .busy none none hl2 hd2
      have hs3 : w.heap.size + 2 ≤ (Wa.putObj (w.heap.size + 1) (.loop (LpA fn a.tmps ps assign body w.heap.size .busy none))).heap.size := by have := (Array.getElem?_eq_some_iff.1 hl3).1; omega
      have hk3 : KL (w.heap.size + 2) ((w.heap.size + 1) :: S) W (Wa.putObj (w.heap.size + 1) (.loop (LpA fn a.tmps ps assign body w.heap.size .busy none))) := (hka.more (by simp; exact fun i hi => .inr hi)).trans (KL.put (by simp) _)
      refine wpIn_mono (hbody k a' _ (hI.putObj _ hia (by omega) hl2 rfl) ((hAx k a').putObj (s := ()) _ hax (by omega) hl2 rfl) hlen hs3) ?_
      rintro e a3 W3 ⟨hkb, hp⟩
      have hl4 := (hkb.same _ (by omega) hlS).trans hl3
      have hd4 := (hkb.same _ (by omega) hdS).trans hd3
      have hk4 : KL (w.heap.size + 2) ((w.heap.size + 1) :: S) W W3 := hk3.trans (hkb.more (by simp; exact fun i hi => .inr hi))
      rcases hp with ⟨rfl, hi3⟩ | ⟨rfl, hi3⟩
      · have he := run_endRound (P := Try.prog) none hl4
        obtain ⟨h5, h6⟩ := turn W3 .busy .ready none none hl4 hd4
        refine ⟨_, _, he, hk4.trans (KL.put (by simp) _), .inl ⟨rfl, ?_⟩⟩
        exact ⟨hI.putObj _ hi3 (by omega) hl4 rfl, h5, h6⟩
      · have he := run_endRound (P := Try.prog) (some (outC jump)) hl4
        refine roundPost_out jump _ _ _ _ ⟨_, _, he, ?_⟩
        obtain ⟨h5, h6⟩ := turn W3 .busy .done none (some (outC jump)) hl4 hd4
        refine ⟨hk4.trans (KL.put (by simp) _), .inr ⟨rfl, ?_⟩⟩
        exact ⟨hIx.putObj _ hi3 (by omega) hl4 rfl, h5, h6⟩
    · rintro e W2 ⟨⟨v, rfl⟩, ⟨hi, hl, hd⟩ | ⟨k, hk, hi, hl, hd⟩⟩
      · exact ⟨none, _, run_endLoop (P := Try.prog) hl (by simp), hdone _ (hI.putObj _ hi (by omega) hl rfl) ((World.putObj_heap_other (by omega)).trans hd)⟩
      · exact ⟨some (outC jump), _, run_endLoop (P := Try.prog) hl (by simp), wpIn_out jump (hstop k _ hk (hIx.putObj _ hi (by omega) hl rfl) ((World.putObj_heap_other (by omega)).trans hd))⟩


/-- What All tells: its number, and a clone of its bytes. -/
def AllE (B : Nat) (txs : List (List Nat)) (k : Nat) (x : Array Value) (W : World) : Prop := ∃ v, x = #[.int .i64 ((k : Int) + 1), v] ∧ W.ownsRow B 5 1 v (txs.getD k []).length ((txs.getD k []).map byc)
theorem txs_at {w : World} {B k : Nat} : ∀ {vs : List Value} {ls : List (List Nat)}, Txs w B vs ls → k < ls.length → ∃ v, vs[k]? = some v ∧ w.ownsRow B 5 1 v (ls.getD k []).length ((ls.getD k []).map byc) := by
  intro vs
  induction vs generalizing k with
  | nil => intro ls h hk; cases ls with
    | nil => simp at hk
    | cons => exact h.elim
  | cons v vs ih => intro ls h hk; cases ls with
    | nil => exact h.elim
    | cons l ls =>
      cases k with
      | zero => exact ⟨v, rfl, by simpa using h.1⟩
      | succ k =>
        obtain ⟨v', h1, h2⟩ := ih h.2 (by simpa using hk)
        exact ⟨v', by simpa using h1, by simpa using h2⟩
/-- Rows of bytes that lie where an iterator may read them. -/
structure AllAt (W : World) (tb B m : Nat) (tv : Value) (vs : List Value) (txs : List (List Nat)) : Prop where
  b : Blk W tb 30 #[tv]
  t : W.ownsRow B 29 1 tv m vs
  x : ∀ k, k < m → ∃ v, vs[k]? = some v ∧ W.ownsRow B 5 1 v (txs.getD k []).length ((txs.getD k []).map byc)
/-- None of it lies among these blocks, or above. -/
structure AllN (S : List Nat) (n tb m : Nat) (tv : Value) (vs : List Value) : Prop where
  b : tb < n ∧ tb ∉ S
  t : ∀ i, tv.ownBlock = some i → i < n ∧ i ∉ S
  x : ∀ (k : Nat) (v : Value), vs[k]? = some v → ∀ i, v.ownBlock = some i → i < n ∧ i ∉ S
theorem AllAt.kl {W W' : World} {tb B m n : Nat} {S : List Nat} {tv : Value} {vs : List Value} {txs : List (List Nat)} (h : AllAt W tb B m tv vs txs) (k : KL n S W W') (hN : AllN S n tb m tv vs) : AllAt W' tb B m tv vs txs :=
  ⟨k.blk h.b hN.b.2 hN.b.1, own_low h.t k hN.t, fun i hi => by
    obtain ⟨v, h1, h2⟩ := h.x i hi
    exact ⟨v, h1, own_low h2 k (hN.x i v h1)⟩⟩
theorem AllAt.later {W W' : World} {tb B m : Nat} {tv : Value} {vs : List Value} {txs : List (List Nat)} (h : AllAt W tb B m tv vs txs) (k : Below W.heap.size W W') : AllAt W' tb B m tv vs txs :=
  ⟨h.b.kept (Kept.of_below [] k) (by simp), owns_later2 h.t k, fun i hi => by
    obtain ⟨v, h1, h2⟩ := h.x i hi
    exact ⟨v, h1, owns_later2 h2 k⟩⟩
set_option maxRecDepth 100000 in
set_option maxHeartbeats 2000000 in
theorem all_tells {w : World} {S : List Nat} {tb B m : Nat} {tv : Value} {vs : List Value} {txs : List (List Nat)} (h : AllAt w tb B m tv vs txs) (hN : AllN S w.heap.size tb m tv vs) (hm : m ≤ 1000) (hx : ∀ k, (txs.getD k []).length ≤ 40000) :
    TellsM 61 #[.pointer (some ⟨tb, 0, none⟩)] S m (AllE w.heap.size txs) w := by
  intro lo J Jx W hW hlw hlo hJ hJx hY h0
  have hA := h.kl hW hN
  have hN2 : AllN (lo :: S) (lo + 1) tb m tv vs := ⟨⟨by have := hN.b.1; omega, by simp only [List.mem_cons, not_or]; exact ⟨by have := hN.b.1; omega, hN.b.2⟩⟩,
    fun i hi => by have := hN.t i hi; exact ⟨by omega, by simp only [List.mem_cons, not_or]; exact ⟨by omega, this.2⟩⟩,
    fun k v hk i hi => by have := hN.x k v hk i hi; exact ⟨by omega, by simp only [List.mem_cons, not_or]; exact ⟨by omega, this.2⟩⟩⟩
  have hws := hW.size
  obtain ⟨ta, tc, rfl⟩ := wown_slice hA.t
  have c1 : W.cell? ⟨tb, 0, none⟩ = some (.slice ta m tc) := hA.b.cell 0
  have HN := Lib.hid (And.intro hN2 (And.intro hws hx))
  clear h hN hW hlw hN2 hws hx
  refine callsIn_of_wp Try.func61 rfl trivial ?_ rfl
  simp only [Try.ntmps61, List.size_toArray, List.length_cons, List.length_nil, Nat.reduceAdd, Nat.reduceSub, Array.replicate_succ, Array.replicate_zero, List.push_toArray, List.append_toArray, List.nil_append, List.cons_append]
  gi_wp2
  gi_loopw [7] (fun i wr => ∃ k : Nat, k ≤ m ∧ i = .int .i64 k ∧ J k wr ∧ AllAt wr tb B m (.slice ta m tc) vs txs ∧ w.heap.size ≤ wr.heap.size) (fun i _ => m - (intOf i).toNat)
  case atStart => exact ⟨0, Nat.zero_le _, rfl, h0, hA, HN.out.2.1⟩
  case round =>
    obtain ⟨k, hk, rfl, hJs, hAk, hsz⟩ := hrel
    by_cases hlt : k < m
    · obtain ⟨v, hv, hvo⟩ := hAk.x k hlt
      obtain ⟨va, vc, hva, hvc, hvL, hvS⟩ := own_bytes_lies hvo rfl
      obtain ⟨q, hq⟩ : ∃ q, txs.getD k [] = q := ⟨_, rfl⟩
      rw [hq] at hvo hva hvc hvL
      obtain ⟨len, hlen⟩ : ∃ len, q.length = len := ⟨_, rfl⟩
      rw [hlen] at hva hvc hvo
      have hq4 := HN.out.2.2 k
      rw [hq, hlen] at hq4
      rcases hAk.t.2 with h9 | ⟨tg, cap, cur, h1, h2, h3, h4⟩
      · have : m = 0 := h9.2
        omega
      · have hta : ta = some ⟨tg, 0, none⟩ := by cases h1; rfl
        subst hta
        have cv : wr.cell? ⟨tg, k, none⟩ = some (.slice va len vc) := by
          have := hAk.t.cells (g := tg) rfl k v hv
          rw [Addr.add_lit, hva] at this
          simpa using this
        have hcl := cloneb_any va len vc q wr hvL hlen hq4 (fun h9 => by
          subst hva
          rcases hvo.2 with ⟨_, h0⟩ | ⟨g9, cap9, cur9, e1, _⟩
          · exact h0
          · cases e1; cases h9)
        have HK := Lib.hid (And.intro hAk (And.intro hJs (And.intro hsz (And.intro hq hlen))))
        clear hAk hJs hsz hq hlen hvo hva hvL hvS hv h1 h2 h3 h4
        gi_wp2_with fail
        refine ⟨trivial, (callsIn_wide.2 hcl).mono ?_⟩
        rintro e W2 ⟨v2, rfl, hown, hb2⟩
        obtain ⟨v2a, v2c, rfl⟩ := wown_slice hown
        obtain ⟨hAk, hJs, hsz, hq, hlen⟩ := HK.out
        have hJ2 := hJ k wr W2 none hJs (grown_of_below hb2) (fun r e => by cases e)
        have hEn : AllE w.heap.size txs k #[.int .i64 ((k : Int) + 1), .slice v2a len v2c] W2 := ⟨_, rfl, by rw [hq, hlen]; exact own_base hown hsz⟩
        obtain ⟨fn, tmps, assign, body, hy, hR⟩ := hY k _ W2 hlt hJ2 hEn
        have hA2 := hAk.later hb2
        have H2 := Lib.hid (And.intro hA2 (Nat.le_trans hsz hb2.size))
        clear hAk hJs hsz hq hlen hJ2 hEn hA2 hown hb2 hcl cv
        gi_wp2_with fail
        refine hR.mono ?_
        rintro e W3 ⟨hkb, ⟨rfl, hJ3⟩ | ⟨rfl, hJx3⟩⟩
        · have hA3 := H2.out.1.kl hkb HN.out.1
          have H3 := Lib.hid (And.intro hA3 (And.intro hJ3 (Nat.le_trans H2.out.2 hkb.size)))
          clear hA3 hJ3 hkb
          gi_wp2
          go_roundw
          case rel => exact ⟨k + 1, by omega, by go_num, H3.out.2.1, H3.out.1, H3.out.2.2⟩
          case measure => simp [intOf]; omega
        · have H3 := Lib.hid hJx3
          clear hJx3 hkb
          gi_wp2
          refine bodyPost_ret (results_none rfl _ _ _) rfl ?_
          exact ⟨⟨_, rfl⟩, .inr ⟨k, hlt, H3.out⟩⟩
    · obtain rfl : k = m := by omega
      have HK := Lib.hid hJs
      clear hJs hAk
      gi_wp2
      go_end0
      exact ⟨⟨_, rfl⟩, .inl HK.out⟩
end Go.Proofs.Ytelpihlifdfgoaa
namespace Go.Proofs.Ytelpihlifdfgoaa
open Go.RowKit Go.Shelf
set_option linter.unusedVariables false
set_option maxHeartbeats 1000000 in
theorem all_any {w : World} {g t u p n c m tc : Nat} {b : Bool} {sv : Value} {ta : Option Addr} (h : Blk w g 67 (lgcs t sv (.slice ta m tc) u p n c b)) : Calls Try.prog 43 #[.pointer (some ⟨g, 0, none⟩)] w fun e w' => e = .returned (.func (.func 61) #[] #[.pointer (some ⟨w.heap.size, 0, none⟩)]) ∧ Blk w' w.heap.size 30 #[.slice ta m tc] ∧ Below w.heap.size w w' ∧ w'.heap.size = w.heap.size + 1 := by
  have hmf : ∀ (fn : Fn) (first cap : Array Value) (w : World), (Instr.makeFunc fn first cap).run Try.prog w = .ok (.func fn first cap) w := fun _ _ _ _ => rfl
  obtain ⟨W1, hW1⟩ : ∃ W1, w.alloc (.cells #[.slice none 0 0] 30) = W1 := ⟨_, rfl⟩
  have b1 : Blk W1 w.heap.size 30 #[.slice none 0 0] := by rw [← hW1]; exact Blk.new _ _ _
  have hb1 : Below w.heap.size w W1 := by rw [← hW1]; exact (Below.refl _ _).alloc (Nat.le_refl _) _
  have c2 : W1.cell? ⟨g, 2, none⟩ = some (.slice ta m tc) := (h.kept (Kept.of_below [] hb1) (by simp)).cell 2
  have d0 : W1.cell? ⟨w.heap.size, 0, none⟩ = some (.slice none 0 0) := b1.cell 0
  have f0 := b1.free 0
  have hs1 : W1.heap.size = w.heap.size + 1 := by rw [← hW1]; simp
  have H := Lib.hid (And.intro (show Blk (W1.setCell ⟨w.heap.size, 0, none⟩ (.slice ta m tc)) w.heap.size 30 #[.slice ta m tc] from b1.set 0 _) (And.intro (show Below w.heap.size w (W1.setCell ⟨w.heap.size, 0, none⟩ (.slice ta m tc)) from hb1.setCell (Nat.le_refl _) _) (show (W1.setCell ⟨w.heap.size, 0, none⟩ (.slice ta m tc)).heap.size = w.heap.size + 1 by simpa using hs1)))
  clear h b1 hb1 hs1
  go_enter Try.func43, Try.ntmps43
  go_wp2
  go_ret
  exact ⟨rfl, H.out⟩
theorem txs_own {B0 B : Nat} {vs : List Value} : OwnFrom B0 (fun (ls : List (List Nat)) W => Txs W B vs ls) := by
  intro ls X Y row h hg hr
  exact Txs.imp (fun v l h => own_roww B0 B 5 1 (fun (_ : Unit) => l.map byc) (fun _ => l.length) (fun _ => v) () X Y row h hg hr) h
attribute [local go_sem ↓] tx_rule
attribute [local go_sem] Oper.semAt_some
set_option maxRecDepth 100000 in
set_option maxHeartbeats 4000000 in
theorem told_any {w : World} {B p g n t c : Nat} {s : List Nat} {txs : List (List Nat)} (h : Lc B w p g n t c s txs) (hm : txs.length ≤ 999) (hx : ∀ x ∈ txs, x.length ≤ 40000) :
    Calls Try.prog 19 #[.pointer (some ⟨g, 0, none⟩)] w fun e w' => ∃ ov ovs, e = .returned (.tuple #[ov, .bool true]) ∧ w'.ownsRow w.heap.size 29 1 ov txs.length ovs ∧ Txs w' w.heap.size ovs txs ∧ Below w.heap.size w w' := by
  obtain ⟨sv, tv, vs, h1, h2, h3, h4, h5⟩ := h
  obtain ⟨ta, tc, rfl⟩ := wown_slice h3
  refine calls_of_wp_marks Try.func19 rfl ?_
  simp only [Try.ntmps19, List.size_toArray, List.length_cons, List.length_nil, Nat.reduceAdd, Nat.reduceSub, Array.replicate_succ, Array.replicate_zero, List.push_toArray, List.append_toArray, List.nil_append, List.cons_append]
  have H0 := Lib.hid (And.intro h1 (And.intro h3 (And.intro h4 (And.intro hm hx))))
  clear h1 h2 h3 h4 h5 hm hx
  go_wp2_with fail
  generalize hW1 : World.alloc (World.alloc (World.alloc w _) _) _ = W1
  have b2 : Blk W1 w.heap.size 30 #[.slice none 0 0] := by rw [← hW1]; exact ((Blk.new w _ _).alloc _).alloc _
  have b3 : Blk W1 (w.heap.size + 1) 4 #[.bool false] := by rw [← hW1]; exact (Blk.wnew2 w _ _ _).alloc _
  have b4 : Blk W1 (w.heap.size + 2) 30 #[.slice none 0 0] := by
    rw [← hW1]
    have := Blk.new ((w.alloc (.cells #[.slice none 0 0] 30)).alloc (.cells #[.bool false] 4)) 30 #[.slice none 0 0]
    simpa using this
  have hb1 : Below w.heap.size w W1 := by rw [← hW1]; exact (((Below.refl _ w).alloc (Nat.le_refl _) _).alloc (by simp) _).alloc (by simp; omega) _
  clear hW1
  obtain ⟨h1, h3, h4, hm, hx⟩ := H0.out
  have han := all_any (h1.kept (Kept.of_below [] hb1) (by simp))
  clear h1 h3 h4 hm hx
  refine han.mono ?_
  rintro e W2 ⟨rfl, bt, hb2, hs2⟩
  obtain ⟨h1, h3, h4, hm, hx⟩ := H0.out
  have hb12 := bel_lat hb1 hb2
  have hlow : ∀ i, i < w.heap.size → i < W2.heap.size ∧ i ∉ [w.heap.size + 2] := fun i hi => ⟨by have := hb12.size; omega, by simp; omega⟩
  have hAA : AllAt W2 W1.heap.size B txs.length (.slice ta txs.length tc) vs txs := ⟨bt, owns_later2 h3 hb12, fun k hk => by
    obtain ⟨v, e1, e2⟩ := txs_at h4 hk
    exact ⟨v, e1, owns_later2 e2 hb12⟩⟩
  have hAN : AllN [w.heap.size + 2] W2.heap.size W1.heap.size txs.length (.slice ta txs.length tc) vs := ⟨⟨by omega, by have := b4.lt; simp; omega⟩, fun i hi => hlow i (own_lt h3 i hi), fun k v hk i hi => by
    by_cases hkm : k < txs.length
    · obtain ⟨v', e1, e2⟩ := txs_at h4 hkm
      rw [hk] at e1
      obtain rfl : v = v' := Option.some.inj e1
      exact hlow i (own_lt e2 i hi)
    · have := h4.len
      rw [List.getElem?_eq_none (by omega)] at hk
      cases hk⟩
  have hseq := all_tells hAA hAN (by omega) (fun k => by
    rw [List.getD_eq_getElem?_getD]
    cases hk : txs[k]? with
    | none => simp
    | some x => exact hx x (List.mem_of_getElem? hk))
  clear hAA hAN hlow
  have H := Lib.hid (And.intro (b2.kept (Kept.of_below [] hb2) (by simp)) (And.intro (b3.kept (Kept.of_below [] hb2) (by simp)) (And.intro (b4.kept (Kept.of_below [] hb2) (by simp)) (And.intro hb12 (And.intro hm hs2)))))
  clear b2 b3 b4 hb1 han h1 h3 h4 hm hx hb12 hb2 bt hs2
  go_wp2_with fail
  refine wp_range_made (S := [w.heap.size + 2]) (N := txs.length) (En := AllE W2.heap.size txs) (gf := 61) (lb := #[.pointer (some ⟨W1.heap.size, 0, none⟩)]) none (fun k x W hE => by obtain ⟨v, rfl, _⟩ := hE; rfl) rfl (enters_of Try.func61 (by kernel_rfl) rfl) hseq (fun k hk => by rw [List.mem_singleton.1 hk]; exact H.out.2.2.1.lt)
    (fun k X => Kept [] w X ∧ Blk X w.heap.size 30 #[.slice none 0 0] ∧ Blk X (w.heap.size + 1) 4 #[.bool false] ∧ ∃ ov ovs, Blk X (w.heap.size + 2) 30 #[ov] ∧ X.ownsRow (W2.heap.size + 2) 29 1 ov k ovs ∧ Txs X W2.heap.size ovs (txs.take k)) (fun _ _ => False) ?hI ?hIx
    ⟨Kept.of_below [] H.out.2.2.2.1, H.out.1, H.out.2.1, _, [], H.out.2.2.1, World.ownsRow_nil _ _ _ _, trivial⟩
    (fun k a' W => ∃ v, W.ownsRow W2.heap.size 5 1 v (txs.getD k []).length ((txs.getD k []).map byc) ∧ a' = { tmps := #[.pointer (some ⟨g, 0, none⟩), undef, .pointer (some ⟨w.heap.size, 0, none⟩), .pointer (some ⟨w.heap.size + 1, 0, none⟩), .pointer (some ⟨w.heap.size + 2, 0, none⟩), .int .i64 ((k : Int) + 1), v, .pointer (some ⟨g, 0, none⟩), .func (.func 61) #[] #[.pointer (some ⟨W1.heap.size, 0, none⟩)], .int .i64 ((k : Int) + 1), v, undef, undef, undef, undef, undef, undef, undef, undef, undef, undef], defers := [] })
    ?hAx ?assign ?body ?done (fun k _ _ h => h.elim)
  case hI =>
    rintro k X Y row ⟨e1, e2, e3, ov, ovs, e4, e5, e6⟩ hg hr
    exact ⟨e1.grown hg (fun i hi => .inr (Nat.le_trans H.out.2.2.2.1.size (hr i hi).1)), own_blk _ _ _ (fun _ => _) () X Y row e2 hg hr, own_blk _ _ _ (fun _ => _) () X Y row e3 hg hr, ov, ovs, own_blk _ _ _ (fun _ => _) () X Y row e4 hg hr, own_roww _ _ _ _ (fun _ => _) (fun _ => _) (fun _ => _) () X Y row e5 hg hr, txs_own _ X Y row e6 hg hr⟩
  case hIx => exact fun s X Y row hs hg hr => hs
  case hAx =>
    rintro k a' s X Y row ⟨v, e1, e2⟩ hg hr
    exact ⟨v, own_roww _ _ _ _ (fun _ => _) (fun _ => _) (fun _ => _) () X Y row e1 hg hr, e2⟩
  case assign =>
    rintro k x X K hk hX hI ⟨v, rfl, hv⟩ hK
    simp only [List.zip_toArray, List.zip_cons_cons, List.zip_nil_right, List.zip_nil_left, List.size_toArray, List.foldl_toArray', List.foldl_toArray, List.foldl_cons, List.foldl_nil, List.setIfInBounds_toArray, List.set_cons_zero, List.set_cons_succ]
    have HV := Lib.hid (And.intro hI hv)
    clear hI hv
    gi_wp2
    exact hK _ _ (KL.refl _ _ _) HV.out.1 ⟨v, HV.out.2, rfl⟩
  case body =>
    rintro k a' W ⟨e1, e2, e3, ov, ovs, e4, e5, e6⟩ ⟨v, hv, rfl⟩ hk hWs
    obtain ⟨oa, oc, rfl⟩ := wown_slice e5
    obtain ⟨va, vc, rfl⟩ := wown_slice hv
    obtain ⟨q, hq⟩ : ∃ q, txs.getD k [] = q := ⟨_, rfl⟩
    rw [hq] at hv
    try rw [hq]
    have htk : txs.take (k + 1) = txs.take k ++ [q] := by
      rw [List.take_add_one, List.getElem?_eq_getElem hk, ← hq, List.getD_eq_getElem?_getD, List.getElem?_eq_getElem hk]; rfl
    have c4 : W.cell? ⟨w.heap.size + 2, 0, none⟩ = some (.slice oa k oc) := e4.cell 0
    have hk9 : (k : Int) + 1 ≤ 1000 := by have := H.out.2.2.2.2.1; omega
    obtain ⟨Wb, hWb⟩ : ∃ Wb, W.alloc (.cells #[.slice va q.length vc] 29) = Wb := ⟨_, rfl⟩
    have hbb : Below W.heap.size W Wb := by rw [← hWb]; exact (Below.refl _ _).alloc (Nat.le_refl _) _
    have hnb : Blk Wb W.heap.size 29 #[.slice va q.length vc] := by rw [← hWb]; exact Blk.new _ _ _
    have e5b := owns_later2 e5 hbb
    have e4b := e4.kept (Kept.of_below [] hbb) (by simp)
    obtain ⟨g6, cap6, w6, hrun, ho6, hgr, hnew⟩ := txSem_run 30 e5b (by have := H.out.2.2.2.2.1; omega) hnb rfl (by have := hbb.size; omega)
    have hne := row_ne e5b e4b (by decide)
    have e4c : Blk w6 (w.heap.size + 2) 30 #[.slice oa k oc] := (hgr.block _ e4b.lt (fun e => hne e.symm)).trans e4b
    have f4 := e4c.free 0
    have c4b : w6.cell? ⟨w.heap.size + 2, 0, none⟩ = some (.slice oa k oc) := e4c.cell 0
    obtain ⟨W7, hW7⟩ : ∃ W7, w6.setCell ⟨w.heap.size + 2, 0, none⟩ (.slice (some ⟨g6, 0, none⟩) (k + 1) cap6) = W7 := ⟨_, rfl⟩
    have hk6 : Kept [] w w6 := by
      refine (e1.trans (Kept.of_below [] hbb)).grown hgr (fun i hi => .inr ?_)
      have := own_ge e5b i hi
      have := H.out.2.2.2.1.size
      omega
    have hown : ∀ i, (.slice oa k oc : Value).ownBlock = some i → W2.heap.size + 2 ≤ i := own_ge e5b
    have hkl : KL (W2.heap.size + 2) [w.heap.size + 2] W W7 := by
      refine ⟨?_, fun i hi hiS => ?_⟩
      · rw [← hW7]; exact Nat.le_trans hbb.size (by simpa using hgr.size)
      · rw [← hW7]
        refine (Below.heap_setCell _ _ _ _ (fun e => hiS (by rw [e]; simp))).trans ((hgr.block i (by have := hbb.size; omega) (fun e => by have := hown i e.symm; omega)).trans (hbb.block i (by omega)))
    have hr2 : Blk W7 w.heap.size 30 #[.slice none 0 0] := by
      refine (hkl.same _ (by have := H.out.2.2.2.1.size; omega) (by simp)).trans e2
    have hr3 : Blk W7 (w.heap.size + 1) 4 #[.bool false] := by
      refine (hkl.same _ (by have := H.out.2.1.lt; omega) (by simp)).trans e3
    have hr4 : Blk W7 (w.heap.size + 2) 30 #[.slice (some ⟨g6, 0, none⟩) (k + 1) cap6] := by rw [← hW7]; exact e4c.set 0 _
    have hk7 : Kept [] w W7 := by
      rw [← hW7]; exact hk6.setCell (.inr (by show w.heap.size ≤ w.heap.size + 2; omega)) _
    have ho7 : W7.ownsRow (W2.heap.size + 2) 29 1 (.slice (some ⟨g6, 0, none⟩) (k + 1) cap6) (k + 1) (ovs ++ [.slice va q.length vc]) := by
      refine own_far ho6 (S := [w.heap.size + 2]) (by rw [← hW7]; exact (Kept.refl _ _).setCell (.inl (by simp)) _) (fun i hi hm => row_ne ho6 e4c (by decide) (by rw [List.mem_singleton.1 hm] at hi; exact hi))
    have hst : ∀ (v : Value) (l : List Nat), W.ownsRow W2.heap.size 5 1 v l.length (l.map byc) → W7.ownsRow W2.heap.size 5 1 v l.length (l.map byc) := fun v l h => by
      have h6 := owns_later2 h hbb
      have h7 : w6.ownsRow W2.heap.size 5 1 v l.length (l.map byc) := h6.kept hgr (by
        cases ho : v.ownBlock with
        | none => exact .inl rfl
        | some i => exact .inr (fun e => own_two h6 e5b (by decide) i ho e.symm))
      exact own_far h7 (S := [w.heap.size + 2]) (by rw [← hW7]; exact (Kept.refl _ _).setCell (.inl (by simp)) _) (fun i hi hm => row_ne h7 e4c (by decide) (by rw [List.mem_singleton.1 hm] at hi; exact hi))
    have ht7 : Txs W7 W2.heap.size (ovs ++ [.slice va q.length vc]) (txs.take (k + 1)) := by
      rw [htk]
      exact Txs.snoc (hst _ _ hv) (Txs.imp hst e6)
    have HB := Lib.hid (And.intro hkl (And.intro hk7 (And.intro hr2 (And.intro hr3 (And.intro hr4 (And.intro ho7 ht7))))))
    clear e1 e2 e3 e4 e5 e6 hv hbb hnb e5b e4b ho6 hgr hnew hne e4c hk6 hown hkl hr2 hr3 hr4 hk7 ho7 hst ht7 htk hq
    gi_wp2_with fail
    exact ⟨HB.out.1, HB.out.2.1, HB.out.2.2.1, HB.out.2.2.2.1, _, HB.out.2.2.2.2.1, _, HB.out.2.2.2.2.2.1, HB.out.2.2.2.2.2.2⟩
  case done =>
    rintro X ⟨e1, e2, e3, ov, ovs, e4, e5, e6⟩ hd
    obtain ⟨oa, oc, rfl⟩ := wown_slice e5
    rw [List.take_length] at e6
    have d2 : X.cell? ⟨w.heap.size, 0, none⟩ = some (.slice none 0 0) := e2.cell 0
    have f2 := e2.free 0
    have d4 : X.cell? ⟨w.heap.size + 2, 0, none⟩ = some (.slice oa txs.length oc) := e4.cell 0
    obtain ⟨m, hm⟩ : ∃ m, txs.length = m := ⟨_, rfl⟩
    rw [hm] at d4 e4 e5
    obtain ⟨X2, hX2⟩ : ∃ X2, X.setCell ⟨w.heap.size, 0, none⟩ (.slice oa m oc) = X2 := ⟨_, rfl⟩
    have c32 : Blk X2 (w.heap.size + 1) 4 #[.bool false] := by rw [← hX2]; exact e3.far (by simp) _
    have c22 : Blk X2 w.heap.size 30 #[.slice oa m oc] := by rw [← hX2]; exact e2.set 0 _
    have d3 : X2.cell? ⟨w.heap.size + 1, 0, none⟩ = some (.bool false) := c32.cell 0
    have f3 := c32.free 0
    have hbX : Below w.heap.size w X2 := by rw [← hX2]; exact (e1.below (by simp) (Nat.le_refl _)).setCell (Nat.le_refl _) _
    have hst2 : ∀ (ty : TypeId) (v : Value) (n : Nat) (B' : Nat) (xs : List Value), ty = 5 ∨ ty = 29 → X.ownsRow B' ty 1 v n xs → X2.ownsRow B' ty 1 v n xs := fun ty v n B' xs hty h => own_far h (S := [w.heap.size]) (by rw [← hX2]; exact (Kept.refl _ _).setCell (.inl (by simp)) _) (fun i hi hm => row_ne h e2 (by rcases hty with rfl | rfl <;> decide) (by rw [List.mem_singleton.1 hm] at hi; exact hi))
    have e5' := hst2 _ _ _ _ _ (.inr rfl) e5
    have e6' : Txs X2 W2.heap.size ovs txs := Txs.imp (fun v l h => hst2 _ _ _ _ _ (.inl rfl) h) e6
    have hd2 : X2.heap[W2.heap.size]? = some (.deferred (some [])) := by
      rw [← hX2]
      exact (Below.heap_setCell _ _ _ _ (by show W2.heap.size ≠ w.heap.size; have := H.out.2.1.lt; omega)).trans hd
    have HX := Lib.hid (And.intro c22 (And.intro c32 (And.intro hbX (And.intro e5' (And.intro e6' (And.intro hd2 hm))))))
    clear e1 e2 e3 e4 e5 e6 hd c32 c22 hbX hst2 e5' e6' hd2 hm
    go_wp2_with fail
    obtain ⟨c22, c32, hbX, e5, e6, hd2, hm⟩ := HX.out
    obtain ⟨X3, hX3⟩ : ∃ X3, X2.setCell ⟨w.heap.size + 1, 0, none⟩ (.bool true) = X3 := ⟨_, rfl⟩
    try rw [hX3]
    have g2 : Blk X3 w.heap.size 30 #[.slice oa m oc] := by rw [← hX3]; exact c22.far (by simp) _
    have g3 : Blk X3 (w.heap.size + 1) 4 #[.bool true] := by rw [← hX3]; exact c32.set 0 _
    have gb : Below w.heap.size w X3 := by rw [← hX3]; exact hbX.setCell (by show w.heap.size ≤ w.heap.size + 1; omega) _
    have hst3 : ∀ (ty : TypeId) (v : Value) (n : Nat) (B' : Nat) (xs : List Value), ty = 5 ∨ ty = 29 → X2.ownsRow B' ty 1 v n xs → X3.ownsRow B' ty 1 v n xs := fun ty v n B' xs hty h => own_far h (S := [w.heap.size + 1]) (by rw [← hX3]; exact (Kept.refl _ _).setCell (.inl (by simp)) _) (fun i hi hm => row_ne h c32 (by rcases hty with rfl | rfl <;> decide) (by rw [List.mem_singleton.1 hm] at hi; exact hi))
    have e5' := hst3 _ _ _ _ _ (.inr rfl) e5
    have e6' : Txs X3 W2.heap.size ovs txs := Txs.imp (fun v l h => hst3 _ _ _ _ _ (.inl rfl) h) e6
    have hw2 : w.heap.size + 1 < W2.heap.size := H.out.2.1.lt
    have hws := H.out.2.2.2.1.size
    have hd3 : X3.heap[W2.heap.size]? = some (.deferred (some [])) := by
      rw [← hX3]
      exact (Below.heap_setCell _ _ _ _ (by show W2.heap.size ≠ w.heap.size + 1; omega)).trans hd2
    refine marks_cells (v := .tuple #[.slice oa m oc, .bool true]) [W2.heap.size] _ (by simp) (fun d hd => by rw [List.mem_singleton.1 hd]; exact hd3) (fun w' h1 h2 h3 h4 h5 => ⟨results_told rfl _ w' w.heap.size (w.heap.size + 1) _ _ rfl rfl ?_ ?_, ?_⟩)
    · exact (h5 _ (by simp; omega)).trans g2
    · exact (h5 _ (by simp; omega)).trans g3
    · have hst4 : ∀ (ty : TypeId) (v : Value) (n : Nat) (B' : Nat) (xs : List Value), w.heap.size ≤ B' → X3.ownsRow B' ty 1 v n xs → w'.ownsRow w.heap.size ty 1 v n xs := fun ty v n B' xs hB9 h => by
        refine own_base ?_ hB9
        rcases h.2 with h9 | ⟨q, cap, cur, i1, i2, i3, i4⟩
        · exact ⟨h.1, .inl h9⟩
        · refine ⟨h.1, .inr ⟨q, cap, cur, i1, i2, (h5 q (fun hm => ?_)).trans i3, i4⟩⟩
          rw [List.mem_singleton.1 hm, hd3] at i3
          cases i3
      refine ⟨_, ovs, rfl, by rw [hm]; exact hst4 _ _ _ _ _ (by omega) e5', Txs.imp (fun v l h => hst4 _ _ _ _ _ hws h) e6', ?_⟩
      exact ⟨h2.trans gb.os, h3.trans gb.tape, h4.trans gb.output, by rw [h1]; exact gb.size, fun k hk => (h5 k (by simp; omega)).trans (gb.block k hk)⟩
end Go.Proofs.Ytelpihlifdfgoaa
namespace Go.Proofs.Ytelpihlifdfgoaa
open Go.RowKit Go.Shelf
set_option linter.unusedVariables false
/-- A row that is cut to its length is copied by an append. -/
theorem tx_copy {w : World} {B C m tc : Nat} {ta : Option Addr} {v : Value} {vs : List Value} {q : Nat} (ty : TypeId) (h : w.ownsRow B 29 1 (.slice ta m tc) m vs) (hm : m ≤ 1000) (hq : Blk w q 29 #[v]) (hv : v.oneCell' = true) (hC : C ≤ w.heap.size) :
    ∃ g cap w', (txSem ty #[.slice ta m m, .slice (some ⟨q, 0, none⟩) 1 1]).run Try.prog w = .ok (.slice (some ⟨g, 0, none⟩) (m + 1) cap) w' ∧
      w'.ownsRow C 29 1 (.slice (some ⟨g, 0, none⟩) (m + 1) cap) (m + 1) (vs ++ [v]) ∧ Below w.heap.size w w' := by
  obtain ⟨i0, hi, hz0, hz1, hz2⟩ := info_parts i_bytes
  have hone : ∀ u ∈ [v], u.oneCell' = true := fun u hu => by rw [List.mem_singleton.1 hu]; exact hv
  have hsrc : ∀ j u, [v][j]? = some u → w.cell? ((⟨q, 0, none⟩ : Addr).add j) = some u := fun j u hj => by rw [Addr.add_lit, Nat.zero_add, hq.cell]; simpa using hj
  rcases h.2 with ⟨h8, h0⟩ | ⟨g, cap, cur, h8, hbg, hg, hnc, hcm, hcs, htake⟩
  · subst h0
    cases h8
    obtain ⟨g, cap, w', h1, h2, h3, _⟩ := txSem_run (B := C) ty ⟨h.1, .inl ⟨rfl, rfl⟩⟩ hm hq hv hC
    exact ⟨g, cap, w', h1, h2, ⟨h3.os, h3.tape, h3.output, h3.size, fun k hk => h3.block k hk (by simp [Value.ownBlock])⟩⟩
  · cases h8
    have hr2 := run_append_grow (P := Try.prog) w 30 ty 29 i0 (.slice none 0 0) Try.underlying30 hi hz0 ⟨g, 0, none⟩ m m vs (by rw [hz1]; exact h.1) (h.cells (g := g) rfl) ⟨q, 0, none⟩ 1 1 [v] (by rw [hz1]; rfl) hsrc (by omega) (by omega) (by rw [hz2]; exact growslice_fits (by omega) (by omega))
    have hge := grownCap_ge w (m + 1) m 29
    have hcm : grownCap w (m + 1) m 29 ≤ maxLen := grownCap_le_maxLen w (m + 1) m 29 (by unfold maxLen; omega)
    have hvl : vs.length = m := by have := h.1; omega
    refine ⟨_, _, _, hr2, ⟨by simp [hvl], .inr ⟨w.heap.size, _, _, rfl, hC, World.alloc_heap_new w.drew _, hge, hcm, ?_, ?_⟩⟩, (Below.refl w.heap.size w).drew.alloc (Nat.le_refl _) _⟩
    · simp only [Array.size_append, List.size_toArray, size_zeroCells, hvl, List.length_cons, List.length_nil]
      have : (Value.slice none 0 0).cells.size = 1 := rfl
      rw [this]
      omega
    · simp only [Array.toList_append, List.append_assoc]
      rw [← List.append_assoc]
      exact List.take_left' (by simp [hvl])
theorem s_things (x0 x1 : Value) : (Try.prog.info? 32).map (·.size) = some #[x0, x1].size := by kernel_rfl
theorem store_things_rule (p v : Value) : Instr.storeAt 32 p v = storeSem 32 p v := rfl
theorem st_things {w : World} {g : Nat} {x0 x1 y0 y1 : Value} (h : Blk w g 32 #[x0, x1]) (h1 : y0.oneCell' = true) (h2 : y1.oneCell' = true) : (storeSem 32 (.pointer (some ⟨g, 0, none⟩)) (.agg #[y0, y1])).run Try.prog w = .ok () (w.setRow g #[y0, y1]) := by
  have S := storeRes_of (P := Try.prog) (ty := 32) (o := 0) (vs := #[y0, y1]) h (by simp) (s_things _ _) (by simp [h1, h2])
  rwa [over_all (by simp)] at S
attribute [local go_sem ↓] load_deed_rule store_things_rule tx_rule
set_option maxRecDepth 100000 in
set_option maxHeartbeats 2000000 in
theorem with4_any (x1 x3 : Value) (a : Option Addr) (len cp : Nat) (l : List Nat) (sn rv : Value) (w : World) (hL : Lies w a l) (hl : l.length = len) (hc : len ≤ cp) (h0 : a = none → len = 0) (hcb : cp ≤ 9223372036854775807) :
    Calls Try.prog 10 #[.agg #[sn, rv], .agg #[.int .i64 4, x1, .slice a len cp, x3]] w fun e w' => ∃ v, e = .returned (.agg #[v, .slice none 0 0]) ∧ w'.ownsRow w.heap.size 5 1 v (l.take 400).length ((l.take 400).map byc) ∧ Below w.heap.size w w' := by
  obtain ⟨q, hq⟩ : ∃ q, l.take 400 = q := ⟨_, rfl⟩
  have hdb := fun x0 w h => dbytes_any x0 x1 x3 a len cp l w h hl hc h0 hcb
  rw [hq] at hdb ⊢
  have hk0 := fun w => kind4_any x1 (.slice a len cp) x3 w
  obtain ⟨W1, hW1⟩ : ∃ W1, ((w.alloc (.cells #[sn, rv] 32)).alloc (.cells #[.int .i64 4, x1, .slice a len cp, x3] 35)).alloc (.cells #[.slice none 0 0, .slice none 0 0] 32) = W1 := ⟨_, rfl⟩
  have hb1 : Below w.heap.size w W1 := by rw [← hW1]; exact (((Below.refl _ w).alloc (Nat.le_refl _) _).alloc (by simp) _).alloc (by simp; omega) _
  have hd1 : Blk W1 (w.heap.size + 1) 35 #[.int .i64 4, x1, .slice a len cp, x3] := by rw [← hW1]; exact (Blk.wnew2 w _ _ _).alloc _
  have ht1 : Blk W1 (w.heap.size + 2) 32 #[.slice none 0 0, .slice none 0 0] := by
    rw [← hW1]
    have := Blk.new ((w.alloc (.cells #[sn, rv] 32)).alloc (.cells #[.int .i64 4, x1, .slice a len cp, x3] 35)) 32 #[.slice none 0 0, .slice none 0 0]
    simpa using this
  have hld := ld_deed hd1
  have HH := Lib.hid (And.intro hL (And.intro hb1 (And.intro hd1 ht1)))
  clear hL hl h0 hb1 hd1 ht1
  go_enter Try.func10, Try.ntmps10
  go_wp2_with fail
  refine (hk0 _).mono ?_
  rintro e W2 ⟨rfl, hb2⟩
  clear hk0 hld hW1
  have hld := ld_deed (HH.out.2.2.1.kept (Kept.of_below [] hb2) (by simp))
  have hby := hdb (.int .i64 4) W2 (HH.out.1.kept (bel_lat HH.out.2.1 hb2))
  have H2 := Lib.hid hb2
  clear hb2 hdb
  go_wp2_with fail
  refine hby.mono ?_
  rintro e W3 ⟨v, rfl, hown, hb3⟩
  clear hby hld
  obtain ⟨va, vc, rfl⟩ := wown_slice hown
  have hb13 := bel_lat H2.out hb3
  have ht3 := HH.out.2.2.2.kept (Kept.of_below [] hb13) (by simp)
  have hst := st_things (g := w.heap.size + 1 + 1) (y0 := .slice va q.length vc) (y1 := .slice none 0 0) ht3 rfl rfl
  have h4 := ht3.row #[.slice va q.length vc, .slice none 0 0]
  obtain ⟨W4, hW4⟩ : ∃ W4, W3.setRow (w.heap.size + 1 + 1) #[.slice va q.length vc, .slice none 0 0] = W4 := ⟨_, rfl⟩
  rw [hW4] at hst h4
  have hk4 : Kept [w.heap.size + 2] W3 W4 := by rw [← hW4]; exact (Kept.refl _ _).setRow (.inl (by simp)) _
  have HB := Lib.hid (And.intro hown (And.intro hb13 (And.intro ht3 (And.intro h4 hk4))))
  clear hown hb3 hb13 ht3 h4 hk4 hW4
  go_wp2_with fail
  refine bodyPost_ret (results_cell_row rfl _ _ (w.heap.size + 2) 32 #[.slice va q.length vc, .slice none 0 0] (0, 0) _ rfl HB.out.2.2.2.1 Try.underlying32 rfl (s_things _ _)) rfl ?_
  obtain ⟨hown, hb13, ht3, h4, hk4⟩ := HB.out
  have hb03 : Below w.heap.size w W3 := bel_lat HH.out.2.1 hb13
  refine ⟨_, rfl, own_base (own_far hown hk4 (fun i hi hmm => row_ne hown ht3 (by decide) (by rw [List.mem_singleton.1 hmm] at hi; exact hi))) (Nat.le_trans HH.out.2.1.size H2.out.size), hb03.trans (hk4.below (fun k hk => by rw [List.mem_singleton.1 hk]; omega) hb03.size)⟩
set_option maxRecDepth 100000 in
set_option maxHeartbeats 4000000 in
theorem with0_any (x1 x3 : Value) (a : Option Addr) (len cp : Nat) (l : List Nat) (sa : Option Addr) (sl sc : Nat) {B m tc : Nat} {ta : Option Addr} {vs : List Value} (w : World) (hL : Lies w a l) (hl : l.length = len) (hc : len ≤ cp) (h0 : a = none → len = 0) (hcb : cp ≤ 9223372036854775807) (ht : w.ownsRow B 29 1 (.slice ta m tc) m vs) (hm : m ≤ 999) :
    Calls Try.prog 10 #[.agg #[.slice sa sl sc, .slice ta m tc], .agg #[.int .i64 0, x1, .slice a len cp, x3]] w fun e w' => ∃ v rv, e = .returned (.agg #[.slice sa sl sc, rv]) ∧ w'.ownsRow w.heap.size 5 1 v (l.take 400).length ((l.take 400).map byc) ∧ w'.ownsRow w.heap.size 29 1 rv (m + 1) (vs ++ [v]) ∧ Below w.heap.size w w' := by
  obtain ⟨q, hq⟩ : ∃ q, l.take 400 = q := ⟨_, rfl⟩
  have hdb := fun x0 w h => dbytes_any x0 x1 x3 a len cp l w h hl hc h0 hcb
  rw [hq] at hdb ⊢
  have hmt : m ≤ tc := by
    rcases ht.2 with ⟨h8, h0⟩ | ⟨g, cap, cur, h8, _, _, hnc, _⟩
    · omega
    · cases h8; exact hnc
  have hk0 := fun w => kind0_any x1 (.slice a len cp) x3 w
  obtain ⟨W1, hW1⟩ : ∃ W1, ((w.alloc (.cells #[.slice sa sl sc, .slice ta m tc] 32)).alloc (.cells #[.int .i64 0, x1, .slice a len cp, x3] 35)).alloc (.cells #[.slice none 0 0, .slice none 0 0] 32) = W1 := ⟨_, rfl⟩
  have hb1 : Below w.heap.size w W1 := by rw [← hW1]; exact (((Below.refl _ w).alloc (Nat.le_refl _) _).alloc (by simp) _).alloc (by simp; omega) _
  have ha1 : Blk W1 w.heap.size 32 #[.slice sa sl sc, .slice ta m tc] := by rw [← hW1]; exact ((Blk.new w _ _).alloc _).alloc _
  have hd1 : Blk W1 (w.heap.size + 1) 35 #[.int .i64 0, x1, .slice a len cp, x3] := by rw [← hW1]; exact (Blk.wnew2 w _ _ _).alloc _
  have ht1 : Blk W1 (w.heap.size + 2) 32 #[.slice none 0 0, .slice none 0 0] := by
    rw [← hW1]
    have := Blk.new ((w.alloc (.cells #[.slice sa sl sc, .slice ta m tc] 32)).alloc (.cells #[.int .i64 0, x1, .slice a len cp, x3] 35)) 32 #[.slice none 0 0, .slice none 0 0]
    simpa using this
  have hld := ld_deed hd1
  have HH := Lib.hid (And.intro hL (And.intro hb1 (And.intro hd1 (And.intro ht1 (And.intro ha1 ht)))))
  clear hL hl h0 hb1 hd1 ht1 ha1 ht
  go_enter Try.func10, Try.ntmps10
  go_wp2_with fail
  refine (hk0 _).mono ?_
  rintro e W2 ⟨rfl, hb2⟩
  clear hk0 hld hW1
  have hd2 := HH.out.2.2.1.kept (Kept.of_below [] hb2) (by simp)
  have ha2 := HH.out.2.2.2.2.1.kept (Kept.of_below [] hb2) (by simp)
  have hmt2 : (m : Int) ≤ (tc : Int) := by omega
  have hb12 := bel_lat HH.out.2.1 hb2
  obtain ⟨S, hS⟩ : ∃ S : World → Prop, S = fun w' => Blk w' w.heap.size 32 #[.slice sa sl sc, .slice ta m tc] ∧ Blk w' (w.heap.size + 1) 35 #[.int .i64 0, x1, .slice a len cp, x3] := ⟨_, rfl⟩
  have hSb : ∀ w', Below W2.heap.size W2 w' → S w' := fun w' h => by rw [hS]; exact ⟨ha2.kept (Kept.of_below [] h) (by simp), hd2.kept (Kept.of_below [] h) (by simp)⟩
  have hSi : ∀ w', Blk w' w.heap.size 32 #[.slice sa sl sc, .slice ta m tc] → Blk w' (w.heap.size + 1) 35 #[.int .i64 0, x1, .slice a len cp, x3] → S w' := fun w' h1 h2 => by rw [hS]; exact ⟨h1, h2⟩
  have hS0 : S W2.drew := hSb _ (Below.refl _ _).drew
  have L0 : ∀ w', S w' → w'.cell? ⟨w.heap.size, 0, none⟩ = some (.slice sa sl sc) := fun w' h => by rw [hS] at h; exact h.1.cell 0
  have L1 : ∀ w', S w' → w'.cell? ⟨w.heap.size, 1, none⟩ = some (.slice ta m tc) := fun w' h => by rw [hS] at h; exact h.1.cell 1
  have L2 : ∀ w', S w' → (loadSem 35 (.pointer (some ⟨w.heap.size + 1, 0, none⟩))).run Try.prog w' = .ok (.agg #[.int .i64 0, x1, .slice a len cp, x3]) w' := fun w' h => by rw [hS] at h; exact ld_deed h.2
  have hby := hdb (.int .i64 0) W2.drew (HH.out.1.kept hb12.drew)
  have H2 := Lib.hid (And.intro hb2 (And.intro hb12 (And.intro hSb (And.intro hSi (And.intro hd2 ha2)))))
  clear hb2 hdb hd2 ha2 hb12 hS hSb hSi
  go_wp2_with fail
  refine wp_region_linY S [12, 13, 14, 16] [0, 1, 2, 3, 4, 5, 6, 7, 8, 9, 10, 11, 12, 13, 14, 15, 16] (by kernel_rfl) (by kernel_rfl) hS0 ?_
  (repeat (first | (refine linX_off rfl rfl (by rfl) ?_; (try simp only [Act.put, List.getElem_toArray, List.getElem_cons_zero, List.getElem_cons_succ, List.setIfInBounds_toArray, List.set_cons_zero, List.set_cons_succ])) | (refine linX_op (v := ?_) rfl rfl (by rfl) (fun w9 hS9 => ?_) ?_; rotate_left; (focus (((have k0 := L0 w9 hS9; have k1 := L1 w9 hS9; have k2 := L2 w9 hS9; go_simp; (try go_bits)) <;> with_reducible rfl))); (try simp only [Act.put, List.getElem_toArray, List.getElem_cons_zero, List.getElem_cons_succ, List.setIfInBounds_toArray, List.set_cons_zero, List.set_cons_succ]))))
  refine linX_call (f := 24) (args := #[.agg #[.int .i64 0, x1, .slice a len cp, x3]]) rfl rfl (by rfl) rfl rfl (enters_of Try.func24 (by kernel_rfl) rfl) ?_ ?_
  · simp [Act.eval]
  refine hby.mono ?_
  rintro e W3 ⟨v, rfl, hown, hb3⟩
  obtain ⟨va, vc, rfl⟩ := wown_slice hown
  have hb23 : Below W2.heap.size W2 W3 := (Below.refl W2.heap.size W2).drew.trans hb3
  refine ⟨_, rfl, H2.out.2.2.1 _ hb23, ?_⟩
  (try simp only [Act.put, List.getElem_toArray, List.getElem_cons_zero, List.getElem_cons_succ, List.setIfInBounds_toArray, List.set_cons_zero, List.set_cons_succ])
  obtain ⟨W4, hW4⟩ : ∃ W4, W3.alloc (.cells #[.slice va q.length vc] 29) = W4 := ⟨_, rfl⟩
  have hb34 : Below W3.heap.size W3 W4 := by rw [← hW4]; exact (Below.refl _ _).alloc (Nat.le_refl _) _
  have bn : Blk W4 W3.heap.size 29 #[.slice va q.length vc] := by rw [← hW4]; exact Blk.new _ _ _
  have hb24 := bel_lat hb23 hb34
  refine linX_do (v := .slice (some ⟨W3.heap.size, 0, none⟩) 1 1) (w' := W4) rfl rfl (by rfl) ?_ (H2.out.2.2.1 _ hb24) ?_
  · (focus ((go_simp; (try go_bits)) <;> with_reducible rfl))
  (try simp only [Act.put, List.getElem_toArray, List.getElem_cons_zero, List.getElem_cons_succ, List.setIfInBounds_toArray, List.set_cons_zero, List.set_cons_succ])
  have hb04 : Below w.heap.size w W4 := bel_lat H2.out.2.1 hb24
  have ht4 := owns_later2 HH.out.2.2.2.2.2 hb04
  obtain ⟨g5, cap5, W5, hrun, ho5, hb45⟩ := tx_copy (C := w.heap.size) 30 ht4 (by omega) bn rfl hb04.size
  have hrun2 : (Builtin.append_ #[30, 30] 30 #[.slice ta m m, .slice (some ⟨W3.heap.size, 0, none⟩) 1 1]).run Try.prog W4 = .ok (.slice (some ⟨g5, 0, none⟩) (m + 1) cap5) W5 := hrun
  have hb25 := bel_lat hb24 hb45
  refine linX_do (v := .slice (some ⟨g5, 0, none⟩) (m + 1) cap5) (w' := W5) rfl rfl (by rfl) ?_ (H2.out.2.2.1 _ hb25) ?_
  · simp [execOp, resolve, invoke, builtin, Act.eval, hrun2, Result.andThen, Sem.run_bind]
  (try simp only [Act.put, List.getElem_toArray, List.getElem_cons_zero, List.getElem_cons_succ, List.setIfInBounds_toArray, List.set_cons_zero, List.set_cons_succ])
  (repeat (first | (refine linX_off rfl rfl (by rfl) ?_; (try simp only [Act.put, List.getElem_toArray, List.getElem_cons_zero, List.getElem_cons_succ, List.setIfInBounds_toArray, List.set_cons_zero, List.set_cons_succ])) | (refine linX_op (v := ?_) rfl rfl (by rfl) (fun w9 hS9 => ?_) ?_; rotate_left; (focus (((have k0 := L0 w9 hS9; have k1 := L1 w9 hS9; have k2 := L2 w9 hS9; go_simp; (try go_bits)) <;> with_reducible rfl))); (try simp only [Act.put, List.getElem_toArray, List.getElem_cons_zero, List.getElem_cons_succ, List.setIfInBounds_toArray, List.set_cons_zero, List.set_cons_succ]))))
  have hb05 : Below w.heap.size w W5 := bel_lat H2.out.2.1 hb25
  have ht5 := HH.out.2.2.2.1.kept (Kept.of_below [] (bel_lat H2.out.1 hb25)) (by simp)
  have hst := st_things (g := w.heap.size + 1 + 1) (y0 := .slice sa sl sc) (y1 := .slice (some ⟨g5, 0, none⟩) (m + 1) cap5) ht5 rfl rfl
  have h6 := ht5.row #[.slice sa sl sc, .slice (some ⟨g5, 0, none⟩) (m + 1) cap5]
  obtain ⟨W6, hW6⟩ : ∃ W6, W5.setRow (w.heap.size + 1 + 1) #[.slice sa sl sc, .slice (some ⟨g5, 0, none⟩) (m + 1) cap5] = W6 := ⟨_, rfl⟩
  rw [hW6] at hst h6
  have hk6 : Kept [w.heap.size + 2] W5 W6 := by rw [← hW6]; exact (Kept.refl _ _).setRow (.inl (by simp)) _
  have hs6 : S W6 := by
    refine H2.out.2.2.2.1 _ ?_ ?_
    · exact ((H2.out.2.2.2.2.2.kept (Kept.of_below [] hb25) (by simp)).kept hk6 (by simp))
    · exact ((H2.out.2.2.2.2.1.kept (Kept.of_below [] hb25) (by simp)).kept hk6 (by simp))
  refine linX_store (w' := W6) rfl rfl (by rfl) ?_ hs6 ?_
  · (focus ((go_simp; (try go_bits)) <;> with_reducible rfl))
  refine linX_nil ?_
  have HB := Lib.hid (And.intro hown (And.intro ho5 (And.intro hb05 (And.intro hk6 (And.intro h6 (And.intro ht5 (And.intro hb34 hb45)))))))
  clear hown ho5 hb05 hk6 h6 ht5 hb34 hb45
  go_wp2_with fail
  refine bodyPost_ret (results_cell_row rfl _ _ (w.heap.size + 2) 32 #[.slice sa sl sc, .slice (some ⟨g5, 0, none⟩) (m + 1) cap5] (0, 0) _ rfl HB.out.2.2.2.2.1 Try.underlying32 rfl (s_things _ _)) rfl ?_
  obtain ⟨hown, ho5, hb05, hk6, h6, ht5, hb34, hb45⟩ := HB.out
  have hown5 := owns_later2 (owns_later2 hown hb34) hb45
  refine ⟨_, _, rfl, own_base (own_far hown5 hk6 (fun i hi hmm => row_ne hown5 ht5 (by decide) (by rw [List.mem_singleton.1 hmm] at hi; exact hi))) (Nat.le_trans HH.out.2.1.size H2.out.1.size), own_far ho5 hk6 (fun i hi hmm => row_ne ho5 ht5 (by decide) (by rw [List.mem_singleton.1 hmm] at hi; exact hi)), hb05.trans (hk6.below (fun k hk => by rw [List.mem_singleton.1 hk]; omega) hb05.size)⟩
end Go.Proofs.Ytelpihlifdfgoaa
