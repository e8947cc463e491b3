/-
  choose: the chain that counts. Nothing here is a statement of the document.
-/
import Derived.Test.YtelpihlifdfgoaaWalFa
namespace Go.Proofs.Ytelpihlifdfgoaa
open Go.RowKit Go.Shelf
set_option linter.unusedVariables false
/-- The transactions that stand behind, and how many sectors are used. -/
def moreR (L : List Bk) (t : Nat) : Nat → Nat → Nat → List (List Nat) × Nat
  | 0, _, u => ([], u)
  | f + 1, m, u => match foundR (L.drop u) with
    | none => ([], u)
    | some (t', n', l) => if t' = t ∧ n' = m + 1 then (l :: (moreR L t f (m + 1) (u + secN l.length)).1, (moreR L t f (m + 1) (u + secN l.length)).2) else ([], u)
/-- The chain of an area: its turn, its snapshot, its transactions, the sectors it uses. -/
def chainR (L : List Bk) : Option (Nat × List Nat × List (List Nat) × Nat) := match foundR L with
  | none => none
  | some (t, n, l) => if n = 0 then some (t, l, (moreR L t L.length 0 (secN l.length)).1, (moreR L t L.length 0 (secN l.length)).2) else none
theorem foundR_fits {L : List Bk} {t n : Nat} {l : List Nat} (h : foundR L = some (t, n, l)) : l.length ≤ 40000 ∧ secN l.length ≤ L.length ∧ 0 < secN l.length := by
  unfold foundR at h
  have hp := partsR_len L
  cases hR : partsR L with
  | nil => rw [hR] at h; cases h
  | cons q r =>
    rw [hR] at h hp
    simp only at h
    split at h
    · cases h
    · rename_i hn
      simp only [Option.some.injEq, Prod.mk.injEq] at h
      obtain ⟨rfl, rfl, rfl⟩ := h
      have h1 : (bytesOf (q :: r)).length ≤ 40000 := by
        rcases Nat.lt_or_ge 40000 (bytesOf (q :: r)).length with h9 | h9
        · exact absurd (.inr (.inl h9)) hn
        · exact h9
      have h2 := (secN_pos h1).1
      refine ⟨h1, ?_, by omega⟩
      have h3 : allSame (q :: r) q.p.t q.p.n (bytesOf (q :: r)) (secN (bytesOf (q :: r)).length) = true := by
        cases h8 : allSame (q :: r) q.p.t q.p.n (bytesOf (q :: r)) (secN (bytesOf (q :: r)).length) with
        | true => rfl
        | false => exact absurd (.inr (.inr h8)) hn
      unfold allSame at h3
      have h4 := List.all_eq_true.1 h3 (secN (bytesOf (q :: r)).length - 1) (List.mem_range.2 (by omega))
      rcases Nat.lt_or_ge (secN (bytesOf (q :: r)).length - 1) (q :: r).length with h5 | h5
      · omega
      · rw [List.getElem?_eq_none h5] at h4
        cases h4
theorem foundR_nums {L : List Bk} (hB : ∀ b ∈ L, b.Byt) {t n : Nat} {l : List Nat} (h : foundR L = some (t, n, l)) : t ≤ 4294967295 ∧ n ≤ 4294967295 ∧ Bys l := by
  have ho := partsR_ok hB
  unfold foundR at h
  cases hR : partsR L with
  | nil => rw [hR] at h; cases h
  | cons q r =>
    rw [hR] at h ho
    simp only at h
    split at h
    · cases h
    · simp only [Option.some.injEq, Prod.mk.injEq] at h
      obtain ⟨rfl, rfl, rfl⟩ := h
      exact ⟨(ho q (by simp)).1.t, (ho q (by simp)).1.n, bytesOf_bys (fun x hx => (ho x hx).1)⟩
/-- Rows of bytes that one's own rows hold. -/
def Txs (w : World) (B : Nat) : List Value → List (List Nat) → Prop
  | [], [] => True
  | v :: vs, l :: ls => w.ownsRow B 5 1 v l.length (l.map byc) ∧ Txs w B vs ls
  | _, _ => False
theorem Txs.snoc {w : World} {B : Nat} {v : Value} {l : List Nat} (hv : w.ownsRow B 5 1 v l.length (l.map byc)) : ∀ {vs : List Value} {ls : List (List Nat)}, Txs w B vs ls → Txs w B (vs ++ [v]) (ls ++ [l])
  | [], [], _ => ⟨hv, trivial⟩
  | _ :: _, _ :: _, h => ⟨h.1, Txs.snoc hv h.2⟩
  | [], _ :: _, h => h.elim
  | _ :: _, [], h => h.elim
theorem Txs.imp {w w' : World} {B B' : Nat} (hk : ∀ (v : Value) (l : List Nat), w.ownsRow B 5 1 v l.length (l.map byc) → w'.ownsRow B' 5 1 v l.length (l.map byc)) : ∀ {vs : List Value} {ls : List (List Nat)}, Txs w B vs ls → Txs w' B' vs ls
  | [], [], _ => trivial
  | _ :: _, _ :: _, h => ⟨hk _ _ h.1, Txs.imp hk h.2⟩
  | [], _ :: _, h => h.elim
  | _ :: _, [], h => h.elim
theorem Txs.len {w : World} {B : Nat} : ∀ {vs : List Value} {ls : List (List Nat)}, Txs w B vs ls → vs.length = ls.length
  | [], [], _ => rfl
  | _ :: _, _ :: _, h => by rw [List.length_cons, List.length_cons, Txs.len h.2]
  | [], _ :: _, h => h.elim
  | _ :: _, [], h => h.elim
theorem elem_blk : Try.prog.elem 72 = 81 := by simp [Program.elem, Try.underlying72]
/-- s[k:] of sectors. -/
def cutSec (x lo : Value) : Sem Value := Instr.sliceAt 72 x (some lo) none none
theorem cutSec_rule (x lo : Value) : Instr.sliceAt 72 x (some lo) none none = cutSec x lo := rfl
theorem cutSec_run {w : World} {a : Option Addr} {len cap : Nat} {L : List Bk} (hl : L.length = len) (hc : len ≤ cap) (hL : Secs w a L) (k : Nat) (hk : k ≤ len) :
    ∃ a', (∀ w2, (cutSec (.slice a len cap) (.int .i64 (k : Int))).run Try.prog w2 = .ok (.slice a' (len - k) (cap - k)) w2) ∧ Secs w a' (L.drop k) := by
  refine ⟨if cap = k then a else a.map (·.add (k * 64)), fun w2 => ?_, ?_⟩
  · unfold cutSec
    have hu : Try.prog.underlying 72 = some (.slice (Try.prog.elem 72)) := by rw [elem_blk]; exact Try.underlying72
    rw [run_sliceAt_slice w2 72 _ _ _ _ hu, run_slice_l w2 72 a len cap hu .i64 (k : Int) (by omega) (by omega)]
    rw [elem_blk]
    go_simp
  · rcases Nat.eq_or_lt_of_le hk with e | h
    · left; rw [List.drop_eq_nil_iff]; omega
    · rw [if_neg (by omega)]
      have hL2 := hL
      rcases hL2 with rfl | ⟨b, off, rfl, hb, hc2⟩
      · simp at hl; omega
      · have := hL.drop rfl k
        show Secs w (some (Addr.add ⟨b, off, none⟩ (k * 64))) _
        rw [Addr.add_lit]
        exact this
theorem sframe_new (w : World) (t n : Nat) (a : Option Addr) (len cap : Nat) : (storeSem 105 (.pointer (some ⟨w.heap.size, 0, none⟩)) (.agg (fcs t n a len cap))).run Try.prog (w.alloc (.cells #[.int .u32 0, .int .u32 0, .slice none 0 0] 105)) = .ok () (w.alloc (.cells (fcs t n a len cap) 105)) := by
  have h := sframe (t' := t) (n' := n) (a' := a) (len' := len) (cap' := cap) (Blk.new w 105 (fcs 0 0 none 0 0))
  have e : (w.alloc (.cells (fcs 0 0 none 0 0) 105)).setRow w.heap.size (fcs t n a len cap) = w.alloc (.cells (fcs t n a len cap) 105) := World.setRow_alloc_new _ _ _ _
  rw [e] at h
  exact h
attribute [local go_sem ↓] load_chain_rule store_chain_rule load_frame_rule store_frame_rule cutSec_rule
theorem chain_none {w : World} {g : Nat} (h : Blk w g 62 (chcs 0 (.slice none 0 0) (.slice none 0 0) 0)) : (storeSem 62 (.pointer (some ⟨g, 0, none⟩)) (.agg #[.int .u32 0, .slice none 0 0, .slice none 0 0, .int .i64 0])).run Try.prog w = .ok () (w.setRow g (chcs 0 (.slice none 0 0) (.slice none 0 0) 0)) :=
  schain (t := 0) (sv := .slice none 0 0) (tv := .slice none 0 0) (u := 0) h (by simp [chcs, Value.oneCell'])
theorem own_nil {w : World} {B n c : Nat} {e : TypeId} {a : Option Addr} {xs : List Value} (h : w.ownsRow B e 1 (.slice a n c) n xs) (ha : a = none) : n = 0 := by
  rcases h.2 with ⟨_, h0⟩ | ⟨g, cap, cur, e1, _⟩
  · exact h0
  · subst ha
    injection e1 with e2
    cases e2
theorem own_base {w : World} {B B' n : Nat} {e : TypeId} {z : Nat} {v : Value} {xs : List Value} (h : w.ownsRow B' e z v n xs) (hB : B ≤ B') : w.ownsRow B e z v n xs := by
  refine ⟨h.1, ?_⟩
  rcases h.2 with h9 | ⟨g, cap, cur, e1, e2, e3⟩
  · exact .inl h9
  · exact .inr ⟨g, cap, cur, e1, Nat.le_trans hB e2, e3⟩
theorem schain_new (w : World) (t u : Nat) (sv tv : Value) (h1 : (chcs t sv tv u).all (·.oneCell') = true) : (storeSem 62 (.pointer (some ⟨w.heap.size, 0, none⟩)) (.agg (chcs t sv tv u))).run Try.prog (w.alloc (.cells #[.int .u32 0, .slice none 0 0, .slice none 0 0, .int .i64 0] 62)) = .ok () (w.alloc (.cells (chcs t sv tv u) 62)) := by
  have h := schain (t := t) (sv := sv) (tv := tv) (u := u) (Blk.new w 62 (chcs 0 (.slice none 0 0) (.slice none 0 0) 0)) h1
  have e : (w.alloc (.cells (chcs 0 (.slice none 0 0) (.slice none 0 0) 0) 62)).setRow w.heap.size (chcs t sv tv u) = w.alloc (.cells (chcs t sv tv u) 62) := World.setRow_alloc_new _ _ _ _
  rw [e] at h
  exact h
theorem own_setrow {w : World} {B n g : Nat} {e t : TypeId} {v : Value} {xs : List Value} {C : Array Value} (h : w.ownsRow B e 1 v n xs) (hb : Blk w g t C) (ht : t ≠ e) (C' : Array Value) : (w.setRow g C').ownsRow B e 1 v n xs :=
  h.kept (row := some g) ⟨rfl, rfl, rfl, by simp, fun k _ hk => setRow_other w g k C' (fun e => hk (by rw [e]))⟩ (.inr (row_ne h hb ht))
theorem moreR_stop {L : List Bk} {t f m u : Nat} (h : foundR (L.drop u) = none ∨ ∃ t1 m1 l1, foundR (L.drop u) = some (t1, m1, l1) ∧ ¬ (t1 = t ∧ m1 = m + 1)) : moreR L t f m u = ([], u) := by
  cases f with
  | zero => rfl
  | succ f =>
    rcases h with h | ⟨t1, m1, l1, h, hn⟩
    · simp only [moreR, h]
    · simp only [moreR, h]
      rw [if_neg hn]
theorem moreR_go {L : List Bk} {t f m u m1 : Nat} {l1 : List Nat} (h : foundR (L.drop u) = some (t, m1, l1)) (hm : m1 = m + 1) : moreR L t (f + 1) m u = (l1 :: (moreR L t f (m + 1) (u + secN l1.length)).1, (moreR L t f (m + 1) (u + secN l1.length)).2) := by
  subst hm
  simp only [moreR, h]
  rw [if_pos ⟨trivial, trivial⟩]
theorem own_kept9 {S : List Nat} {w w' : World} {b n : Nat} {e : TypeId} {v : Value} {xs : List Value} (h : w.ownsRow b e 1 v n xs) (hk : Kept S w w') (hS : ∀ k, v.ownBlock = some k → k ∉ S) : w'.ownsRow b e 1 v n xs := by
  refine ⟨h.1, ?_⟩
  rcases h.2 with h9 | ⟨g, cap, cur, rfl, e2, e3, e4⟩
  · exact .inl h9
  · exact .inr ⟨g, cap, cur, rfl, e2, (hk.block g (Array.getElem?_eq_some_iff.1 e3).1 (hS g rfl)).trans e3, e4⟩
theorem rows_ne {w : World} {B B' n n' k : Nat} {e e' : TypeId} {v v' : Value} {xs xs' : List Value} (h : w.ownsRow B e 1 v n xs) (h' : w.ownsRow B' e' 1 v' n' xs') (he : e ≠ e') (hk : v.ownBlock = some k) : v'.ownBlock ≠ some k := by
  rcases h.2 with ⟨rfl, _⟩ | ⟨q, cap, cur, rfl, _, hg, _⟩
  · simp [Value.ownBlock] at hk
  · have : q = k := by simpa [Value.ownBlock] using hk
    subst this
    exact row_ne h' (show Blk w q e cur from hg) he
/-- Where chainOf stands between two rounds. -/
structure ChAt (L : List Bk) (w wr : World) (t u0 cb fb n ln : Nat) (sv : Value) (l : List Nat) (m u f : Nat) (tv : Value) (vs : List Value) (txs : List (List Nat)) : Prop where
  un : u ≤ n
  fu : n ≤ u + f
  mt : m = txs.length
  mu : m ≤ u
  more : moreR L t n 0 u0 = (txs ++ (moreR L t f m u).1, (moreR L t f m u).2)
  c : Blk wr cb 62 (chcs t sv tv u)
  f : ∃ t' m' a' l' c', Blk wr fb 105 (fcs t' m' a' l' c')
  sv : wr.ownsRow w.heap.size 5 1 sv ln (l.map byc)
  tv : wr.ownsRow w.heap.size 29 1 tv m vs
  tx : Txs wr w.heap.size vs txs
  r : Blk wr w.heap.size 62 (chcs 0 (.slice none 0 0) (.slice none 0 0) 0)
  b : Below w.heap.size w wr
/-- What chainOf says is so. -/
def ChOk (L : List Bk) (B : Nat) (w' : World) (v : Value) : Prop := (chainR L = none ∧ v = .agg (chcs 0 (.slice none 0 0) (.slice none 0 0) 0)) ∨
  ∃ t l txs u sv tv vs, chainR L = some (t, l, txs, u) ∧ v = .agg (chcs t sv tv u) ∧ w'.ownsRow B 5 1 sv l.length (l.map byc) ∧ w'.ownsRow B 29 1 tv txs.length vs ∧ Txs w' B vs txs ∧ u ≤ L.length
set_option maxRecDepth 100000 in
set_option maxHeartbeats 4000000 in
theorem chainof_any {w : World} {a : Option Addr} {L : List Bk} (hL : Secs w a L) (hB : ∀ b ∈ L, b.Byt) (hl : L.length ≤ 1000) (cap : Nat) (hcap : L.length ≤ cap) : Calls Try.prog 57 #[.slice a L.length cap] w fun e w' =>
    Below w.heap.size w w' ∧ ∃ v, e = .returned v ∧ ChOk L w.heap.size w' v := by
  have hfa := fun (w' : World) (k : Below w.heap.size w w') => frameat_any (hL.later k) hB hl cap
  obtain ⟨n, hn⟩ : ∃ n, L.length = n := ⟨_, rfl⟩
  have HL := Lib.hid (And.intro hL (And.intro hB hn))
  rw [hn] at hl hcap hfa ⊢
  clear hL hB hn
  go_enter Try.func57, Try.ntmps57
  go_wp2_with fail
  obtain ⟨W1, hW1⟩ : ∃ W1, w.alloc (.cells #[.int .u32 0, .slice none 0 0, .slice none 0 0, .int .i64 0] 62) = W1 := ⟨_, rfl⟩
  have b1 : Blk W1 w.heap.size 62 (chcs 0 (.slice none 0 0) (.slice none 0 0) 0) := by rw [← hW1]; exact Blk.new _ _ _
  have hb1 : Below w.heap.size w W1 := by rw [← hW1]; exact (Below.refl _ _).alloc (Nat.le_refl _) _
  rw [hW1]
  refine (hfa W1 hb1).mono ?_
  rintro e W2 ⟨hb2, he⟩
  have b2 := b1.kept (Kept.of_below [] hb2) (by simp)
  have hb02 := bel_lat hb1 hb2
  rcases he with ⟨hnone, rfl⟩ | ⟨t, m0, l, fa, fc, hsome, rfl, hown⟩
  · have hsn := sframe_new W2 0 0 none 0 0
    obtain ⟨W3, hW3⟩ : ∃ W3, W2.alloc (.cells (fcs 0 0 none 0 0) 105) = W3 := ⟨_, rfl⟩
    rw [hW3] at hsn
    obtain ⟨FC, hFC⟩ : ∃ FC, fcs 0 0 none 0 0 = FC := ⟨_, rfl⟩
    rw [hFC] at hsn ⊢
    have b3 : Blk W3 w.heap.size 62 (chcs 0 (.slice none 0 0) (.slice none 0 0) 0) := by rw [← hW3]; exact b2.alloc _
    have hst0 := chain_none b3
    have b4 := b3.row (chcs 0 (.slice none 0 0) (.slice none 0 0) 0)
    have hb4 : Below w.heap.size w (W3.setRow w.heap.size (chcs 0 (.slice none 0 0) (.slice none 0 0) 0)) := by
      rw [← hW3]
      exact below_rowset (hb02.alloc hb02.size _) (Nat.le_refl _) _
    have H4 := Lib.hid (And.intro b4 (And.intro hb4 hnone))
    clear b1 hb1 hb2 b2 hb02 b3 b4 hb4 hnone hFC hfa
    go_wp2_with fail
    refine bodyPost_ret (results_cell_row rfl _ _ w.heap.size 62 _ (0, 0) _ rfl H4.out.1 Try.underlying62 rfl (s_chain _ _ _ _)) rfl ?_
    refine ⟨H4.out.2.1, _, rfl, .inl ⟨?_, rfl⟩⟩
    unfold chainR
    rw [H4.out.2.2]
  · have hsn := sframe_new W2 t m0 fa l.length fc
    obtain ⟨W3, hW3⟩ : ∃ W3, W2.alloc (.cells (fcs t m0 fa l.length fc) 105) = W3 := ⟨_, rfl⟩
    rw [hW3] at hsn
    have f3 : Blk W3 W2.heap.size 105 (fcs t m0 fa l.length fc) := by rw [← hW3]; exact Blk.new _ _ _
    have hb23 : Below W2.heap.size W2 W3 := by rw [← hW3]; exact (Below.refl _ _).alloc (Nat.le_refl _) _
    have b3 := b2.kept (Kept.of_below [] hb23) (by simp)
    have hb03 := bel_lat hb02 hb23
    have hown3 := owns_later2 hown hb23
    have hs02 := hb02.size
    have hsw : w.heap.size < W2.heap.size := Nat.lt_of_lt_of_le b1.lt hb2.size
    have hs01 := hb1.size
    have hfn := foundR_nums HL.out.2.1 hsome
    have hff := foundR_fits hsome
    rw [HL.out.2.2] at hff
    obtain ⟨ln, hln⟩ : ∃ ln, l.length = ln := ⟨_, rfl⟩
    rw [hln] at hsn f3 hown3 hff
    have c0 : W3.cell? ⟨W2.heap.size, 0, none⟩ = some (.int .u32 (t : Int)) := f3.cell 0
    have c1 : W3.cell? ⟨W2.heap.size, 1, none⟩ = some (.int .u32 (m0 : Int)) := f3.cell 1
    have c2 : W3.cell? ⟨W2.heap.size, 2, none⟩ = some (.slice fa ln fc) := f3.cell 2
    obtain ⟨FC, hFC⟩ : ∃ FC, fcs t m0 fa ln fc = FC := ⟨_, rfl⟩
    rw [hFC] at hsn
    have H3 := Lib.hid (And.intro f3 (And.intro b3 (And.intro hb03 (And.intro hown3 (And.intro hfn (And.intro hff (And.intro hsome hln)))))))
    have HFC := Lib.hid hFC
    have hst0 := chain_none b3
    clear b1 hb1 hb2 b2 hb02 b3 f3 hb03 hown hown3 hfn hff hsome hb23 hW3 hfa
    rw [hln]
    clear hln
    rw [hFC]
    clear hFC
    by_cases hm0 : m0 = 0
    · have hmi : ((m0 : Int) == 0) = true := by rw [hm0]; rfl
      have Hm := Lib.hid hm0
      clear hm0 hst0
      go_wp2_with fail
      obtain ⟨fa5, fc5, he5, hle5, hli5, -⟩ := own_bytes_lies H3.out.2.2.2.1 H3.out.2.2.2.2.2.2.2
      cases he5
      refine (begun_any t H3.out.2.2.2.2.1.1 fa ln fc l W3 hli5 H3.out.2.2.2.2.2.2.2 (by rw [← H3.out.2.2.2.2.2.2.2]; exact (foundR_fits H3.out.2.2.2.2.2.2.1).1) (own_nil H3.out.2.2.2.1)).mono ?_
      rintro e W4 ⟨sv, rfl, hsv, hb4⟩
      clear hli5
      obtain ⟨sa, sc, rfl⟩ := rowslice hsv
      have hsn4 := schain_new W4 t (secN ln) (.slice sa ln sc) (.slice none 0 0) (by simp [chcs, Value.oneCell'])
      obtain ⟨W5, hW5⟩ : ∃ W5, W4.alloc (.cells (chcs t (.slice sa ln sc) (.slice none 0 0) (secN ln)) 62) = W5 := ⟨_, rfl⟩
      rw [hW5] at hsn4
      have hb45 : Below W4.heap.size W4 W5 := by rw [← hW5]; exact (Below.refl _ _).alloc (Nat.le_refl _) _
      have hb35 := bel_lat hb4 hb45
      have k5 : Blk W5 W4.heap.size 62 (chcs t (.slice sa ln sc) (.slice none 0 0) (secN ln)) := by rw [← hW5]; exact Blk.new _ _ _
      have hff := H3.out.2.2.2.2.2.1
      have hst : ChAt L w W5 t (secN ln) W4.heap.size W2.heap.size n ln (.slice sa ln sc) l 0 (secN ln) n (.slice none 0 0) [] [] := by
        have h1 : secN ln ≤ n := hff.2.1
        exact ⟨h1, by omega, rfl, Nat.zero_le _, rfl, k5, ⟨_, _, _, _, _, H3.out.1.kept (Kept.of_below [] hb35) (by simp)⟩, own_base (owns_later2 hsv hb45) H3.out.2.2.1.size, World.ownsRow_nil _ _ _ _, trivial, H3.out.2.1.kept (Kept.of_below [] hb35) (by simp), bel_lat H3.out.2.2.1 hb35⟩
      have hw4 : w.heap.size < W4.heap.size := by have := H3.out.1.lt; have := hb4.size; omega
      have hcf : W2.heap.size ≠ W4.heap.size := by have := H3.out.1.lt; have := hb4.size; omega
      obtain ⟨CC, hCC⟩ : ∃ CC, chcs t (.slice sa ln sc) (.slice none 0 0) (secN ln) = CC := ⟨_, rfl⟩
      rw [hCC] at hsn4 ⊢
      have HS := Lib.hid (And.intro hst hcf)
      clear hsv hb4 hb45 hb35 k5 hff hst hCC hW5
      go_wp2_with fail
      go_loopw [4] (fun _ wr => ∃ (m u f : Nat) (tv : Value) (vs : List Value) (txs : List (List Nat)), ChAt L w wr t (secN ln) W4.heap.size W2.heap.size n ln (.slice sa ln sc) l m u f tv vs txs) (fun _ wr => n - (intOf ((wr.cell? ⟨W4.heap.size, 3, none⟩).getD undef)).toNat)
      case atStart => exact ⟨_, _, _, _, _, _, HS.out.1⟩
      case round =>
        obtain ⟨m, u, f, tv, vs, txs, hc⟩ := hrel
        obtain ⟨ta, tc, rfl⟩ := rowslice hc.tv
        have cu : wr.cell? ⟨W4.heap.size, 3, none⟩ = some (.int .i64 (u : Int)) := hc.c.cell 3
        obtain ⟨a5, hcut, hsec⟩ := cutSec_run HL.out.2.2 hcap (HL.out.1.later hc.b) u hc.un
        have hfa := frameat_any hsec (fun b hb => HL.out.2.1 b (List.mem_of_mem_drop hb)) (by rw [List.length_drop, HL.out.2.2]; omega) (cap - u)
        rw [List.length_drop, HL.out.2.2] at hfa
        have HC := Lib.hid hc
        clear hc hsec
        go_wp2_with fail
        refine hfa.mono ?_
        rintro e W6 ⟨hb6, he⟩
        clear hfa hcut cu
        have hc := HC.out
        rcases he with ⟨hfr, rfl⟩ | ⟨t1, m1, l1, fa1, fc1, hfr, rfl, hown1⟩
        · have hfr := hfr
          obtain ⟨t9, m9, a9, l9, c9, hf⟩ := hc.f
          have hf6 := hf.kept (Kept.of_below [] hb6) (by simp)
          have hc6 := hc.c.kept (Kept.of_below [] hb6) (by simp)
          have hr6 := hc.r.kept (Kept.of_below [] hb6) (by simp)
          have hsf := sframe (t' := 0) (n' := 0) (a' := none) (len' := 0) (cap' := 0) hf6
          obtain ⟨W7, hW7⟩ : ∃ W7, W6.setRow W2.heap.size (fcs 0 0 none 0 0) = W7 := ⟨_, rfl⟩
          rw [hW7] at hsf
          have f7 : Blk W7 W2.heap.size 105 (fcs 0 0 none 0 0) := by rw [← hW7]; exact hf6.row _
          have c7 : Blk W7 W4.heap.size 62 (chcs t (.slice sa ln sc) (.slice ta m tc) u) := by rw [← hW7]; exact (setRow_other _ _ _ _ (Ne.symm HS.out.2)).trans hc6
          have r7 : Blk W7 w.heap.size 62 (chcs 0 (.slice none 0 0) (.slice none 0 0) 0) := by rw [← hW7]; exact (setRow_other _ _ _ _ (by omega)).trans hr6
          have b07 : Below w.heap.size w W7 := by rw [← hW7]; exact below_rowset (bel_lat hc.b hb6) hs02 _
          have hnx := next_of t (.slice sa ln sc) ta m tc u (by have := hc.mu; have := hc.un; omega) none 0 0 W7
          have lc7 := lchain c7
          have ko : ∀ (e : TypeId) (v : Value) (k : Nat) (xs : List Value), 105 ≠ e → wr.ownsRow w.heap.size e 1 v k xs → W7.ownsRow w.heap.size e 1 v k xs := fun e v k xs h1 h => by rw [← hW7]; exact own_setrow (owns_later2 h hb6) hf6 h1 _
          have H7 := Lib.hid (And.intro hc (And.intro hb6 (And.intro f7 (And.intro c7 (And.intro r7 (And.intro b07 (And.intro ko hfr)))))))
          have hmn : m ≤ n := by have := hc.mu; have := hc.un; omega
          clear hf hc hb6 hf6 hc6 hr6 f7 c7 r7 b07 ko hfr hW7
          obtain ⟨F1, hF1⟩ : ∃ F1, fcs 0 0 none 0 0 = F1 := ⟨_, rfl⟩
          obtain ⟨F2, hF2⟩ : ∃ F2, fcs t (m + 1) none 0 0 = F2 := ⟨_, rfl⟩
          obtain ⟨C2, hC2⟩ : ∃ C2, chcs t (.slice sa ln sc) (.slice ta m tc) u = C2 := ⟨_, rfl⟩
          rw [hF1] at hsf ⊢
          rw [hC2, hF2] at hnx
          rw [hC2] at lc7
          have HF := Lib.hid (And.intro hF1 (And.intro hF2 hC2))
          clear hF1 hF2 hC2
          go_wp2_with fail
          refine hnx.mono ?_
          rintro e W8 ⟨rfl, hb8⟩
          clear hsf hnx lc7
          have hsn8 := sframe_new W8 t (m + 1) none 0 0
          obtain ⟨W9, hW9⟩ : ∃ W9, W8.alloc (.cells (fcs t (m + 1) none 0 0) 105) = W9 := ⟨_, rfl⟩
          have n9 : Blk W9 W8.heap.size 105 (fcs t (m + 1) none 0 0) := by rw [← hW9]; exact Blk.new _ _ _
          have hb89 : Below W8.heap.size W8 W9 := by rw [← hW9]; exact (Below.refl _ _).alloc (Nat.le_refl _) _
          have b79 := bel_lat hb8 hb89
          rw [hW9, HF.out.2.1] at hsn8
          have f9 := H7.out.2.2.1.kept (Kept.of_below [] b79) (by simp)
          have c9 := H7.out.2.2.2.1.kept (Kept.of_below [] b79) (by simp)
          have r9 := H7.out.2.2.2.2.1.kept (Kept.of_below [] b79) (by simp)
          have b09 := bel_lat H7.out.2.2.2.2.2.1 b79
          have g0 : W9.cell? ⟨W2.heap.size, 0, none⟩ = some (.int .u32 (0 : Int)) := f9.cell 0
          have g1 : W9.cell? ⟨W2.heap.size, 1, none⟩ = some (.int .u32 (0 : Int)) := f9.cell 1
          have g2 : W9.cell? ⟨W2.heap.size, 2, none⟩ = some (.slice none 0 0) := f9.cell 2
          have q0 : W9.cell? ⟨W8.heap.size, 0, none⟩ = some (.int .u32 (t : Int)) := n9.cell 0
          have q1 : W9.cell? ⟨W8.heap.size, 1, none⟩ = some (.int .u32 ((m : Int) + 1)) := n9.cell 1
          have lc9 := lchain c9
          have st9 := schain (t := t) (sv := .slice sa ln sc) (tv := .slice ta m tc) (u := u) r9 (by simp [chcs, Value.oneCell'])
          have r10 := r9.row (chcs t (.slice sa ln sc) (.slice ta m tc) u)
          have b10 : Below w.heap.size w (W9.setRow w.heap.size (chcs t (.slice sa ln sc) (.slice ta m tc) u)) := below_rowset b09 (Nat.le_refl _) _
          have k10 : ∀ (e : TypeId) (v : Value) (k : Nat) (xs : List Value), 105 ≠ e → 62 ≠ e → wr.ownsRow w.heap.size e 1 v k xs → (W9.setRow w.heap.size (chcs t (.slice sa ln sc) (.slice ta m tc) u)).ownsRow w.heap.size e 1 v k xs := fun e v k xs h1 h2 h => own_setrow (owns_later2 (H7.out.2.2.2.2.2.2.1 e v k xs h1 h) b79) r9 h2 _
          rw [HF.out.2.2] at lc9 st9 r10 b10 k10
          have H9 := Lib.hid (And.intro c9 (And.intro r10 (And.intro b10 (And.intro k10 (And.intro b79 (And.intro b09 (And.intro f9 r9)))))))
          clear hW9 n9 hb89 hb8 f9 c9 r9 b09 r10 b10 k10 b79
          go_wp2_with fail
          refine bodyPost_ret (results_cell_row rfl _ _ w.heap.size 62 _ (0, 0) _ rfl H9.out.2.1 Try.underlying62 rfl (by rw [← HF.out.2.2]; exact s_chain _ _ _ _)) rfl ?_
          refine ⟨H9.out.2.2.1, _, rfl, .inr ⟨t, l, txs, u, _, _, vs, ?_, by rw [HF.out.2.2], ?_, ?_, ?_, ?_⟩⟩
          · have h1 := H7.out.1.more
            rw [moreR_stop (.inl H7.out.2.2.2.2.2.2.2), List.append_nil] at h1
            unfold chainR
            rw [H3.out.2.2.2.2.2.2.1]
            simp only
            rw [if_pos Hm.out, H3.out.2.2.2.2.2.2.2, HL.out.2.2, h1]
          · rw [H3.out.2.2.2.2.2.2.2]; exact H9.out.2.2.2.1 _ _ _ _ (by decide) (by decide) H7.out.1.sv
          · rw [← H7.out.1.mt]; exact H9.out.2.2.2.1 _ _ _ _ (by decide) (by decide) H7.out.1.tv
          · exact Txs.imp (fun v x h => H9.out.2.2.2.1 _ _ _ _ (by decide) (by decide) h) H7.out.1.tx
          · rw [HL.out.2.2]; exact H7.out.1.un
        · have hfr := hfr
          obtain ⟨t9, m9, a9, l9, c9, hf⟩ := hc.f
          have hf6 := hf.kept (Kept.of_below [] hb6) (by simp)
          have hc6 := hc.c.kept (Kept.of_below [] hb6) (by simp)
          have hr6 := hc.r.kept (Kept.of_below [] hb6) (by simp)
          have hsf := sframe (t' := t1) (n' := m1) (a' := fa1) (len' := l1.length) (cap' := fc1) hf6
          obtain ⟨W7, hW7⟩ : ∃ W7, W6.setRow W2.heap.size (fcs t1 m1 fa1 l1.length fc1) = W7 := ⟨_, rfl⟩
          rw [hW7] at hsf
          have f7 : Blk W7 W2.heap.size 105 (fcs t1 m1 fa1 l1.length fc1) := by rw [← hW7]; exact hf6.row _
          have c7 : Blk W7 W4.heap.size 62 (chcs t (.slice sa ln sc) (.slice ta m tc) u) := by rw [← hW7]; exact (setRow_other _ _ _ _ (Ne.symm HS.out.2)).trans hc6
          have r7 : Blk W7 w.heap.size 62 (chcs 0 (.slice none 0 0) (.slice none 0 0) 0) := by rw [← hW7]; exact (setRow_other _ _ _ _ (by omega)).trans hr6
          have b07 : Below w.heap.size w W7 := by rw [← hW7]; exact below_rowset (bel_lat hc.b hb6) hs02 _
          have hnx := next_of t (.slice sa ln sc) ta m tc u (by have := hc.mu; have := hc.un; omega) none 0 0 W7
          have lc7 := lchain c7
          have ko : ∀ (e : TypeId) (v : Value) (k : Nat) (xs : List Value), 105 ≠ e → wr.ownsRow w.heap.size e 1 v k xs → W7.ownsRow w.heap.size e 1 v k xs := fun e v k xs h1 h => by rw [← hW7]; exact own_setrow (owns_later2 h hb6) hf6 h1 _
          have hown7 : W7.ownsRow w.heap.size 5 1 (.slice fa1 l1.length fc1) l1.length (l1.map byc) := by rw [← hW7]; exact own_setrow (own_base hown1 hc.b.size) hf6 (by decide) _
          have HO := Lib.hid hown7
          clear hown1 hown7
          have H7 := Lib.hid (And.intro hc (And.intro hb6 (And.intro f7 (And.intro c7 (And.intro r7 (And.intro b07 (And.intro ko hfr)))))))
          have hmn : m ≤ n := by have := hc.mu; have := hc.un; omega
          clear hf hc hb6 hf6 hc6 hr6 f7 c7 r7 b07 ko hfr hW7
          obtain ⟨F1, hF1⟩ : ∃ F1, fcs t1 m1 fa1 l1.length fc1 = F1 := ⟨_, rfl⟩
          obtain ⟨F2, hF2⟩ : ∃ F2, fcs t (m + 1) none 0 0 = F2 := ⟨_, rfl⟩
          obtain ⟨C2, hC2⟩ : ∃ C2, chcs t (.slice sa ln sc) (.slice ta m tc) u = C2 := ⟨_, rfl⟩
          rw [hF1] at hsf ⊢
          rw [hC2, hF2] at hnx
          rw [hC2] at lc7
          have HF := Lib.hid (And.intro hF1 (And.intro hF2 hC2))
          clear hF1 hF2 hC2
          go_wp2_with fail
          refine hnx.mono ?_
          rintro e W8 ⟨rfl, hb8⟩
          clear hsf hnx lc7
          have hsn8 := sframe_new W8 t (m + 1) none 0 0
          obtain ⟨W9, hW9⟩ : ∃ W9, W8.alloc (.cells (fcs t (m + 1) none 0 0) 105) = W9 := ⟨_, rfl⟩
          have n9 : Blk W9 W8.heap.size 105 (fcs t (m + 1) none 0 0) := by rw [← hW9]; exact Blk.new _ _ _
          have hb89 : Below W8.heap.size W8 W9 := by rw [← hW9]; exact (Below.refl _ _).alloc (Nat.le_refl _) _
          have b79 := bel_lat hb8 hb89
          rw [hW9, HF.out.2.1] at hsn8
          have f9 := H7.out.2.2.1.kept (Kept.of_below [] b79) (by simp)
          have c9 := H7.out.2.2.2.1.kept (Kept.of_below [] b79) (by simp)
          have r9 := H7.out.2.2.2.2.1.kept (Kept.of_below [] b79) (by simp)
          have b09 := bel_lat H7.out.2.2.2.2.2.1 b79
          have g0 : W9.cell? ⟨W2.heap.size, 0, none⟩ = some (.int .u32 (t1 : Int)) := f9.cell 0
          have g1 : W9.cell? ⟨W2.heap.size, 1, none⟩ = some (.int .u32 (m1 : Int)) := f9.cell 1
          have g2 : W9.cell? ⟨W2.heap.size, 2, none⟩ = some (.slice fa1 l1.length fc1) := f9.cell 2
          have q0 : W9.cell? ⟨W8.heap.size, 0, none⟩ = some (.int .u32 (t : Int)) := n9.cell 0
          have q1 : W9.cell? ⟨W8.heap.size, 1, none⟩ = some (.int .u32 ((m : Int) + 1)) := n9.cell 1
          have lc9 := lchain c9
          have st9 := schain (t := t) (sv := .slice sa ln sc) (tv := .slice ta m tc) (u := u) r9 (by simp [chcs, Value.oneCell'])
          have r10 := r9.row (chcs t (.slice sa ln sc) (.slice ta m tc) u)
          have b10 : Below w.heap.size w (W9.setRow w.heap.size (chcs t (.slice sa ln sc) (.slice ta m tc) u)) := below_rowset b09 (Nat.le_refl _) _
          have k10 : ∀ (e : TypeId) (v : Value) (k : Nat) (xs : List Value), 105 ≠ e → 62 ≠ e → wr.ownsRow w.heap.size e 1 v k xs → (W9.setRow w.heap.size (chcs t (.slice sa ln sc) (.slice ta m tc) u)).ownsRow w.heap.size e 1 v k xs := fun e v k xs h1 h2 h => own_setrow (owns_later2 (H7.out.2.2.2.2.2.2.1 e v k xs h1 h) b79) r9 h2 _
          rw [HF.out.2.2] at lc9 st9 r10 b10 k10
          have H9 := Lib.hid (And.intro c9 (And.intro r10 (And.intro b10 (And.intro k10 (And.intro b79 (And.intro b09 (And.intro f9 r9)))))))
          clear hW9 n9 hb89 hb8 f9 c9 r9 b09 r10 b10 k10 b79
          by_cases ht1 : t1 = t
          · by_cases hm1 : m1 = m + 1
            · have e1 : ((t1 : Int) != (t : Int)) = false := by rw [ht1]; simp
              have e2 : ((m1 : Int) != ((m : Int) + 1)) = false := by rw [hm1]; simp
              have HQ := Lib.hid (And.intro ht1 hm1)
              clear ht1 hm1
              go_wp2_with fail
              have hc9 := H9.out.1
              have h7 := H7.out.2.2.2.2.2.2.1
              have htv9 : W9.ownsRow w.heap.size 29 1 (.slice ta m tc) m vs := owns_later2 (h7 _ _ _ _ (by decide) H7.out.1.tv) H9.out.2.2.2.2.1
              have hsv9 : W9.ownsRow w.heap.size 5 1 (.slice sa ln sc) ln (l.map byc) := owns_later2 (h7 _ _ _ _ (by decide) H7.out.1.sv) H9.out.2.2.2.2.1
              have htx9 : Txs W9 w.heap.size vs txs := Txs.imp (fun v x h => owns_later2 (h7 _ _ _ _ (by decide) h) H9.out.2.2.2.2.1) H7.out.1.tx
              have ho9 := owns_later2 HO.out H9.out.2.2.2.2.1
              obtain ⟨fa6, fc6, he6, -, hli6, -⟩ := own_bytes_lies ho9 rfl
              cases he6
              have hfr := H7.out.2.2.2.2.2.2.2
              have hfit := foundR_fits hfr
              rw [List.length_drop, HL.out.2.2] at hfit
              have hun := H7.out.1.un
              have hmu := H7.out.1.mu
              have hfu := H7.out.1.fu
              have hb9s := H9.out.2.2.2.2.2.1.size
              have hTc := row_ne htv9 hc9 (by decide)
              refine (add_any hc9 (by simp [chcs]) (tv := .slice ta m tc) (u := u) rfl rfl htv9 hTc (by omega) (by omega) hb9s fa1 l1.length fc1 l1 hli6 rfl hfit.1 (own_nil ho9)).mono ?_
              rintro e W10 ⟨rfl, v, tv', hv, htv', hc10, hk10, -⟩
              have m1c : W10.cell? ⟨W4.heap.size, 3, none⟩ = some (.int .i64 ((u + secN l1.length : Nat) : Int)) := hc10.cell 3
              have m0c : wr.cell? ⟨W4.heap.size, 3, none⟩ = some (.int .i64 (u : Int)) := H7.out.1.c.cell 3
              have hkS : ∀ (g : Nat) (T : TypeId) (C : Array Value), Blk W9 g T C → T ≠ 29 → g ≠ W4.heap.size → Blk W10 g T C := fun g T C hg hT hne => hg.kept hk10 (by
                simp only [List.mem_cons, Option.mem_toList, not_or]
                exact ⟨hne, fun h => row_ne htv9 hg hT h⟩)
              have hko : ∀ (v : Value) (k : Nat) (xs : List Value), W9.ownsRow w.heap.size 5 1 v k xs → W10.ownsRow w.heap.size 5 1 v k xs := fun v k xs h => own_kept9 h hk10 (fun j hj => by
                simp only [List.mem_cons, Option.mem_toList, not_or]
                exact ⟨fun e => row_ne h hc9 (by decide) (by rw [hj, e]), rows_ne h htv9 (by decide) hj⟩)
              obtain ⟨f', rfl⟩ : ∃ f', f = f' + 1 := ⟨f - 1, by omega⟩
              have hrel2 : ChAt L w W10 t (secN ln) W4.heap.size W2.heap.size n ln (.slice sa ln sc) l (m + 1) (u + secN l1.length) f' tv' (vs ++ [v]) (txs ++ [l1]) := by
                refine ⟨by omega, by omega, by rw [List.length_append, ← H7.out.1.mt]; rfl, by omega, ?_, hc10, ⟨_, _, _, _, _, hkS _ _ _ H9.out.2.2.2.2.2.2.1 (by decide) HS.out.2⟩, hko _ _ _ hsv9, htv', Txs.snoc (own_base hv hb9s) (Txs.imp (fun v x h => hko _ _ _ h) htx9), hkS _ _ _ H9.out.2.2.2.2.2.2.2 (by decide) (by omega), H9.out.2.2.2.2.2.1.trans (hk10.below (by
                  intro i hi
                  simp only [List.mem_cons, Option.mem_toList] at hi
                  rcases hi with rfl | hi
                  · omega
                  · exact (htv9.lt i hi).1) hb9s)⟩
                have h1 := H7.out.1.more
                rw [HQ.out.1] at hfr
                rw [moreR_go hfr HQ.out.2] at h1
                rw [h1]
                simp
              have HR := Lib.hid hrel2
              clear hc9 h7 htv9 hsv9 htx9 ho9 hli6 hfr hTc hv htv' hc10 hk10 hkS hko hrel2
              go_wp2_with fail
              go_roundw
              case rel => exact ⟨_, _, _, _, _, _, HR.out⟩
              case measure =>
                rw [m1c, m0c]
                simp [intOf]
                omega
            · have e1 : ((t1 : Int) != (t : Int)) = false := by rw [ht1]; simp
              have e2 : ((m1 : Int) != ((m : Int) + 1)) = true := by simp; omega
              have HQ := Lib.hid (And.intro ht1 hm1)
              clear ht1 hm1
              go_wp2_with fail
              refine bodyPost_ret (results_cell_row rfl _ _ w.heap.size 62 _ (0, 0) _ rfl H9.out.2.1 Try.underlying62 rfl (by rw [← HF.out.2.2]; exact s_chain _ _ _ _)) rfl ?_
              refine ⟨H9.out.2.2.1, _, rfl, .inr ⟨t, l, txs, u, _, _, vs, ?_, by rw [HF.out.2.2], ?_, ?_, ?_, ?_⟩⟩
              · have h1 := H7.out.1.more
                rw [moreR_stop (.inr ⟨t1, m1, l1, H7.out.2.2.2.2.2.2.2, fun h => HQ.out.2 h.2⟩), List.append_nil] at h1
                unfold chainR
                rw [H3.out.2.2.2.2.2.2.1]
                simp only
                rw [if_pos Hm.out, H3.out.2.2.2.2.2.2.2, HL.out.2.2, h1]
              · rw [H3.out.2.2.2.2.2.2.2]; exact H9.out.2.2.2.1 _ _ _ _ (by decide) (by decide) H7.out.1.sv
              · rw [← H7.out.1.mt]; exact H9.out.2.2.2.1 _ _ _ _ (by decide) (by decide) H7.out.1.tv
              · exact Txs.imp (fun v x h => H9.out.2.2.2.1 _ _ _ _ (by decide) (by decide) h) H7.out.1.tx
              · rw [HL.out.2.2]; exact H7.out.1.un
          · have e1 : ((t1 : Int) != (t : Int)) = true := by simp; omega
            have HQ := Lib.hid ht1
            clear ht1
            go_wp2_with fail
            refine bodyPost_ret (results_cell_row rfl _ _ w.heap.size 62 _ (0, 0) _ rfl H9.out.2.1 Try.underlying62 rfl (by rw [← HF.out.2.2]; exact s_chain _ _ _ _)) rfl ?_
            refine ⟨H9.out.2.2.1, _, rfl, .inr ⟨t, l, txs, u, _, _, vs, ?_, by rw [HF.out.2.2], ?_, ?_, ?_, ?_⟩⟩
            · have h1 := H7.out.1.more
              rw [moreR_stop (.inr ⟨t1, m1, l1, H7.out.2.2.2.2.2.2.2, fun h => HQ.out h.1⟩), List.append_nil] at h1
              unfold chainR
              rw [H3.out.2.2.2.2.2.2.1]
              simp only
              rw [if_pos Hm.out, H3.out.2.2.2.2.2.2.2, HL.out.2.2, h1]
            · rw [H3.out.2.2.2.2.2.2.2]; exact H9.out.2.2.2.1 _ _ _ _ (by decide) (by decide) H7.out.1.sv
            · rw [← H7.out.1.mt]; exact H9.out.2.2.2.1 _ _ _ _ (by decide) (by decide) H7.out.1.tv
            · exact Txs.imp (fun v x h => H9.out.2.2.2.1 _ _ _ _ (by decide) (by decide) h) H7.out.1.tx
            · rw [HL.out.2.2]; exact H7.out.1.un
    · have hmi : ((m0 : Int) == 0) = false := by rw [beq_eq_false_iff_ne]; omega
      have b4 := H3.out.2.1.row (chcs 0 (.slice none 0 0) (.slice none 0 0) 0)
      have hb4 : Below w.heap.size w (W3.setRow w.heap.size (chcs 0 (.slice none 0 0) (.slice none 0 0) 0)) := below_rowset H3.out.2.2.1 (Nat.le_refl _) _
      have H4 := Lib.hid (And.intro b4 hb4)
      have Hm := Lib.hid hm0
      clear b4 hb4 hm0
      go_wp2_with fail
      refine bodyPost_ret (results_cell_row rfl _ _ w.heap.size 62 _ (0, 0) _ rfl H4.out.1 Try.underlying62 rfl (s_chain _ _ _ _)) rfl ?_
      refine ⟨H4.out.2, _, rfl, .inl ⟨?_, rfl⟩⟩
      unfold chainR
      rw [H3.out.2.2.2.2.2.2.1]
      simp only
      rw [if_neg Hm.out]

end Go.Proofs.Ytelpihlifdfgoaa
namespace Go.Proofs.Ytelpihlifdfgoaa
open Go.RowKit Go.Shelf
set_option linter.unusedVariables false
/-- These cells are that chain, or no chain. -/
def ChIs (w : World) (B : Nat) (ch : Option (Nat × List Nat × List (List Nat) × Nat)) (t : Nat) (sv tv : Value) (u : Nat) : Prop :=
  (ch = none ∧ t = 0 ∧ sv = .slice none 0 0 ∧ tv = .slice none 0 0 ∧ u = 0) ∨ ∃ l txs vs, ch = some (t, l, txs, u) ∧ w.ownsRow B 5 1 sv l.length (l.map byc) ∧ w.ownsRow B 29 1 tv txs.length vs ∧ Txs w B vs txs
def turnOf (ch : Option (Nat × List Nat × List (List Nat) × Nat)) : Nat := match ch with
  | none => 0
  | some x => x.1
theorem ChIs.turn {w : World} {B t u : Nat} {ch : Option (Nat × List Nat × List (List Nat) × Nat)} {sv tv : Value} (h : ChIs w B ch t sv tv u) : turnOf ch = t := by
  rcases h with ⟨rfl, rfl, _⟩ | ⟨l, txs, vs, rfl, _⟩ <;> rfl
theorem ChIs.imp {w w' : World} {B B' t u : Nat} {ch : Option (Nat × List Nat × List (List Nat) × Nat)} {sv tv : Value} (h : ChIs w B ch t sv tv u) (hk : ∀ (e : TypeId) (v : Value) (n : Nat) (xs : List Value), e = 5 ∨ e = 29 → w.ownsRow B e 1 v n xs → w'.ownsRow B' e 1 v n xs) : ChIs w' B' ch t sv tv u := by
  rcases h with h | ⟨l, txs, vs, h1, h2, h3, h4⟩
  · exact .inl h
  · exact .inr ⟨l, txs, vs, h1, hk _ _ _ _ (.inl rfl) h2, hk _ _ _ _ (.inr rfl) h3, Txs.imp (fun v l h => hk _ _ _ _ (.inl rfl) h) h4⟩
theorem ChOk.is {L : List Bk} {B : Nat} {w : World} {v : Value} (h : ChOk L B w v) : ∃ t sv tv u, v = .agg (chcs t sv tv u) ∧ ChIs w B (chainR L) t sv tv u := by
  rcases h with ⟨h1, rfl⟩ | ⟨t, l, txs, u, sv, tv, vs, h1, rfl, h2, h3, h4, _⟩
  · exact ⟨0, _, _, 0, rfl, .inl ⟨h1, rfl, rfl, rfl, rfl⟩⟩
  · exact ⟨t, sv, tv, u, rfl, .inr ⟨l, txs, vs, h1, h2, h3, h4⟩⟩
theorem ChIs.slices {w : World} {B t u : Nat} {ch : Option (Nat × List Nat × List (List Nat) × Nat)} {sv tv : Value} (h : ChIs w B ch t sv tv u) : (∃ a n c, sv = .slice a n c) ∧ ∃ a n c, tv = .slice a n c := by
  rcases h with ⟨_, _, rfl, rfl, _⟩ | ⟨l, txs, vs, _, h2, h3, _⟩
  · exact ⟨⟨_, _, _, rfl⟩, ⟨_, _, _, rfl⟩⟩
  · obtain ⟨a, c, rfl⟩ := rowslice h2
    obtain ⟨a', c', rfl⟩ := rowslice h3
    exact ⟨⟨_, _, _, rfl⟩, ⟨_, _, _, rfl⟩⟩
/-- The chain of the greater turn, and the side that has it. -/
def better (x : Option (Nat × List Nat × List (List Nat) × Nat) × Nat) (L : List Bk) (k : Nat) : Option (Nat × List Nat × List (List Nat) × Nat) × Nat := if turnOf x.1 < turnOf (chainR L) then (chainR L, k) else x
def bestR (A B : List Bk) : Nat → Option (Nat × List Nat × List (List Nat) × Nat) × Nat
  | 0 => (none, 0)
  | 1 => better (none, 0) A 0
  | _ => better (better (none, 0) A 0) B 1
theorem Secs.kept {w w' : World} {S : List Nat} {a : Option Addr} {L : List Bk} (h : Secs w a L) (k : Kept S w w') (hS : ∀ x, a = some x → x.block ∉ S) : Secs w' a L := by
  rcases h with h | ⟨g, o, rfl, hg, hc⟩
  · exact .inl h
  · have hb := k.block g hg (hS _ rfl)
    refine .inr ⟨g, o, rfl, Nat.lt_of_lt_of_le hg k.size, fun i b hb2 j hj => ?_⟩
    rw [← hc i b hb2 j hj]
    simp only [World.cell?, hb]
theorem slog {w : World} {g t u t2 u2 p n c : Nat} {b : Bool} {sv tv sv2 tv2 : Value} (h : Blk w g 67 (lgcs t2 sv2 tv2 u2 p n c b)) (h1 : (chcs t sv tv u).all (·.oneCell') = true) : (storeSem 62 (.pointer (some ⟨g, 0, none⟩)) (.agg (chcs t sv tv u))).run Try.prog w = .ok () (w.setRow g (lgcs t sv tv u p n c b)) := by
  have S := storeRes_of (P := Try.prog) (ty := 62) (o := 0) (vs := chcs t sv tv u) h (by simp [lgcs, chcs]) (s_chain _ _ _ _) h1
  have e : over (lgcs t2 sv2 tv2 u2 p n c b) 0 (chcs t sv tv u) = lgcs t sv tv u p n c b := rfl
  rw [e] at S
  exact S
theorem idx0 (a b : Option Addr) (l m c d : Nat) (w : World) : (Instr.index 91 (.agg #[.slice a l c, .slice b m d]) (.int .i64 0)).run Try.prog w = .ok (.slice a l c) w := by
  have hu := run_underlying (P := Try.prog) Try.underlying91 w
  have hagg : (isAgg 72).run Try.prog w = .ok false w := by kernel_rfl
  have hn : (sizeOf 72).run Try.prog w = .ok 1 w := by kernel_rfl
  unfold Instr.index
  simp only [Sem.run_bind, hu, Result.andThen_ok]
  go_simp
theorem idx1 (a b : Option Addr) (l m c d : Nat) (w : World) : (Instr.index 91 (.agg #[.slice a l c, .slice b m d]) (.int .i64 1)).run Try.prog w = .ok (.slice b m d) w := by
  have hu := run_underlying (P := Try.prog) Try.underlying91 w
  have hagg : (isAgg 72).run Try.prog w = .ok false w := by kernel_rfl
  have hn : (sizeOf 72).run Try.prog w = .ok 1 w := by kernel_rfl
  unfold Instr.index
  simp only [Sem.run_bind, hu, Result.andThen_ok]
  go_simp
attribute [local go_sem ↓] load_chain_rule store_chain_rule
set_option maxRecDepth 100000 in
set_option maxHeartbeats 4000000 in
theorem choose_any {w : World} {g p n : Nat} (h : Blk w g 67 (lgcs 0 (.slice none 0 0) (.slice none 0 0) 0 p n 0 false)) {A B : List Bk} {a0 a1 : Option Addr} (hA : Secs w a0 A) (hB : Secs w a1 B) (hg0 : ∀ x, a0 = some x → x.block ≠ g) (hg1 : ∀ x, a1 = some x → x.block ≠ g) (hA1 : ∀ b ∈ A, b.Byt) (hB1 : ∀ b ∈ B, b.Byt) (hA2 : A.length ≤ 1000) (hB2 : B.length ≤ 1000) (c0 c1 : Nat) (hc0 : A.length ≤ c0) (hc1 : B.length ≤ c1) :
    Calls Try.prog 40 #[.pointer (some ⟨g, 0, none⟩), .agg #[.slice a0 A.length c0, .slice a1 B.length c1]] w fun e w' => ∃ t sv tv u, e = .returned (.bool (decide (0 < t))) ∧ Blk w' g 67 (lgcs t sv tv u p n (bestR A B 2).2 false) ∧ ChIs w' w.heap.size (bestR A B 2).1 t sv tv u ∧ Kept [g] w w' := by
  have hfA := fun (w' : World) (k : Kept [g] w w') => chainof_any (hA.kept k (fun x hx => by simpa using hg0 x hx)) hA1 hA2 c0 hc0
  have hfB := fun (w' : World) (k : Kept [g] w w') => chainof_any (hB.kept k (fun x hx => by simpa using hg1 x hx)) hB1 hB2 c1 hc1
  clear hA hB hg0 hg1 hA1 hB1 hA2 hB2 hc0 hc1
  obtain ⟨la, hla⟩ : ∃ la, A.length = la := ⟨_, rfl⟩
  obtain ⟨lb, hlb⟩ : ∃ lb, B.length = lb := ⟨_, rfl⟩
  rw [hla] at hfA ⊢
  rw [hlb] at hfB ⊢
  clear hla hlb
  have hi0 := fun w => idx0 a0 a1 la lb c0 c1 w
  have hi1 := fun w => idx1 a0 a1 la lb c0 c1 w
  go_enter Try.func40, Try.ntmps40
  go_wp2_with fail
  obtain ⟨W0, hW0⟩ : ∃ W0, w.alloc (.cells #[.slice a0 la c0, .slice a1 lb c1] 91) = W0 := ⟨_, rfl⟩
  have hb0 : Below w.heap.size w W0 := by rw [← hW0]; exact (Below.refl _ _).alloc (Nat.le_refl _) _
  have hg0 := h.kept (Kept.of_below [] hb0) (by simp)
  have H0 := Lib.hid (And.intro hg0 hb0)
  clear hb0 hg0 h
  go_loopw [9] (fun i wr => ∃ (k t : Nat) (sv tv : Value) (u cc : Nat), k ≤ 2 ∧ i = .int .i64 k ∧ (bestR A B k).2 = cc ∧ Blk wr g 67 (lgcs t sv tv u p n cc false) ∧ ChIs wr w.heap.size (bestR A B k).1 t sv tv u ∧ Kept [g] w wr) (fun i _ => 2 - (intOf i).toNat)
  case atStart => rw [hW0]; exact ⟨0, 0, _, _, 0, 0, by omega, rfl, rfl, H0.out.1, .inl ⟨rfl, rfl, rfl, rfl, rfl⟩, Kept.of_below _ H0.out.2⟩
  case round =>
    clear hW0
    obtain ⟨k, t, sv, tv, u, cc, hk, rfl, hcc, hgw, hch, hkw⟩ := hrel
    rcases (show k = 0 ∨ k = 1 ∨ k = 2 by omega) with rfl | rfl | rfl
    · rcases (show True from trivial) with -
      · go_wp2_with fail
        refine (hfA wr hkw).mono ?_
        rintro e W2 ⟨hb2, v, rfl, hok⟩
        obtain ⟨t1, sv1, tv1, u1, rfl, his⟩ := hok.is
        have hsl := his.slices
        have hone : (chcs t1 sv1 tv1 u1).all (·.oneCell') = true := by
          obtain ⟨⟨_, _, _, rfl⟩, ⟨_, _, _, rfl⟩⟩ := hsl
          simp [chcs, Value.oneCell']
        have hsn := schain_new W2 t1 u1 sv1 tv1 hone
        obtain ⟨W3, hW3⟩ : ∃ W3, W2.alloc (.cells (chcs t1 sv1 tv1 u1) 62) = W3 := ⟨_, rfl⟩
        rw [hW3] at hsn
        have k3 : Blk W3 W2.heap.size 62 (chcs t1 sv1 tv1 u1) := by rw [← hW3]; exact Blk.new _ _ _
        have hb23 : Below W2.heap.size W2 W3 := by rw [← hW3]; exact (Below.refl _ _).alloc (Nat.le_refl _) _
        have hb3 := bel_lat hb2 hb23
        have hg3 := hgw.kept (Kept.of_below [] hb3) (by simp)
        have his3 : ChIs W3 w.heap.size (chainR A) t1 sv1 tv1 u1 := his.imp (fun e v n xs _ h => own_base (owns_later2 h hb23) hkw.size)
        have hch3 : ChIs W3 w.heap.size (bestR A B 0).1 t sv tv u := hch.imp (fun e v n xs _ h => owns_later2 h hb3)
        have hk3 : Kept [g] w W3 := hkw.trans2 (Kept.of_below [] hb3) (by simp)
        have htu : turnOf (bestR A B 0).1 = t := hch3.turn
        have htu1 : turnOf (chainR A) = t1 := his3.turn
        obtain ⟨CC, hCC⟩ : ∃ CC, chcs t1 sv1 tv1 u1 = CC := ⟨_, rfl⟩
        obtain ⟨S, hS⟩ : ∃ S : World → Prop, S = Below W3.heap.size W3 := ⟨_, rfl⟩
        have hS0 : S W3.drew := by rw [hS]; exact (Below.refl _ _).drew
        have Q0 : ∀ w', S w' → w'.cell? ⟨W2.heap.size, 0, none⟩ = some (.int .u32 (t1 : Int)) := fun w' h => by
          rw [hS] at h
          exact (h.cell (p := ⟨W2.heap.size, 0, none⟩) k3.lt).trans (k3.cell 0)
        have Q1 : ∀ w', S w' → w'.cell? ⟨g, 0, none⟩ = some (.int .u32 (t : Int)) := fun w' h => by
          rw [hS] at h
          exact (h.cell (p := ⟨g, 0, none⟩) hg3.lt).trans (hg3.cell 0)
        rw [hCC] at hsn ⊢
        have lc := lchain k3.drew
        have sc := slog hg3.drew hone
        have hne : g ≠ W2.heap.size := by have := hgw.lt; have := hb2.size; omega
        have k5 := hg3.drew.row (lgcs t1 sv1 tv1 u1 p n cc false)
        obtain ⟨W5, hW5⟩ : ∃ W5, W3.drew.setRow g (lgcs t1 sv1 tv1 u1 p n cc false) = W5 := ⟨_, rfl⟩
        rw [hW5] at sc k5
        rw [hCC] at lc sc
        have x9 : W5.cell? ⟨g, 9, none⟩ = some (.int .i64 (cc : Int)) := k5.cell 9
        have f9 := k5.free 9
        have kE : Blk (W5.setCell ⟨g, 9, none⟩ (.int .i64 0)) g 67 (lgcs t1 sv1 tv1 u1 p n 0 false) := k5.set 9 _
        have kK : Kept [g] w (W5.setCell ⟨g, 9, none⟩ (.int .i64 0)) := by
          rw [← hW5]
          exact ((hk3.trans2 (Kept.of_below [] (show Below W3.heap.size W3 W3.drew from (Below.refl _ _).drew)) (by simp)).setRow (.inl (by simp)) _).setCell (.inl (by simp)) _
        have kI : ChIs (W5.setCell ⟨g, 9, none⟩ (.int .i64 0)) w.heap.size (chainR A) t1 sv1 tv1 u1 := his3.imp (fun e v n xs he h => by
          have h1 : W3.drew.ownsRow w.heap.size e 1 v n xs := h
          have h2 : W5.ownsRow w.heap.size e 1 v n xs := by
            rw [← hW5]
            exact own_setrow h1 hg3.drew (by rcases he with rfl | rfl <;> decide) _
          exact h2.kept (row := some g) ⟨rfl, rfl, rfl, by simp, fun k _ hk => Below.heap_setCell _ _ _ _ (fun e => hk (by rw [e]))⟩ (.inr (row_ne h2 k5 (by rcases he with rfl | rfl <;> decide))))
        have HR := Lib.hid (And.intro kE (And.intro kK (And.intro kI (And.intro hg3 (And.intro hk3 (And.intro hch3 (And.intro htu htu1)))))))
        clear his hok hsl hone hW3 k3 hb23 hb3 hb2 hg3 his3 hch3 hk3 htu htu1 hS hgw hch hkw k5 hW5 kE kK kI hfA hfB hCC
        go_wp2_with fail
        refine wp_region_linY S [] [0, 1, 2, 3, 4, 5, 6, 7] (by kernel_rfl) (by kernel_rfl) hS0 ?_
        (repeat (first | (refine linX_off rfl rfl (by rfl) ?_; (try simp only [Act.put, List.getElem_toArray, List.getElem_cons_zero, List.getElem_cons_succ, List.setIfInBounds_toArray, List.set_cons_zero, List.set_cons_succ])) | (refine linX_op (v := ?_) rfl rfl (by rfl) (fun w9 hS9 => ?_) ?_; rotate_left; (focus (((have k0 := Q0 w9 hS9; have k1 := Q1 w9 hS9; go_simp; (try go_bits)) <;> with_reducible rfl))); (try simp only [Act.put, List.getElem_toArray, List.getElem_cons_zero, List.getElem_cons_succ, List.setIfInBounds_toArray, List.set_cons_zero, List.set_cons_succ]))))
        refine linX_nil ?_
        by_cases hlt : t < t1
        · have hlti : (t : Int) < (t1 : Int) := by omega
          have Hlt := Lib.hid hlt
          clear hlt
          go_wp2_with fail
          go_roundw
          case rel => exact ⟨0 + 1, t1, sv1, tv1, u1, 0, by omega, by go_num, by rw [show (bestR A B (0 + 1)) = better (bestR A B 0) A 0 from rfl, better, HR.out.2.2.2.2.2.2.1, HR.out.2.2.2.2.2.2.2, if_pos Hlt.out], HR.out.1, (by rw [show (bestR A B (0 + 1)) = better (bestR A B 0) A 0 from rfl, better, HR.out.2.2.2.2.2.2.1, HR.out.2.2.2.2.2.2.2, if_pos Hlt.out]; exact HR.out.2.2.1), HR.out.2.1⟩
          case measure => simp [intOf]
        · have hlti : ¬ (t : Int) < (t1 : Int) := by omega
          have Hlt := Lib.hid hlt
          clear hlt
          go_wp2_with fail
          go_roundw
          case rel => exact ⟨0 + 1, t, sv, tv, u, cc, by omega, by go_num, by rw [show (bestR A B (0 + 1)) = better (bestR A B 0) A 0 from rfl, better, HR.out.2.2.2.2.2.2.1, HR.out.2.2.2.2.2.2.2, if_neg Hlt.out]; exact hcc, HR.out.2.2.2.1.drew, (by rw [show (bestR A B (0 + 1)) = better (bestR A B 0) A 0 from rfl, better, HR.out.2.2.2.2.2.2.1, HR.out.2.2.2.2.2.2.2, if_neg Hlt.out]; exact HR.out.2.2.2.2.2.1.imp (fun e v n xs _ h => h)), HR.out.2.2.2.2.1.trans2 (Kept.of_below [] (show Below W3.heap.size W3 W3.drew from (Below.refl _ _).drew)) (by simp)⟩
          case measure => simp [intOf]
    · rcases (show True from trivial) with -
      · go_wp2_with fail
        refine (hfB wr hkw).mono ?_
        rintro e W2 ⟨hb2, v, rfl, hok⟩
        obtain ⟨t1, sv1, tv1, u1, rfl, his⟩ := hok.is
        have hsl := his.slices
        have hone : (chcs t1 sv1 tv1 u1).all (·.oneCell') = true := by
          obtain ⟨⟨_, _, _, rfl⟩, ⟨_, _, _, rfl⟩⟩ := hsl
          simp [chcs, Value.oneCell']
        have hsn := schain_new W2 t1 u1 sv1 tv1 hone
        obtain ⟨W3, hW3⟩ : ∃ W3, W2.alloc (.cells (chcs t1 sv1 tv1 u1) 62) = W3 := ⟨_, rfl⟩
        rw [hW3] at hsn
        have k3 : Blk W3 W2.heap.size 62 (chcs t1 sv1 tv1 u1) := by rw [← hW3]; exact Blk.new _ _ _
        have hb23 : Below W2.heap.size W2 W3 := by rw [← hW3]; exact (Below.refl _ _).alloc (Nat.le_refl _) _
        have hb3 := bel_lat hb2 hb23
        have hg3 := hgw.kept (Kept.of_below [] hb3) (by simp)
        have his3 : ChIs W3 w.heap.size (chainR B) t1 sv1 tv1 u1 := his.imp (fun e v n xs _ h => own_base (owns_later2 h hb23) hkw.size)
        have hch3 : ChIs W3 w.heap.size (bestR A B 1).1 t sv tv u := hch.imp (fun e v n xs _ h => owns_later2 h hb3)
        have hk3 : Kept [g] w W3 := hkw.trans2 (Kept.of_below [] hb3) (by simp)
        have htu : turnOf (bestR A B 1).1 = t := hch3.turn
        have htu1 : turnOf (chainR B) = t1 := his3.turn
        obtain ⟨CC, hCC⟩ : ∃ CC, chcs t1 sv1 tv1 u1 = CC := ⟨_, rfl⟩
        obtain ⟨S, hS⟩ : ∃ S : World → Prop, S = Below W3.heap.size W3 := ⟨_, rfl⟩
        have hS0 : S W3.drew := by rw [hS]; exact (Below.refl _ _).drew
        have Q0 : ∀ w', S w' → w'.cell? ⟨W2.heap.size, 0, none⟩ = some (.int .u32 (t1 : Int)) := fun w' h => by
          rw [hS] at h
          exact (h.cell (p := ⟨W2.heap.size, 0, none⟩) k3.lt).trans (k3.cell 0)
        have Q1 : ∀ w', S w' → w'.cell? ⟨g, 0, none⟩ = some (.int .u32 (t : Int)) := fun w' h => by
          rw [hS] at h
          exact (h.cell (p := ⟨g, 0, none⟩) hg3.lt).trans (hg3.cell 0)
        rw [hCC] at hsn ⊢
        have lc := lchain k3.drew
        have sc := slog hg3.drew hone
        have hne : g ≠ W2.heap.size := by have := hgw.lt; have := hb2.size; omega
        have k5 := hg3.drew.row (lgcs t1 sv1 tv1 u1 p n cc false)
        obtain ⟨W5, hW5⟩ : ∃ W5, W3.drew.setRow g (lgcs t1 sv1 tv1 u1 p n cc false) = W5 := ⟨_, rfl⟩
        rw [hW5] at sc k5
        rw [hCC] at lc sc
        have x9 : W5.cell? ⟨g, 9, none⟩ = some (.int .i64 (cc : Int)) := k5.cell 9
        have f9 := k5.free 9
        have kE : Blk (W5.setCell ⟨g, 9, none⟩ (.int .i64 1)) g 67 (lgcs t1 sv1 tv1 u1 p n 1 false) := k5.set 9 _
        have kK : Kept [g] w (W5.setCell ⟨g, 9, none⟩ (.int .i64 1)) := by
          rw [← hW5]
          exact ((hk3.trans2 (Kept.of_below [] (show Below W3.heap.size W3 W3.drew from (Below.refl _ _).drew)) (by simp)).setRow (.inl (by simp)) _).setCell (.inl (by simp)) _
        have kI : ChIs (W5.setCell ⟨g, 9, none⟩ (.int .i64 1)) w.heap.size (chainR B) t1 sv1 tv1 u1 := his3.imp (fun e v n xs he h => by
          have h1 : W3.drew.ownsRow w.heap.size e 1 v n xs := h
          have h2 : W5.ownsRow w.heap.size e 1 v n xs := by
            rw [← hW5]
            exact own_setrow h1 hg3.drew (by rcases he with rfl | rfl <;> decide) _
          exact h2.kept (row := some g) ⟨rfl, rfl, rfl, by simp, fun k _ hk => Below.heap_setCell _ _ _ _ (fun e => hk (by rw [e]))⟩ (.inr (row_ne h2 k5 (by rcases he with rfl | rfl <;> decide))))
        have HR := Lib.hid (And.intro kE (And.intro kK (And.intro kI (And.intro hg3 (And.intro hk3 (And.intro hch3 (And.intro htu htu1)))))))
        clear his hok hsl hone hW3 k3 hb23 hb3 hb2 hg3 his3 hch3 hk3 htu htu1 hS hgw hch hkw k5 hW5 kE kK kI hfA hfB hCC
        go_wp2_with fail
        refine wp_region_linY S [] [0, 1, 2, 3, 4, 5, 6, 7] (by kernel_rfl) (by kernel_rfl) hS0 ?_
        (repeat (first | (refine linX_off rfl rfl (by rfl) ?_; (try simp only [Act.put, List.getElem_toArray, List.getElem_cons_zero, List.getElem_cons_succ, List.setIfInBounds_toArray, List.set_cons_zero, List.set_cons_succ])) | (refine linX_op (v := ?_) rfl rfl (by rfl) (fun w9 hS9 => ?_) ?_; rotate_left; (focus (((have k0 := Q0 w9 hS9; have k1 := Q1 w9 hS9; go_simp; (try go_bits)) <;> with_reducible rfl))); (try simp only [Act.put, List.getElem_toArray, List.getElem_cons_zero, List.getElem_cons_succ, List.setIfInBounds_toArray, List.set_cons_zero, List.set_cons_succ]))))
        refine linX_nil ?_
        by_cases hlt : t < t1
        · have hlti : (t : Int) < (t1 : Int) := by omega
          have Hlt := Lib.hid hlt
          clear hlt
          go_wp2_with fail
          go_roundw
          case rel => exact ⟨1 + 1, t1, sv1, tv1, u1, 1, by omega, by go_num, by rw [show (bestR A B (1 + 1)) = better (bestR A B 1) B 1 from rfl, better, HR.out.2.2.2.2.2.2.1, HR.out.2.2.2.2.2.2.2, if_pos Hlt.out], HR.out.1, (by rw [show (bestR A B (1 + 1)) = better (bestR A B 1) B 1 from rfl, better, HR.out.2.2.2.2.2.2.1, HR.out.2.2.2.2.2.2.2, if_pos Hlt.out]; exact HR.out.2.2.1), HR.out.2.1⟩
          case measure => simp [intOf]
        · have hlti : ¬ (t : Int) < (t1 : Int) := by omega
          have Hlt := Lib.hid hlt
          clear hlt
          go_wp2_with fail
          go_roundw
          case rel => exact ⟨1 + 1, t, sv, tv, u, cc, by omega, by go_num, by rw [show (bestR A B (1 + 1)) = better (bestR A B 1) B 1 from rfl, better, HR.out.2.2.2.2.2.2.1, HR.out.2.2.2.2.2.2.2, if_neg Hlt.out]; exact hcc, HR.out.2.2.2.1.drew, (by rw [show (bestR A B (1 + 1)) = better (bestR A B 1) B 1 from rfl, better, HR.out.2.2.2.2.2.2.1, HR.out.2.2.2.2.2.2.2, if_neg Hlt.out]; exact HR.out.2.2.2.2.2.1.imp (fun e v n xs _ h => h)), HR.out.2.2.2.2.1.trans2 (Kept.of_below [] (show Below W3.heap.size W3 W3.drew from (Below.refl _ _).drew)) (by simp)⟩
          case measure => simp [intOf]
    · have x0 : wr.cell? ⟨g, 0, none⟩ = some (.int .u32 (t : Int)) := hgw.cell 0
      have HE := Lib.hid (And.intro hgw (And.intro hch (And.intro hkw hcc)))
      clear hgw hch hkw hcc hfA hfB
      go_wp2_with fail
      go_ret
      exact ⟨t, sv, tv, u, rfl, by rw [HE.out.2.2.2]; exact HE.out.1, HE.out.2.1, HE.out.2.2.1⟩

end Go.Proofs.Ytelpihlifdfgoaa
