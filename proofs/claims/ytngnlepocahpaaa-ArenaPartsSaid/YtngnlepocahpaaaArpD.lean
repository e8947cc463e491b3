/-
  Decode, in parts: the iterator over a list of free blocks. Nothing here is a statement of the document.
-/
import Derived.Test.YtngnlepocahpaaaArpC
namespace Go.Proofs.Ytngnlepocahpaaa
open Go.RowKit Go.Shelf
set_option linter.unusedVariables false

theorem list_any (a : Option Addr) (c : Int) (w : World) : Calls Try.prog 78 #[.pointer a, .int .i64 c] w fun e w' =>
    e = .returned (.func (.func 93) #[] #[.pointer (some ⟨w.heap.size, 0, none⟩), .pointer (some ⟨w.heap.size + 1, 0, none⟩)]) ∧ w' = (w.alloc (.cells #[.pointer a] 25)).alloc (.cells #[.int .i64 c] 3) := by
  have hmf : ∀ (fn : Fn) (first cap : Array Value) (w : World), (Instr.makeFunc fn first cap).run Try.prog w = .ok (.func fn first cap) w := fun _ _ _ _ => rfl
  go_enter Try.func78, Try.ntmps78
  go_wp2
  go_ret
  exact ⟨by simp, rfl⟩
theorem lst_get {ws : List Nat} : ∀ {L : List Nat} {s : Nat}, Lst ws s L → s = L.getD 0 0 ∧ ∀ k, k < L.length → ws.getD (L.getD k 0) 0 = L.getD (k + 1) 0 ∧ 17 ≤ L.getD k 0
  | [], s, h => ⟨h, fun k hk => by simp at hk⟩
  | x :: r, s, h => by
    obtain ⟨h1, h2, h3⟩ := h
    obtain ⟨g1, g2⟩ := lst_get h3
    refine ⟨h1, fun k hk => ?_⟩
    rcases k with _ | k
    · exact ⟨g1, h2⟩
    · have := g2 k (by simpa using hk)
      simpa using this
theorem idx_at {L : List Nat} (hn : L.Nodup) (h17 : ∀ k, k < L.length → 17 ≤ L.getD k 0) {k : Nat} (hk : k ≤ L.length) : L.idxOf (L.getD k 0) = k := by
  by_cases hlt : k < L.length
  · have e : L.getD k 0 = L[k] := by simp [hlt]
    rw [e, hn.idxOf_getElem k hlt]
  · have e : L.getD k 0 = 0 := by simp [List.getElem?_eq_none (by omega : L.length ≤ k)]
    rw [e, List.idxOf_eq_length]
    · omega
    · intro hm
      obtain ⟨i, hi, h0⟩ := List.mem_iff_getElem.1 hm
      have := h17 i hi
      rw [show L.getD i 0 = L[i] by simp [hi], h0] at this
      omega
def encL (L : List Nat) (k : Nat) : Array Value := #[.int .i64 ((L.getD k 0 : Nat) : Int)]

attribute [local go_sem] Oper.semAt_some
set_option maxRecDepth 100000 in
set_option maxHeartbeats 2000000 in
theorem list_low {w : World} {g p : Nat} {qv : Value} {ws : List Nat} {S : List Nat} {box box2 c : Nat} {L : List Nat} (h : Aw w g p qv ws) (hc : c ≤ 5) (hL : Lst ws (ws.getD (9 + c) 0) L) (hlt : ∀ k, k < L.length → L.getD k 0 < ws.length) (hb : Blk w box 25 #[.pointer (some ⟨g, 0, none⟩)]) (hb2 : Blk w box2 3 #[.int .i64 (c : Int)])
    (hgS : g ∉ S) (hpS : p ∉ S) (hbS : box ∉ S) (hbS2 : box2 ∉ S) (hnd : L.Nodup) :
    TellsL 93 #[.pointer (some ⟨box, 0, none⟩), .pointer (some ⟨box2, 0, none⟩)] S L.length (encL L) w := by
  intro lo J Jx W hWk hlw hlo hJ hJx hY h0
  have n1 : g < lo := by have := h.box.lt; omega
  have n2 : p < lo := by have := h.wds.lt; omega
  have n4 : box < lo := by have := hb.lt; omega
  replace h := h.low hWk hgS hpS h.box.lt h.wds.lt
  replace hb := hWk.blk hb hbS hb.lt
  replace hb2 := hWk.blk hb2 hbS2 hb2.lt
  obtain ⟨hL0, hLk⟩ := lst_get hL
  have hidx := fun k (hk : k ≤ L.length) => idx_at hnd (fun k hk => (hLk k hk).2) hk
  have cb : W.cell? ⟨box, 0, none⟩ = some (.pointer (some ⟨g, 0, none⟩)) := hb.cell 0
  have cb2 : W.cell? ⟨box2, 0, none⟩ = some (.int .i64 (c : Int)) := hb2.cell 0
  have cg := h.c0
  have cw := h.word (i := 9 + c) (by have := h.lo; omega)
  rw [hL0] at cw
  have hPe : L.getD L.length 0 = 0 := by simp
  obtain ⟨P, hP⟩ : ∃ P : Nat → Nat, ∀ k, L.getD k 0 = P k := ⟨fun k => L.getD k 0, fun _ => rfl⟩
  simp only [hP] at hLk hidx cw hlt hPe
  have hJ0 : J 0 W.drew := hJ _ _ _ none h0 (grown_of_below ⟨rfl, rfl, rfl, Nat.le_refl _, fun _ _ => rfl⟩) (fun r h => by cases h)
  have hYY : ∀ k W1, k < L.length → J k W1 → YieldAt Fence.wide 8 Try.prog lo #[.int .i64 ((P k : Nat) : Int)] W1 fun e W' => KL (lo + 1) (lo :: S) W1 W' ∧ ((e = .returned (.bool true) ∧ J (k + 1) W') ∨ (e = .returned (.bool false) ∧ Jx k W')) := fun k W1 hk hj => by
    have := hY k W1 hk hj
    unfold encL at this
    rwa [hP] at this
  have hsmP : ∀ k, P k < 4294967296 := fun k => by
    by_cases hk : k < L.length
    · have := hlt k hk; have := h.hi; omega
    · have e : L.getD k 0 = 0 := by simp [List.getElem?_eq_none (by omega : L.length ≤ k)]
      rw [← hP, e]; omega
  have hlo64 := h.lo
  have dlt : 9 + c < ws.length := by omega
  have dlt2 : ((9 + c : Nat) : Int) < (ws.length : Int) := by omega
  have h9 : (9 : Int) + (c : Int) = ((9 + c : Nat) : Int) := by omega
  have H := Lib.hid (And.intro h (And.intro hb (And.intro hLk (And.intro hidx (And.intro hlt (And.intro hYY (And.intro hsmP hPe)))))))
  clear hlw hWk hb2 hL hlt hnd hL0 hLk hidx h hb hY hYY hP hsmP hPe h0
  generalize 9 + c = c9 at *
  refine callsIn_of_wp Try.func93 rfl trivial ?_ rfl
  simp only [Try.ntmps93, List.size_toArray, List.length_cons, List.length_nil, Nat.reduceAdd, Nat.reduceSub, Array.replicate_succ, Array.replicate_zero, List.push_toArray, List.append_toArray, List.nil_append, List.cons_append]
  gi_wp2
  have f0 : ∀ w9, w9 = W.drew → w9.cell? ⟨box, 0, none⟩ = some (.pointer (some ⟨g, 0, none⟩)) := fun w9 h => by subst h; exact cb
  have f1 : ∀ w9, w9 = W.drew → w9.cell? ⟨box2, 0, none⟩ = some (.int .i64 (c : Int)) := fun w9 h => by subst h; exact cb2
  have f2 : ∀ w9, w9 = W.drew → w9.cell? ⟨g, 0, none⟩ = some (.slice (some ⟨p, 0, none⟩) ws.length ws.length) := fun w9 h => by subst h; exact cg
  have f3 : ∀ w9, w9 = W.drew → w9.cell? ⟨p, c9, none⟩ = some (.int .u32 ((P 0 : Nat) : Int)) := fun w9 h => by subst h; exact cw
  refine wpIn_wide.2 (wp_region_lin (fun w' => w' = W.drew) (by kernel_rfl) (by kernel_rfl) rfl ?_)
  (repeat (first | (refine lin_off (by rfl) ?_; (try simp only [Act.put, List.setIfInBounds_toArray, List.set_cons_zero, List.set_cons_succ])) | (refine lin_op (v := ?_) (by rfl) (fun w9 hS9 => ?_) ?_; rotate_left; (focus ((have k0 := f0 w9 hS9; have k1 := f1 w9 hS9; have k2 := f2 w9 hS9; have k3 := f3 w9 hS9; (try dsimp only at hS9); go_simp; (try go_bits)) <;> with_reducible rfl)); (try simp only [Act.put, List.setIfInBounds_toArray, List.set_cons_zero, List.set_cons_succ])) ))
  refine lin_nil (fun w8 hS8 => ?_)
  subst hS8
  clear f0 f1 f2 f3 cb cb2 cg cw
  gi_wp2
  gi_loopw [4] (fun i wr => ∃ k : Nat, k ≤ L.length ∧ i = .int .u32 ((P k : Nat) : Int) ∧ J k wr ∧ Aw wr g p qv ws ∧ Blk wr box 25 #[.pointer (some ⟨g, 0, none⟩)] ∧ 0 ≤ wr.heap.size) (fun i _ => L.length - L.idxOf (intOf i).toNat)
  case atStart => exact ⟨0, Nat.zero_le _, rfl, hJ0, ⟨H.out.1.box, H.out.1.wds, H.out.1.lo, H.out.1.hi, H.out.1.sml⟩, H.out.2.1, Nat.zero_le _⟩
  case round =>
    obtain ⟨k, hk, rfl, hJs, hA, hbw, _⟩ := hrel
    by_cases hlt : k < L.length
    · obtain ⟨fn, tmps, assign, body, hy, hR⟩ := H.out.2.2.2.2.2.1 k wr hlt hJs
      obtain ⟨q1, q2⟩ := H.out.2.2.1 k hlt
      have q3 := H.out.2.2.2.2.1 k hlt
      have q4 := H.out.2.2.2.2.2.2.1 k
      have i0 := H.out.2.2.2.1 k (Nat.le_of_lt hlt)
      have i1 := H.out.2.2.2.1 (k + 1) hlt
      have d1 : ((P k : Int) != 0) = true := by simp; omega
      have HJ := Lib.hid (And.intro hA (And.intro hbw (And.intro i0 (And.intro i1 q1))))
      generalize hnx : P (k + 1) = nx at *
      have HNX := Lib.hid hnx
      clear hnx
      generalize hpk : P k = pk at *
      have HPK := Lib.hid hpk
      clear hJs hA hbw i0 i1 q1 hpk hJ0
      gi_wp2
      refine hR.mono ?_
      rintro e2 W4 ⟨hk4, ⟨rfl, hJ4⟩ | ⟨rfl, hJx4⟩⟩
      · have hA4 := HJ.out.1.low hk4 (by simp [hgS]; omega) (by simp [hpS]; omega) (by omega) (by omega)
        have hb4 := hk4.blk HJ.out.2.1 (by simp [hbS]; omega) (by omega)
        have cb4 : W4.cell? ⟨box, 0, none⟩ = some (.pointer (some ⟨g, 0, none⟩)) := hb4.cell 0
        have cg4 := hA4.c0
        have cw4 := hA4.word q3
        rw [HJ.out.2.2.2.2] at cw4
        have H4 := Lib.hid (And.intro hA4 (And.intro hb4 hJ4))
        clear hy hA4 hb4 hJ4
        gi_wp2
        refine ⟨⟨k + 1, hlt, by rw [HNX.out], H4.out.2.2, H4.out.1, H4.out.2.1, Nat.zero_le _⟩, ?_⟩
        simp only [intOf, Int.toNat_natCast]
        rw [HJ.out.2.2.1, HJ.out.2.2.2.1]
        omega
      · gi_wp2
        refine bodyPost_ret (results_none rfl _ _ _) rfl ?_
        exact ⟨⟨_, rfl⟩, .inr ⟨k, by omega, hJx4⟩⟩
    · obtain rfl : k = L.length := by omega
      rw [H.out.2.2.2.2.2.2.2]
      gi_wp2
      go_end0
      exact ⟨⟨_, rfl⟩, .inl hJs⟩
end Go.Proofs.Ytngnlepocahpaaa
