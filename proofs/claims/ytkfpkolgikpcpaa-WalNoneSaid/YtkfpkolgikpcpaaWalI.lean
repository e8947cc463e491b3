/-
  Copies of bytes, chains that begin, what is refused. Nothing here is a statement of the document.
-/
import Derived.Test.YtkfpkolgikpcpaaWalH
namespace Go.Proofs.Ytkfpkolgikpcpaa
open Go.RowKit Go.Shelf
set_option linter.unusedVariables false

theorem wown_slice {w : World} {b : Nat} {e : TypeId} {size : Nat} {v : Value} {n : Nat} {xs : List Value} (h : w.ownsRow b e size v n xs) : ∃ a c, v = .slice a n c := by
  rcases h.2 with ⟨rfl, rfl⟩ | ⟨g, cap, cur, rfl, _⟩
  · exact ⟨_, _, rfl⟩
  · exact ⟨_, _, rfl⟩

set_option maxHeartbeats 1000000 in
theorem cloneb_some (ad : Addr) (c : Nat) (l : List Nat) (w : World) (h : Lies w (some ad) l) (hn : l.length ≤ 40000) :
    Calls Try.prog 48 #[.slice (some ad) l.length c] w fun e w' => ∃ v, e = .returned v ∧ w'.ownsRow w.heap.size 5 1 v l.length (l.map byc) ∧ Below w.heap.size w w' := by
  obtain ⟨i0, hi, hz0, hz1, hz2⟩ := info_parts Try.info5
  have A0 : ∀ i, i < l.length → w.cell? (ad.add i) = some (byc (l.getD i 0)) := by
    intro i hil
    rcases h with h9 | ⟨b, off, h9, hb, hcc⟩
    · rw [h9] at hil; simp at hil
    · obtain rfl : ad = ⟨b, off, none⟩ := by injection h9
      have h8 := hcc i hil
      by_cases hi0 : i = 0
      · subst hi0; simpa [Addr.add, byc] using h8
      · simpa [Addr.add, byc, hi0] using h8
  have A := Lib.hid A0
  clear h A0
  have q : ∀ (w : World) (a : Option Addr) (n c n' c' : Nat), (binOp .eql 22 (.slice a n c) (.slice none n' c')).run Try.prog w = .ok (.bool a.isNone) w := fun w a n c n' c' => Lib.run_eql_slice_nil w _ _ a n c n' c' Try.underlying22
  go_enter Try.func48, Try.ntmps48
  go_wp2_with (at_builtin; refine wpList_append_own _ rfl _ _ 22 rfl w.heap.size 5 i0 (.int .u8 0) 1 1 Try.underlying22 hi hz0 hz1 hz2 rfl (by decide) _ _ _ rfl (World.ownsRow_made w #[] 0 (Nat.le_refl _) (Nat.zero_le _) rfl) ad l.length c (l.map byc) rfl ?qc1 ?qc2 ?qc3 ?qc4 ?qc5 ?qc6 ?_)
  case qc1 => simp
  case qc2 =>
    intro j u hj
    have hjl : j < l.length := by simpa using (List.getElem?_eq_some_iff.1 hj).1
    rw [List.getElem?_map, List.getElem?_eq_getElem hjl, Option.map_some] at hj
    refine Lib.cell?_alloc_some _ ?_
    rw [A.out j hjl, ← hj, List.getD_eq_getElem?_getD, List.getElem?_eq_getElem hjl]
    rfl
  case qc3 => exact byc_one l
  case qc4 => unfold maxLen; omega
  case qc5 => omega
  case qc6 => simp
  intro v' w1 hown hgrow hnil
  go_wp2
  go_ret
  exact ⟨v', rfl, by simpa using hown, ((Below.refl _ w).alloc (Nat.le_refl _) _).grown hgrow (by simp) (by intro k hk; simp [Value.ownBlock] at hk; omega)⟩
set_option maxHeartbeats 1000000 in
theorem cloneb_none (c : Nat) (w : World) : Calls Try.prog 48 #[.slice none 0 c] w fun e w' => e = .returned (.slice none 0 0) ∧ w = w' := by
  have q : ∀ (w : World) (a : Option Addr) (n c n' c' : Nat), (binOp .eql 22 (.slice a n c) (.slice none n' c')).run Try.prog w = .ok (.bool a.isNone) w := fun w a n c n' c' => Lib.run_eql_slice_nil w _ _ a n c n' c' Try.underlying22
  go_enter Try.func48, Try.ntmps48
  go_wp2
  go_ret
  exact ⟨rfl, rfl⟩
theorem cloneb_any (a : Option Addr) (len c : Nat) (l : List Nat) (w : World) (h : Lies w a l) (hl : l.length = len) (hn : len ≤ 40000) (h0 : a = none → len = 0) :
    Calls Try.prog 48 #[.slice a len c] w fun e w' => ∃ v, e = .returned v ∧ w'.ownsRow w.heap.size 5 1 v len (l.map byc) ∧ Below w.heap.size w w' := by
  subst hl
  cases a with
  | some ad => exact cloneb_some ad c l w h hn
  | none =>
    have e : l = [] := List.eq_nil_of_length_eq_zero (h0 rfl)
    subst e
    exact (cloneb_none c w).mono fun e w' ⟨he, hw⟩ => ⟨_, he, by subst hw; exact ⟨rfl, .inl ⟨rfl, rfl⟩⟩, hw ▸ Below.refl _ _⟩

/-! ### begun, next -/
def chcs (t : Nat) (sv tv : Value) (u : Nat) : Array Value := #[.int .u32 (t : Int), sv, tv, .int .i64 (u : Int)]
theorem load_chain_rule (v : Value) : Instr.loadAt 68 v = loadSem 68 v := rfl
theorem store_chain_rule (v x : Value) : Instr.storeAt 68 v x = storeSem 68 v x := rfl
theorem s_chain (t : Nat) (sv tv : Value) (u : Nat) : (Try.prog.info? 68).map (·.size) = some (chcs t sv tv u).size := by
  simp only [chcs, List.size_toArray, List.length_cons, List.length_nil]; kernel_rfl
theorem lchain {w : World} {g t u : Nat} {sv tv : Value} (h : Blk w g 68 (chcs t sv tv u)) : (loadSem 68 (.pointer (some ⟨g, 0, none⟩))).run Try.prog w = .ok (.agg (chcs t sv tv u)) w :=
  loadRes_of h (fun j _ => by rw [Nat.zero_add]) _ Try.underlying68 rfl (s_chain _ _ _ _)
theorem schain {w : World} {g t u t2 u2 : Nat} {sv tv sv2 tv2 : Value} (h : Blk w g 68 (chcs t2 sv2 tv2 u2)) (h1 : (chcs t sv tv u).all (·.oneCell') = true) : (storeSem 68 (.pointer (some ⟨g, 0, none⟩)) (.agg (chcs t sv tv u))).run Try.prog w = .ok () (w.setRow g (chcs t sv tv u)) := by
  have := storeRes_of (P := Try.prog) (ty := 68) (o := 0) (vs := chcs t sv tv u) h (by simp [chcs]) (s_chain _ _ _ _) h1
  rwa [over_all (by simp [chcs])] at this

attribute [local go_sem ↓] load_chain_rule store_chain_rule

set_option maxHeartbeats 1000000 in
theorem begun_any (t : Nat) (ht : t ≤ 4294967295) (a : Option Addr) (len c : Nat) (l : List Nat) (w : World) (h : Lies w a l) (hl : l.length = len) (hn : len ≤ 40000) (h0 : a = none → len = 0) :
    Calls Try.prog 35 #[.int .u32 (t : Int), .slice a len c] w fun e w' => ∃ v, e = .returned (.agg (chcs t v (.slice none 0 0) (secN len))) ∧ w'.ownsRow w.heap.size 5 1 v len (l.map byc) ∧ Below w.heap.size w w' := by
  obtain ⟨W1, hW1⟩ : ∃ W1, w.alloc (.cells #[.int .u32 0, .slice none 0 0, .slice none 0 0, .int .i64 0] 68) = W1 := ⟨_, rfl⟩
  have hb1 : Below w.heap.size w W1 := by rw [← hW1]; exact (Below.refl _ _).alloc (Nat.le_refl _) _
  have bx : Blk W1 w.heap.size 68 #[.int .u32 0, .slice none 0 0, .slice none 0 0, .int .i64 0] := by rw [← hW1]; exact Blk.new _ _ _
  have hs1 : W1.heap.size = w.heap.size + 1 := by rw [← hW1]; simp
  have hcl := cloneb_any a len c l W1 (h.kept hb1) hl hn h0
  have hse := sectors_any (len : Int)
  rw [secI_nat] at hse
  have H := Lib.hid (And.intro hb1 (And.intro bx hs1))
  clear hb1 bx h hs1
  generalize secN len = N at *
  go_enter Try.func35, Try.ntmps35
  go_wp2_with fail
  refine hcl.mono ?_
  rintro e w2 ⟨v, rfl, hown, hb2⟩
  go_wp2_with fail
  refine (hse _).mono ?_
  rintro e w3 ⟨rfl, rfl⟩
  obtain ⟨a2, c2, rfl⟩ := wown_slice hown
  have b2 := H.out.2.1.kept (Kept.of_below [] hb2) (by simp)
  have S := schain (t := t) (sv := .slice a2 len c2) (tv := .slice none 0 0) (u := N) (t2 := 0) (u2 := 0) b2 (by simp [chcs, Value.oneCell'])
  have bE := b2.row (chcs t (.slice a2 len c2) (.slice none 0 0) N)
  have hb : Below w.heap.size w (w2.setRow w.heap.size (chcs t (.slice a2 len c2) (.slice none 0 0) N)) := below_setRow (H.out.1.trans (hb2.mono H.out.1.size)) (Nat.le_refl _) _
  have hoE : (w2.setRow w.heap.size (chcs t (.slice a2 len c2) (.slice none 0 0) N)).ownsRow w.heap.size 5 1 (.slice a2 len c2) len (l.map byc) := by
    rcases hown.2 with h9 | ⟨g, cap, cur, h1, h2, h3, h4⟩
    · exact ⟨hown.1, .inl h9⟩
    · refine ⟨hown.1, .inr ⟨g, cap, cur, h1, by rw [H.out.2.2] at h2; omega, (setRow_other _ _ _ _ (by rw [H.out.2.2] at h2; omega)).trans h3, h4⟩⟩
  have HE := Lib.hid (And.intro bE (And.intro hoE hb))
  clear hown hb2 b2 bE hb hoE hcl
  simp only [chcs] at S
  go_wp2_with fail
  refine bodyPost_ret (results_cell_row rfl _ _ w.heap.size 68 _ (0, 0) _ rfl HE.out.1 Try.underlying68 rfl (s_chain _ _ _ _)) rfl ?_
  exact ⟨_, rfl, HE.out.2⟩

set_option maxHeartbeats 1000000 in
theorem next_of (t : Nat) (sv : Value) (ta : Option Addr) (m tc : Nat) (u : Nat) (hm : m < 4294967295) (a : Option Addr) (len c : Nat) (w : World) :
    Calls Try.prog 46 #[.agg (chcs t sv (.slice ta m tc) u), .slice a len c] w fun e w' => e = .returned (.agg (fcs t (m + 1) a len c)) ∧ Below w.heap.size w w' := by
  obtain ⟨W1, hW1⟩ : ∃ W1, w.alloc (.cells (chcs t sv (.slice ta m tc) u) 68) = W1 := ⟨_, rfl⟩
  have hb1 : Below w.heap.size w W1 := by rw [← hW1]; exact (Below.refl _ _).alloc (Nat.le_refl _) _
  have bx : Blk W1 w.heap.size 68 (chcs t sv (.slice ta m tc) u) := by rw [← hW1]; exact Blk.new _ _ _
  have c0 : ∀ o, (W1.alloc o).cell? ⟨w.heap.size, 0, none⟩ = some (.int .u32 (t : Int)) := fun o => (bx.alloc o).cell 0
  have c2 : ∀ o, (W1.alloc o).cell? ⟨w.heap.size, 2, none⟩ = some (.slice ta m tc) := fun o => (bx.alloc o).cell 2
  have hs1 : W1.heap.size = w.heap.size + 1 := by rw [← hW1]; simp
  have H := Lib.hid (And.intro hb1 (And.intro bx hs1))
  clear hb1 bx
  unfold fcs
  generalize chcs t sv (.slice ta m tc) u = cc at *
  go_enter Try.func46, Try.ntmps46
  go_wp2
  have bE : Blk (W1.alloc (.cells #[.int .u32 (t : Int), .int .u32 ((m : Int) + 1), .slice a len c] 79)) (w.heap.size + 1) 79 #[.int .u32 (t : Int), .int .u32 ((m : Int) + 1), .slice a len c] := by rw [← hs1]; exact Blk.new _ _ _
  refine bodyPost_ret (results_cell_row rfl _ _ (w.heap.size + 1) 79 _ (0, 0) _ rfl bE Try.underlying79 rfl (by kernel_rfl)) rfl ?_
  exact ⟨by simp, H.out.1.alloc (by omega) _⟩

set_option maxHeartbeats 1000000 in
theorem refuses_nil (a : Option Addr) (len c : Nat) (w : World) : Calls Try.prog 45 #[.pointer none, .slice a len c] w fun e w' => e = .returned (.int .i64 1) ∧ w = w' := by
  go_enter Try.func45, Try.ntmps45
  go_wp2
  go_ret
  exact ⟨rfl, rfl⟩
set_option maxHeartbeats 1000000 in
theorem refuses_any {w : World} {g : Nat} {b : Bool} (h : w.cell? ⟨g, 10, none⟩ = some (.bool b)) (a : Option Addr) (len c : Nat) : Calls Try.prog 45 #[.pointer (some ⟨g, 0, none⟩), .slice a len c] w fun e w' => e = .returned (.int .i64 (if b then 8 else if 40000 < len then 3 else 0)) ∧ w = w' := by
  cases b
  · by_cases hl : 40000 < len
    · go_enter Try.func45, Try.ntmps45
      go_wp2
      go_ret
      exact ⟨by simp [hl], rfl⟩
    · go_enter Try.func45, Try.ntmps45
      go_wp2
      go_ret
      exact ⟨by simp, rfl⟩
  · go_enter Try.func45, Try.ntmps45
    go_wp2
    go_ret
    exact ⟨rfl, rfl⟩
end Go.Proofs.Ytkfpkolgikpcpaa
