/-
  A transaction more: chain.add. Nothing here is a statement of the document.
-/
import Derived.Test.YtelpihlifdfgoaaWalH
import Derived.Lib.SlBytesConst
import Derived.Test.YtelpihlifdfgoaaDskG
namespace Go.Proofs.Ytelpihlifdfgoaa
open Go.RowKit Go.Shelf
set_option linter.unusedVariables false

theorem wown_slice {w : World} {b : Nat} {e : TypeId} {size : Nat} {v : Value} {n : Nat} {xs : List Value} (h : w.ownsRow b e size v n xs) : ∃ a c, v = .slice a n c := by
  rcases h.2 with ⟨rfl, rfl⟩ | ⟨g, cap, cur, rfl, _⟩
  · exact ⟨_, _, rfl⟩
  · exact ⟨_, _, rfl⟩

set_option maxHeartbeats 1000000 in
theorem cloneb_some (ad : Addr) (c : Nat) (l : List Nat) (w : World) (h : Lies w (some ad) l) (hn : l.length ≤ 40000) :
    Calls Try.prog 44 #[.slice (some ad) l.length c] w fun e w' => ∃ v, e = .returned v ∧ w'.ownsRow w.heap.size 5 1 v l.length (l.map byc) ∧ Below w.heap.size w w' := by
  obtain ⟨i0, hi, hz0, hz1, hz2⟩ := info_parts Try.info5
  have A0 : ∀ i, i < l.length → w.cell? (ad.add i) = some (byc (l.getD i 0)) := by
    intro i hil
    rcases h with h9 | ⟨b, off, h9, hb, hcc⟩
    · rw [h9] at hil; simp at hil
    · obtain rfl : ad = ⟨b, off, none⟩ := by injection h9
      have h8 := hcc i hil
      by_cases hi0 : i = 0
      · subst hi0; simpa [Addr.add, byc] using h8
      · simpa [Addr.add, byc, hi0] using h8
  have A := Lib.hid A0
  clear h A0
  have q : ∀ (w : World) (a : Option Addr) (n c n' c' : Nat), (binOp .eql 29 (.slice a n c) (.slice none n' c')).run Try.prog w = .ok (.bool a.isNone) w := fun w a n c n' c' => Lib.run_eql_slice_nil w _ _ a n c n' c' Try.underlying29
  go_enter Try.func44, Try.ntmps44
  go_wp2_with (at_builtin; refine wpList_append_own _ rfl _ _ 29 rfl w.heap.size 5 i0 (.int .u8 0) 1 1 Try.underlying29 hi hz0 hz1 hz2 rfl (by decide) _ _ _ rfl (World.ownsRow_made w #[] 0 (Nat.le_refl _) (Nat.zero_le _) rfl) ad l.length c (l.map byc) rfl ?qc1 ?qc2 ?qc3 ?qc4 ?qc5 ?qc6 ?_)
  case qc1 => simp
  case qc2 =>
    intro j u hj
    have hjl : j < l.length := by simpa using (List.getElem?_eq_some_iff.1 hj).1
    rw [List.getElem?_map, List.getElem?_eq_getElem hjl, Option.map_some] at hj
    refine Lib.cell?_alloc_some _ ?_
    rw [A.out j hjl, ← hj, List.getD_eq_getElem?_getD, List.getElem?_eq_getElem hjl]
    rfl
  case qc3 => exact byc_one l
  case qc4 => unfold maxLen; omega
  case qc5 => omega
  case qc6 => simp
  intro v' w1 hown hgrow hnil
  go_wp2
  go_ret
  exact ⟨v', rfl, by simpa using hown, ((Below.refl _ w).alloc (Nat.le_refl _) _).grown hgrow (by simp) (by intro k hk; simp [Value.ownBlock] at hk; omega)⟩
set_option maxHeartbeats 1000000 in
theorem cloneb_none (c : Nat) (w : World) : Calls Try.prog 44 #[.slice none 0 c] w fun e w' => e = .returned (.slice none 0 0) ∧ w = w' := by
  have q : ∀ (w : World) (a : Option Addr) (n c n' c' : Nat), (binOp .eql 29 (.slice a n c) (.slice none n' c')).run Try.prog w = .ok (.bool a.isNone) w := fun w a n c n' c' => Lib.run_eql_slice_nil w _ _ a n c n' c' Try.underlying29
  go_enter Try.func44, Try.ntmps44
  go_wp2
  go_ret
  exact ⟨rfl, rfl⟩
theorem cloneb_any (a : Option Addr) (len c : Nat) (l : List Nat) (w : World) (h : Lies w a l) (hl : l.length = len) (hn : len ≤ 40000) (h0 : a = none → len = 0) :
    Calls Try.prog 44 #[.slice a len c] w fun e w' => ∃ v, e = .returned v ∧ w'.ownsRow w.heap.size 5 1 v len (l.map byc) ∧ Below w.heap.size w w' := by
  subst hl
  cases a with
  | some ad => exact cloneb_some ad c l w h hn
  | none =>
    have e : l = [] := List.eq_nil_of_length_eq_zero (h0 rfl)
    subst e
    exact (cloneb_none c w).mono fun e w' ⟨he, hw⟩ => ⟨_, he, by subst hw; exact ⟨rfl, .inl ⟨rfl, rfl⟩⟩, hw ▸ Below.refl _ _⟩

/-! ### begun, next -/
def chcs (t : Nat) (sv tv : Value) (u : Nat) : Array Value := #[.int .u32 (t : Int), sv, tv, .int .i64 (u : Int)]
theorem load_chain_rule (v : Value) : Instr.loadAt 62 v = loadSem 62 v := rfl
theorem store_chain_rule (v x : Value) : Instr.storeAt 62 v x = storeSem 62 v x := rfl
theorem s_chain (t : Nat) (sv tv : Value) (u : Nat) : (Try.prog.info? 62).map (·.size) = some (chcs t sv tv u).size := by
  simp only [chcs, List.size_toArray, List.length_cons, List.length_nil]; kernel_rfl
theorem lchain {w : World} {g t u : Nat} {sv tv : Value} (h : Blk w g 62 (chcs t sv tv u)) : (loadSem 62 (.pointer (some ⟨g, 0, none⟩))).run Try.prog w = .ok (.agg (chcs t sv tv u)) w :=
  loadRes_of h (fun j _ => by rw [Nat.zero_add]) _ Try.underlying62 rfl (s_chain _ _ _ _)
theorem schain {w : World} {g t u t2 u2 : Nat} {sv tv sv2 tv2 : Value} (h : Blk w g 62 (chcs t2 sv2 tv2 u2)) (h1 : (chcs t sv tv u).all (·.oneCell') = true) : (storeSem 62 (.pointer (some ⟨g, 0, none⟩)) (.agg (chcs t sv tv u))).run Try.prog w = .ok () (w.setRow g (chcs t sv tv u)) := by
  have := storeRes_of (P := Try.prog) (ty := 62) (o := 0) (vs := chcs t sv tv u) h (by simp [chcs]) (s_chain _ _ _ _) h1
  rwa [over_all (by simp [chcs])] at this

attribute [local go_sem ↓] load_chain_rule store_chain_rule

set_option maxHeartbeats 1000000 in
theorem begun_any (t : Nat) (ht : t ≤ 4294967295) (a : Option Addr) (len c : Nat) (l : List Nat) (w : World) (h : Lies w a l) (hl : l.length = len) (hn : len ≤ 40000) (h0 : a = none → len = 0) :
    Calls Try.prog 46 #[.int .u32 (t : Int), .slice a len c] w fun e w' => ∃ v, e = .returned (.agg (chcs t v (.slice none 0 0) (secN len))) ∧ w'.ownsRow w.heap.size 5 1 v len (l.map byc) ∧ Below w.heap.size w w' := by
  obtain ⟨W1, hW1⟩ : ∃ W1, w.alloc (.cells #[.int .u32 0, .slice none 0 0, .slice none 0 0, .int .i64 0] 62) = W1 := ⟨_, rfl⟩
  have hb1 : Below w.heap.size w W1 := by rw [← hW1]; exact (Below.refl _ _).alloc (Nat.le_refl _) _
  have bx : Blk W1 w.heap.size 62 #[.int .u32 0, .slice none 0 0, .slice none 0 0, .int .i64 0] := by rw [← hW1]; exact Blk.new _ _ _
  have hs1 : W1.heap.size = w.heap.size + 1 := by rw [← hW1]; simp
  have hcl := cloneb_any a len c l W1 (h.kept hb1) hl hn h0
  have hse := sectors_any (len : Int)
  rw [secI_nat] at hse
  have H := Lib.hid (And.intro hb1 (And.intro bx hs1))
  clear hb1 bx h hs1
  generalize secN len = N at *
  go_enter Try.func46, Try.ntmps46
  go_wp2_with fail
  refine hcl.mono ?_
  rintro e w2 ⟨v, rfl, hown, hb2⟩
  go_wp2_with fail
  refine (hse _).mono ?_
  rintro e w3 ⟨rfl, rfl⟩
  obtain ⟨a2, c2, rfl⟩ := wown_slice hown
  have b2 := H.out.2.1.kept (Kept.of_below [] hb2) (by simp)
  have S := schain (t := t) (sv := .slice a2 len c2) (tv := .slice none 0 0) (u := N) (t2 := 0) (u2 := 0) b2 (by simp [chcs, Value.oneCell'])
  have bE := b2.row (chcs t (.slice a2 len c2) (.slice none 0 0) N)
  have hb : Below w.heap.size w (w2.setRow w.heap.size (chcs t (.slice a2 len c2) (.slice none 0 0) N)) := below_setRow (H.out.1.trans (hb2.mono H.out.1.size)) (Nat.le_refl _) _
  have hoE : (w2.setRow w.heap.size (chcs t (.slice a2 len c2) (.slice none 0 0) N)).ownsRow w.heap.size 5 1 (.slice a2 len c2) len (l.map byc) := by
    rcases hown.2 with h9 | ⟨g, cap, cur, h1, h2, h3, h4⟩
    · exact ⟨hown.1, .inl h9⟩
    · refine ⟨hown.1, .inr ⟨g, cap, cur, h1, by rw [H.out.2.2] at h2; omega, (setRow_other _ _ _ _ (by rw [H.out.2.2] at h2; omega)).trans h3, h4⟩⟩
  have HE := Lib.hid (And.intro bE (And.intro hoE hb))
  clear hown hb2 b2 bE hb hoE hcl
  simp only [chcs] at S
  go_wp2_with fail
  refine bodyPost_ret (results_cell_row rfl _ _ w.heap.size 62 _ (0, 0) _ rfl HE.out.1 Try.underlying62 rfl (s_chain _ _ _ _)) rfl ?_
  exact ⟨_, rfl, HE.out.2⟩

set_option maxHeartbeats 1000000 in
theorem next_of (t : Nat) (sv : Value) (ta : Option Addr) (m tc : Nat) (u : Nat) (hm : m < 4294967295) (a : Option Addr) (len c : Nat) (w : World) :
    Calls Try.prog 51 #[.agg (chcs t sv (.slice ta m tc) u), .slice a len c] w fun e w' => e = .returned (.agg (fcs t (m + 1) a len c)) ∧ Below w.heap.size w w' := by
  obtain ⟨W1, hW1⟩ : ∃ W1, w.alloc (.cells (chcs t sv (.slice ta m tc) u) 62) = W1 := ⟨_, rfl⟩
  have hb1 : Below w.heap.size w W1 := by rw [← hW1]; exact (Below.refl _ _).alloc (Nat.le_refl _) _
  have bx : Blk W1 w.heap.size 62 (chcs t sv (.slice ta m tc) u) := by rw [← hW1]; exact Blk.new _ _ _
  have c0 : ∀ o, (W1.alloc o).cell? ⟨w.heap.size, 0, none⟩ = some (.int .u32 (t : Int)) := fun o => (bx.alloc o).cell 0
  have c2 : ∀ o, (W1.alloc o).cell? ⟨w.heap.size, 2, none⟩ = some (.slice ta m tc) := fun o => (bx.alloc o).cell 2
  have hs1 : W1.heap.size = w.heap.size + 1 := by rw [← hW1]; simp
  have H := Lib.hid (And.intro hb1 (And.intro bx hs1))
  clear hb1 bx
  unfold fcs
  generalize chcs t sv (.slice ta m tc) u = cc at *
  go_enter Try.func51, Try.ntmps51
  go_wp2
  have bE : Blk (W1.alloc (.cells #[.int .u32 (t : Int), .int .u32 ((m : Int) + 1), .slice a len c] 105)) (w.heap.size + 1) 105 #[.int .u32 (t : Int), .int .u32 ((m : Int) + 1), .slice a len c] := by rw [← hs1]; exact Blk.new _ _ _
  refine bodyPost_ret (results_cell_row rfl _ _ (w.heap.size + 1) 105 _ (0, 0) _ rfl bE Try.underlying105 rfl (by kernel_rfl)) rfl ?_
  exact ⟨by simp, H.out.1.alloc (by omega) _⟩

set_option maxHeartbeats 1000000 in
theorem refuses_nil (a : Option Addr) (len c : Nat) (w : World) : Calls Try.prog 50 #[.pointer none, .slice a len c] w fun e w' => e = .returned (.int .i64 1) ∧ w = w' := by
  go_enter Try.func50, Try.ntmps50
  go_wp2
  go_ret
  exact ⟨rfl, rfl⟩
set_option maxHeartbeats 1000000 in
theorem refuses_any {w : World} {g : Nat} {b : Bool} (h : w.cell? ⟨g, 10, none⟩ = some (.bool b)) (a : Option Addr) (len c : Nat) : Calls Try.prog 50 #[.pointer (some ⟨g, 0, none⟩), .slice a len c] w fun e w' => e = .returned (.int .i64 (if b then 8 else if 40000 < len then 3 else 0)) ∧ w = w' := by
  cases b
  · by_cases hl : 40000 < len
    · go_enter Try.func50, Try.ntmps50
      go_wp2
      go_ret
      exact ⟨by simp [hl], rfl⟩
    · go_enter Try.func50, Try.ntmps50
      go_wp2
      go_ret
      exact ⟨by simp, rfl⟩
  · go_enter Try.func50, Try.ntmps50
    go_wp2
    go_ret
    exact ⟨rfl, rfl⟩
end Go.Proofs.Ytelpihlifdfgoaa
namespace Go.Proofs.Ytelpihlifdfgoaa
open Go.RowKit Go.Shelf
set_option linter.unusedVariables false

def junc : List Nat := [106, 117, 110, 99, 116, 105, 111, 110]
def labH (n : Nat) : List Nat := (junc ++ highB n 4) ++ List.replicate 48 0
def labS (n : Nat) : List Nat := labH n ++ highB (goS 1 (labH n)) 4
def labL (n : Nat) : Bk := Bk.of (labS n)
theorem labH_len (n : Nat) : (labH n).length = 60 := by simp [labH, junc, length_highB]
theorem labS_len (n : Nat) : (labS n).length = 64 := by simp [labS, labH_len, length_highB]
theorem junc_bys : Bys junc := by intro n hn; simp [junc] at hn; omega
theorem labH_bys (n : Nat) : Bys (labH n) := (junc_bys.append (highB_bys _ _)).append (fun x hx => by have := List.eq_of_mem_replicate hx; omega)

def labA (n : Nat) : List Nat := (junc ++ highB n 4) ++ List.replicate 52 0
theorem labA_len (n : Nat) : (labA n).length = 64 := by simp [labA, junc, length_highB]

theorem label_copy1 {w : World} {g q n : Nat} (hb : Blk w g 81 Bk.zero.cs) (hO : Own w q (junc ++ highB n 4)) :
    (wcopySem 3 #[.slice (some ⟨g, 0, none⟩) 64 64, .slice (some ⟨q, 0, none⟩) 12 12]).run Try.prog w = .ok (goInt 12) (w.setRow g (Bk.of (labA n)).cs) := by
  have hl : (junc ++ highB n 4).length = 12 := by simp [junc, length_highB]
  have h9 := copy_run (w := w) (g := g) (o := 0) (dLen := 64) (dCap := 64) (sLen := 12) (sCap := 12) (sp := some ⟨q, 0, none⟩) (t := 81) (ty := 3) (l := List.replicate 64 0) (m := junc ++ highB n 4) (by rw [← Bk.zero_cs]; exact hb) hO.lies (by rw [hl]; rfl) (by rw [hl]; omega) (by rw [hl]; simp)
  rw [hl] at h9
  rw [h9, Bk.of_cs _ (labA_len n)]
  simp [labA]
theorem label_copy2 {w : World} {g q n : Nat} (hb : Blk w g 81 (Bk.of (labA n)).cs) (hO : Own w q (labS n)) :
    (wcopySem 3 #[.slice (some ⟨g, 0, none⟩) 64 64, .slice (some ⟨q, 0, none⟩) 64 64]).run Try.prog w = .ok (goInt 64) (w.setRow g (labL n).cs) := by
  have h9 := copy_run (w := w) (g := g) (o := 0) (dLen := 64) (dCap := 64) (sLen := 64) (sCap := 64) (sp := some ⟨q, 0, none⟩) (t := 81) (ty := 3) (l := labA n) (m := labS n) (by rw [← Bk.of_cs _ (labA_len n)]; exact hb) hO.lies (by rw [labS_len]; rfl) (by rw [labS_len]; omega) (by rw [labS_len, labA_len]; omega)
  have e : (labA n).take 0 ++ labS n ++ (labA n).drop (0 + (labS n).length) = labS n := by
    rw [List.take_zero, List.nil_append, List.drop_eq_nil_of_le (by rw [labS_len, labA_len]; omega), List.append_nil]
  rw [e, labS_len] at h9
  rw [h9, labL, Bk.of_cs _ (labS_len n)]
  rfl

theorem lies_marked (w : World) (l : List Nat) (t : TypeId) (fr : Nat × Nat) : Lies (w.alloc (.cells (l.map byc).toArray t fr)) (some ⟨w.heap.size, 0, none⟩) l := by
  refine .inr ⟨w.heap.size, 0, rfl, by simp, fun i hi => ?_⟩
  have h : (w.alloc (.cells (l.map byc).toArray t fr)).heap[w.heap.size]? = some (.cells (l.map byc).toArray t fr) := World.alloc_heap_new w _
  simp only [World.cell?, h, Nat.zero_add]
  simp [hi, byc, List.getD_eq_getElem?_getD]

attribute [local go_sem ↓] wcopy_rule load_blk_rule store_blk_rule

set_option maxRecDepth 100000 in
set_option maxHeartbeats 2000000 in
theorem label_any (n : Nat) (hn : n ≤ 1000) (w : World) : Calls Try.prog 49 #[.int .i64 (n : Int)] w fun e w' =>
    e = .returned (.agg (labL n).cs) ∧ Below w.heap.size w w' := by
  obtain ⟨W1, hW1⟩ : ∃ W1, (w.alloc (.cells Bk.zero.cs 81)).alloc (.cells Bk.zero.cs 81) = W1 := ⟨_, rfl⟩
  have b2 : Blk W1 w.heap.size 81 Bk.zero.cs := by rw [← hW1]; exact (Blk.new w _ _).alloc _
  have b3 : Blk W1 (w.heap.size + 1) 81 Bk.zero.cs := by rw [← hW1]; exact Blk.wnew2 w _ _ _
  have hb1 : Below w.heap.size w W1 := by rw [← hW1]; exact ((Below.refl _ _).alloc (Nat.le_refl _) _).alloc (by simp) _
  have hs1 : W1.heap.size = w.heap.size + 2 := by rw [← hW1]; simp
  have kc : ∀ (w : World) (C : Array Value) (n c : Nat), (convert 29 29 (.slice (some ⟨w.heap.size, 0, none⟩) n c)).run Try.prog ((w.alloc (.cells C 5)).drew) = .ok (.slice (some ⟨w.heap.size, 0, none⟩) n c) ((w.alloc (.cells C 5 (C.size, C.size + 1))).drew) := fun w C n c => Lib.run_convert_bytes_const (P := Try.prog) w.drew 29 5 C n c Try.underlying29 Try.underlying5
  have hwr : IntKind.u32.wrap (n : Int) = (n : Int) := by rw [IntKind.wrap_u32]; omega
  have H1 := Lib.hid (And.intro hb1 (And.intro b2 (And.intro b3 hs1)))
  clear hb1 b2 b3 hs1
  go_enter Try.func49, Try.ntmps49
  go_wp2_with (first | (with_reducible refine wpList_alloc_z rfl 81 rfl Bk.zero.cs 64 z_blk ?_))
  rw [World.size_alloc, hW1]
  clear hW1
  go_region_with (first | (go_at_call 67; (with_reducible refine (put32_any _ 8 8 junc n _ rfl (by omega) ?_ (by omega)).mono ?_); (exact lies_marked _ junc _ _); rintro e w4 ⟨rfl, hO4, hB4⟩; have b4 : Blk w4 (w.heap.size + 1) 81 Bk.zero.cs := (Blk.alloc (w := W1.drew) H1.out.2.2.1 (.cells (junc.map byc).toArray 5 (8, 9))).kept (Kept.of_below [] hB4) (by simp); have C4 := label_copy1 (w := w4) (g := w.heap.size + 1) (q := W1.heap.size + 1) (n := n) b4 (by rw [show W1.heap.size + 1 = (W1.alloc (.cells (junc.map byc).toArray 5 (8, 9))).drew.heap.size from (World.size_alloc _ _).symm]; exact hO4)))
  obtain ⟨W5, hW5⟩ : ∃ W5, w4.setRow (w.heap.size + 1) (Bk.of (labA n)).cs = W5 := ⟨_, rfl⟩
  have b5 : Blk W5 (w.heap.size + 1) 81 (Bk.of (labA n)).cs := by rw [← hW5]; exact b4.row _
  have b52 : Blk W5 w.heap.size 81 Bk.zero.cs := by
    rw [← hW5]
    have h9 : Blk w4 w.heap.size 81 Bk.zero.cs := (Blk.alloc (w := W1.drew) H1.out.2.1 (.cells (junc.map byc).toArray 5 (8, 9))).kept (Kept.of_below [] hB4) (by simp)
    exact h9.kept (S := [w.heap.size + 1]) ((Kept.refl _ _).setRow (.inl (by simp)) _) (by simp)
  have hb5 : Below w.heap.size w W5 := by
    rw [← hW5]
    have h8 : Below w.heap.size w (W1.alloc (.cells (junc.map byc).toArray 5 (8, 9))).drew := (H1.out.1.alloc (by have := H1.out.2.2.2; omega) _).drew
    exact below_setRow (h8.trans (hB4.mono h8.size)) (by omega) _
  rw [hW5]
  have hL5 : Lies W5 (some ⟨w.heap.size + 1, 0, none⟩) (labH n) := by
    refine .inr ⟨w.heap.size + 1, 0, rfl, b5.lt, fun i hi => ?_⟩
    rw [labH_len] at hi
    rw [b5.cell, Bk.of_cs _ (labA_len n)]
    have e : (labA n)[0 + i]? = (labH n)[i]? := by
      rw [Nat.zero_add]
      have e2 : labA n = labH n ++ List.replicate 4 0 := by
        unfold labA labH
        rw [List.append_assoc _ (List.replicate 48 0), List.replicate_append_replicate]
      rw [e2, List.getElem?_append_left (by rw [labH_len]; exact hi)]
    simp only [List.getElem?_toArray, List.getElem?_map, e]
    rw [List.getElem?_eq_getElem (by rw [labH_len]; exact hi)]
    simp [byc, List.getD_eq_getElem?_getD, List.getElem?_eq_getElem (show i < (labH n).length by rw [labH_len]; exact hi)]
  have H5 := Lib.hid (And.intro hb5 (And.intro b52 (And.intro b5 hL5)))
  clear C4 b4 hB4 hO4 hW5 b5 b52 hb5 hL5 kc hwr
  go_wp2_with fail
  go_region_with (first | (go_at_call 68; (with_reducible refine (seal_any _ 60 64 (labH n) _ (labH_len n) (by omega) (labH_bys n) ?_).mono ?_); (exact H5.out.2.2.2); rintro e w6 ⟨q, rfl, hq6, hO6, hB6⟩; have C6 := label_copy2 (w := w6) (g := w.heap.size + 1) (q := q) (n := n) ((H5.out.2.2.1.drew).kept (Kept.of_below [] hB6) (by simp)) (by exact hO6)))
  have b36 : Blk w6 (w.heap.size + 1) 81 (Bk.of (labA n)).cs := (H5.out.2.2.1.drew).kept (Kept.of_below [] hB6) (by simp)
  have b26 : Blk w6 w.heap.size 81 Bk.zero.cs := (H5.out.2.1.drew).kept (Kept.of_below [] hB6) (by simp)
  have hb6 : Below w.heap.size w w6 := H5.out.1.trans ((show Below W5.heap.size W5 w6 from ⟨hB6.os, hB6.tape, hB6.output, hB6.size, hB6.block⟩).mono H5.out.1.size)
  obtain ⟨W9, hW9⟩ : ∃ W9, w6.setRow (w.heap.size + 1) (labL n).cs = W9 := ⟨_, rfl⟩
  rw [hW9]
  have b3 : Blk W9 (w.heap.size + 1) 81 (labL n).cs := by rw [← hW9]; exact b36.row _
  have b2 : Blk W9 w.heap.size 81 Bk.zero.cs := by rw [← hW9]; exact b26.kept (S := [w.heap.size + 1]) ((Kept.refl _ _).setRow (.inl (by simp)) _) (by simp)
  have hb9 : Below w.heap.size w W9 := by rw [← hW9]; exact below_setRow hb6 (by omega) _
  have L9 := wlblk b3
  have S9 := wsblk (c := labL n) b2
  have HE := Lib.hid (And.intro (b2.row (labL n).cs) (below_setRow hb9 (Nat.le_refl _) (labL n).cs))
  clear C6 hO6 hB6 hb6 hb9 hW9 b3 b2 b36 b26 hq6
  have hs64 := s_blk (labL n)
  generalize hq : (labL n).cs = qc at *
  have HQ := Lib.hid hq
  clear hq
  go_wp2_with fail
  refine bodyPost_ret (results_cell_row rfl _ _ w.heap.size 81 _ (0, 0) _ rfl HE.out.1 Try.underlying81 rfl hs64) rfl ?_
  exact ⟨by rw [HQ.out], HE.out.2⟩
end Go.Proofs.Ytelpihlifdfgoaa
namespace Go.Proofs.Ytelpihlifdfgoaa
open Go.RowKit Go.Shelf
set_option linter.unusedVariables false

/-- A log's own cells: its chain, its disk, its two areas of n sectors, the side that counts, broken or not. -/
def lgcs (t : Nat) (sv tv : Value) (u : Nat) (p n : Nat) (c : Nat) (b : Bool) : Array Value :=
  #[.int .u32 (t : Int), sv, tv, .int .i64 (u : Int), .pointer (some ⟨p, 0, none⟩), .int .i64 2, .int .i64 (n : Int), .int .i64 ((2 : Int) + (n : Int)), .int .i64 (n : Int), .int .i64 (c : Int), .bool b]

set_option maxHeartbeats 400000 in
theorem wlen_nil (w : World) : Calls Try.prog 26 #[.pointer none] w fun e w' => e = .returned (.int .i64 0) ∧ w = w' := by
  go_enter Try.func26, Try.ntmps26
  go_wp2
  go_ret
  exact ⟨rfl, rfl⟩
set_option maxHeartbeats 400000 in
theorem wleft_nil (w : World) : Calls Try.prog 25 #[.pointer none] w fun e w' => e = .returned (.int .i64 0) ∧ w = w' := by
  go_enter Try.func25, Try.ntmps25
  go_wp2
  go_ret
  exact ⟨rfl, rfl⟩
set_option maxHeartbeats 400000 in
theorem wturn_nil (w : World) : Calls Try.prog 22 #[.pointer none] w fun e w' => e = .returned (.int .u32 0) ∧ w = w' := by
  go_enter Try.func22, Try.ntmps22
  go_wp2
  go_ret
  exact ⟨rfl, rfl⟩
set_option maxHeartbeats 400000 in
theorem wbroken_nil (w : World) : Calls Try.prog 14 #[.pointer none] w fun e w' => e = .returned (.bool false) ∧ w = w' := by
  go_enter Try.func14, Try.ntmps14
  go_wp2
  go_ret
  exact ⟨rfl, rfl⟩
set_option maxHeartbeats 400000 in
theorem wdisk_nil (w : World) : Calls Try.prog 8 #[.pointer none] w fun e w' => e = .returned (.pointer none) ∧ w = w' := by
  go_enter Try.func8, Try.ntmps8
  go_wp2
  go_ret
  exact ⟨rfl, rfl⟩
set_option maxHeartbeats 400000 in
theorem wsnap_nil (w : World) : Calls Try.prog 20 #[.pointer none] w fun e w' => e = .returned (.slice none 0 0) ∧ w = w' := by
  go_enter Try.func20, Try.ntmps20
  go_wp2
  go_ret
  exact ⟨rfl, rfl⟩
set_option maxHeartbeats 1000000 in
theorem wappend_nil (a : Option Addr) (len c : Nat) (w : World) : Calls Try.prog 29 #[.pointer none, .slice a len c] w fun e w' => e = .returned (.int .i64 1) ∧ w = w' := by
  go_enter Try.func29, Try.ntmps29
  go_wp2_with (go_at_call 50; refine (refuses_nil a len c _).mono ?_; rintro e w1 ⟨rfl, rfl⟩)
  go_ret
  exact ⟨rfl, rfl⟩
set_option maxHeartbeats 1000000 in
theorem wcheck_nil (a : Option Addr) (len c : Nat) (w : World) : Calls Try.prog 30 #[.pointer none, .slice a len c] w fun e w' => e = .returned (.int .i64 1) ∧ w = w' := by
  go_enter Try.func30, Try.ntmps30
  go_wp2_with (go_at_call 50; refine (refuses_nil a len c _).mono ?_; rintro e w1 ⟨rfl, rfl⟩)
  go_ret
  exact ⟨rfl, rfl⟩
set_option maxHeartbeats 400000 in
theorem wformat_nil (n : Int) (w : World) : Calls Try.prog 28 #[.pointer none, .int .i64 n] w fun e w' => e = .returned (.tuple #[.pointer none, .int .i64 1]) ∧ w = w' := by
  go_enter Try.func28, Try.ntmps28
  go_wp2
  refine bodyPost_ret (results_tmp2 rfl _ _ _) rfl ?_
  exact ⟨rfl, rfl⟩
set_option maxHeartbeats 400000 in
theorem wopen_nil (w : World) : Calls Try.prog 18 #[.pointer none] w fun e w' => e = .returned (.tuple #[.pointer none, .int .i64 1]) ∧ w = w' := by
  go_enter Try.func18, Try.ntmps18
  go_wp2
  refine bodyPost_ret (results_tmp2 rfl _ _ _) rfl ?_
  exact ⟨rfl, rfl⟩
/-! ### of a log -/
section
variable {w : World} {g t u p n c : Nat} {sv tv : Value} {b : Bool}
set_option maxHeartbeats 400000 in
theorem wlen_any {a : Option Addr} {m tc : Nat} (h : Blk w g 67 (lgcs t sv (.slice a m tc) u p n c b)) : Calls Try.prog 26 #[.pointer (some ⟨g, 0, none⟩)] w fun e w' => e = .returned (.int .i64 (m : Int)) ∧ w = w' := by
  have c2 : w.cell? ⟨g, 2, none⟩ = some (.slice a m tc) := h.cell 2
  clear h
  go_enter Try.func26, Try.ntmps26
  go_wp2
  go_ret
  exact ⟨rfl, rfl⟩
set_option maxHeartbeats 400000 in
theorem wturn_any (h : Blk w g 67 (lgcs t sv tv u p n c b)) : Calls Try.prog 22 #[.pointer (some ⟨g, 0, none⟩)] w fun e w' => e = .returned (.int .u32 (t : Int)) ∧ w = w' := by
  have c2 : w.cell? ⟨g, 0, none⟩ = some (.int .u32 (t : Int)) := h.cell 0
  clear h
  go_enter Try.func22, Try.ntmps22
  go_wp2
  go_ret
  exact ⟨rfl, rfl⟩
set_option maxHeartbeats 400000 in
theorem wbroken_any (h : Blk w g 67 (lgcs t sv tv u p n c b)) : Calls Try.prog 14 #[.pointer (some ⟨g, 0, none⟩)] w fun e w' => e = .returned (.bool b) ∧ w = w' := by
  have c2 : w.cell? ⟨g, 10, none⟩ = some (.bool b) := h.cell 10
  clear h
  go_enter Try.func14, Try.ntmps14
  go_wp2
  go_ret
  exact ⟨rfl, rfl⟩
set_option maxHeartbeats 400000 in
theorem wdisk_any (h : Blk w g 67 (lgcs t sv tv u p n c b)) : Calls Try.prog 8 #[.pointer (some ⟨g, 0, none⟩)] w fun e w' => e = .returned (.pointer (some ⟨p, 0, none⟩)) ∧ w = w' := by
  have c2 : w.cell? ⟨g, 4, none⟩ = some (.pointer (some ⟨p, 0, none⟩)) := h.cell 4
  clear h
  go_enter Try.func8, Try.ntmps8
  go_wp2
  go_ret
  exact ⟨rfl, rfl⟩
set_option maxHeartbeats 400000 in
theorem wsnap_any {a : Option Addr} {len sc : Nat} {l : List Nat} (h : Blk w g 67 (lgcs t (.slice a len sc) tv u p n c b)) (hL : Lies w a l) (hl : l.length = len) (hn : len ≤ 40000) (h0 : a = none → len = 0) : Calls Try.prog 20 #[.pointer (some ⟨g, 0, none⟩)] w fun e w' => ∃ v, e = .returned v ∧ w'.ownsRow w.heap.size 5 1 v len (l.map byc) ∧ Below w.heap.size w w' := by
  have c2 : w.cell? ⟨g, 1, none⟩ = some (.slice a len sc) := h.cell 1
  have hcl := cloneb_any a len sc l w hL hl hn h0
  clear h hL
  go_enter Try.func20, Try.ntmps20
  go_wp2_with fail
  refine hcl.mono ?_
  rintro e w2 ⟨v, rfl, hown, hb⟩
  go_wp2
  go_ret
  exact ⟨v, rfl, hown, hb⟩
set_option maxHeartbeats 1000000 in
theorem wleft_any (h : Blk w g 67 (lgcs t sv tv u p n c b)) (hc : c < 2) (hu : u ≤ n) (hn : n ≤ 1000) : Calls Try.prog 25 #[.pointer (some ⟨g, 0, none⟩)] w fun e w' => e = .returned (.int .i64 ((n : Int) - (u : Int))) ∧ Below w.heap.size w w' := by
  have hwr : IntKind.i64.wrap ((n : Int) - (u : Int)) = (n : Int) - (u : Int) := by rw [IntKind.wrap_i64]; omega
  have c9 : w.drew.cell? ⟨g, 9, none⟩ = some (.int .i64 (c : Int)) := h.cell 9
  have c3 : w.drew.cell? ⟨g, 3, none⟩ = some (.int .i64 (u : Int)) := h.cell 3
  rcases (show c = 0 ∨ c = 1 by omega) with rfl | rfl
  · have c6 : w.drew.cell? ⟨g, 6, none⟩ = some (.int .i64 (n : Int)) := h.cell 6
    clear h
    go_enter Try.func25, Try.ntmps25
    go_wp2_with fail
    go_region_held3 (fun w' => w'.cell? ⟨g, 9, none⟩ = some (.int .i64 ((0 : Nat) : Int)) ∧ w'.cell? ⟨g, 3, none⟩ = some (.int .i64 (u : Int)) ∧ w'.cell? ⟨g, 6, none⟩ = some (.int .i64 (n : Int))) (exact ⟨c9, c3, c6⟩) (fail)
    go_wp2
    go_ret
    exact ⟨rfl, Below.drew (Below.refl _ _)⟩
  · have c8 : w.drew.cell? ⟨g, 8, none⟩ = some (.int .i64 (n : Int)) := h.cell 8
    clear h
    go_enter Try.func25, Try.ntmps25
    go_wp2_with fail
    go_region_held3 (fun w' => w'.cell? ⟨g, 9, none⟩ = some (.int .i64 ((1 : Nat) : Int)) ∧ w'.cell? ⟨g, 3, none⟩ = some (.int .i64 (u : Int)) ∧ w'.cell? ⟨g, 8, none⟩ = some (.int .i64 (n : Int))) (exact ⟨c9, c3, c8⟩) (fail)
    go_wp2
    go_ret
    exact ⟨rfl, Below.drew (Below.refl _ _)⟩
end
end Go.Proofs.Ytelpihlifdfgoaa
namespace Go.Proofs.Ytelpihlifdfgoaa
open Go.RowKit Go.Shelf
set_option linter.unusedVariables false

def txSem (ty : TypeId) (args : Array Value) : Sem Value := Builtin.append_ #[30, 30] ty args
theorem tx_rule (ty : TypeId) (args : Array Value) : Builtin.append_ #[30, 30] ty args = txSem ty args := rfl
theorem i_bytes : (Try.prog.info? 29).map (fun i => (i.zero, i.size, i.bytes)) = some (some (.slice none 0 0), 1, 24) := by kernel_rfl
theorem txSem_run {w : World} {B m : Nat} {tv v : Value} {vs : List Value} {q : Nat} (ty : TypeId) (h : w.ownsRow B 29 1 tv m vs) (hm : m ≤ 1000) (hq : Blk w q 29 #[v]) (hv : v.oneCell' = true) (hB : B ≤ w.heap.size) :
    ∃ g cap w', (txSem ty #[tv, .slice (some ⟨q, 0, none⟩) 1 1]).run Try.prog w = .ok (.slice (some ⟨g, 0, none⟩) (m + 1) cap) w' ∧
      w'.ownsRow B 29 1 (.slice (some ⟨g, 0, none⟩) (m + 1) cap) (m + 1) (vs ++ [v]) ∧ w.grownBy w' tv.ownBlock ∧ (tv.ownBlock = some g ∨ w.heap.size ≤ g) := by
  obtain ⟨i0, hi, hz0, hz1, hz2⟩ := info_parts i_bytes
  have hone : ∀ u ∈ [v], u.oneCell' = true := fun u hu => by rw [List.mem_singleton.1 hu]; exact hv
  have hsrc : ∀ j u, [v][j]? = some u → w.cell? ((⟨q, 0, none⟩ : Addr).add j) = some u := fun j u hj => by rw [Addr.add_lit, Nat.zero_add, hq.cell]; simpa using hj
  have hnl : [v].length = 1 * 1 := rfl
  have hrun := fun (B' : Nat) (h' : w.ownsRow B' 29 1 tv m vs) (hB' : B' ≤ w.heap.size) => run_append_own (P := Try.prog) w B' 30 ty 29 i0 (.slice none 0 0) 1 24 Try.underlying30 hi hz0 hz1 hz2 rfl (by decide) tv m vs h' ⟨q, 0, none⟩ 1 1 [v] hnl hsrc hone (by unfold maxLen; omega) (by omega) hB'
  rcases h.2 with ⟨rfl, h0⟩ | ⟨g, cap, cur, rfl, hbg, hg, hnc, hcm, hcs, htake⟩
  · subst h0
    obtain ⟨v', w', hr, h1, h2, _⟩ := hrun w.heap.size ⟨h.1, .inl ⟨rfl, rfl⟩⟩ (Nat.le_refl _)
    obtain ⟨g, cap, rfl⟩ := ownsRow_succ h1
    have hge := (h1.lt g rfl).1
    refine ⟨g, cap, w', hr, ⟨h1.1, ?_⟩, h2, .inr hge⟩
    rcases h1.2 with ⟨h9, _⟩ | ⟨g', cap', cur', h9, hb, rest⟩
    · simp at h9
    · exact .inr ⟨g', cap', cur', h9, Nat.le_trans hB hb, rest⟩
  · by_cases hroom : m + 1 ≤ cap
    · obtain ⟨w', hr, h1, h2⟩ := run_append_fits (P := Try.prog) w B 30 ty 29 i0 1 Try.underlying30 hi hz1 g m cap vs h ⟨q, 0, none⟩ 1 1 [v] hnl hsrc hone hroom
      exact ⟨g, cap, w', hr, h1, h2, .inl rfl⟩
    · obtain ⟨v', w', hr, h1, h2, _⟩ := hrun B h hB
      have hr2 := run_append_grow (P := Try.prog) w 30 ty 29 i0 (.slice none 0 0) Try.underlying30 hi hz0 ⟨g, 0, none⟩ m cap vs (by rw [hz1]; exact h.1) (h.cells (g := g) rfl) ⟨q, 0, none⟩ 1 1 [v] (by rw [hz1]; rfl) hsrc (by omega) (by omega) (by rw [hz2]; exact growslice_fits (by omega) (by omega))
      have e2 := hr.symm.trans hr2
      injection e2 with e3 e4
      subst e3
      exact ⟨_, _, w', hr, h1, h2, .inr (Nat.le_refl _)⟩

theorem add_built {w w4 : World} {g B m : Nat} {T : TypeId} {C : Array Value} {tv : Value} {vs : List Value} (h : Blk w g T C) (htv : w.ownsRow B 29 1 tv m vs) (h2 : C[2]? = some tv) (hT : tv.ownBlock ≠ some g) (hm : m ≤ 1000) (hB : B ≤ w.heap.size) (hb : Below w.drew.heap.size w.drew w4) (v : Value) (hv : v.oneCell' = true) :
    ∃ g6 cap6 w6, (txSem 30 #[tv, .slice (some ⟨w4.heap.size, 0, none⟩) 1 1]).run Try.prog (w4.alloc (.cells #[v] 29)) = .ok (.slice (some ⟨g6, 0, none⟩) (m + 1) cap6) w6 ∧
      w6.ownsRow B 29 1 (.slice (some ⟨g6, 0, none⟩) (m + 1) cap6) (m + 1) (vs ++ [v]) ∧ (w4.alloc (.cells #[v] 29)).grownBy w6 tv.ownBlock ∧ (tv.ownBlock = some g6 ∨ (w4.alloc (.cells #[v] 29)).heap.size ≤ g6) ∧
      (w4.alloc (.cells #[v] 29)).cell? ⟨g, 2, none⟩ = some tv ∧ w4.cell? ⟨g, 2, none⟩ = some tv ∧ w6.cell? ⟨g, 2, none⟩ = some tv ∧ w6.frozen? ⟨g, 2, none⟩ = false := by
  have hb0 : Below w.heap.size w w4 := ⟨hb.os, hb.tape, hb.output, hb.size, hb.block⟩
  have b4 := h.kept (Kept.of_below [] hb0) (by simp)
  have o4 := own_later htv hb0
  have hb5 : Below w4.heap.size w4 (w4.alloc (.cells #[v] 29)) := (Below.refl _ _).alloc (Nat.le_refl _) _
  have o5 := own_later o4 hb5
  obtain ⟨g6, cap6, w6, h1, h3, h4, h5⟩ := txSem_run (q := w4.heap.size) 30 o5 hm (Blk.new _ _ _) hv (by have := hb5.size; have := hb0.size; omega)
  have b6 : Blk w6 g T C := (h4.block g (b4.alloc _).lt (fun e => hT e.symm)).trans (b4.alloc _)
  exact ⟨g6, cap6, w6, h1, h3, h4, h5, ((b4.alloc _).cell 2).trans h2, (b4.cell 2).trans h2, (b6.cell 2).trans h2, b6.free 2⟩

/-- A region that draws, by what holds at whatever of its operations are done (outside a round). -/
theorem any_inv {P : Program} {ops : Array Oper} {Q : Exit → Act → World → Prop} (Inv : Array Bool → Act → World → Prop)
    (hz : ∀ l a w, Inv l a w → cntF l = 0 → Region.ready .any ops l = [])
    (hstep : ∀ l a w i, Inv l a w → i ∈ Region.ready .any ops l → cntF (l.setIfInBounds i true) < cntF l ∧ wpOp P ops Q i (Inv (l.setIfInBounds i true)) a w)
    (hend : ∀ l a w, Inv l a w → Region.ready .any ops l = [] → Q .normal a w) :
    ∀ (fuel : Nat) (l : Array Bool) (a : Act) (w : World), cntF l ≤ fuel → Inv l a w → wpAny P .any ops Q fuel l a w := by
  intro fuel
  induction fuel with
  | zero => exact fun l a w hc hi => ⟨hz l a w hi (by omega), hend l a w hi (hz l a w hi (by omega))⟩
  | succ fuel ih =>
    intro l a w hc hi
    refine ⟨fun h => hend l a w hi h, fun i hm => ?_⟩
    obtain ⟨h1, h2⟩ := hstep l a w i hi hm
    exact wpOp_mono (fun a' w' h => ih _ a' w' (by omega) h) h2

theorem cnt_set {l : Array Bool} {i : Nat} (h : l.getD i true = false) : cntF (l.setIfInBounds i true) < cntF l := by
  have hi : i < l.size := by
    rcases Nat.lt_or_ge i l.size with h' | h'
    · exact h'
    · simp [Array.getElem?_eq_none h'] at h
  have key : ∀ (L : List Bool) (i : Nat), L[i]? = some false → (L.set i true).countP (fun b => !b) < L.countP (fun b => !b) := by
    intro L
    induction L with
    | nil => intro i h; simp at h
    | cons b L ih =>
      intro i h
      cases i with
      | zero => simp at h; subst h; simp
      | succ i =>
        simp only [List.getElem?_cons_succ] at h
        have := ih i h
        simp only [List.set_cons_succ, List.countP_cons]
        omega
  unfold cntF
  rw [Array.toList_setIfInBounds]
  refine key _ _ ?_
  rw [Array.getElem?_toList, Array.getElem?_eq_getElem hi]
  simpa [Array.getD, hi] using h
theorem cnt_zero {l : Array Bool} (h : cntF l = 0) (i : Nat) : l.getD i true = true := by
  unfold cntF at h
  rw [List.countP_eq_zero] at h
  rcases Nat.lt_or_ge i l.size with h' | h'
  · have h9 := h l[i] (by simp)
    simpa [Array.getD, h'] using h9
  · simp [Array.getElem?_eq_none h']

/-- A region that draws its order, by what holds at whatever of its operations are done; no table of orders is ever made. -/
theorem any_inv2 {P : Program} {ops : Array Oper} {Q : Exit → Act → World → Prop} (Inv : Array Bool → Act → World → Prop)
    (hstep : ∀ l a w i o, Inv l a w → ops[i]? = some o → l.getD i true = false → (∀ e ∈ o.after, Region.binds .any e = true → l.getD e.on false = true) → wpOp P ops Q i (Inv (l.setIfInBounds i true)) a w)
    (hend : ∀ l a w, Inv l a w → (∀ i o, ops[i]? = some o → (∀ e ∈ o.after, Region.binds .any e = true → l.getD e.on false = true) → l.getD i true = true) → Q .normal a w) :
    ∀ (fuel : Nat) (l : Array Bool) (a : Act) (w : World), cntF l ≤ fuel → Inv l a w → wpAny P .any ops Q fuel l a w := by
  have hE : ∀ l a w, Inv l a w → Region.ready .any ops l = [] → Q .normal a w := fun l a w hi hr => hend l a w hi (fun i o ho hd => by
    cases hb : l.getD i true with
    | true => rfl
    | false =>
      have hm : i ∈ Region.ready .any ops l := mem_ready.2 ⟨hb, o, ho, hd⟩
      rw [hr] at hm
      cases hm)
  refine any_inv Inv (fun l a w _ hc => ?_) (fun l a w i hi hm => ?_) hE
  · refine List.eq_nil_iff_forall_not_mem.2 (fun i hm => ?_)
    have h9 := (mem_ready.1 hm).1
    rw [cnt_zero hc i] at h9
    cases h9
  · obtain ⟨h1, o, ho, hd⟩ := mem_ready.1 hm
    exact ⟨cnt_set h1, hstep l a w i o hi ho h1 hd⟩
theorem anyIn_inv2 {F : Fence} {n : Nat} {P : Program} {ops : Array Oper} {Q : Exit → Act → World → Prop} (Inv : Array Bool → Act → World → Prop)
    (hstep : ∀ l a w i o, Inv l a w → ops[i]? = some o → l.getD i true = false → (∀ e ∈ o.after, Region.binds .any e = true → l.getD e.on false = true) → wpOpIn F n P ops Q i (Inv (l.setIfInBounds i true)) a w)
    (hend : ∀ l a w, Inv l a w → (∀ i o, ops[i]? = some o → (∀ e ∈ o.after, Region.binds .any e = true → l.getD e.on false = true) → l.getD i true = true) → Q .normal a w) :
    ∀ (fuel : Nat) (l : Array Bool) (a : Act) (w : World), cntF l ≤ fuel → Inv l a w → wpAnyIn F n P .any ops Q fuel l a w := by
  have hE : ∀ l a w, Inv l a w → Region.ready .any ops l = [] → Q .normal a w := fun l a w hi hr => hend l a w hi (fun i o ho hd => by
    cases hb : l.getD i true with
    | true => rfl
    | false =>
      have hm : i ∈ Region.ready .any ops l := mem_ready.2 ⟨hb, o, ho, hd⟩
      rw [hr] at hm
      cases hm)
  refine anyIn_inv Inv (fun l a w _ hc => ?_) (fun l a w i hi hm => ?_) hE
  · refine List.eq_nil_iff_forall_not_mem.2 (fun i hm => ?_)
    have h9 := (mem_ready.1 hm).1
    rw [cnt_zero hc i] at h9
    cases h9
  · obtain ⟨h1, o, ho, hd⟩ := mem_ready.1 hm
    exact ⟨cnt_set h1, hstep l a w i o hi ho h1 hd⟩
end Go.Proofs.Ytelpihlifdfgoaa
